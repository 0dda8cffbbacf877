/- spec.l02Div and spec.l02Round at rows of digits, noughts ahead let in. Conditions: digits; at most 600 bytes (l02Div), 2000 (l02Round). Prepared for chapter 3. -/
import Derived.Test.YtpkmhojcccpolaaDoorSpecNat10
namespace Go.Proofs.YtpkmhojcccpolaaDoor
set_option linter.unusedVariables false
open Go.RowKit
open Go.Lib (byteCells)

theorem natOf_val_len {l : List UInt8} (h : Digs l) : (natOf (val l)).length ≤ l.length + 1 := by
  rw [← trim_eq h]
  by_cases h0 : l = []
  · subst h0; decide
  · exact Nat.le_succ_of_le (trim_len l h0)

set_option maxHeartbeats 1000000 in
set_option maxRecDepth 100000 in
theorem specDivG (s t : ByteArray) (w : World) (hs6 : s.size ≤ 600) (ds : Digs s.data.toList) (ht : NatS t) (h0 : 0 < nv t) :
    Calls Tryd.prog 64 #[.string s, .string t] w (Ans22 (natOf (nv s / nv t)) (natOf (nv s % nv t)) w) := by
  obtain ⟨i0, hi, hz0, hz1, hz2⟩ := info_parts Tryd.infoByteN
  have hsl := size_list s
  have ht6 := ht.2.2
  have HS := Lib.hid ds
  have HT := Lib.hid ht
  clear ds ht
  go_enter Tryd.func64, Tryd.ntmps64
  go_wp2
  go_loopw [6, 7, 8] (fun v rv iv wr => DivRel s.data.toList (nv t) w v rv iv wr) (fun _ _ iv _ => s.size - (intOf iv).toNat)
  case atStart => exact ⟨0, [], Nat.zero_le _, rfl, by rw [List.take_zero, val_nil, Nat.zero_mod, natOf_small (by omega)]; rfl, World.ownsRow_lit w #[] 0 (Nat.le_refl _) (Nat.zero_le _) rfl, digs_nil, rfl, by rw [List.take_zero, val_nil, Nat.zero_div], (Below.refl _ _).alloc (Nat.le_refl _) _⟩
  case round =>
    obtain ⟨i, acc, hi1, rfl, rfl, hown, hdg, hal, hval, hbel⟩ := hrel
    rw [hsl] at hi1
    have HA := Lib.hid (And.intro hdg (And.intro hal hval))
    have hacl : acc.length ≤ 600 := by omega
    clear hdg hal hval
    obtain ⟨B, hB⟩ : ∃ B, nv t = B := ⟨_, rfl⟩
    obtain ⟨R, hR⟩ : ∃ R, val (s.data.toList.take i) % B = R := ⟨_, rfl⟩
    have h0' : 0 < B := by omega
    have hRB : R < B := by rw [← hR]; exact Nat.mod_lt _ h0'
    have htn : t.data.toList = natOf B := by rw [HT.out.eq, hB]
    have htz : (natOf B).length = t.size := by rw [← htn]; exact size_list t
    have hRl : (natOf R).length ≤ 600 := by have := natOf_len_mono (Nat.le_of_lt hRB); omega
    rw [hB, hR]
    rw [hB] at HA
    by_cases hlt : i < s.size
    · obtain ⟨x, hx⟩ : ∃ x, s[i] = x := ⟨_, rfl⟩
      have hdx : IsD x := HS.out x (by rw [← hx]; exact List.getElem_mem (l := s.data.toList) (by rw [hsl]; exact hlt))
      have HTK : Hid (s.data.toList.take (i + 1) = s.data.toList.take i ++ [x]) := by
        show _ = _
        rw [List.take_succ_eq_append_getElem (by rw [hsl]; exact hlt), at_list s i hlt, hx]
      obtain ⟨T, hTd⟩ : ∃ T, 10 * R + dv x = T := ⟨_, rfl⟩
      have hx10 := dv_lt hdx
      have hT10 : T < 10 * B := by omega
      have hpl : ((⟨(natOf R).toArray⟩ : ByteArray) ++ s.extract i (i + 1)).data.toList = natOf R ++ [x] := by
        rw [ByteArray.data_append, Array.toList_append, ext_one s i hlt, hx]
      have hpd : Digs (natOf R ++ [x]) := (natOf_digs R).append (digs_one hdx)
      have hpt : trim (natOf R ++ [x]) = natOf T := by rw [trim_eq hpd, val_snoc, val_natOf, hTd]
      have hTl : (natOf T).length ≤ 601 := by
        rw [← hpt]
        have := trim_len (natOf R ++ [x]) (by simp)
        simp at this; omega
      have cT : ∀ W, Calls Tryd.prog 67 #[.string ((⟨(natOf R).toArray⟩ : ByteArray) ++ s.extract i (i + 1))] W (AnsS (natOf T) W) := fun W => by
        have hz : ((⟨(natOf R).toArray⟩ : ByteArray) ++ s.extract i (i + 1)).size ≤ 1048576 := by rw [← size_list, hpl]; simp; omega
        have := specTrim _ W hz
        rwa [hpl, hpt] at this
      have hrz : (⟨(natOf R).toArray⟩ : ByteArray).size ≤ 600 := hRl
      have hez : (s.extract i (i + 1)).size = 1 := by rw [← size_list, ext_one s i hlt]; rfl
      unfold AnsS at cT
      clear hpl hpd hpt hdx hx
      generalize (⟨(natOf R).toArray⟩ : ByteArray) = r at cT hrz
      obtain ⟨j, hj⟩ : ∃ j : Nat, i + 1 = j := ⟨_, rfl⟩
      rw [hj] at cT hez HTK
      have hji : (i : Int) + 1 = (j : Int) := by omega
      have hjs : j ≤ s.size := by omega
      have hij : i ≤ j := by omega
      go_wp2_with fail
      refine (cT _).mono ?_
      rintro e w2 ⟨rfl, B2⟩
      have D2 := hbel.trans (B2.mono hbel.size)
      have O2 := row_keptN hown B2 (Nat.le_refl _)
      obtain ⟨A1, cp1, rfl⟩ := own_form hown
      clear cT B2 hbel hown
      go_wp2
      have hwz := D2.size
      go_loopw [7, 9] (fun rv dv wi => ∃ (R' d : Nat), rv = .string ⟨(natOf R').toArray⟩ ∧ dv = .int .i64 d ∧ R' + d * B = T ∧ d ≤ 9 ∧ wi.ownsRow w.heap.size 5 1 (.slice A1 acc.length cp1) acc.length (byteCells acc) ∧ Below w.heap.size w wi) (fun _ dv _ => 10 - (intOf dv).toNat)
      case atStart => exact ⟨T, 0, rfl, rfl, by omega, by omega, O2, D2⟩
      case round =>
        obtain ⟨R', d, rfl, rfl, hRd, hd9, hown, hbel⟩ := hrel
        clear O2 D2 hwz
        have hRT : R' ≤ T := by omega
        have hRl' : (natOf R').length ≤ 601 := by have := natOf_len_mono hRT; omega
        have hrv : val (natOf R') = R' := val_natOf R'
        have htv : val t.data.toList = B := hB
        obtain ⟨r', hr'⟩ : ∃ r' : ByteArray, ⟨(natOf R').toArray⟩ = r' := ⟨_, rfl⟩
        have hr'l : r'.data.toList = natOf R' := by rw [← hr']
        have hr'z : r'.size ≤ 601 := by rw [← size_list, hr'l]; exact hRl'
        have cC : ∀ W, Calls Tryd.prog 83 #[.string r', .string t] W (AnsN (cmpN R' B) W) := fun W => by
          have := specCmp r' t W (by omega) (by omega) (by rw [hr'l]; exact natOf_digs _) HT.out.2.1
          rwa [hr'l, hrv, htv] at this
        unfold AnsN at cC
        rw [hr']
        by_cases hge : B ≤ R'
        · have hcm : ¬ cmpN R' B < 0 := by unfold cmpN; rw [if_neg (by omega)]; split <;> omega
          have cS : ∀ W, Calls Tryd.prog 84 #[.string r', .string t] W (AnsS (natOf (R' - B)) W) := fun W => by
            have hl2 : t.size ≤ r'.size := by rw [← htz, ← size_list r', hr'l]; exact natOf_len_mono hge
            have := specSub r' t W (by omega) hl2 (by rw [hr'l]; exact natOf_digs _) HT.out.2.1 (by rw [hr'l, hrv, htv]; exact hge)
            rwa [hr'l, hrv, htv] at this
          unfold AnsS at cS
          have HN : Hid (R' - B + (d + 1) * B = T ∧ d + 1 ≤ 9) := by
            have e1 : (d + 1) * B = d * B + B := by rw [Nat.add_mul]; omega
            refine ⟨by omega, ?_⟩
            rcases Nat.lt_or_ge d 9 with h | h
            · omega
            · exfalso
              obtain rfl : d = 9 := by omega
              omega
          have hcm2 : 0 ≤ cmpN R' B := by omega
          clear hr' hr'l hrv htv hRd hge hcm hRT hRl'
          generalize cmpN R' B = m at cC hcm2
          go_wp2_with fail
          refine (cC _).mono ?_
          rintro e w3 ⟨rfl, B3⟩
          have D3 := hbel.trans (B3.mono hbel.size)
          have O3 := row_keptN hown B3 (Nat.le_refl _)
          clear cC B3 hbel hown
          go_wp2_with fail
          refine (cS _).mono ?_
          rintro e w4 ⟨rfl, B4⟩
          have D4 := D3.trans (B4.mono D3.size)
          have O4 := row_keptN O3 B4 (Nat.le_refl _)
          clear cS B4 D3 O3
          go_wp2
          go_roundw
          case rel => exact ⟨R' - B, d + 1, rfl, by go_num, HN.out.1, HN.out.2, O4, D4⟩
          case measure => simp [intOf]; have := HN.out.2; omega
        · have hcm : cmpN R' B < 0 := by unfold cmpN; rw [if_pos (by omega)]; omega
          have hTB : T / B = d ∧ T % B = R' := by
            have h3 : T = R' + d * B := hRd.symm
            constructor
            · rw [h3, Nat.add_mul_div_right _ _ h0', Nat.div_eq_of_lt (by omega)]; omega
            · rw [h3, Nat.add_mul_mod_self_right, Nat.mod_eq_of_lt (by omega)]
          obtain ⟨b, hb⟩ : ∃ b, dig d = b := ⟨_, rfl⟩
          have hb48 : (48 : Int) + (d : Int) = (b.toNat : Int) := by rw [← hb, dig_toNat (by omega)]; omega
          have hbl := b.toNat_lt
          have hbD : IsD b := by rw [← hb]; exact dig_is (by omega)
          have hbd : dv b = d := by rw [← hb]; exact dv_dig (by omega)
          have HV : Hid (Digs (acc ++ [b]) ∧ (acc ++ [b]).length = j ∧ val (acc ++ [b]) = val (s.data.toList.take j) / B ∧ val (s.data.toList.take j) % B = R') := by
            refine ⟨HA.out.1.append (digs_one hbD), by have := HA.out.2.1; simp; omega, ?_, ?_⟩
            · rw [val_snoc, HTK.out, val_snoc, hbd]
              exact div_step h0' HA.out.2.2 (by rw [hR, hTd]; exact hTB.1)
            · rw [HTK.out, val_snoc, ← mod_step, hR, hTd]; exact hTB.2
          have HR' := Lib.hid hr'
          clear hr' hr'l hrv htv hRd hRT hRl' hTB hb hbD hbd hge
          generalize cmpN R' B = m at cC hcm
          go_wp2_with fail
          refine (cC _).mono ?_
          rintro e w3 ⟨rfl, B3⟩
          have D3 := hbel.trans (B3.mono hbel.size)
          have O3 := row_keptN hown B3 (Nat.le_refl _)
          clear cC B3 hbel hown
          go_wp2_with (at_builtin; go_must (refine wpList_append_own _ rfl _ _ 43 rfl w.heap.size 5 i0 (.int .u8 0) 1 1 Tryd.underlying43 hi hz0 hz1 hz2 rfl (by decide) _ _ _ rfl (O3.alloc _) ⟨w3.heap.size, 0, none⟩ _ _ [.int .u8 b.toNat] rfl rfl (new_listN w3 [.int .u8 b.toNat] 5) (bytes_oneN [b]) (by unfold maxLen; omega) (by omega) (by have := D3.size; simp; omega) ?_); intro v' w5 hown5 hgrow5 _; obtain ⟨A2, c2, rfl⟩ := own_form hown5)
          have hb1 : Below w.heap.size w w5 := (D3.alloc D3.size _).grown hgrow5 (by have := D3.size; simp; omega) (own_block O3)
          have O5 := Lib.hid (own_catN (a := acc) (b := [b]) hown5)
          clear hown5 hgrow5 O3 D3
          go_wp2
          go_roundw
          case rel => exact ⟨j, acc ++ [b], by rw [hsl]; exact hjs, by first | rfl | rw [hji], by rw [HV.out.2.2.2, HR'.out], by simpa using O5.out, HV.out.1, HV.out.2.1, HV.out.2.2.1, hb1⟩
          case measure => simp [intOf]; omega
    · have hie : i = s.size := by omega
      have hv0 : val (s.data.toList.take i) = nv s := by rw [hie, ← hsl, List.take_length]; rfl
      rw [hv0] at hR HA
      have HE : Hid (trim acc = natOf (nv s / nv t) ∧ natOf R = natOf (nv s % nv t)) := by
        refine ⟨?_, ?_⟩
        · rw [trim_eq HA.out.1, HA.out.2.2, hB]
        · rw [← hR, hB]
      obtain ⟨A1, cp1, rfl⟩ := own_form hown
      have hcvt := conv_own (P := Tryd.prog) (dst := 9) Tryd.underlying43 Tryd.underlying5 Tryd.underlying9 hown
      have cT := specTrim (⟨acc.toArray⟩ : ByteArray) wr (show acc.length ≤ _ by omega)
      clear HA hR hv0 htn htz
      go_wp2_with fail
      refine cT.mono ?_
      rintro e w2 ⟨rfl, B2⟩
      have D2 := hbel.trans (B2.mono hbel.size)
      clear B2 hbel cT hcvt hown
      go_wp2
      go_ret2
      exact ⟨by rw [← HE.out.1, ← HE.out.2]; rfl, D2⟩

set_option maxHeartbeats 400000 in
set_option maxRecDepth 100000 in
theorem specRoundG (s : ByteArray) (n : Nat) (w : World) (hs6 : s.size ≤ 2000) (ds : Digs s.data.toList) (hn : n ≤ 2000) : Calls Tryd.prog 78 #[.string s, .int .i64 n] w (AnsS (natOf (rnd (nv s) n)) w) := by
  rcases n with _ | p
  · have cT := specTrim s w (by omega)
    rw [trim_eq ds] at cT
    have HE : Hid (rnd (nv s) 0 = val s.data.toList) := by show _ = _; unfold rnd; rw [if_neg (by simp; omega)]; simp [nv]
    unfold AnsS at cT
    clear ds
    go_enter Tryd.func78, Tryd.ntmps78
    go_wp2_with fail
    refine cT.mono ?_
    rintro e w2 ⟨rfl, B2⟩
    clear cT
    go_wp2
    go_ret
    exact ⟨by rw [HE.out]; rfl, B2⟩
  · obtain ⟨n, hnp⟩ : ∃ n, p + 1 = n := ⟨_, rfl⟩
    have cZ := fun W => specZeros n W (by omega)
    have cZ2 := fun W => specZeros p W (by omega)
    unfold AnsS at cZ cZ2
    have hni : ((n : Int) == 0) = false := beq_eq_false_iff_ne.2 (by omega)
    have hpi : (n : Int) - 1 = (p : Int) := by omega
    have hzl : (⟨(List.replicate n (48 : UInt8)).toArray⟩ : ByteArray).size = n := by show (List.replicate n (48 : UInt8)).length = n; simp
    have hul : ((⟨(List.replicate n (48 : UInt8)).toArray⟩ : ByteArray) ++ s).data.toList = List.replicate n 48 ++ s.data.toList := by rw [ByteArray.data_append, Array.toList_append]
    have huz : ((⟨(List.replicate n (48 : UInt8)).toArray⟩ : ByteArray) ++ s).size = n + s.size := by rw [ByteArray.size_append, hzl]
    have hP := parts_of ds n
    simp only [← hul, size_list] at hP
    obtain ⟨z, hz⟩ : ∃ z : ByteArray, ⟨(List.replicate n (48 : UInt8)).toArray⟩ = z := ⟨_, rfl⟩
    rw [hz] at cZ hzl hul huz hP
    obtain ⟨u, hu⟩ : ∃ u, z ++ s = u := ⟨_, rfl⟩
    rw [hu] at hul huz hP
    obtain ⟨p1, p2, p3, p4, p5⟩ := hP
    have e0 : (u.extract 0 s.size).data.toList = u.data.toList.take s.size := by
      rw [ByteArray.data_extract, Array.toList_extract]
      simp [List.extract_eq_take_drop]
    have e1 : (u.extract s.size u.size).data.toList = u.data.toList.drop s.size := Lib.ext_list u s.size
    obtain ⟨hd, hhd⟩ : ∃ hd : ByteArray, ⟨(natOf (nv s / 10 ^ n)).toArray⟩ = hd := ⟨_, rfl⟩
    have cT : ∀ W, Calls Tryd.prog 67 #[.string (u.extract 0 s.size)] W fun e w' => e = .returned (.string hd) ∧ w' = W := fun W => by
      have := specTrimS (u.extract 0 s.size) W (by simp; omega)
      rw [e0, trim_eq p1, p4] at this
      rw [← hhd]; exact this
    obtain ⟨tl, htl⟩ : ∃ tl, u.extract s.size u.size = tl := ⟨_, rfl⟩
    rw [← e1, htl] at p2 p3 p5
    obtain ⟨zp, hzp⟩ : ∃ zp : ByteArray, ⟨(List.replicate p (48 : UInt8)).toArray⟩ = zp := ⟨_, rfl⟩
    rw [hzp] at cZ2
    have hzps : zp.size = p := by rw [← hzp]; show (List.replicate p (48 : UInt8)).length = p; simp
    obtain ⟨hf, hhf⟩ : ∃ hf : ByteArray, (⟨#[53]⟩ : ByteArray) ++ zp = hf := ⟨_, rfl⟩
    have hfl : hf.toList = 53 :: List.replicate p 48 := by rw [ByteArray.toList_eq, ← hhf, ByteArray.data_append, Array.toList_append, ← hzp]; rfl
    have p5' : val tl.data.toList = nv s % 10 ^ n := p5
    have hH := half_facts p2 (by rw [p3, hnp]) p5'
    rw [hnp, ← ByteArray.toList_eq, ← hfl] at hH
    have hdl : hd.data.toList = natOf (nv s / 10 ^ n) := by rw [← hhd]
    have hq : nv s / 10 ^ n ≤ nv s := Nat.div_le_self _ _
    have hdz : hd.size ≤ 2001 := by
      rw [← size_list, hdl]
      have h1 := natOf_len_mono hq
      have h2 := natOf_val_len ds
      rw [size_list] at h2
      change (natOf (nv s / 10 ^ n)).length ≤ (natOf (val s.data.toList)).length at h1
      omega
    have cD : ∀ W, Calls Tryd.prog 89 #[.string hd, .int .i64 0] W fun e w' => e = .returned (.int .i64 ((nv s / 10 ^ n % 10 : Nat) : Int)) ∧ w' = W := fun W => by
      have := specDigitS hd 0 W (by omega) (by omega) (by rw [hdl]; exact natOf_digs _)
      rw [hdl, digAt_zero] at this
      exact this
    have cA : ∀ W, Calls Tryd.prog 82 #[.string hd, .string ⟨#[49]⟩] W (AnsS (natOf (nv s / 10 ^ n + 1)) W) := fun W => by
      have := specAdd hd ⟨#[49]⟩ W (by omega) (by decide) (by rw [hdl]; exact natOf_digs _) (digs_one ⟨by decide, by decide⟩)
      rw [hdl, val_natOf] at this
      exact this
    unfold AnsS at cA
    have HR : Hid (rnd (nv s) (p + 1) = if 10 ^ n < 2 * (nv s % 10 ^ n) ∨ 2 * (nv s % 10 ^ n) = 10 ^ n ∧ nv s / 10 ^ n % 2 = 1 then nv s / 10 ^ n + 1 else nv s / 10 ^ n) := by show _ = _; rw [hnp]; rfl
    have ecast : ((p + 1 : Nat) : Int) = (n : Int) := by omega
    have HQ := Lib.hid hhd
    have HH := Lib.hid hH
    clear hnp hH hhd hdl p1 p2 p3 p4 p5 p5' e0 e1 hul hfl hz hq ds
    have hsub : (u.size : Int) - (n : Int) = (s.size : Int) := by omega
    have hus1 : (s.size : Int) ≤ (u.size : Int) := by omega
    have hus4 : (0 : Int) ≤ (s.size : Int) := by omega
    have v1 := IntWalk.i64_in ((u.size : Int) - (n : Int)) ⟨by omega, by omega⟩
    have v2 := IntWalk.i64_in (s.size : Int) ⟨by omega, by omega⟩
    have hu1 : u.size ≤ 4000 := by omega
    clear huz
    generalize nv s / 10 ^ n = q at *
    generalize nv s % 10 ^ n = r at *
    generalize rnd (nv s) (p + 1) = R at *
    rw [ecast]
    clear ecast
    go_enter Tryd.func78, Tryd.ntmps78
    go_wp2_with fail
    refine (cZ _).mono ?_
    rintro e w2 ⟨rfl, B2⟩
    clear cZ
    go_wp2_with fail
    refine wp_region_still_lit (by kernel_rfl) (by kernel_rfl) ?_
    iterate 6 still_step
    refine wpStill_step (fun K hK => ?_)
    go_simp
    refine ⟨.string hd, cT _, hK _ ?_⟩
    clear hK K
    iterate 8 still_step
    refine wpStill_nil ?_
    change Exit.then _ _ _ _ w2.drew
    have D2 := B2.drew
    clear B2 cT
    generalize w2.drew = w3 at *
    go_wp2_with fail
    refine (cZ2 _).mono ?_
    rintro e w4 ⟨rfl, B4⟩
    have D4 := D2.trans (B4.mono D2.size)
    clear cZ2 B4 D2
    obtain ⟨hG, hE⟩ := HH.out
    clear HH
    by_cases h1 : 10 ^ n < 2 * r
    · have g1 : binOp .gtr 9 (.string tl) (.string hf) = pure (.bool true) := by rw [binOp_gtrN, hG.2 h1]
      have HF : Hid (R = q + 1) := by show _ = _; rw [HR.out, if_pos (.inl h1)]
      clear hG hE h1 HR cD
      go_wp2_with fail
      refine (cA _).mono ?_
      rintro e w5 ⟨rfl, B5⟩
      have D5 := D4.trans (B5.mono D4.size)
      clear cA B5 D4
      go_wp2
      go_ret
      exact ⟨by rw [HF.out]; rfl, D5⟩
    · have g1 : binOp .gtr 9 (.string tl) (.string hf) = pure (.bool false) := by rw [binOp_gtrN, show (!(Op.bytesLess tl.toList hf.toList || (tl.toList == hf.toList))) = false by rw [← Bool.not_eq_true]; exact fun h => h1 (hG.1 h)]
      by_cases h2 : 2 * r = 10 ^ n
      · have g2 := hE.2 h2
        by_cases h3 : q % 2 = 1
        · have HF : Hid (R = q + 1) := by show _ = _; rw [HR.out, if_pos (.inr ⟨h2, h3⟩)]
          have g3 : ((q % 10 : Nat) : Int) % 2 = 1 := by omega
          clear hG hE h1 h2 h3 HR
          generalize q % 10 = d at *
          go_wp2_with fail
          refine (cD _).mono ?_
          rintro e w5 ⟨rfl, rfl⟩
          go_wp2_with fail
          refine (cA _).mono ?_
          rintro e w6 ⟨rfl, B5⟩
          have D5 := D4.trans (B5.mono D4.size)
          clear cA B5 D4
          go_wp2
          go_ret
          exact ⟨by rw [HF.out]; rfl, D5⟩
        · have HF : Hid (R = q) := by show _ = _; rw [HR.out, if_neg (fun h => h.elim h1 (fun h => h3 h.2))]
          have g3 : (((q % 10 : Nat) : Int) % 2 == 1) = false := beq_eq_false_iff_ne.2 (by omega)
          clear hG hE h1 h2 h3 HR cA
          generalize q % 10 = d at *
          go_wp2_with fail
          refine (cD _).mono ?_
          rintro e w5 ⟨rfl, rfl⟩
          go_wp2
          go_ret
          exact ⟨by rw [HF.out, ← HQ.out]; rfl, D4⟩
      · have g2 : (tl.toList == hf.toList) = false := by rw [← Bool.not_eq_true]; exact fun h => h2 (hE.1 h)
        have HF : Hid (R = q) := by show _ = _; rw [HR.out, if_neg (fun h => h.elim h1 (fun h => h2 h.1))]
        clear hG hE h1 h2 HR cA cD
        go_wp2
        go_ret
        exact ⟨by rw [HF.out, ← HQ.out]; rfl, D4⟩


end Go.Proofs.YtpkmhojcccpolaaDoor
