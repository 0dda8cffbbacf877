/- spec.NatSub, spec.l02Div. Conditions: at most 1048576 bytes; l02Div: naturals, the second not 0. -/
import Derived.Test.YtpkmhojcccpolaaDoorSpecNat5
namespace Go.Proofs.YtpkmhojcccpolaaDoor
set_option linter.unusedVariables false
open Go.RowKit
open Go.Lib (byteCells)


theorem natOf_len_mono {a b : Nat} (h : a ≤ b) : (natOf a).length ≤ (natOf b).length := by
  rcases Nat.lt_or_ge (natOf b).length (natOf a).length with h1 | h1
  · have := canon_len_lt (natOf_digs b) (natOf_digs a) (natOf_canon a) h1 (natOf_ne b)
    rw [val_natOf, val_natOf] at this
    omega
  · exact h1

/-- One digit more of a division. -/
theorem div_step {P x B q d : Nat} (hB : 0 < B) (hq : q = P / B) (h : (10 * (P % B) + x) / B = d) : 10 * q + d = (10 * P + x) / B := by
  have h1 := Nat.div_add_mod P B
  subst hq
  have : 10 * P + x = (10 * (P / B)) * B + (10 * (P % B) + x) := by
    have : 10 * P = 10 * (P / B) * B + 10 * (P % B) := by rw [Nat.mul_assoc, ← Nat.mul_add, Nat.mul_comm (P / B) B, h1]
    omega
  rw [this, Nat.add_comm (10 * (P / B) * B), Nat.add_mul_div_right _ _ hB, h]
  omega
theorem mod_step {P x B : Nat} : (10 * (P % B) + x) % B = (10 * P + x) % B := by
  rw [Nat.add_mod, Nat.mul_mod, Nat.mod_mod, ← Nat.mul_mod, ← Nat.add_mod]

theorem trim_len : ∀ (l : List UInt8), l ≠ [] → (trim l).length ≤ l.length
  | [], h => absurd rfl h
  | [b], _ => Nat.le_refl _
  | b :: c :: l, _ => by
    rw [trim]
    split
    · have := trim_len (c :: l) (by simp)
      simp at this ⊢; omega
    · exact Nat.le_refl _
theorem ext_one (s : ByteArray) (i : Nat) (h : i < s.size) : (s.extract i (i + 1)).data.toList = [s[i]] := by
  have hl := size_list s
  rw [ByteArray.data_extract, Array.toList_extract]
  simp only [List.extract_eq_take_drop, Nat.add_sub_cancel_left]
  rw [List.drop_eq_getElem_cons (by rw [hl]; exact h)]
  rfl

def DivRel (la : List UInt8) (B : Nat) (w : World) (v rv iv : Value) (wr : World) : Prop :=
  ∃ (i : Nat) (acc : List UInt8), i ≤ la.length ∧ iv = .int .i64 i ∧ rv = .string ⟨(natOf (val (la.take i) % B)).toArray⟩ ∧ wr.ownsRow w.heap.size 5 1 v acc.length (byteCells acc) ∧ Digs acc ∧ acc.length = i ∧ val acc = val (la.take i) / B ∧ Below w.heap.size w wr

def Ans22 (p q : List UInt8) (w : World) (e : Ending) (w' : World) : Prop := e = .returned (.tuple #[.string ⟨p.toArray⟩, .string ⟨q.toArray⟩]) ∧ Below w.heap.size w w'

set_option maxHeartbeats 1000000 in
set_option maxRecDepth 100000 in
theorem specDiv (s t : ByteArray) (w : World) (hs : NatS s) (ht : NatS t) (h0 : 0 < nv t) :
    Calls Tryd.prog 64 #[.string s, .string t] w (Ans22 (natOf (nv s / nv t)) (natOf (nv s % nv t)) w) := by
  obtain ⟨i0, hi, hz0, hz1, hz2⟩ := info_parts Tryd.infoByteN
  have hsl := size_list s
  have hs6 := hs.2.2
  have ht6 := ht.2.2
  have HS := Lib.hid hs
  have HT := Lib.hid ht
  clear hs ht
  go_enter Tryd.func64, Tryd.ntmps64
  go_wp2
  go_loopw [6, 7, 8] (fun v rv iv wr => DivRel s.data.toList (nv t) w v rv iv wr) (fun _ _ iv _ => s.size - (intOf iv).toNat)
  case atStart => exact ⟨0, [], Nat.zero_le _, rfl, by rw [List.take_zero, val_nil, Nat.zero_mod, natOf_small (by omega)]; rfl, World.ownsRow_lit w #[] 0 (Nat.le_refl _) (Nat.zero_le _) rfl, digs_nil, rfl, by rw [List.take_zero, val_nil, Nat.zero_div], (Below.refl _ _).alloc (Nat.le_refl _) _⟩
  case round =>
    obtain ⟨i, acc, hi1, rfl, rfl, hown, hdg, hal, hval, hbel⟩ := hrel
    rw [hsl] at hi1
    have HA := Lib.hid (And.intro hdg (And.intro hal hval))
    have hacl : acc.length ≤ 600 := by omega
    clear hdg hal hval
    obtain ⟨B, hB⟩ : ∃ B, nv t = B := ⟨_, rfl⟩
    obtain ⟨R, hR⟩ : ∃ R, val (s.data.toList.take i) % B = R := ⟨_, rfl⟩
    have h0' : 0 < B := by omega
    have hRB : R < B := by rw [← hR]; exact Nat.mod_lt _ h0'
    have htn : t.data.toList = natOf B := by rw [HT.out.eq, hB]
    have htz : (natOf B).length = t.size := by rw [← htn]; exact size_list t
    have hRl : (natOf R).length ≤ 600 := by have := natOf_len_mono (Nat.le_of_lt hRB); omega
    rw [hB, hR]
    rw [hB] at HA
    by_cases hlt : i < s.size
    · obtain ⟨x, hx⟩ : ∃ x, s[i] = x := ⟨_, rfl⟩
      have hdx : IsD x := HS.out.2.1 x (by rw [← hx]; exact List.getElem_mem (l := s.data.toList) (by rw [hsl]; exact hlt))
      have HTK : Hid (s.data.toList.take (i + 1) = s.data.toList.take i ++ [x]) := by
        show _ = _
        rw [List.take_succ_eq_append_getElem (by rw [hsl]; exact hlt), at_list s i hlt, hx]
      obtain ⟨T, hTd⟩ : ∃ T, 10 * R + dv x = T := ⟨_, rfl⟩
      have hx10 := dv_lt hdx
      have hT10 : T < 10 * B := by omega
      have hpl : ((⟨(natOf R).toArray⟩ : ByteArray) ++ s.extract i (i + 1)).data.toList = natOf R ++ [x] := by
        rw [ByteArray.data_append, Array.toList_append, ext_one s i hlt, hx]
      have hpd : Digs (natOf R ++ [x]) := (natOf_digs R).append (digs_one hdx)
      have hpt : trim (natOf R ++ [x]) = natOf T := by rw [trim_eq hpd, val_snoc, val_natOf, hTd]
      have hTl : (natOf T).length ≤ 601 := by
        rw [← hpt]
        have := trim_len (natOf R ++ [x]) (by simp)
        simp at this; omega
      have cT : ∀ W, Calls Tryd.prog 67 #[.string ((⟨(natOf R).toArray⟩ : ByteArray) ++ s.extract i (i + 1))] W (AnsS (natOf T) W) := fun W => by
        have hz : ((⟨(natOf R).toArray⟩ : ByteArray) ++ s.extract i (i + 1)).size ≤ 1048576 := by rw [← size_list, hpl]; simp; omega
        have := specTrim _ W hz
        rwa [hpl, hpt] at this
      have hrz : (⟨(natOf R).toArray⟩ : ByteArray).size ≤ 600 := hRl
      have hez : (s.extract i (i + 1)).size = 1 := by rw [← size_list, ext_one s i hlt]; rfl
      unfold AnsS at cT
      clear hpl hpd hpt hdx hx
      generalize (⟨(natOf R).toArray⟩ : ByteArray) = r at cT hrz
      obtain ⟨j, hj⟩ : ∃ j : Nat, i + 1 = j := ⟨_, rfl⟩
      rw [hj] at cT hez HTK
      have hji : (i : Int) + 1 = (j : Int) := by omega
      have hjs : j ≤ s.size := by omega
      have hij : i ≤ j := by omega
      go_wp2_with fail
      refine (cT _).mono ?_
      rintro e w2 ⟨rfl, B2⟩
      have D2 := hbel.trans (B2.mono hbel.size)
      have O2 := row_keptN hown B2 (Nat.le_refl _)
      obtain ⟨A1, cp1, rfl⟩ := own_form hown
      clear cT B2 hbel hown
      go_wp2
      have hwz := D2.size
      go_loopw [7, 9] (fun rv dv wi => ∃ (R' d : Nat), rv = .string ⟨(natOf R').toArray⟩ ∧ dv = .int .i64 d ∧ R' + d * B = T ∧ d ≤ 9 ∧ wi.ownsRow w.heap.size 5 1 (.slice A1 acc.length cp1) acc.length (byteCells acc) ∧ Below w.heap.size w wi) (fun _ dv _ => 10 - (intOf dv).toNat)
      case atStart => exact ⟨T, 0, rfl, rfl, by omega, by omega, O2, D2⟩
      case round =>
        obtain ⟨R', d, rfl, rfl, hRd, hd9, hown, hbel⟩ := hrel
        clear O2 D2 hwz
        have hRT : R' ≤ T := by omega
        have hRl' : (natOf R').length ≤ 601 := by have := natOf_len_mono hRT; omega
        have hrv : val (natOf R') = R' := val_natOf R'
        have htv : val t.data.toList = B := hB
        obtain ⟨r', hr'⟩ : ∃ r' : ByteArray, ⟨(natOf R').toArray⟩ = r' := ⟨_, rfl⟩
        have hr'l : r'.data.toList = natOf R' := by rw [← hr']
        have hr'z : r'.size ≤ 601 := by rw [← size_list, hr'l]; exact hRl'
        have cC : ∀ W, Calls Tryd.prog 83 #[.string r', .string t] W (AnsN (cmpN R' B) W) := fun W => by
          have := specCmp r' t W (by omega) (by omega) (by rw [hr'l]; exact natOf_digs _) HT.out.2.1
          rwa [hr'l, hrv, htv] at this
        unfold AnsN at cC
        rw [hr']
        by_cases hge : B ≤ R'
        · have hcm : ¬ cmpN R' B < 0 := by unfold cmpN; rw [if_neg (by omega)]; split <;> omega
          have cS : ∀ W, Calls Tryd.prog 84 #[.string r', .string t] W (AnsS (natOf (R' - B)) W) := fun W => by
            have hl2 : t.size ≤ r'.size := by rw [← htz, ← size_list r', hr'l]; exact natOf_len_mono hge
            have := specSub r' t W (by omega) hl2 (by rw [hr'l]; exact natOf_digs _) HT.out.2.1 (by rw [hr'l, hrv, htv]; exact hge)
            rwa [hr'l, hrv, htv] at this
          unfold AnsS at cS
          have HN : Hid (R' - B + (d + 1) * B = T ∧ d + 1 ≤ 9) := by
            have e1 : (d + 1) * B = d * B + B := by rw [Nat.add_mul]; omega
            refine ⟨by omega, ?_⟩
            rcases Nat.lt_or_ge d 9 with h | h
            · omega
            · exfalso
              obtain rfl : d = 9 := by omega
              omega
          have hcm2 : 0 ≤ cmpN R' B := by omega
          clear hr' hr'l hrv htv hRd hge hcm hRT hRl'
          generalize cmpN R' B = m at cC hcm2
          go_wp2_with fail
          refine (cC _).mono ?_
          rintro e w3 ⟨rfl, B3⟩
          have D3 := hbel.trans (B3.mono hbel.size)
          have O3 := row_keptN hown B3 (Nat.le_refl _)
          clear cC B3 hbel hown
          go_wp2_with fail
          refine (cS _).mono ?_
          rintro e w4 ⟨rfl, B4⟩
          have D4 := D3.trans (B4.mono D3.size)
          have O4 := row_keptN O3 B4 (Nat.le_refl _)
          clear cS B4 D3 O3
          go_wp2
          go_roundw
          case rel => exact ⟨R' - B, d + 1, rfl, by go_num, HN.out.1, HN.out.2, O4, D4⟩
          case measure => simp [intOf]; have := HN.out.2; omega
        · have hcm : cmpN R' B < 0 := by unfold cmpN; rw [if_pos (by omega)]; omega
          have hTB : T / B = d ∧ T % B = R' := by
            have h3 : T = R' + d * B := hRd.symm
            constructor
            · rw [h3, Nat.add_mul_div_right _ _ h0', Nat.div_eq_of_lt (by omega)]; omega
            · rw [h3, Nat.add_mul_mod_self_right, Nat.mod_eq_of_lt (by omega)]
          obtain ⟨b, hb⟩ : ∃ b, dig d = b := ⟨_, rfl⟩
          have hb48 : (48 : Int) + (d : Int) = (b.toNat : Int) := by rw [← hb, dig_toNat (by omega)]; omega
          have hbl := b.toNat_lt
          have hbD : IsD b := by rw [← hb]; exact dig_is (by omega)
          have hbd : dv b = d := by rw [← hb]; exact dv_dig (by omega)
          have HV : Hid (Digs (acc ++ [b]) ∧ (acc ++ [b]).length = j ∧ val (acc ++ [b]) = val (s.data.toList.take j) / B ∧ val (s.data.toList.take j) % B = R') := by
            refine ⟨HA.out.1.append (digs_one hbD), by have := HA.out.2.1; simp; omega, ?_, ?_⟩
            · rw [val_snoc, HTK.out, val_snoc, hbd]
              exact div_step h0' HA.out.2.2 (by rw [hR, hTd]; exact hTB.1)
            · rw [HTK.out, val_snoc, ← mod_step, hR, hTd]; exact hTB.2
          have HR' := Lib.hid hr'
          clear hr' hr'l hrv htv hRd hRT hRl' hTB hb hbD hbd hge
          generalize cmpN R' B = m at cC hcm
          go_wp2_with fail
          refine (cC _).mono ?_
          rintro e w3 ⟨rfl, B3⟩
          have D3 := hbel.trans (B3.mono hbel.size)
          have O3 := row_keptN hown B3 (Nat.le_refl _)
          clear cC B3 hbel hown
          go_wp2_with (at_builtin; go_must (refine wpList_append_own _ rfl _ _ 43 rfl w.heap.size 5 i0 (.int .u8 0) 1 1 Tryd.underlying43 hi hz0 hz1 hz2 rfl (by decide) _ _ _ rfl (O3.alloc _) ⟨w3.heap.size, 0, none⟩ _ _ [.int .u8 b.toNat] rfl rfl (new_listN w3 [.int .u8 b.toNat] 5) (bytes_oneN [b]) (by unfold maxLen; omega) (by omega) (by have := D3.size; simp; omega) ?_); intro v' w5 hown5 hgrow5 _; obtain ⟨A2, c2, rfl⟩ := own_form hown5)
          have hb1 : Below w.heap.size w w5 := (D3.alloc D3.size _).grown hgrow5 (by have := D3.size; simp; omega) (own_block O3)
          have O5 := Lib.hid (own_catN (a := acc) (b := [b]) hown5)
          clear hown5 hgrow5 O3 D3
          go_wp2
          go_roundw
          case rel => exact ⟨j, acc ++ [b], by rw [hsl]; exact hjs, by first | rfl | rw [hji], by rw [HV.out.2.2.2, HR'.out], by simpa using O5.out, HV.out.1, HV.out.2.1, HV.out.2.2.1, hb1⟩
          case measure => simp [intOf]; omega
    · have hie : i = s.size := by omega
      have hv0 : val (s.data.toList.take i) = nv s := by rw [hie, ← hsl, List.take_length]; rfl
      rw [hv0] at hR HA
      have HE : Hid (trim acc = natOf (nv s / nv t) ∧ natOf R = natOf (nv s % nv t)) := by
        refine ⟨?_, ?_⟩
        · rw [trim_eq HA.out.1, HA.out.2.2, hB]
        · rw [← hR, hB]
      obtain ⟨A1, cp1, rfl⟩ := own_form hown
      have hcvt := conv_own (P := Tryd.prog) (dst := 9) Tryd.underlying43 Tryd.underlying5 Tryd.underlying9 hown
      have cT := specTrim (⟨acc.toArray⟩ : ByteArray) wr (show acc.length ≤ _ by omega)
      clear HA hR hv0 htn htz
      go_wp2_with fail
      refine cT.mono ?_
      rintro e w2 ⟨rfl, B2⟩
      have D2 := hbel.trans (B2.mono hbel.size)
      clear B2 hbel cT hcvt hown
      go_wp2
      go_ret2
      exact ⟨by rw [← HE.out.1, ← HE.out.2]; rfl, D2⟩

end Go.Proofs.YtpkmhojcccpolaaDoor
