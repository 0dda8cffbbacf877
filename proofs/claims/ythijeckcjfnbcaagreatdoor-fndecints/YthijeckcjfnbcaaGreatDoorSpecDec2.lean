/- spec.l03Form: digits times a power of ten, normalized. Conditions: digits, at most 1500 of them; the exponent within 100000. -/
import Derived.Test.YthijeckcjfnbcaaGreatDoorSpecDec1
import Derived.Test.YthijeckcjfnbcaaGreatDoorSpecNatB
namespace Go.Proofs.YthijeckcjfnbcaaGreatDoor
set_option linter.unusedVariables false
open Go.RowKit
open Go.Lib (byteCells)

theorem mk_natOf (v : Nat) : (⟨(natOf v).toArray⟩ : ByteArray).data.toList = natOf v := rfl
theorem nat_zero_iff {v : Nat} : natOf v = [48] ↔ v = 0 := by
  constructor
  · intro h
    have := val_natOf v
    rw [h] at this
    rw [← this]; rfl
  · intro h; subst h; rw [natOf_small (by omega)]; rfl
theorem nat_last_at {u : ByteArray} {v m : Nat} (hu : u.data.toList = natOf v) (hm : m + 1 = u.size) : u[m]'(by omega) = dig (v % 10) := by
  have h1 := last_at u (by omega)
  rw [hu, natOf_last] at h1
  have h2 := Option.some.inj h1
  rw [h2]
  congr 1
  omega

theorem nat_init_at {u : ByteArray} {v m : Nat} (hu : u.data.toList = natOf v) (hm : m + 1 = u.size) (hv : v ≠ 0) (h : v % 10 = 0) : (u.extract 0 m).data.toList = natOf (v / 10) := by
  have hl := size_list u
  rw [ByteArray.data_extract, Array.toList_extract, List.extract_eq_take_drop, List.drop_zero, Nat.sub_zero, hu, ← natOf_init (by omega), List.dropLast_eq_take]
  congr 1
  rw [← hu]; omega

/-- The loop that strips noughts. -/
def StripRel (w : World) (r : Nat) (y : Int) (dv ev : Value) (wr : World) : Prop :=
  ∃ (v k : Nat) (u : ByteArray), dv = .string u ∧ ev = .int .i64 (y + k) ∧ u.data.toList = natOf v ∧ v ≠ 0 ∧ strip r = ((strip v).1, (strip v).2 + k) ∧ k ≤ 2000 ∧ (natOf v).length + k ≤ 2000 ∧ DecAt wr w.heap.size false ⟨#[]⟩ 0 ∧ Below w.heap.size w wr

set_option maxHeartbeats 1000000 in
set_option maxRecDepth 100000 in
theorem specForm (neg : Bool) (s : ByteArray) (e : Int) (much : Bool) (w : World) (hs : s.size ≤ 1500) (ds : Digs s.data.toList) (e1 : -100000 ≤ e) (e2 : e ≤ 100000) :
    Calls Tryz.prog 38 #[.bool neg, .string s, .int .i64 e, .bool much] w (AnsDC (formOf neg (if much then 10 * nv s + 1 else nv s) (if much then e - 1 else e)) w) := by
  have K0 := DecAt.new w false ⟨#[]⟩ 0
  have B0 : Below w.heap.size w (w.alloc (.cells #[.bool false, .string ⟨#[]⟩, .int .i64 0] 25)) := (Below.refl _ _).alloc (Nat.le_refl _) _
  obtain ⟨V, hV⟩ : ∃ V, (if much then 10 * nv s + 1 else nv s) = V := ⟨_, rfl⟩
  obtain ⟨x, hx⟩ : ∃ x, (if much then e - 1 else e) = x := ⟨_, rfl⟩
  obtain ⟨t, ht⟩ : ∃ t, (if much then s ++ ⟨#[49]⟩ else s) = t := ⟨_, rfl⟩
  have hxb : -100001 ≤ x ∧ x ≤ 100000 := by rw [← hx]; split <;> omega
  have htd : Digs t.data.toList ∧ t.size ≤ 1501 ∧ val t.data.toList = V := by
    rw [← ht, ← hV]
    cases much
    · exact ⟨ds, by simp; omega, rfl⟩
    · have : (s ++ (⟨#[49]⟩ : ByteArray)).data.toList = s.data.toList ++ [49] := by rw [ByteArray.data_append, Array.toList_append]
      refine ⟨?_, ?_, ?_⟩
      · show Digs (s ++ (⟨#[49]⟩ : ByteArray)).data.toList
        rw [this]; exact ds.append (digs_one ⟨by decide, by decide⟩)
      · show (s ++ (⟨#[49]⟩ : ByteArray)).size ≤ 1501
        rw [ByteArray.size_append]; have : (⟨#[49]⟩ : ByteArray).size = 1 := rfl; omega
      · show val (s ++ (⟨#[49]⟩ : ByteArray)).data.toList = 10 * nv s + 1
        rw [this, val_snoc]; rfl
  rw [hV, hx]
  obtain ⟨hd, hz, hv⟩ := htd
  obtain ⟨u, hu⟩ : ∃ u : ByteArray, ⟨(natOf V).toArray⟩ = u := ⟨_, rfl⟩
  have hul : u.data.toList = natOf V := by rw [← hu]
  have huz : u.size ≤ 1502 := by
    rw [← size_list, hul, ← hv]
    have := natOf_val_len hd
    rw [size_list] at this; omega
  have cT : ∀ W, Calls Tryz.prog 69 #[.string t] W fun e w' => e = .returned (.string u) ∧ Below W.heap.size W w' := fun W => by
    have := specTrim t W (by omega)
    rw [trim_eq hd, hv] at this
    unfold AnsS at this
    rwa [hu] at this
  have cR : ∀ (n : Nat) W, n ≤ 2000 → Calls Tryz.prog 70 #[.string u, .int .i64 n] W (AnsS (natOf (rnd V n)) W) := fun n W hn => by
    have := specRoundG u n W (by omega) (by rw [hul]; exact natOf_digs _) hn
    have e : nv u = V := by unfold nv; rw [hul, val_natOf]
    rwa [e] at this
  have HF := Lib.hid (And.intro hV hx)
  clear hV hx ds hd hv hu
  by_cases hV0 : V = 0
  · have g : (u.toList == [48]) = true := by rw [ByteArray.toList_eq, hul, nat_zero_iff.2 hV0]; rfl
    subst hV0
    rw [form_zero]
    clear cR hul
    cases much
    all_goals
      simp at ht
      (first | rw [ht] | skip)
      go_enter Tryz.func38, Tryz.ntmps38
      go_wp2_with fail
      refine (cT _).mono ?_
      rintro r w1 ⟨rfl, B1⟩
      have K1 := K0.belowS B1
      have D1 := B0.trans (B1.mono B0.size)
      obtain ⟨k0, k1, k2⟩ := K1.cell
      have f0 := K1.frozen 0
      have f1 := K1.frozen 1
      have f2 := K1.frozen 2
      clear cT B1 B0 K0
      go_wp2
      refine bodyPost_ret (v := .tuple #[.agg #[.bool false, .string ⟨#[]⟩, .int .i64 0], .int .i64 0]) (by simp [results, Tryz.results38, go_sem, (K1.set false ⟨#[]⟩ 0).cell]) rfl ⟨rfl, ?_⟩
      exact Below.set3 D1 (Nat.le_refl _)
  · have g : (u.toList == [48]) = false := by
      rw [ByteArray.toList_eq, hul, beq_eq_false_iff_ne]
      exact fun h => hV0 (nat_zero_iff.1 h)
    obtain ⟨ro, rb⟩ := rnd_over hV0
    obtain ⟨O, hO⟩ : ∃ O, over V = O := ⟨_, rfl⟩
    rw [hO] at ro rb
    obtain ⟨R, hR⟩ : ∃ R, rnd V O = R := ⟨_, rfl⟩
    rw [hR] at ro rb
    have hul2 : u.size = (natOf V).length := by rw [← size_list, hul]
    have HO : Hid (over V = O ∧ rnd V O = R ∧ V ≠ 0) := ⟨hO, hR, hV0⟩
    have hOu : O = u.size - 20 := by rw [← hO, hul2]; rfl
    have hRl : (natOf R).length ≤ 1502 := by
      have h1 : R ≤ 10 ^ 20 := rb
      have := natOf_len_mono h1
      have h2 : (natOf (10 ^ 20)).length ≤ 1502 := by
        have := natOf_len_lt (x := 10 ^ 20) (k := 21) (by omega) (by omega)
        omega
      omega
    have HR : Hid (R ≠ 0) := ro
    have hle : ¬ 20 < u.size → natOf R = u.data.toList := fun h => by
      have : O = 0 := by omega
      rw [hul, ← hR, this, rnd_zero]
    clear rb ro
    obtain ⟨y, hy⟩ : ∃ y, x + (O : Int) = y := ⟨_, rfl⟩
    have HY := Lib.hid hy
    have hyb : -100001 ≤ y ∧ y ≤ 110000 := by omega
    have HE : Hid (∀ (v k : Nat), strip R = ((strip v).1, (strip v).2 + k) → v % 10 ≠ 0 → v ≠ 0 → formOf neg V x =
        (if 99 < y + k + (natOf v).length - 1 then (DecV.zero, 1) else if y + k + (natOf v).length - 1 < -99 then (DecV.zero, 0) else (⟨neg, natOf v, y + k⟩, 0))) := by
      intro v k h1 h2 h3
      rw [strip_stop h2] at h1
      unfold formOf
      rw [if_neg hV0, hO, hR, h1]
      dsimp only
      rw [← hy, Nat.zero_add]
    have cR2 : ∀ W, 20 < u.size → Calls Tryz.prog 70 #[.string u, .int .i64 ((u.size : Int) - 20)] W (AnsS (natOf R) W) := fun W h => by
      have := cR O W (by omega)
      rw [hR] at this
      rwa [show ((u.size : Int) - 20) = (O : Int) by omega]
    unfold AnsS at cR2
    have HU := Lib.hid hul
    have HL := Lib.hid hle
    obtain ⟨L, hL⟩ : ∃ L : ByteArray, ⟨(natOf R).toArray⟩ = L := ⟨_, rfl⟩
    rw [hL] at cR2
    have HL2 : Hid (L.data.toList = natOf R) := by show _ = _; rw [← hL]
    have hxx : 20 < u.size → x + ((u.size : Int) - 20) = y := fun h => by omega
    have hyy : ¬ 20 < u.size → y = x := fun h => by omega
    clear hle hul hR hO hy cR hL hV0 HO hul2
    by_cases h20 : 20 < u.size
    · cases much
      all_goals
        simp at ht
        have hx := HF.out.2
        simp at hx
        subst hx
        subst ht
        clear HF
        go_enter Tryz.func38, Tryz.ntmps38
        go_wp2_with fail
        refine (cT _).mono ?_
        rintro r w1 ⟨rfl, B1⟩
        have K1 := K0.belowS B1
        have D1 := B0.trans (B1.mono B0.size)
        clear cT B1 B0 K0
        have hxx2 := hxx h20
        clear hxx hyy
        go_wp2_with fail
        refine (cR2 _ h20).mono ?_
        rintro r w2 ⟨rfl, B2⟩
        have K2 := K1.belowS B2
        have D2 := D1.trans (B2.mono D1.size)
        clear cR2 B2 D1 K1
        go_wp2
        go_loopw [1, 2] (fun dv ev wr => StripRel w R y dv ev wr) (fun dv _ _ => Lib.strSize dv)
        case atStart => exact ⟨R, 0, L, rfl, by simp, HL2.out, HR.out, rfl, by omega, by omega, K2, D2⟩
        case round =>
          obtain ⟨v, k, z, rfl, rfl, hz1, hz2, hz3, hz4, hz5, K3, D3⟩ := hrel
          have hzs : z.size = (natOf v).length := by rw [← size_list, hz1]
          have hzp : 1 ≤ z.size := by rw [hzs]; exact List.length_pos_iff.2 (natOf_ne v)
          obtain ⟨m, hm⟩ : ∃ m : Nat, z.size - 1 = m := ⟨_, rfl⟩
          have hmi : (z.size : Int) - 1 = (m : Int) := by omega
          have hml : m < z.size := by omega
          have hla := nat_last_at hz1 (show m + 1 = z.size by omega)
          have hc1 : z.size ≤ 2000 := by omega
          obtain ⟨b, hb⟩ : ∃ b, z[m]'hml = b := ⟨_, rfl⟩
          rw [hb] at hla
          have hz6 : z.size + k ≤ 2000 := by omega
          have HZS := Lib.hid hzs
          by_cases h0 : v % 10 = 0
          · have hb48 : b.toNat = 48 := by rw [hla, h0]; rfl
            have HI : Hid ((z.extract 0 m).data.toList = natOf (v / 10)) := nat_init_at hz1 (by omega) hz2 h0
            have hv10 : 10 ≤ v := by omega
            have HS : Hid (strip R = ((strip (v / 10)).1, (strip (v / 10)).2 + (k + 1)) ∧ v / 10 ≠ 0 ∧ (natOf (v / 10)).length + 1 = (natOf v).length) := by
              refine ⟨?_, by omega, ?_⟩
              · rw [hz3, strip_step hz2 h0]; simp; omega
              · rw [natOf_big (show ¬ v < 10 by omega)]; simp
            have hsz : (z.extract 0 m).size = m := by simp; omega
            clear hz1 hz3 hla h0 hzs hz5
            have hmz : (m : Int) ≤ (z.size : Int) := by omega
            go_wp2
            go_roundw
            case rel => exact ⟨v / 10, k + 1, z.extract 0 m, rfl, by go_num, HI.out, HS.out.2.1, HS.out.1, by omega, by have := HS.out.2.2; have := HZS.out; omega, K3, D3⟩
            case measure => simp [Lib.strSize_string]; omega
          · have hb48 : ((b.toNat : Int) == 48) = false := by
              rw [beq_eq_false_iff_ne]
              intro e
              apply h0
              have h1 : b = 48 := UInt8.toNat_inj.1 (by show b.toNat = 48; omega)
              rw [hla] at h1
              exact (dig_zero_iff (Nat.mod_lt _ (by omega))).1 h1
            have HV := Lib.hid (HE.out v k hz3 h0 hz2)
            rw [← hzs] at HV
            have HZ : Hid (z = ⟨(natOf v).toArray⟩) := by show _ = _; rw [← hz1]
            obtain ⟨k0, k1, k2⟩ := K3.cell
            have f0 := K3.frozen 0
            have f1 := K3.frozen 1
            have f2 := K3.frozen 2
            obtain ⟨q, hq⟩ : ∃ q, y + (k : Int) = q := ⟨_, rfl⟩
            rw [hq] at HV
            have hqb : -110001 ≤ q ∧ q ≤ 120000 := by omega
            clear hz1 hz3 hla h0 HE hz2 hzs hz5 HZS
            by_cases c1 : 99 < q + (z.size : Int) - 1
            · go_wp2
              refine bodyPost_ret (v := .tuple #[.agg #[.bool false, .string ⟨#[]⟩, .int .i64 0], .int .i64 1]) (by simp [results, Tryz.results38, go_sem, (K3.set false ⟨#[]⟩ 0).cell]) rfl ⟨?_, Below.set3 D3 (Nat.le_refl _)⟩
              rw [HV.out, if_pos c1]; rfl
            · by_cases c2 : q + (z.size : Int) - 1 < -99
              · go_wp2
                refine bodyPost_ret (v := .tuple #[.agg #[.bool false, .string ⟨#[]⟩, .int .i64 0], .int .i64 0]) (by simp [results, Tryz.results38, go_sem, (K3.set false ⟨#[]⟩ 0).cell]) rfl ⟨?_, Below.set3 D3 (Nat.le_refl _)⟩
                rw [HV.out, if_neg (by omega), if_pos c2]; rfl
              · go_wp2
                refine bodyPost_ret (v := .tuple #[.agg #[.bool neg, .string z, .int .i64 q], .int .i64 0]) (by simp [results, Tryz.results38, go_sem, (K3.set neg z q).cell]) rfl ⟨?_, Below.set3 D3 (Nat.le_refl _)⟩
                rw [HV.out, if_neg (by omega), if_neg (by omega), HZ.out]
    · cases much
      all_goals
        simp at ht
        have hx := HF.out.2
        simp at hx
        subst hx
        subst ht
        clear HF
        go_enter Tryz.func38, Tryz.ntmps38
        go_wp2_with fail
        refine (cT _).mono ?_
        rintro r w1 ⟨rfl, B1⟩
        have K1 := K0.belowS B1
        have D1 := B0.trans (B1.mono B0.size)
        clear cT B1 B0 K0
        have HH := Lib.hid (hyy h20)
        have HL3 : Hid (u.data.toList = natOf R) := (HL.out h20).symm
        clear hxx hyy cR2
        go_wp2
        go_loopw [1, 2] (fun dv ev wr => StripRel w R y dv ev wr) (fun dv _ _ => Lib.strSize dv)
        case atStart => exact ⟨R, 0, u, rfl, by have := HH.out; simp [this], HL3.out, HR.out, rfl, by omega, by omega, K1, D1⟩
        case round =>
          obtain ⟨v, k, z, rfl, rfl, hz1, hz2, hz3, hz4, hz5, K3, D3⟩ := hrel
          have hzs : z.size = (natOf v).length := by rw [← size_list, hz1]
          have hzp : 1 ≤ z.size := by rw [hzs]; exact List.length_pos_iff.2 (natOf_ne v)
          obtain ⟨m, hm⟩ : ∃ m : Nat, z.size - 1 = m := ⟨_, rfl⟩
          have hmi : (z.size : Int) - 1 = (m : Int) := by omega
          have hml : m < z.size := by omega
          have hla := nat_last_at hz1 (show m + 1 = z.size by omega)
          have hc1 : z.size ≤ 2000 := by omega
          obtain ⟨b, hb⟩ : ∃ b, z[m]'hml = b := ⟨_, rfl⟩
          rw [hb] at hla
          have hz6 : z.size + k ≤ 2000 := by omega
          have HZS := Lib.hid hzs
          by_cases h0 : v % 10 = 0
          · have hb48 : b.toNat = 48 := by rw [hla, h0]; rfl
            have HI : Hid ((z.extract 0 m).data.toList = natOf (v / 10)) := nat_init_at hz1 (by omega) hz2 h0
            have hv10 : 10 ≤ v := by omega
            have HS : Hid (strip R = ((strip (v / 10)).1, (strip (v / 10)).2 + (k + 1)) ∧ v / 10 ≠ 0 ∧ (natOf (v / 10)).length + 1 = (natOf v).length) := by
              refine ⟨?_, by omega, ?_⟩
              · rw [hz3, strip_step hz2 h0]; simp; omega
              · rw [natOf_big (show ¬ v < 10 by omega)]; simp
            have hsz : (z.extract 0 m).size = m := by simp; omega
            clear hz1 hz3 hla h0 hzs hz5
            have hmz : (m : Int) ≤ (z.size : Int) := by omega
            go_wp2
            go_roundw
            case rel => exact ⟨v / 10, k + 1, z.extract 0 m, rfl, by go_num, HI.out, HS.out.2.1, HS.out.1, by omega, by have := HS.out.2.2; have := HZS.out; omega, K3, D3⟩
            case measure => simp [Lib.strSize_string]; omega
          · have hb48 : ((b.toNat : Int) == 48) = false := by
              rw [beq_eq_false_iff_ne]
              intro e
              apply h0
              have h1 : b = 48 := UInt8.toNat_inj.1 (by show b.toNat = 48; omega)
              rw [hla] at h1
              exact (dig_zero_iff (Nat.mod_lt _ (by omega))).1 h1
            have HV := Lib.hid (HE.out v k hz3 h0 hz2)
            rw [← hzs] at HV
            have HZ : Hid (z = ⟨(natOf v).toArray⟩) := by show _ = _; rw [← hz1]
            obtain ⟨k0, k1, k2⟩ := K3.cell
            have f0 := K3.frozen 0
            have f1 := K3.frozen 1
            have f2 := K3.frozen 2
            obtain ⟨q, hq⟩ : ∃ q, y + (k : Int) = q := ⟨_, rfl⟩
            rw [hq] at HV
            have hqb : -110001 ≤ q ∧ q ≤ 120000 := by omega
            clear hz1 hz3 hla h0 HE hz2 hzs hz5 HZS
            by_cases c1 : 99 < q + (z.size : Int) - 1
            · go_wp2
              refine bodyPost_ret (v := .tuple #[.agg #[.bool false, .string ⟨#[]⟩, .int .i64 0], .int .i64 1]) (by simp [results, Tryz.results38, go_sem, (K3.set false ⟨#[]⟩ 0).cell]) rfl ⟨?_, Below.set3 D3 (Nat.le_refl _)⟩
              rw [HV.out, if_pos c1]; rfl
            · by_cases c2 : q + (z.size : Int) - 1 < -99
              · go_wp2
                refine bodyPost_ret (v := .tuple #[.agg #[.bool false, .string ⟨#[]⟩, .int .i64 0], .int .i64 0]) (by simp [results, Tryz.results38, go_sem, (K3.set false ⟨#[]⟩ 0).cell]) rfl ⟨?_, Below.set3 D3 (Nat.le_refl _)⟩
                rw [HV.out, if_neg (by omega), if_pos c2]; rfl
              · go_wp2
                refine bodyPost_ret (v := .tuple #[.agg #[.bool neg, .string z, .int .i64 q], .int .i64 0]) (by simp [results, Tryz.results38, go_sem, (K3.set neg z q).cell]) rfl ⟨?_, Below.set3 D3 (Nat.le_refl _)⟩
                rw [HV.out, if_neg (by omega), if_neg (by omega), HZ.out]

end Go.Proofs.YthijeckcjfnbcaaGreatDoor
