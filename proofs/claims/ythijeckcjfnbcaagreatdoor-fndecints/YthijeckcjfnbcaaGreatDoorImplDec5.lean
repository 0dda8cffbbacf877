/- impl.normalized: digits times a power of ten, normalized. Conditions: digits, at most 1500 of them; the exponent within 100000. -/
import Derived.Test.YthijeckcjfnbcaaGreatDoorImplDec4
namespace Go.Proofs.YthijeckcjfnbcaaGreatDoor
set_option linter.unusedVariables false
open Go.RowKit

theorem trimRight_len (l : List UInt8) : (Lib.trimRightB l 48).length ≤ l.length := by
  obtain ⟨k, hk, _⟩ := trimRight_parts l
  have := congrArg List.length hk
  rw [List.length_append] at this
  omega
theorem trimLeft_facts : ∀ {l : List UInt8}, Digs l → Digs (Lib.trimLeftB l 48) ∧ (Lib.trimLeftB l 48).head? ≠ some 48 ∧ (Lib.trimLeftB l 48).length ≤ l.length ∧ val (Lib.trimLeftB l 48) = val l
  | [], _ => ⟨digs_nil, by simp [Lib.trimLeftB], by simp [Lib.trimLeftB], rfl⟩
  | b :: t, h => by
    obtain ⟨hb, ht⟩ := h.cons
    by_cases e : b = 48
    · subst e
      have h1 : Lib.trimLeftB (48 :: t) 48 = Lib.trimLeftB t 48 := by simp [Lib.trimLeftB]
      obtain ⟨p1, p2, p3, p4⟩ := trimLeft_facts ht
      rw [h1]
      exact ⟨p1, p2, by simp; omega, by rw [p4, val_cons]; simp [dv]⟩
    · have h1 : Lib.trimLeftB (b :: t) 48 = b :: t := by simp [Lib.trimLeftB, e]
      rw [h1]
      exact ⟨h, by simp [e], Nat.le_refl _, rfl⟩

set_option maxHeartbeats 1000000 in
set_option maxRecDepth 100000 in
theorem implNorm (neg : Bool) (s : ByteArray) (e : Int) (w : World) (hs : s.size ≤ 1500) (ds : Digs s.data.toList) (e1 : -100000 ≤ e) (e2 : e ≤ 100000) :
    Calls Tryz.prog 28 #[.bool neg, .string s, .int .i64 e] w (AnsDC (formOf neg (nv s) e) w) := by
  obtain ⟨R, hR⟩ : ∃ R, formOf neg (nv s) e = R := ⟨_, rfl⟩
  rw [hR]
  rw [show nv s = val s.data.toList from rfl, ← formI_eq ds] at hR
  unfold formI at hR
  dsimp only at hR
  obtain ⟨p1, p2, p3, p4⟩ := trimLeft_facts ds
  obtain ⟨t, ht⟩ : ∃ q : ByteArray, ⟨(Lib.trimLeftB s.data.toList 48).toArray⟩ = q := ⟨_, rfl⟩
  have lt : t.data.toList = Lib.trimLeftB s.data.toList 48 := by rw [← ht]
  rw [← lt] at hR p1 p2 p3 p4
  have cL : ∀ W, Calls Tryz.prog 58 #[.string s, .string ⟨#[48]⟩] W fun r w' => r = .returned (.string t) ∧ Below W.heap.size W w' := fun W => by rw [← ht]; exact cTrimL s W
  rw [size_list] at p3
  have htz : t.size ≤ 1500 := by rw [size_list] at p3; omega
  have K0 := DecAt.new w false ⟨#[]⟩ 0
  have B0 : Below w.heap.size w (w.alloc (.cells #[.bool false, .string ⟨#[]⟩, .int .i64 0] 25)) := (Below.refl _ _).alloc (Nat.le_refl _) _
  rw [size_list t] at hR
  by_cases h20 : 20 < t.size
  · obtain ⟨n, hn⟩ : ∃ n, t.size - 20 = n := ⟨_, rfl⟩
    have cD := fun W => implRounded t n W p1 p2 (by omega) (by omega) (by omega)
    obtain ⟨q, hq⟩ : ∃ q : ByteArray, ⟨(natOf (rnd (nv t) n)).toArray⟩ = q := ⟨_, rfl⟩
    unfold AnsS at cD
    rw [hq] at cD
    have lq : q.data.toList = natOf (rnd (nv t) n) := by rw [← hq]
    have hqz : q.size ≤ 1502 := by
      rw [← size_list, lq]
      have h1 : rnd (nv t) n ≤ nv t + 1 := Nat.le_trans (rnd_le (nv t) n).2 (Nat.succ_le_succ (Nat.div_le_self _ _))
      have h2 := natOf_len_mono h1
      have h3 := nat_len_le (v := nv t + 1) (k := t.size + 1) (by have := val_lt p1; rw [size_list] at this; rw [Nat.pow_succ]; have : nv t < 10 ^ t.size := this; omega)
      omega
    obtain ⟨x, hx⟩ : ∃ x, e + ((t.size : Int) - 20) = x := ⟨_, rfl⟩
    have hxb : -110000 ≤ x ∧ x ≤ 110000 := by omega
    have HF : Hid (R = if Lib.trimRightB q.data.toList 48 = [] ∨ x + (q.data.toList.length : Int) - ((Lib.trimRightB q.data.toList 48).length : Int) + ((Lib.trimRightB q.data.toList 48).length : Int) - 1 < -99 then (DecV.zero, 0) else if 99 < x + (q.data.toList.length : Int) - ((Lib.trimRightB q.data.toList 48).length : Int) + ((Lib.trimRightB q.data.toList 48).length : Int) - 1 then (DecV.zero, 1) else (⟨neg, Lib.trimRightB q.data.toList 48, x + (q.data.toList.length : Int) - ((Lib.trimRightB q.data.toList 48).length : Int)⟩, 0)) := by
      show _ = _
      rw [← hR, if_pos h20, hn, show natOf (rnd (val t.data.toList) n) = q.data.toList from lq.symm, show e + (n : Int) = x by omega]
    have hpos : (0 : Int) < (t.size : Int) - 20 := by omega
    clear hR lt ht p1 p2 p3 p4 hq lq ds
    go_enter Tryz.func28, Tryz.ntmps28
    go_wp2_with fail
    refine (cL _).mono ?_
    rintro r w1 ⟨rfl, B1⟩
    have K1 := K0.belowS B1
    have D1 := below_kept B0 (Nat.le_refl _) B1
    clear cL B1 B0 K0
    go_wp2_with fail
    refine (cD _).mono ?_
    rintro r w2 ⟨rfl, B2⟩
    have K2 := K1.belowS B2
    have D2 := below_kept D1 (Nat.le_refl _) B2
    clear cD B2 D1 K1
    obtain ⟨sh, hsh⟩ : ∃ z0 : ByteArray, ⟨(Lib.trimRightB q.data.toList 48).toArray⟩ = z0 := ⟨_, rfl⟩
    have lsh : sh.data.toList = Lib.trimRightB q.data.toList 48 := by rw [← hsh]
    have zsh : sh.size ≤ q.size := by rw [← size_list, lsh, ← size_list]; exact trimRight_len _
    have cR : ∀ W, Calls Tryz.prog 60 #[.string q, .string ⟨#[48]⟩] W fun r w' => r = .returned (.string sh) ∧ Below W.heap.size W w' := fun W => by
      rw [← hsh]; exact cTrimR q W (by omega)
    have cC := fun W => implClone sh W (by omega)
    obtain ⟨y, hy⟩ : ∃ y, x + (q.size : Int) - (sh.size : Int) = y := ⟨_, rfl⟩
    have hyb : -200000 ≤ y ∧ y ≤ 200000 := by omega
    have cM := fun W => implMagnitude neg sh y W (by omega) (by omega) (by omega)
    have HV : Hid (R = if sh.data.toList = [] ∨ y + sh.size - 1 < -99 then (DecV.zero, 0) else if 99 < y + sh.size - 1 then (DecV.zero, 1) else (⟨neg, sh.data.toList, y⟩, 0)) := by
      show _ = _
      rw [HF.out, ← lsh, ← hy, size_list, size_list]
    obtain ⟨H, hH⟩ : ∃ H, y + (sh.size : Int) - 1 = H := ⟨_, rfl⟩
    rw [hH] at HV cM
    clear hsh lsh HF
    go_wp2_with fail
    refine (cR _).mono ?_
    rintro r w5 ⟨rfl, B5⟩
    have K5 := K2.belowS B5
    have D5 := below_kept D2 (Nat.le_refl _) B5
    clear cR B5 D2 K2
    go_wp2_with fail
    refine (cC _).mono ?_
    rintro r w6 ⟨rfl, B6⟩
    have D6 := below_kept D5 (Nat.le_refl _) B6
    have K7 := (K5.belowS B6).alloc (.cells #[.bool neg, .string sh, .int .i64 y] 25)
    have N7 := DecAt.new w6 neg sh y
    have D7 : Below w.heap.size w (w6.alloc (.cells #[.bool neg, .string sh, .int .i64 y] 25)) := D6.alloc D6.size _
    clear cC B6 D5 K5 D6
    by_cases h0 : sh.size = 0
    · have hnil : sh.toList.isEmpty = true := by rw [List.isEmpty_iff]; exact toList_nil.2 h0
      have HV2 : Hid (R = (DecV.zero, 0)) := by show _ = _; rw [HV.out, if_pos (.inl (List.eq_nil_of_length_eq_zero (by rw [size_list]; exact h0)))]
      obtain ⟨k0, k1, k2⟩ := K7.cell
      have f0 := K7.frozen 0
      have f1 := K7.frozen 1
      have f2 := K7.frozen 2
      clear HV h0 cM hH
      go_wp2
      refine bodyPost_ret (v := .tuple #[.agg #[.bool false, .string ⟨#[]⟩, .int .i64 0], .int .i64 0]) (by simp [results, Tryz.results28, go_sem, (K7.set false ⟨#[]⟩ 0).cell]) rfl ⟨?_, Below.set3 D7 (Nat.le_refl _)⟩
      rw [HV2.out]; rfl
    · have hnil : sh.toList.isEmpty = false := by rw [List.isEmpty_eq_false_iff]; exact fun h => h0 (toList_nil.1 h)
      have hne : ¬ sh.data.toList = [] := fun h => h0 (by rw [← size_list, h]; rfl)
      obtain ⟨k0, k1, k2⟩ := N7.cell
      go_wp2_with fail
      refine (cM _).mono ?_
      rintro r w8 ⟨rfl, B8⟩
      have K8 := K7.belowS B8
      have N8 := N7.belowS B8
      have D8 := below_kept D7 (Nat.le_refl _) B8
      clear B8 D7 K7 N7 k0 k1 k2
      obtain ⟨k0, k1, k2⟩ := K8.cell
      have f0 := K8.frozen 0
      have f1 := K8.frozen 1
      have f2 := K8.frozen 2
      obtain ⟨k3, k4, k5⟩ := N8.cell
      by_cases c1 : H < -99
      · have HV2 : Hid (R = (DecV.zero, 0)) := by show _ = _; rw [HV.out, if_pos (.inr c1)]
        clear HV cM hH
        go_wp2
        refine bodyPost_ret (v := .tuple #[.agg #[.bool false, .string ⟨#[]⟩, .int .i64 0], .int .i64 0]) (by simp [results, Tryz.results28, go_sem, (K8.set false ⟨#[]⟩ 0).cell]) rfl ⟨?_, Below.set3 D8 (Nat.le_refl _)⟩
        rw [HV2.out]; rfl
      · go_wp2_with fail
        refine (cM _).mono ?_
        rintro r w9 ⟨rfl, B9⟩
        have K9 := K8.belowS B9
        have N9 := N8.belowS B9
        have D9 := below_kept D8 (Nat.le_refl _) B9
        clear B9 D8 K8 N8 k0 k1 k2 k3 k4 k5 f0 f1 f2 cM
        obtain ⟨k0, k1, k2⟩ := K9.cell
        have f0 := K9.frozen 0
        have f1 := K9.frozen 1
        have f2 := K9.frozen 2
        obtain ⟨k3, k4, k5⟩ := N9.cell
        by_cases c2 : 99 < H
        · have HV2 : Hid (R = (DecV.zero, 1)) := by show _ = _; rw [HV.out, if_neg (by rintro (h | h); exact hne h; omega), if_pos c2]
          clear HV hH
          go_wp2
          refine bodyPost_ret (v := .tuple #[.agg #[.bool false, .string ⟨#[]⟩, .int .i64 0], .int .i64 1]) (by simp [results, Tryz.results28, go_sem, (K9.set false ⟨#[]⟩ 0).cell]) rfl ⟨?_, Below.set3 D9 (Nat.le_refl _)⟩
          rw [HV2.out]; rfl
        · have HV2 : Hid (R = (⟨neg, sh.data.toList, y⟩, 0)) := by show _ = _; rw [HV.out, if_neg (by rintro (h | h); exact hne h; omega), if_neg c2]
          clear HV hH
          go_wp2
          refine bodyPost_ret (v := .tuple #[.agg #[.bool neg, .string sh, .int .i64 y], .int .i64 0]) (by simp [results, Tryz.results28, go_sem, (K9.set neg sh y).cell]) rfl ⟨?_, Below.set3 D9 (Nat.le_refl _)⟩
          rw [HV2.out]
  · have HF : Hid (R = if Lib.trimRightB t.data.toList 48 = [] ∨ e + (t.data.toList.length : Int) - ((Lib.trimRightB t.data.toList 48).length : Int) + ((Lib.trimRightB t.data.toList 48).length : Int) - 1 < -99 then (DecV.zero, 0) else if 99 < e + (t.data.toList.length : Int) - ((Lib.trimRightB t.data.toList 48).length : Int) + ((Lib.trimRightB t.data.toList 48).length : Int) - 1 then (DecV.zero, 1) else (⟨neg, Lib.trimRightB t.data.toList 48, e + (t.data.toList.length : Int) - ((Lib.trimRightB t.data.toList 48).length : Int)⟩, 0)) := by
      show _ = _
      rw [← hR, if_neg h20, show t.size - 20 = 0 by omega]
      simp only [Int.natCast_zero, Int.add_zero]
    clear hR lt ht p1 p2 p3 p4 ds
    have hpos : ¬ (0 : Int) < (t.size : Int) - 20 := by omega
    go_enter Tryz.func28, Tryz.ntmps28
    go_wp2_with fail
    refine (cL _).mono ?_
    rintro r w1 ⟨rfl, B1⟩
    have K1 := K0.belowS B1
    have D1 := below_kept B0 (Nat.le_refl _) B1
    clear cL B1 B0 K0
    obtain ⟨sh, hsh⟩ : ∃ z0 : ByteArray, ⟨(Lib.trimRightB t.data.toList 48).toArray⟩ = z0 := ⟨_, rfl⟩
    have lsh : sh.data.toList = Lib.trimRightB t.data.toList 48 := by rw [← hsh]
    have zsh : sh.size ≤ t.size := by rw [← size_list, lsh, ← size_list]; exact trimRight_len _
    have cR : ∀ W, Calls Tryz.prog 60 #[.string t, .string ⟨#[48]⟩] W fun r w' => r = .returned (.string sh) ∧ Below W.heap.size W w' := fun W => by
      rw [← hsh]; exact cTrimR t W (by omega)
    have cC := fun W => implClone sh W (by omega)
    obtain ⟨y, hy⟩ : ∃ y, e + (t.size : Int) - (sh.size : Int) = y := ⟨_, rfl⟩
    have hyb : -200000 ≤ y ∧ y ≤ 200000 := by omega
    have cM := fun W => implMagnitude neg sh y W (by omega) (by omega) (by omega)
    have HV : Hid (R = if sh.data.toList = [] ∨ y + sh.size - 1 < -99 then (DecV.zero, 0) else if 99 < y + sh.size - 1 then (DecV.zero, 1) else (⟨neg, sh.data.toList, y⟩, 0)) := by
      show _ = _
      rw [HF.out, ← lsh, ← hy, size_list, size_list]
    obtain ⟨H, hH⟩ : ∃ H, y + (sh.size : Int) - 1 = H := ⟨_, rfl⟩
    rw [hH] at HV cM
    clear hsh lsh HF
    go_wp2_with fail
    refine (cR _).mono ?_
    rintro r w5 ⟨rfl, B5⟩
    have K5 := K1.belowS B5
    have D5 := below_kept D1 (Nat.le_refl _) B5
    clear cR B5 D1 K1
    go_wp2_with fail
    refine (cC _).mono ?_
    rintro r w6 ⟨rfl, B6⟩
    have D6 := below_kept D5 (Nat.le_refl _) B6
    have K7 := (K5.belowS B6).alloc (.cells #[.bool neg, .string sh, .int .i64 y] 25)
    have N7 := DecAt.new w6 neg sh y
    have D7 : Below w.heap.size w (w6.alloc (.cells #[.bool neg, .string sh, .int .i64 y] 25)) := D6.alloc D6.size _
    clear cC B6 D5 K5 D6
    by_cases h0 : sh.size = 0
    · have hnil : sh.toList.isEmpty = true := by rw [List.isEmpty_iff]; exact toList_nil.2 h0
      have HV2 : Hid (R = (DecV.zero, 0)) := by show _ = _; rw [HV.out, if_pos (.inl (List.eq_nil_of_length_eq_zero (by rw [size_list]; exact h0)))]
      obtain ⟨k0, k1, k2⟩ := K7.cell
      have f0 := K7.frozen 0
      have f1 := K7.frozen 1
      have f2 := K7.frozen 2
      clear HV h0 cM hH
      go_wp2
      refine bodyPost_ret (v := .tuple #[.agg #[.bool false, .string ⟨#[]⟩, .int .i64 0], .int .i64 0]) (by simp [results, Tryz.results28, go_sem, (K7.set false ⟨#[]⟩ 0).cell]) rfl ⟨?_, Below.set3 D7 (Nat.le_refl _)⟩
      rw [HV2.out]; rfl
    · have hnil : sh.toList.isEmpty = false := by rw [List.isEmpty_eq_false_iff]; exact fun h => h0 (toList_nil.1 h)
      have hne : ¬ sh.data.toList = [] := fun h => h0 (by rw [← size_list, h]; rfl)
      obtain ⟨k0, k1, k2⟩ := N7.cell
      go_wp2_with fail
      refine (cM _).mono ?_
      rintro r w8 ⟨rfl, B8⟩
      have K8 := K7.belowS B8
      have N8 := N7.belowS B8
      have D8 := below_kept D7 (Nat.le_refl _) B8
      clear B8 D7 K7 N7 k0 k1 k2
      obtain ⟨k0, k1, k2⟩ := K8.cell
      have f0 := K8.frozen 0
      have f1 := K8.frozen 1
      have f2 := K8.frozen 2
      obtain ⟨k3, k4, k5⟩ := N8.cell
      by_cases c1 : H < -99
      · have HV2 : Hid (R = (DecV.zero, 0)) := by show _ = _; rw [HV.out, if_pos (.inr c1)]
        clear HV cM hH
        go_wp2
        refine bodyPost_ret (v := .tuple #[.agg #[.bool false, .string ⟨#[]⟩, .int .i64 0], .int .i64 0]) (by simp [results, Tryz.results28, go_sem, (K8.set false ⟨#[]⟩ 0).cell]) rfl ⟨?_, Below.set3 D8 (Nat.le_refl _)⟩
        rw [HV2.out]; rfl
      · go_wp2_with fail
        refine (cM _).mono ?_
        rintro r w9 ⟨rfl, B9⟩
        have K9 := K8.belowS B9
        have N9 := N8.belowS B9
        have D9 := below_kept D8 (Nat.le_refl _) B9
        clear B9 D8 K8 N8 k0 k1 k2 k3 k4 k5 f0 f1 f2 cM
        obtain ⟨k0, k1, k2⟩ := K9.cell
        have f0 := K9.frozen 0
        have f1 := K9.frozen 1
        have f2 := K9.frozen 2
        obtain ⟨k3, k4, k5⟩ := N9.cell
        by_cases c2 : 99 < H
        · have HV2 : Hid (R = (DecV.zero, 1)) := by show _ = _; rw [HV.out, if_neg (by rintro (h | h); exact hne h; omega), if_pos c2]
          clear HV hH
          go_wp2
          refine bodyPost_ret (v := .tuple #[.agg #[.bool false, .string ⟨#[]⟩, .int .i64 0], .int .i64 1]) (by simp [results, Tryz.results28, go_sem, (K9.set false ⟨#[]⟩ 0).cell]) rfl ⟨?_, Below.set3 D9 (Nat.le_refl _)⟩
          rw [HV2.out]; rfl
        · have HV2 : Hid (R = (⟨neg, sh.data.toList, y⟩, 0)) := by show _ = _; rw [HV.out, if_neg (by rintro (h | h); exact hne h; omega), if_neg c2]
          clear HV hH
          go_wp2
          refine bodyPost_ret (v := .tuple #[.agg #[.bool neg, .string sh, .int .i64 y], .int .i64 0]) (by simp [results, Tryz.results28, go_sem, (K9.set neg sh y).cell]) rfl ⟨?_, Below.set3 D9 (Nat.le_refl _)⟩
          rw [HV2.out]

end Go.Proofs.YthijeckcjfnbcaaGreatDoor
