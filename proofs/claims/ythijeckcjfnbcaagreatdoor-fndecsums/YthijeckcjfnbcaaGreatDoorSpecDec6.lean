/- spec.l03Sum of two valid decimals, normalized. -/
import Derived.Test.YthijeckcjfnbcaaGreatDoorSpecDecA
import Derived.Test.YthijeckcjfnbcaaGreatDoorSpecDec2
namespace Go.Proofs.YthijeckcjfnbcaaGreatDoor
set_option linter.unusedVariables false
open Go.RowKit

set_option maxHeartbeats 1000000 in
set_option maxRecDepth 100000 in
theorem specSumT (n : Bool) (s : ByteArray) (e : Int) (n2 : Bool) (s2 : ByteArray) (e2 : Int) (w : World) (ha : (dOf n s e).Ok) (hb : (dOf n2 s2 e2).Ok) :
    Calls Tryz.prog 35 #[.agg #[.bool n, .string s, .int .i64 e], .agg #[.bool n2, .string s2, .int .i64 e2], .bool true] w (AnsDC (formOf (sumOf (dOf n s e) (dOf n2 s2 e2)).1 (sumOf (dOf n s e) (dOf n2 s2 e2)).2 (low2 (dOf n s e) (dOf n2 s2 e2))) w) := by
  obtain ⟨d1, q1, b1, b2⟩ := ok_size ha
  obtain ⟨d2, q2, c1, c2⟩ := ok_size hb
  have cL := fun W => specLevel n s e n2 s2 e2 W q1 q2 b1 b2 c1 c2
  obtain ⟨E, hE⟩ : ∃ E, (if e2 < e then e2 else e) = E := ⟨_, rfl⟩
  rw [hE] at cL
  have hEb : E ≤ e ∧ E ≤ e2 ∧ -118 ≤ E ∧ E ≤ 99 := by rw [← hE]; split <;> omega
  obtain ⟨x, hx⟩ : ∃ x, padZ s (e - E).toNat = x := ⟨_, rfl⟩
  obtain ⟨y, hy⟩ : ∃ y, padZ s2 (e2 - E).toNat = y := ⟨_, rfl⟩
  rw [hx, hy] at cL
  obtain ⟨dx, vx, zx⟩ := padZ_facts d1 q1 (e - E).toNat (by omega)
  obtain ⟨dy, vy, zy⟩ := padZ_facts d2 q2 (e2 - E).toNat (by omega)
  rw [hx] at dx vx zx
  rw [hy] at dy vy zy
  obtain ⟨X, hX⟩ : ∃ X, val s.data.toList * 10 ^ (e - E).toNat = X := ⟨_, rfl⟩
  obtain ⟨Y, hY⟩ : ∃ Y, val s2.data.toList * 10 ^ (e2 - E).toNat = Y := ⟨_, rfl⟩
  rw [hX] at vx
  rw [hY] at vy
  have HS : Hid (sumOf (dOf n s e) (dOf n2 s2 e2) = (if n = n2 then (n, X + Y) else if Y ≤ X then (n, X - Y) else (n2, Y - X)) ∧ low2 (dOf n s e) (dOf n2 s2 e2) = E) := by
    refine ⟨?_, hE⟩
    unfold sumOf lev
    rw [show low2 (dOf n s e) (dOf n2 s2 e2) = E from hE]
    show (if n = n2 then (n, val s.data.toList * 10 ^ (e - E).toNat + val s2.data.toList * 10 ^ (e2 - E).toNat) else if val s2.data.toList * 10 ^ (e2 - E).toNat ≤ val s.data.toList * 10 ^ (e - E).toNat then (n, val s.data.toList * 10 ^ (e - E).toNat - val s2.data.toList * 10 ^ (e2 - E).toNat) else (n2, val s2.data.toList * 10 ^ (e2 - E).toNat - val s.data.toList * 10 ^ (e - E).toNat)) = _
    rw [hX, hY]
  have cA := fun W => specAdd x y W (by omega) (by omega) dx dy
  have cC := fun W => specCmp x y W (by omega) (by omega) dx dy
  have cTx := fun W => specTrim x W (by omega)
  have cTy := fun W => specTrim y W (by omega)
  rw [trim_eq dx, vx] at cTx
  rw [trim_eq dy, vy] at cTy
  rw [vx, vy] at cA cC
  have lX : (natOf X).length ≤ 250 := by rw [← vx]; have := nat_len_val dx; rw [size_list] at this; omega
  have lY : (natOf Y).length ≤ 250 := by rw [← vy]; have := nat_len_val dy; rw [size_list] at this; omega
  have cS1 : ∀ W, Y ≤ X → Calls Tryz.prog 68 #[.string ⟨(natOf X).toArray⟩, .string y] W (AnsS (natOf (X - Y)) W) := fun W h => by
    have := specSubG ⟨(natOf X).toArray⟩ y W (show (natOf X).length ≤ _ by omega) (by omega) (natOf_digs X) dy (by rw [show val (natOf X) = X from val_natOf X] at *; rw [vy]; exact h)
    rw [vy] at this
    rwa [show val (⟨(natOf X).toArray⟩ : ByteArray).data.toList = X from val_natOf X] at this
  have cS2 : ∀ W, X ≤ Y → Calls Tryz.prog 68 #[.string ⟨(natOf Y).toArray⟩, .string x] W (AnsS (natOf (Y - X)) W) := fun W h => by
    have := specSubG ⟨(natOf Y).toArray⟩ x W (show (natOf Y).length ≤ _ by omega) (by omega) (natOf_digs Y) dx (by rw [show val (natOf Y) = Y from val_natOf Y] at *; rw [vx]; exact h)
    rw [vx] at this
    rwa [show val (⟨(natOf Y).toArray⟩ : ByteArray).data.toList = Y from val_natOf Y] at this
  have lXY := nat_len_add lX lY
  have lS1 : (natOf (X - Y)).length ≤ 250 := Nat.le_trans (natOf_len_mono (by omega)) lX
  have lS2 : (natOf (Y - X)).length ≤ 250 := Nat.le_trans (natOf_len_mono (by omega)) lY
  have K1 := ((DecAt.new w n s e).alloc (.cells #[.bool n2, .string s2, .int .i64 e2] 25)).alloc (.cells #[.bool false, .string ⟨#[]⟩, .int .i64 0] 25)
  have K2 := (DecAt.new (w.alloc (.cells #[.bool n, .string s, .int .i64 e] 25)) n2 s2 e2).alloc (.cells #[.bool false, .string ⟨#[]⟩, .int .i64 0] 25)
  have K0 := DecAt.new ((w.alloc (.cells #[.bool n, .string s, .int .i64 e] 25)).alloc (.cells #[.bool n2, .string s2, .int .i64 e2] 25)) false ⟨#[]⟩ 0
  rw [show (w.alloc (.cells #[.bool n, .string s, .int .i64 e] 25)).heap.size = w.heap.size + 1 by simp] at K2
  rw [show ((w.alloc (.cells #[.bool n, .string s, .int .i64 e] 25)).alloc (.cells #[.bool n2, .string s2, .int .i64 e2] 25)).heap.size = w.heap.size + 1 + 1 by simp] at K0
  have B : Below w.heap.size w (((w.alloc (.cells #[.bool n, .string s, .int .i64 e] 25)).alloc (.cells #[.bool n2, .string s2, .int .i64 e2] 25)).alloc (.cells #[.bool false, .string ⟨#[]⟩, .int .i64 0] 25)) := (((Below.refl _ _).alloc (Nat.le_refl _) _).alloc (by simp) _).alloc (by simp; omega) _
  unfold Ans3L at cL
  unfold AnsS at cA cTx cTy cS1 cS2
  unfold AnsN at cC
  clear hE hx hy dx dy vx vy hX hY ha hb d1 d2
  go_enter Tryz.func35, Tryz.ntmps35
  go_wp2_with fail
  refine (cL _).mono ?_
  rintro r w1 ⟨rfl, B1⟩
  have K3 := K1.belowS B1
  have K4 := K2.belowS B1
  have K5 := K0.belowS B1
  have D1 := below_kept B (Nat.le_refl _) B1
  obtain ⟨a0, a1, a2⟩ := K3.cell
  obtain ⟨a3, a4, a5⟩ := K4.cell
  clear cL B1 B K0 K1 K2
  by_cases hn : n = n2
  · have hbn : (n == n2) = true := by rw [beq_iff_eq]; exact hn
    have HN := Lib.hid hn
    clear hn
    go_wp2_with fail
    refine (cA _).mono ?_
    rintro r w2 ⟨rfl, B2⟩
    have D3 := below_kept D1 (Nat.le_refl _) B2
    have K3 := K5.belowS B2
    clear cA cC cTx cTy cS1 cS2 B2 D1 K5 K4 a0 a1 a2 a3 a4 a5
    have cF := fun W => specForm n ⟨(natOf (X + Y)).toArray⟩ E false W (by show (natOf (X + Y)).length ≤ 1500; omega) (natOf_digs _) (by omega) (by omega)
    rw [show nv (⟨(natOf (X + Y)).toArray⟩ : ByteArray) = X + Y from val_natOf _] at cF
    simp only [Bool.false_eq_true, if_false] at cF
    obtain ⟨r, hr⟩ : ∃ r, formOf n (X + Y) E = r := ⟨_, rfl⟩
    have HR : Hid (formOf (sumOf (dOf n s e) (dOf n2 s2 e2)).1 (sumOf (dOf n s e) (dOf n2 s2 e2)).2 (low2 (dOf n s e) (dOf n2 s2 e2)) = r) := by show _ = _; rw [HS.out.1, HS.out.2, if_pos HN.out]; exact hr
    rw [hr] at cF
    unfold AnsDC at cF
    obtain ⟨r1, r2⟩ := r
    obtain ⟨rn, rd, re⟩ := r1
    generalize (⟨(natOf (X + Y)).toArray⟩ : ByteArray) = D at *
    obtain ⟨rs, hrs⟩ : ∃ rs : ByteArray, ⟨rd.toArray⟩ = rs := ⟨_, rfl⟩
    dsimp only at cF
    rw [hrs] at cF
    go_wp2_with fail
    refine (cF _).mono ?_
    rintro r w9 ⟨rfl, B9⟩
    have K9 := K3.belowS B9
    have D9 := below_kept D3 (Nat.le_refl _) B9
    obtain ⟨k6, k7, k8⟩ := K9.cell
    have f0 := K9.frozen 0
    have f1 := K9.frozen 1
    have f2 := K9.frozen 2
    clear cF B9 D3 K3 hr
    go_wp2
    refine bodyPost_ret (v := .tuple #[.agg #[.bool rn, .string rs, .int .i64 re], .int .i64 r2]) (by simp [results, Tryz.results35, go_sem, (K9.set rn rs re).cell]) rfl ⟨?_, Below.set3 D9 (by omega)⟩
    rw [HR.out, ← hrs]
  · have hbn : (n == n2) = false := by rw [beq_eq_false_iff_ne]; exact hn
    have HN := Lib.hid hn
    clear hn
    go_wp2_with fail
    refine (cC _).mono ?_
    rintro r w2 ⟨rfl, B2⟩
    have D2 := below_kept D1 (Nat.le_refl _) B2
    have K6 := K5.belowS B2
    have K7 := K4.belowS B2
    obtain ⟨a6, a7, a8⟩ := K7.cell
    clear cA cC B2 D1 K5 K4 K3 a0 a1 a2 a3 a4 a5
    by_cases hle : Y ≤ X
    · have hc : 0 ≤ cmpN X Y := by unfold cmpN; rw [if_neg (by omega)]; split <;> omega
      generalize cmpN X Y = m at *
      go_wp2_with fail
      refine (cTx _).mono ?_
      rintro r w3 ⟨rfl, B3⟩
      have D4 := below_kept D2 (Nat.le_refl _) B3
      have K8 := K6.belowS B3
      clear cTx cTy B3 D2 K6 K7 a6 a7 a8
      have cS := fun W => cS1 W hle
      clear cS1 cS2
      generalize (⟨(natOf X).toArray⟩ : ByteArray) = tx at *
      go_wp2_with fail
      refine (cS _).mono ?_
      rintro r w4 ⟨rfl, B4⟩
      have D3 := below_kept D4 (Nat.le_refl _) B4
      have K3 := K8.belowS B4
      clear cS B4 D4 K8
      have cF := fun W => specForm n ⟨(natOf (X - Y)).toArray⟩ E false W (by show (natOf (X - Y)).length ≤ 1500; omega) (natOf_digs _) (by omega) (by omega)
      rw [show nv (⟨(natOf (X - Y)).toArray⟩ : ByteArray) = X - Y from val_natOf _] at cF
      simp only [Bool.false_eq_true, if_false] at cF
      obtain ⟨r, hr⟩ : ∃ r, formOf n (X - Y) E = r := ⟨_, rfl⟩
      have HR : Hid (formOf (sumOf (dOf n s e) (dOf n2 s2 e2)).1 (sumOf (dOf n s e) (dOf n2 s2 e2)).2 (low2 (dOf n s e) (dOf n2 s2 e2)) = r) := by show _ = _; rw [HS.out.1, HS.out.2, if_neg HN.out, if_pos hle]; exact hr
      rw [hr] at cF
      unfold AnsDC at cF
      obtain ⟨r1, r2⟩ := r
      obtain ⟨rn, rd, re⟩ := r1
      generalize (⟨(natOf (X - Y)).toArray⟩ : ByteArray) = D at *
      obtain ⟨rs, hrs⟩ : ∃ rs : ByteArray, ⟨rd.toArray⟩ = rs := ⟨_, rfl⟩
      dsimp only at cF
      rw [hrs] at cF
      go_wp2_with fail
      refine (cF _).mono ?_
      rintro r w9 ⟨rfl, B9⟩
      have K9 := K3.belowS B9
      have D9 := below_kept D3 (Nat.le_refl _) B9
      obtain ⟨k6, k7, k8⟩ := K9.cell
      have f0 := K9.frozen 0
      have f1 := K9.frozen 1
      have f2 := K9.frozen 2
      clear cF B9 D3 K3 hr
      go_wp2
      refine bodyPost_ret (v := .tuple #[.agg #[.bool rn, .string rs, .int .i64 re], .int .i64 r2]) (by simp [results, Tryz.results35, go_sem, (K9.set rn rs re).cell]) rfl ⟨?_, Below.set3 D9 (by omega)⟩
      rw [HR.out, ← hrs]
    · have hc : cmpN X Y < 0 := by unfold cmpN; rw [if_pos (by omega)]; omega
      generalize cmpN X Y = m at *
      go_wp2_with fail
      refine (cTy _).mono ?_
      rintro r w3 ⟨rfl, B3⟩
      have D4 := below_kept D2 (Nat.le_refl _) B3
      have K8 := K6.belowS B3
      have K9 := K7.belowS B3
      clear cTx cTy B3 D2 K6 K7 a6 a7 a8
      have cS := fun W => cS2 W (by omega)
      clear cS1 cS2
      generalize (⟨(natOf Y).toArray⟩ : ByteArray) = ty at *
      go_wp2_with fail
      refine (cS _).mono ?_
      rintro r w4 ⟨rfl, B4⟩
      have D3 := below_kept D4 (Nat.le_refl _) B4
      have K3 := K8.belowS B4
      obtain ⟨a6, a7, a8⟩ := (K9.belowS B4).cell
      clear cS B4 D4 K8 K9
      have cF := fun W => specForm n2 ⟨(natOf (Y - X)).toArray⟩ E false W (by show (natOf (Y - X)).length ≤ 1500; omega) (natOf_digs _) (by omega) (by omega)
      rw [show nv (⟨(natOf (Y - X)).toArray⟩ : ByteArray) = Y - X from val_natOf _] at cF
      simp only [Bool.false_eq_true, if_false] at cF
      obtain ⟨r, hr⟩ : ∃ r, formOf n2 (Y - X) E = r := ⟨_, rfl⟩
      have HR : Hid (formOf (sumOf (dOf n s e) (dOf n2 s2 e2)).1 (sumOf (dOf n s e) (dOf n2 s2 e2)).2 (low2 (dOf n s e) (dOf n2 s2 e2)) = r) := by show _ = _; rw [HS.out.1, HS.out.2, if_neg HN.out, if_neg hle]; exact hr
      rw [hr] at cF
      unfold AnsDC at cF
      obtain ⟨r1, r2⟩ := r
      obtain ⟨rn, rd, re⟩ := r1
      generalize (⟨(natOf (Y - X)).toArray⟩ : ByteArray) = D at *
      obtain ⟨rs, hrs⟩ : ∃ rs : ByteArray, ⟨rd.toArray⟩ = rs := ⟨_, rfl⟩
      dsimp only at cF
      rw [hrs] at cF
      go_wp2_with fail
      refine (cF _).mono ?_
      rintro r w9 ⟨rfl, B9⟩
      have K9 := K3.belowS B9
      have D9 := below_kept D3 (Nat.le_refl _) B9
      obtain ⟨k6, k7, k8⟩ := K9.cell
      have f0 := K9.frozen 0
      have f1 := K9.frozen 1
      have f2 := K9.frozen 2
      clear cF B9 D3 K3 hr
      go_wp2
      refine bodyPost_ret (v := .tuple #[.agg #[.bool rn, .string rs, .int .i64 re], .int .i64 r2]) (by simp [results, Tryz.results35, go_sem, (K9.set rn rs re).cell]) rfl ⟨?_, Below.set3 D9 (by omega)⟩
      rw [HR.out, ← hrs]

end Go.Proofs.YthijeckcjfnbcaaGreatDoor
