/- spec.DecMod. Condition: at most 1048576 digits. -/
import Derived.Test.YtpkmhojcccpolaaDoorDecPlain2
import Derived.Test.YtpkmhojcccpolaaDoorSpecDec2
namespace Go.Proofs.YtpkmhojcccpolaaDoor
set_option linter.unusedVariables false
open Go.RowKit

set_option maxHeartbeats 1000000 in
set_option maxRecDepth 100000 in
theorem specDecMod (n : Bool) (s : ByteArray) (e : Int) (n2 : Bool) (s2 : ByteArray) (e2 : Int) (w : World) (hs : s.size ≤ 1048576) (hs2 : s2.size ≤ 1048576) (b1 : -9223372036854775808 ≤ e) (b2 : e ≤ 9223372036854775807) (c1 : -9223372036854775808 ≤ e2) (c2 : e2 ≤ 9223372036854775807) :
    Calls Tryd.prog 31 #[.agg #[.bool n, .string s, .int .i64 e], .agg #[.bool n2, .string s2, .int .i64 e2]] w (AnsDC (modR (dOf n s e) (dOf n2 s2 e2)) w) := by
  obtain ⟨R, hR⟩ : ∃ R, modR (dOf n s e) (dOf n2 s2 e2) = R := ⟨_, rfl⟩
  rw [hR]
  unfold modR at hR
  have HR := Lib.hid hR
  clear hR
  have KA0 := ((DecAt.new w n s e).alloc (.cells #[.bool n2, .string s2, .int .i64 e2] 26)).alloc (.cells #[.bool false, .string ⟨#[]⟩, .int .i64 0] 26)
  have KB0 := (DecAt.new (w.alloc (.cells #[.bool n, .string s, .int .i64 e] 26)) n2 s2 e2).alloc (.cells #[.bool false, .string ⟨#[]⟩, .int .i64 0] 26)
  have KR0 := DecAt.new ((w.alloc (.cells #[.bool n, .string s, .int .i64 e] 26)).alloc (.cells #[.bool n2, .string s2, .int .i64 e2] 26)) false ⟨#[]⟩ 0
  rw [show (w.alloc (.cells #[.bool n, .string s, .int .i64 e] 26)).heap.size = w.heap.size + 1 by simp] at KB0
  rw [show ((w.alloc (.cells #[.bool n, .string s, .int .i64 e] 26)).alloc (.cells #[.bool n2, .string s2, .int .i64 e2] 26)).heap.size = w.heap.size + 1 + 1 by simp] at KR0
  have B0 : Below w.heap.size w (((w.alloc (.cells #[.bool n, .string s, .int .i64 e] 26)).alloc (.cells #[.bool n2, .string s2, .int .i64 e2] 26)).alloc (.cells #[.bool false, .string ⟨#[]⟩, .int .i64 0] 26)) := (((Below.refl _ _).alloc (Nat.le_refl _) _).alloc (by simp) _).alloc (by simp; omega) _
  have cO1 := fun W => specDecOk n s e W hs b1 b2
  have cO2 := fun W => specDecOk n2 s2 e2 W hs2 c1 c2
  go_enter Tryd.func31, Tryd.ntmps31
  go_wp2_with fail
  refine (cO1 _).mono ?_
  intro r w1 hr
  obtain ⟨hb, B1⟩ := AnsB.get hr
  have KA1 := KA0.belowS B1
  have KB1 := KB0.belowS B1
  have KR1 := KR0.belowS B1
  have D1 := below_kept B0 (Nat.le_refl _) B1
  obtain ⟨k0, k1, k2⟩ := KA1.cell
  obtain ⟨k3, k4, k5⟩ := KB1.cell
  clear cO1 B1 hr B0 KA0 KB0 KR0
  rcases hb with ⟨rfl, hb⟩ | ⟨rfl, hb⟩
  · have HP := Lib.hid hb
    clear hb
    go_wp2_with fail
    refine (cO2 _).mono ?_
    intro r w2 hr
    obtain ⟨hb, B2⟩ := AnsB.get hr
    have KA := KA1.belowS B2
    have KB := KB1.belowS B2
    have KR := KR1.belowS B2
    have D := below_kept D1 (Nat.le_refl _) B2
    clear cO2 B2 hr D1 KA1 KB1 KR1 k0 k1 k2 k3 k4 k5
    obtain ⟨k0, k1, k2⟩ := KA.cell
    obtain ⟨k3, k4, k5⟩ := KB.cell
    rcases hb with ⟨rfl, hb⟩ | ⟨rfl, hb⟩
    · have HQ := Lib.hid hb
      clear hb
      obtain ⟨d1, q1, x1, x2⟩ := ok_size HP.out
      obtain ⟨d2, q2, y1, y2⟩ := ok_size HQ.out
      by_cases h0 : s2.size = 0
      · have hnil : s2.toList.isEmpty = true := by rw [List.isEmpty_iff]; exact toList_nil.2 h0
        have HV0 : Hid (R = (DecV.zero, 2)) := by show _ = _; rw [← HR.out, if_pos ⟨HP.out, HQ.out⟩, if_pos (show (dOf n2 s2 e2).dig = [] from nil_size.2 h0)]
        clear HR h0
        have f0 := KR.frozen 0
        have f1 := KR.frozen 1
        have f2 := KR.frozen 2
        obtain ⟨k6, k7, k8⟩ := KR.cell
        go_wp2
        refine bodyPost_ret (v := .tuple #[.agg #[.bool false, .string ⟨#[]⟩, .int .i64 0], .int .i64 2]) (by simp [results, Tryd.results31, go_sem, (KR.set false ⟨#[]⟩ 0).cell]) rfl ⟨?_, Below.set3 D (by omega)⟩
        rw [HV0.out]; rfl
      · have hnil : s2.toList.isEmpty = false := by rw [List.isEmpty_eq_false_iff]; exact fun h => h0 (toList_nil.1 h)
        have hne : (dOf n2 s2 e2).dig ≠ [] := fun h => h0 (nil_size.1 h)
        have cL := fun W => specLevel n s e n2 s2 e2 W q1 q2 x1 x2 y1 y2
        obtain ⟨E, hE⟩ : ∃ E, (if e2 < e then e2 else e) = E := ⟨_, rfl⟩
        rw [hE] at cL
        have hEb : E ≤ e ∧ E ≤ e2 ∧ -118 ≤ E ∧ E ≤ 99 := by rw [← hE]; split <;> omega
        obtain ⟨x, hx⟩ : ∃ x, padZ s (e - E).toNat = x := ⟨_, rfl⟩
        obtain ⟨y, hy⟩ : ∃ y, padZ s2 (e2 - E).toNat = y := ⟨_, rfl⟩
        rw [hx, hy] at cL
        obtain ⟨dx, vx, zx⟩ := padZ_facts d1 q1 (e - E).toNat (by omega)
        obtain ⟨dy, vy, zy⟩ := padZ_facts d2 q2 (e2 - E).toNat (by omega)
        rw [hx] at dx vx zx
        rw [hy] at dy vy zy
        obtain ⟨X, hX⟩ : ∃ X, val s.data.toList * 10 ^ (e - E).toNat = X := ⟨_, rfl⟩
        obtain ⟨Y, hY⟩ : ∃ Y, val s2.data.toList * 10 ^ (e2 - E).toNat = Y := ⟨_, rfl⟩
        have hYp : 0 < Y := by rw [← hY]; exact Nat.mul_pos (ok_nat HQ.out h0).2 (Nat.pow_pos (by omega))
        rw [hX] at vx
        rw [hY] at vy
        have HV0 : Hid (R = formOf n (X % Y) E) := by
          show _ = _
          rw [← HR.out, if_pos ⟨HP.out, HQ.out⟩, if_neg hne]
          unfold modV lev
          rw [show low2 (dOf n s e) (dOf n2 s2 e2) = E from hE]
          show formOf n (val s.data.toList * 10 ^ (e - E).toNat % (val s2.data.toList * 10 ^ (e2 - E).toNat)) E = _
          rw [hX, hY]
        have cT := fun W => specTrim y W (by omega)
        rw [trim_eq dy, vy] at cT
        unfold AnsS at cT
        have lY : (natOf Y).length ≤ 250 := by rw [← vy]; have := nat_len_val dy; rw [size_list] at this; omega
        obtain ⟨u, hu⟩ : ∃ z : ByteArray, ⟨(natOf Y).toArray⟩ = z := ⟨_, rfl⟩
        have nu : NatS u := by rw [← hu]; exact natS_of (by omega)
        have eu : nv u = Y := by rw [← hu]; exact val_natOf Y
        rw [hu] at cT
        have cV := fun W => specDivG x u W (by omega) dx nu (by rw [eu]; exact hYp)
        rw [eu, show nv x = X from vx] at cV
        unfold Ans22 at cV
        have lX : (natOf X).length ≤ 250 := by rw [← vx]; have := nat_len_val dx; rw [size_list] at this; omega
        have lm0 : (natOf (X % Y)).length ≤ 250 := Nat.le_trans (natOf_len_mono (Nat.mod_le _ _)) lX
        obtain ⟨q, hq⟩ : ∃ z : ByteArray, ⟨(natOf (X / Y)).toArray⟩ = z := ⟨_, rfl⟩
        obtain ⟨m, hm⟩ : ∃ z : ByteArray, ⟨(natOf (X % Y)).toArray⟩ = z := ⟨_, rfl⟩
        rw [hq, hm] at cV
        have lm : m.data.toList = natOf (X % Y) := by rw [← hm]
        have zm : m.size ≤ 250 := by rw [← size_list, lm]; exact lm0
        have cF := fun W => specForm n m E false W (by omega) (by rw [lm]; exact natOf_digs _) (by omega) (by omega)
        simp only [Bool.false_eq_true, if_false] at cF
        rw [show nv m = X % Y by unfold nv; rw [lm, val_natOf], ← HV0.out] at cF
        unfold Ans3L at cL
        clear HV0 HR dx vx dy vy hx hy hX hY hE lm hm hq hu nu eu lX lY lm0 d1 d2 hne h0
        obtain ⟨⟨rn, rd, re⟩, rc⟩ := R
        unfold AnsDC at cF
        dsimp only at cF
        obtain ⟨rs, hrs⟩ : ∃ rs : ByteArray, ⟨rd.toArray⟩ = rs := ⟨_, rfl⟩
        rw [hrs] at cF
        go_wp2_with fail
        refine (cL _).mono ?_
        rintro r w3 ⟨rfl, B3⟩
        have L3 := held4 ⟨KA, KB, KR, D⟩ B3
        clear cL B3 KA KB KR D k0 k1 k2 k3 k4 k5
        go_wp2_with fail
        refine (cT _).mono ?_
        rintro r w4 ⟨rfl, B4⟩
        have L4 := held4 L3 B4
        clear cT B4 L3
        go_wp2_with fail
        refine (cV _).mono ?_
        rintro r w5 ⟨rfl, B5⟩
        have L5 := held4 L4 B5
        clear cV B5 L4
        obtain ⟨k0, k1, k2⟩ := L5.1.cell
        go_wp2_with fail
        refine (cF _).mono ?_
        rintro r w6 ⟨rfl, B6⟩
        obtain ⟨_, _, KR3, D3⟩ := held4 L5 B6
        clear cF B6 L5 k0 k1 k2
        have f0 := KR3.frozen 0
        have f1 := KR3.frozen 1
        have f2 := KR3.frozen 2
        obtain ⟨k6, k7, k8⟩ := KR3.cell
        go_wp2
        refine bodyPost_ret (v := .tuple #[.agg #[.bool rn, .string rs, .int .i64 re], .int .i64 rc]) (by simp [results, Tryd.results31, go_sem, (KR3.set rn rs re).cell]) rfl ⟨?_, Below.set3 D3 (by omega)⟩
        rw [← hrs]
    · have HN : Hid (¬ ((dOf n s e).Ok ∧ (dOf n2 s2 e2).Ok)) := fun h => hb h.2
      clear hb
      have f0 := KR.frozen 0
      have f1 := KR.frozen 1
      have f2 := KR.frozen 2
      obtain ⟨k6, k7, k8⟩ := KR.cell
      go_wp2
      refine bodyPost_ret (v := .tuple #[.agg #[.bool false, .string ⟨#[]⟩, .int .i64 0], .int .i64 3]) (by simp [results, Tryd.results31, go_sem, (KR.set false ⟨#[]⟩ 0).cell]) rfl ⟨?_, Below.set3 D (by omega)⟩
      rw [← HR.out, if_neg HN.out]; rfl
  · have HN : Hid (¬ ((dOf n s e).Ok ∧ (dOf n2 s2 e2).Ok)) := fun h => hb h.1
    clear hb
    have f0 := KR1.frozen 0
    have f1 := KR1.frozen 1
    have f2 := KR1.frozen 2
    obtain ⟨k6, k7, k8⟩ := KR1.cell
    go_wp2
    refine bodyPost_ret (v := .tuple #[.agg #[.bool false, .string ⟨#[]⟩, .int .i64 0], .int .i64 3]) (by simp [results, Tryd.results31, go_sem, (KR1.set false ⟨#[]⟩ 0).cell]) rfl ⟨?_, Below.set3 D1 (by omega)⟩
    rw [← HR.out, if_neg HN.out]; rfl

end Go.Proofs.YtpkmhojcccpolaaDoor
