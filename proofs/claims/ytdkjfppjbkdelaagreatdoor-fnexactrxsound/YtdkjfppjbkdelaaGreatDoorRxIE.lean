/- The program's reader of patterns: whole. Conditions: at most 1000 code points. -/
import Derived.Test.YtdkjfppjbkdelaaGreatDoorRxID
import Derived.Test.YtdkjfppjbkdelaaGreatDoorRxBk
import Derived.Test.YtdkjfppjbkdelaaGreatDoorRxSizeA
import Derived.Defers
import Derived.Recover
import Derived.Laws.Pointers
import Derived.RegionTactic
namespace Go.Proofs.YtdkjfppjbkdelaaGreatDoor
set_option linter.unusedVariables false
open Go.RowKit

def WholeIs (w : World) (p : Nat) (s : List Int) (PA : Option Addr) (pc : Nat) (F : List Nat) (r : Rd) (e : Ending) (w' : World) : Prop :=
  match r with
  | .ok n j o => e = .returned (.tuple #[]) ∧ ∃ F', Rdr w' p s PA pc j 0 o F' ∧ Keep (p :: F) w w' ∧ ∀ b ∈ F', b ∈ F ∨ w.heap.size ≤ b
  | .err c q => e = .panicked [{ v := .iface 141 (.agg #[.int .i64 q, .int .i64 c]), recovered := false }] ∧ Keep (p :: F) w w'

set_option maxHeartbeats 4000000 in
set_option maxRecDepth 100000 in
theorem whole_any (w : World) (p : Nat) (s : List Int) (PA : Option Addr) (pc : Nat) (F : List Nat) (h : Rdr w p s PA pc 0 0 [] F) (hs : s.length ≤ 1000) (hP : Pos s) (r : Rd) (hr : Hid (wholeR s = r)) :
    Calls Tryz.prog 101 #[.pointer (some ⟨p, 0, none⟩)] w (WholeIs w p s PA pc F r) := by
  have cA := alts_all s hs hP 6 (Nat.le_refl _) w p PA pc 0 [] F h (Nat.zero_le _) (by simp; omega)
  have hfar := innerD_far s 7 (altsD s 6) rfl 0 [] (Nat.zero_le _)
  have HFar := Lib.hid hfar
  clear hfar h
  go_enter Tryz.func101, Tryz.ntmps101
  go_wp2_with fail
  refine cA.mono ?_
  intro e w1 hpost
  clear cA
  cases hA : altsD s 6 0 [] with
  | err cc q =>
    rw [hA] at hpost
    obtain ⟨rfl, k⟩ := hpost
    have e : Hid (r = .err cc q) := by show r = _; rw [← hr.out]; unfold wholeR; rw [hA]
    have K2 := Lib.hid k
    clear k hA
    go_wp2
    exact ⟨rfl, by rw [e.out]; exact ⟨rfl, K2.out⟩⟩
  | ok x j o =>
    rw [hA] at hpost
    obtain ⟨rfl, F1, r1, k1, s1⟩ := hpost
    have hbk := altsD_bulk hs hA
    have hfar := HFar.out x j o hA
    have hj1 := hfar.2.1
    have HE : Hid (r = if pk s j ≠ 0 then .err 2 j else if 400 < o.length ∨ 1000 < sizeR o then .err 7 j else .ok x j o) := by show r = _; rw [← hr.out]; unfold wholeR; rw [hA]
    have K1 := Lib.hid k1
    have R1 := Lib.hid r1
    have S1 : Hid (∀ b ∈ F1, b ∈ F ∨ w.heap.size ≤ b) := fun b hb => by
      rcases s1 b hb with h | h | h
      · exact .inl h
      · cases h
      · exact .inr h
    clear k1 r1 s1 hA hfar
    obtain ⟨y, hy⟩ : ∃ y, pk s j = y := ⟨_, rfl⟩
    rw [hy] at HE
    have HY := Lib.hid hy
    clear hy
    go_wp2_with fail
    refine (rd_ahead0 R1.out hs (by omega)).mono ?_
    rintro e w2 ⟨rfl, k2, r2⟩
    rw [HY.out]
    have K2 := Lib.hid (K1.out.tr k2.nil)
    have R2 := Lib.hid r2
    obtain ⟨nv, xs, hR, hO, hFe⟩ := r2
    obtain ⟨A, c, rfl, hN⟩ := hO.nodes
    obtain ⟨c0, c1, c2, c3⟩ := hR.cell
    have HN := Lib.hid hN
    clear k2 hR hO hFe hN K1 R1
    by_cases hy0 : y = 0
    · subst hy0
      by_cases h4 : 400 < o.length
      · have e : Hid (r = .err 7 j) := by show r = _; rw [HE.out, if_neg (by simp), if_pos (.inl h4)]
        have h4z : (400 : Int) < o.length := by omega
        clear HE
        go_wp2
        exact ⟨rfl, by rw [e.out]; exact ⟨rfl, K2.out⟩⟩
      · have h4z : ¬ (400 : Int) < o.length := by omega
        have cZ := implSize A c o w2 (by omega) HN.out
        go_wp2_with fail
        refine cZ.mono ?_
        rintro e w3 ⟨rfl, b3⟩
        have K3 := Lib.hid (K2.out.tr (Keep.ofBelow b3).nil)
        have R3 := Lib.hid (R2.out.keep0 (Keep.ofBelow b3))
        obtain ⟨nv3, xs3, hR3, hO3, hFe3⟩ := R3.out
        obtain ⟨d0, d1, d2, d3⟩ := hR3.cell
        clear cZ b3 hR3 hO3 hFe3
        by_cases h1 : 1000 < sizeR o
        · have e : Hid (r = .err 7 j) := by show r = _; rw [HE.out, if_neg (by simp), if_pos (.inr h1)]
          clear HE
          go_wp2
          exact ⟨rfl, by rw [e.out]; exact ⟨rfl, K3.out⟩⟩
        · have e : Hid (r = .ok x j o) := by show r = _; rw [HE.out, if_neg (by simp), if_neg (by omega)]
          clear HE
          go_wp2
          go_end0
          rw [e.out]
          exact ⟨rfl, F1, R3.out, K3.out, S1.out⟩
    · have e : Hid (r = .err 2 j) := by show r = _; rw [HE.out, if_pos hy0]
      clear HE
      go_wp2
      exact ⟨rfl, by rw [e.out]; exact ⟨rfl, K2.out⟩⟩

end Go.Proofs.YtdkjfppjbkdelaaGreatDoor

/- The program's reader of patterns: what recovers. No condition. -/
namespace Go.Proofs.YtdkjfppjbkdelaaGreatDoor
set_option linter.unusedVariables false
set_option linter.unusedSimpArgs false
open Go.RowKit

theorem run_assert_fault (v : Value) (w : World) : (Instr.typeAssert (.iface 141 v) 20 141 false).run Tryz.prog w = .ok v w := by
  simp [Instr.typeAssert, run_underlying Tryz.underlying141]

set_option maxHeartbeats 1000000 in
theorem catch_idle (q0 q1 q2 : Addr) (w : World) :
    CallsD Tryz.prog 100 #[.pointer (some q0), .pointer (some q1), .pointer (some q2)] .returning w fun e u' w' => e = .returned (.tuple #[]) ∧ u' = .returning ∧ w' = w := by
  refine callsD_of_wpS Tryz.func100 rfl fun c₀ cs hu => ?_
  apply wpS_seq
  apply wpS_region
  simp [wpOpsS, go_sem, recoverD, hu, Tryz.ntmps100, Exit.thenS]
  refine wpS_of_wp ?_
  go_wp2
  cases c₀
  simp_all [bodyPostS, results, Tryz.results100]

set_option maxHeartbeats 1000000 in
theorem catch_panicking (q0 q1 q2 : Nat) (a c : Int) (older : List PanicEntry) (w : World) (c0 : w.cell? ⟨q0, 0, none⟩ = some (.slice none 0 0)) (c1 : w.cell? ⟨q1, 0, none⟩ = some (.int .i64 0)) (c2 : w.cell? ⟨q2, 0, none⟩ = some (.int .i64 0))
    (f0 : w.frozen? ⟨q0, 0, none⟩ = false) (f1 : w.frozen? ⟨q1, 0, none⟩ = false) (f2 : w.frozen? ⟨q2, 0, none⟩ = false) (h01 : q0 ≠ q1) (h02 : q0 ≠ q2) (h12 : q1 ≠ q2) :
    CallsD Tryz.prog 100 #[.pointer (some ⟨q0, 0, none⟩), .pointer (some ⟨q1, 0, none⟩), .pointer (some ⟨q2, 0, none⟩)] (.panicking ({ v := .iface 141 (.agg #[.int .i64 a, .int .i64 c]), recovered := false } :: older)) w fun e u' w' =>
      e = .returned (.tuple #[]) ∧ u' = .panicking ({ v := .iface 141 (.agg #[.int .i64 a, .int .i64 c]), recovered := true } :: older) ∧
      (w'.cell? ⟨q0, 0, none⟩ = some (.slice none 0 0) ∧ w'.cell? ⟨q1, 0, none⟩ = some (.int .i64 a) ∧ w'.cell? ⟨q2, 0, none⟩ = some (.int .i64 c) ∧ Keep [q0, q1, q2] w w') := by
  refine callsD_of_wpS Tryz.func100 rfl fun c₀ cs hu => ?_
  apply wpS_seq
  apply wpS_region
  simp [wpOpsS, go_sem, recoverD, hu, Tryz.ntmps100, Exit.thenS]
  refine wpS_of_wp ?_
  have hta : ∀ (v : Value) (w : World), (Instr.typeAssert (.iface 141 v) 20 141 false).run Tryz.prog w = .ok v w := run_assert_fault
  have htm : ∀ X : Value, (#[.pointer (some ⟨q0, 0, none⟩), .pointer (some ⟨q1, 0, none⟩), .pointer (some ⟨q2, 0, none⟩)] ++ ((Array.replicate 12 undef).setIfInBounds 2 X).setIfInBounds 0 X : Array Value) = #[.pointer (some ⟨q0, 0, none⟩), .pointer (some ⟨q1, 0, none⟩), .pointer (some ⟨q2, 0, none⟩), X, undef, X, undef, undef, undef, undef, undef, undef, undef, undef, undef] := fun X => rfl
  rw [htm]
  clear htm
  have l0 := World.block_lt_of_cell? w _ c0
  have l1 := World.block_lt_of_cell? w _ c1
  have l2 := World.block_lt_of_cell? w _ c2
  simp only at l0 l1 l2
  have g0 : (w.alloc (.cells #[.int .i64 a, .int .i64 c] 141)).cell? ⟨q0, 0, none⟩ = some (.slice none 0 0) := (World.cell?_alloc_lt w _ ⟨q0, 0, none⟩ l0).trans c0
  have g1 : (w.alloc (.cells #[.int .i64 a, .int .i64 c] 141)).cell? ⟨q1, 0, none⟩ = some (.int .i64 0) := (World.cell?_alloc_lt w _ ⟨q1, 0, none⟩ l1).trans c1
  have g2 : (w.alloc (.cells #[.int .i64 a, .int .i64 c] 141)).cell? ⟨q2, 0, none⟩ = some (.int .i64 0) := (World.cell?_alloc_lt w _ ⟨q2, 0, none⟩ l2).trans c2
  have hg := heap_alloc_new w (.cells #[.int .i64 a, .int .i64 c] 141)
  have g3 : (w.alloc (.cells #[.int .i64 a, .int .i64 c] 141)).cell? ⟨w.heap.size, 0, none⟩ = some (.int .i64 a) := by rw [cell_of_row _ _ _ _ _ _ hg]; rfl
  have g4 : (w.alloc (.cells #[.int .i64 a, .int .i64 c] 141)).cell? ⟨w.heap.size, 1, none⟩ = some (.int .i64 c) := by rw [cell_of_row _ _ _ _ _ _ hg]; rfl
  have z0 : (w.alloc (.cells #[.int .i64 a, .int .i64 c] 141)).frozen? ⟨q0, 0, none⟩ = false := (World.frozen?_of_block (a := ⟨q0, 0, none⟩) (Below.heap_alloc w _ q0 l0)).trans f0
  have z1 : (w.alloc (.cells #[.int .i64 a, .int .i64 c] 141)).frozen? ⟨q1, 0, none⟩ = false := (World.frozen?_of_block (a := ⟨q1, 0, none⟩) (Below.heap_alloc w _ q1 l1)).trans f1
  have z2 : (w.alloc (.cells #[.int .i64 a, .int .i64 c] 141)).frozen? ⟨q2, 0, none⟩ = false := (World.frozen?_of_block (a := ⟨q2, 0, none⟩) (Below.heap_alloc w _ q2 l2)).trans f2
  have HK := Lib.hid ((Keep.refl [q0, q1, q2] w).alloc (.cells #[.int .i64 a, .int .i64 c] 141))
  have n0 : w.heap.size ≠ q0 := by omega
  have n1 : w.heap.size ≠ q1 := by omega
  have n2 : w.heap.size ≠ q2 := by omega
  have m0 : q1 ≠ q0 := h01.symm
  have m1 : q2 ≠ q0 := h02.symm
  have m2 : q2 ≠ q1 := h12.symm
  clear hg c0 c1 c2 f0 f1 f2
  go_wp2
  generalize w.alloc (.cells #[.int .i64 a, .int .i64 c] 141) = W at *
  go_region
  exact ⟨rfl, _, rfl, _, results_none Tryz.results100 _ _ _, rfl, rfl, by simp [go_sem, g0, z0, g1, z1, g2, z2, h01, h02, h12, m0, m1, m2], by simp [go_sem, g0, z0, g1, z1, g2, z2, h01, h02, h12, m0, m1, m2], by simp [go_sem, g0, z0, g1, z1, g2, z2, h01, h02, h12, m0, m1, m2],
    (((HK.out.setCell (p := q0) (j := 0) (.inl (by simp)) _).setCell (p := q1) (j := 0) (.inl (by simp)) _).setCell (p := q2) (j := 0) (.inl (by simp)) _).drew⟩

theorem own_base {w : World} {B B' : Nat} {e : TypeId} {size n : Nat} {v : Value} {xs : List Value} (h : w.ownsRow B e size v n xs) (hb : B' ≤ B) : w.ownsRow B' e size v n xs := by
  refine ⟨h.1, ?_⟩
  rcases h.2 with h0 | ⟨g, cap, cur, hv, hg, r⟩
  · exact .inl h0
  · exact .inr ⟨g, cap, cur, hv, Nat.le_trans hb hg, r⟩
theorem Own6.low {w : World} {B B' : Nat} {nv : Value} {ns : List Nd} {xs : List (Value × Value)} (h : Own6 w B nv ns xs) (hb : B' ≤ B) : Own6 w B' nv ns xs :=
  ⟨h.len, own_base h.row hb, fun j hj => ⟨own_base (h.sub j hj).1 hb, own_base (h.sub j hj).2 hb⟩, h.nodup⟩

/-- What reading a pattern answers. -/
def ReadIs (r : Rd) (w : World) (e : Ending) (w' : World) : Prop :=
  match r with
  | .ok n j o => ∃ nv xs, e = .returned (.tuple #[.agg #[nv], .int .i64 0, .int .i64 0]) ∧ Own6 w' w.heap.size nv o xs ∧ Keep [] w w'
  | .err c q => e = .returned (.tuple #[.agg #[.slice none 0 0], .int .i64 q, .int .i64 c]) ∧ Keep [] w w'

section
variable (w : World) (a b c d : Obj)
theorem alloc4_0 : ((((w.alloc a).alloc b).alloc c).alloc d).heap[w.heap.size]? = some a := (Below.heap_alloc _ _ _ (by rw [alloc3_size]; omega)).trans (alloc3_0 w a b c)
theorem alloc4_1 : ((((w.alloc a).alloc b).alloc c).alloc d).heap[w.heap.size + 1]? = some b := (Below.heap_alloc _ _ _ (by rw [alloc3_size]; omega)).trans (alloc3_1 w a b c)
theorem alloc4_2 : ((((w.alloc a).alloc b).alloc c).alloc d).heap[w.heap.size + 2]? = some c := (Below.heap_alloc _ _ _ (by rw [alloc3_size]; omega)).trans (alloc3_2 w a b c)
theorem alloc4_3 : ((((w.alloc a).alloc b).alloc c).alloc d).heap[w.heap.size + 3]? = some d := by
  have := heap_alloc_new (((w.alloc a).alloc b).alloc c) d
  rwa [alloc3_size] at this
theorem alloc4_size : ((((w.alloc a).alloc b).alloc c).alloc d).heap.size = w.heap.size + 4 := by rw [alloc_size1, alloc3_size]
theorem keep4 : Keep [] w ((((w.alloc a).alloc b).alloc c).alloc d) := ((((Keep.refl [] w).alloc a).alloc b).alloc c).alloc d
end

set_option maxHeartbeats 4000000 in
set_option maxRecDepth 100000 in
theorem readPattern_any (w : World) (s : List Int) (PA : Option Addr) (pc : Nat) (hN : Nums .i64 w w.heap.size PA s) (hs : s.length ≤ 1000) (hP : Pos s) (r : Rd) (hr : Hid (wholeR s = r)) :
    Calls Tryz.prog 55 #[.slice PA s.length pc] w (ReadIs r w) := by
  have hmf : ∀ (fn : Fn) (first cap : Array Value) (w : World), (Instr.makeFunc fn first cap).run Tryz.prog w = .ok (.func fn first cap) w := fun _ _ _ _ => rfl
  have HN := Lib.hid hN
  clear hN
  go_enter_defers Tryz.func55, Tryz.ntmps55
  go_wp2_with fail
  have hRd : Rdr ((((w.alloc (.cells #[.slice none 0 0] 27)).alloc (.cells #[.int .i64 0] 3)).alloc (.cells #[.int .i64 0] 3)).alloc (.cells #[.slice PA s.length pc, .int .i64 0, .int .i64 0, .slice none 0 0] 143)) (w.heap.size + 1 + 1 + 1) s PA pc 0 0 [] [] :=
    ⟨.slice none 0 0, [], ⟨alloc4_3 w _ _ _ _, ((keep4 w _ _ _ _).nums HN.out (Nat.le_refl _) (fun b hb => by cases hb)).up (by omega)⟩, Own6.nil _ _, rfl⟩
  refine (whole_any _ (w.heap.size + 1 + 1 + 1) s PA pc [] hRd hs hP r hr).mono ?_
  intro e w1 hpost
  clear hRd hr
  cases r with
  | err cc q =>
    obtain ⟨rfl, k⟩ := hpost
    have x0 : w1.heap[w.heap.size]? = _ := (k.block w.heap.size (by rw [alloc4_size]; omega) (by simp only [List.mem_cons, List.not_mem_nil, or_false]; omega)).trans (alloc4_0 w _ _ _ _)
    have x1 : w1.heap[w.heap.size + 1]? = _ := (k.block (w.heap.size + 1) (by rw [alloc4_size]; omega) (by simp only [List.mem_cons, List.not_mem_nil, or_false]; omega)).trans (alloc4_1 w _ _ _ _)
    have x2 : w1.heap[w.heap.size + 1 + 1]? = _ := (k.block (w.heap.size + 1 + 1) (by rw [alloc4_size]; omega) (by simp only [List.mem_cons, List.not_mem_nil, or_false]; omega)).trans (alloc4_2 w _ _ _ _)
    have K1 := (keep4 w (.cells #[.slice none 0 0] 27) (.cells #[.int .i64 0] 3) (.cells #[.int .i64 0] 3) (.cells #[.slice PA s.length pc, .int .i64 0, .int .i64 0, .slice none 0 0] 143)).trans k (fun b hb => .inr (by simp at hb; omega))
    refine leaves_cons (f := 100) (args := #[.pointer (some ⟨w.heap.size, 0, none⟩), .pointer (some ⟨w.heap.size + 1, 0, none⟩), .pointer (some ⟨w.heap.size + 1 + 1, 0, none⟩)]) (by simp) (by simp [go_sem]) ?_
    refine (catch_panicking w.heap.size (w.heap.size + 1) (w.heap.size + 1 + 1) q cc [] w1 (by rw [cell_of_row _ _ _ _ _ _ x0]; rfl) (by rw [cell_of_row _ _ _ _ _ _ x1]; rfl) (by rw [cell_of_row _ _ _ _ _ _ x2]; rfl) (frozen_of_row _ _ 0 _ _ x0) (frozen_of_row _ _ 0 _ _ x1) (frozen_of_row _ _ 0 _ _ x2) (by omega) (by omega) (by omega)).mono ?_
    rintro e u' w2 ⟨rfl, rfl, d0, d1, d2, k2⟩
    have K2 := K1.trans k2 (fun b hb => .inr (by simp at hb; omega))
    clear k k2 x0 x1 x2 K1
    simp [Leaves, settle, results, Tryz.results55, go_sem, d0, d1, d2]
    exact ⟨rfl, K2⟩
  | ok x j o =>
    obtain ⟨rfl, F', hRd, k, hF⟩ := hpost
    have x0 : w1.heap[w.heap.size]? = _ := (k.block w.heap.size (by rw [alloc4_size]; omega) (by simp only [List.mem_cons, List.not_mem_nil, or_false]; omega)).trans (alloc4_0 w _ _ _ _)
    have x1 : w1.heap[w.heap.size + 1]? = _ := (k.block (w.heap.size + 1) (by rw [alloc4_size]; omega) (by simp only [List.mem_cons, List.not_mem_nil, or_false]; omega)).trans (alloc4_1 w _ _ _ _)
    have x2 : w1.heap[w.heap.size + 1 + 1]? = _ := (k.block (w.heap.size + 1 + 1) (by rw [alloc4_size]; omega) (by simp only [List.mem_cons, List.not_mem_nil, or_false]; omega)).trans (alloc4_2 w _ _ _ _)
    have K1 := (keep4 w (.cells #[.slice none 0 0] 27) (.cells #[.int .i64 0] 3) (.cells #[.int .i64 0] 3) (.cells #[.slice PA s.length pc, .int .i64 0, .int .i64 0, .slice none 0 0] 143)).trans k (fun b hb => .inr (by simp at hb; omega))
    have d0 : w1.cell? ⟨w.heap.size, 0, none⟩ = some (.slice none 0 0) := by rw [cell_of_row _ _ _ _ _ _ x0]; rfl
    have d1 : w1.cell? ⟨w.heap.size + 1, 0, none⟩ = some (.int .i64 0) := by rw [cell_of_row _ _ _ _ _ _ x1]; rfl
    have d2 : w1.cell? ⟨w.heap.size + 1 + 1, 0, none⟩ = some (.int .i64 0) := by rw [cell_of_row _ _ _ _ _ _ x2]; rfl
    have e0 := frozen_of_row w1 _ 0 _ _ x0
    have e1 := frozen_of_row w1 _ 0 _ _ x1
    have e2 := frozen_of_row w1 _ 0 _ _ x2
    obtain ⟨nv, xs, hR, hO, _⟩ := hRd
    obtain ⟨c0, c1, c2, c3⟩ := hR.cell
    obtain ⟨A, c, rfl⟩ := own_form hO.row
    have HO := Lib.hid hO
    have HK := Lib.hid K1
    clear k hF x0 x1 x2 hR hO K1 HN
    go_wp2
    have kS : Keep [w.heap.size, w.heap.size + 1, w.heap.size + 1 + 1] w1 (((w1.setCell ⟨w.heap.size, 0, none⟩ (.slice A o.length c)).setCell ⟨w.heap.size + 1, 0, none⟩ (.int .i64 0)).setCell ⟨w.heap.size + 1 + 1, 0, none⟩ (.int .i64 0)) :=
      (((Keep.refl _ w1).setCell (p := w.heap.size) (j := 0) (.inl (by simp)) _).setCell (p := w.heap.size + 1) (j := 0) (.inl (by simp)) _).setCell (p := w.heap.size + 1 + 1) (j := 0) (.inl (by simp)) _
    refine leaves_cons (f := 100) (args := #[.pointer (some ⟨w.heap.size, 0, none⟩), .pointer (some ⟨w.heap.size + 1, 0, none⟩), .pointer (some ⟨w.heap.size + 1 + 1, 0, none⟩)]) (by simp) (by simp [go_sem]) ?_
    refine (catch_idle _ _ _ _).mono ?_
    rintro e u' w2 ⟨rfl, rfl, rfl⟩
    simp [Leaves, settle, results, Tryz.results55, go_sem, d0, d1, d2, e0, e1, e2]
    refine ⟨_, xs, rfl, (HO.out.keep kS (fun b hb hm => ?_)).low (by omega), HK.out.trans kS (fun b hb => .inr ?_)⟩
    · have := (HO.out.range b hm).1
      simp only [List.mem_cons, List.not_mem_nil, or_false] at hb
      omega
    · simp only [List.mem_cons, List.not_mem_nil, or_false] at hb
      omega

end Go.Proofs.YtdkjfppjbkdelaaGreatDoor
