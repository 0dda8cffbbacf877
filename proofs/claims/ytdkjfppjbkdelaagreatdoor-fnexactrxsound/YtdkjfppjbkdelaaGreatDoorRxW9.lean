/- impl.RxSound answers as the plain function. Conditions: at most 1048576 elements in all; numbers are ints; the tables of utf8 and strconv lie. -/
import Derived.Test.YtdkjfppjbkdelaaGreatDoorRxW8
import Derived.Test.YtdkjfppjbkdelaaGreatDoorRxIE
namespace Go.Proofs.YtdkjfppjbkdelaaGreatDoor
set_option linter.unusedVariables false
open Go.RowKit

/-- Two nodes are equal. -/
def eqN (a b : Nd) : Bool := (((a.kind == b.kind) && (a.lo == b.lo)) && ((a.hi == b.hi) && (a.neg == b.neg))) && ((a.set == b.set) && (a.kids == b.kids))
theorem eqN_iff (a b : Nd) : eqN a b = true ↔ a = b := by
  obtain ⟨a0, a1, a2, a3, a4, a5⟩ := a
  obtain ⟨b0, b1, b2, b3, b4, b5⟩ := b
  simp only [eqN, Bool.and_eq_true, beq_iff_eq, Nd.mk.injEq]
  constructor
  · rintro ⟨⟨⟨h0, h1⟩, h2, h3⟩, h4, h5⟩; exact ⟨h0, h1, h2, h3, h4, h5⟩
  · rintro ⟨h0, h1, h2, h3, h4, h5⟩; exact ⟨⟨⟨h0, h1⟩, h2, h3⟩, h4, h5⟩
/-- Two lists of nodes are equal. -/
def eqNs : List Nd → List Nd → Bool
  | [], [] => true
  | a :: r, b :: q => eqN a b && eqNs r q
  | _, _ => false
theorem eqNs_iff : ∀ (a b : List Nd), eqNs a b = true ↔ a = b
  | [], [] => by simp [eqNs]
  | [], b :: q => by simp [eqNs]
  | a :: r, [] => by simp [eqNs]
  | a :: r, b :: q => by simp only [eqNs, Bool.and_eq_true, eqN_iff, eqNs_iff r q, List.cons.injEq]
theorem eqNs_len {a b : List Nd} (h : a.length ≠ b.length) : eqNs a b = false := by
  cases hq : eqNs a b with
  | false => rfl
  | true => exact absurd (congrArg List.length ((eqNs_iff a b).1 hq)) h
theorem eqNs_step {a b : List Nd} {k : Nat} (h : k < a.length) (h2 : k < b.length) : eqNs (a.drop k) (b.drop k) = (eqN a[k] b[k] && eqNs (a.drop (k + 1)) (b.drop (k + 1))) := by
  rw [List.drop_eq_getElem_cons h, List.drop_eq_getElem_cons h2, eqNs]

theorem sliceEq_any (A B : Option Addr) (c d : Nat) (xs ys : List Int) (w : World) (b1 b2 : Nat) (hx : xs.length ≤ 1048576) (hy : ys.length ≤ 1048576) (h1 : Nums .i64 w b1 A xs) (h2 : Nums .i64 w b2 B ys) :
    Calls Tryz.prog 110 #[.slice A xs.length c, .slice B ys.length d] w fun e w' => e = .returned (.bool (xs == ys)) ∧ Below w.heap.size w w' := by
  by_cases hl : xs.length = ys.length
  · by_cases h0 : xs.length = 0
    · have ex : xs = [] := List.eq_nil_of_length_eq_zero h0
      have ey : ys = [] := List.eq_nil_of_length_eq_zero (by omega)
      subst ex ey
      refine (Tryz.slices_Equal_int_empty A B c 0 d w (by omega)).mono ?_
      rintro e w' ⟨rfl, rfl⟩
      exact ⟨rfl, Below.refl _ _⟩
    · obtain ⟨p, o, rfl, _, _⟩ := h1 0 (by omega)
      obtain ⟨q, o', rfl, _, _⟩ := h2 0 (by omega)
      refine (Tryz.slices_Equal_int p o xs.length c q o' ys.length d xs ys w (Nat.le_refl _) (Nat.le_refl _) (by omega) (by omega) (fun j hj => ?_) (fun j hj => ?_)).mono ?_
      · obtain ⟨b, o2, e, _, hc⟩ := h1 j hj
        injection e with e; injection e with e1 e2; subst e1 e2
        rw [hc, List.getD_eq_getElem?_getD, List.getElem?_eq_getElem hj]; rfl
      · obtain ⟨b, o2, e, _, hc⟩ := h2 j hj
        injection e with e; injection e with e1 e2; subst e1 e2
        rw [hc, List.getD_eq_getElem?_getD, List.getElem?_eq_getElem hj]; rfl
      · rintro e w' ⟨rfl, q2, rfl⟩
        rw [List.take_length, List.take_length]
        exact ⟨rfl, belowN (Below.refl _ _) _⟩
  · refine (Tryz.slices_Equal_int_lens A B xs.length c ys.length d w hl).mono ?_
    rintro e w' ⟨rfl, rfl⟩
    refine ⟨?_, Below.refl _ _⟩
    have : (xs == ys) = false := by rw [beq_eq_false_iff_ne]; intro e; exact hl (by rw [e])
    rw [this]

set_option maxHeartbeats 4000000 in
set_option maxRecDepth 100000 in
theorem equals_any (m n : Nd) (sa sa' : Option Addr) (sc sc' : Nat) (ka ka' : Option Addr) (kc kc' : Nat) (w : World) (m1 : m.set.length ≤ 1048576) (m2 : m.kids.length ≤ 1048576) (n1 : n.set.length ≤ 1048576) (n2 : n.kids.length ≤ 1048576)
    (hS : Nums .i64 w w.heap.size sa m.set) (hK : Nums .i64 w w.heap.size ka m.kids) (hS' : Nums .i64 w w.heap.size sa' n.set) (hK' : Nums .i64 w w.heap.size ka' n.kids) :
    Calls Tryz.prog 60 #[ndv m sa sc ka kc, ndv n sa' sc' ka' kc'] w fun e w' => e = .returned (.bool (eqN m n)) ∧ Below w.heap.size w w' := by
  unfold ndv
  obtain ⟨m0, m1', m2', m3, ms, mk⟩ := m
  obtain ⟨n0, n1', n2', n3, ns, nk⟩ := n
  simp only at *
  obtain ⟨w0, hw0⟩ : ∃ w0, (w.alloc (.cells #[.int .i64 m0, .int .i64 m1', .int .i64 m2', .bool m3, .slice sa ms.length sc, .slice ka mk.length kc] 47)).alloc (.cells #[.int .i64 n0, .int .i64 n1', .int .i64 n2', .bool n3, .slice sa' ns.length sc', .slice ka' nk.length kc'] 47) = w0 := ⟨_, rfl⟩
  have b0 : Below w.heap.size w w0 := by rw [← hw0]; exact ((Below.refl _ _).alloc (Nat.le_refl _) _).alloc (by simp) _
  have hz : w0.heap.size = w.heap.size + 2 := by rw [← hw0, alloc_size1, alloc_size1]
  have X0 : Six w0 w.heap.size 47 (.int .i64 m0) (.int .i64 m1') (.int .i64 m2') (.bool m3) (.slice sa ms.length sc) (.slice ka mk.length kc) := by rw [← hw0]; exact heap_alloc2_old w _ _
  have X1 : Six w0 (w.heap.size + 1) 47 (.int .i64 n0) (.int .i64 n1') (.int .i64 n2') (.bool n3) (.slice sa' ns.length sc') (.slice ka' nk.length kc') := by rw [← hw0]; exact heap_alloc2_new w _ _
  have cS := sliceEq_any sa sa' sc sc' ms ns w0 w.heap.size w.heap.size m1 n1 (hS.below b0) (hS'.below b0)
  have cK : ∀ W, Below w0.heap.size w0 W → Calls Tryz.prog 110 #[.slice ka mk.length kc, .slice ka' nk.length kc'] W _ := fun W h =>
    sliceEq_any ka ka' kc kc' mk nk W w.heap.size w.heap.size m2 n2 ((hK.below b0).below (h.mono (by omega))) ((hK'.below b0).below (h.mono (by omega)))
  have after : ∀ W, Below w0.heap.size w0 W → Below w.heap.size w W ∧ W.cell? ⟨w.heap.size, 5, none⟩ = some (.slice ka mk.length kc) ∧ W.cell? ⟨w.heap.size + 1, 5, none⟩ = some (.slice ka' nk.length kc') := fun W h => by
    refine ⟨b0.trans (h.mono (by omega)), ?_, ?_⟩
    · exact (h.cell (p := ⟨w.heap.size, 5, none⟩) (by show w.heap.size < _; omega)).trans X0.cells.2.2.2.2.2
    · exact (h.cell (p := ⟨w.heap.size + 1, 5, none⟩) (by show w.heap.size + 1 < _; omega)).trans X1.cells.2.2.2.2.2
  obtain ⟨x0, x1, x2, x3, x4, x5⟩ := X0.cells
  obtain ⟨y0, y1, y2, y3, y4, y5⟩ := X1.cells
  have HB := Lib.hid b0
  have AF := Lib.hid after
  have HW := Lib.hid hw0
  rw [← hw0] at x0 x1 x2 x3 x4 x5 y0 y1 y2 y3 y4 y5 cS
  clear hS hS' hK hK' X0 X1 b0 after hz hw0
  cases e0 : (m0 == n0) with
  | false =>
    have hR : Hid (false = eqN ⟨m0, m1', m2', m3, ms, mk⟩ ⟨n0, n1', n2', n3, ns, nk⟩) := by show _ = _; simp only [eqN, e0]; simp
    clear cS cK AF
    go_enter Tryz.func60, Tryz.ntmps60
    go_wp2
    go_ret
    exact ⟨ret_bool hR.out, by rw [HW.out]; exact HB.out⟩
  | true =>
    cases e1 : (m1' == n1') with
    | false =>
      have hR : Hid (false = eqN ⟨m0, m1', m2', m3, ms, mk⟩ ⟨n0, n1', n2', n3, ns, nk⟩) := by show _ = _; simp only [eqN, e0, e1]; simp
      clear cS cK AF
      go_enter Tryz.func60, Tryz.ntmps60
      go_wp2
      go_ret
      exact ⟨ret_bool hR.out, by rw [HW.out]; exact HB.out⟩
    | true =>
      cases e2 : (m2' == n2') with
      | false =>
        have hR : Hid (false = eqN ⟨m0, m1', m2', m3, ms, mk⟩ ⟨n0, n1', n2', n3, ns, nk⟩) := by show _ = _; simp only [eqN, e0, e1, e2]; simp
        clear cS cK AF
        go_enter Tryz.func60, Tryz.ntmps60
        go_wp2
        go_ret
        exact ⟨ret_bool hR.out, by rw [HW.out]; exact HB.out⟩
      | true =>
        cases e3 : (m3 == n3) with
        | false =>
          have hR : Hid (false = eqN ⟨m0, m1', m2', m3, ms, mk⟩ ⟨n0, n1', n2', n3, ns, nk⟩) := by show _ = _; simp only [eqN, e0, e1, e2, e3]; simp
          clear cS cK AF
          go_enter Tryz.func60, Tryz.ntmps60
          go_wp2
          go_ret
          exact ⟨ret_bool hR.out, by rw [HW.out]; exact HB.out⟩
        | true =>
          cases e4 : (ms == ns) with
          | false =>
            have hR : Hid (false = eqN ⟨m0, m1', m2', m3, ms, mk⟩ ⟨n0, n1', n2', n3, ns, nk⟩) := by show _ = _; simp only [eqN, e4]; simp
            rw [e4] at cS
            clear cK e4
            go_enter Tryz.func60, Tryz.ntmps60
            go_wp2_with (go_at_call 110; refine cS.mono ?_; rintro e w2 ⟨rfl, b2⟩; rw [HW.out] at b2; obtain ⟨B2, z0, z1⟩ := AF.out _ b2)
            go_ret
            exact ⟨ret_bool hR.out, B2⟩
          | true =>
            rw [e4] at cS
            have hR : Hid ((mk == nk) = eqN ⟨m0, m1', m2', m3, ms, mk⟩ ⟨n0, n1', n2', n3, ns, nk⟩) := by show _ = _; simp only [eqN, e0, e1, e2, e3, e4]; simp
            clear e4
            go_enter Tryz.func60, Tryz.ntmps60
            go_wp2_with (first | (go_at_call 110; with_reducible refine cS.mono ?_; rintro e w2 ⟨rfl, b2⟩; rw [HW.out] at b2; obtain ⟨B2, z0, z1⟩ := AF.out _ b2) | (go_at_call 110; refine (cK _ b2).mono ?_; rintro e w3 ⟨rfl, b3⟩))
            go_ret
            exact ⟨ret_bool hR.out, B2.trans (b3.mono B2.size)⟩

end Go.Proofs.YtdkjfppjbkdelaaGreatDoor
