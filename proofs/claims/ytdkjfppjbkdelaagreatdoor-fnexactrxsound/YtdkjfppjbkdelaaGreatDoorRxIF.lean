/- impl.RxRead reads a pattern. Conditions: at most 1048576 bytes; utf8's tables hold what Go's text lays. -/
import Derived.Test.YtdkjfppjbkdelaaGreatDoorRxIE
import Derived.Test.YtdkjfppjbkdelaaGreatDoorImplRunes
import Derived.Test.YtdkjfppjbkdelaaGreatDoorRxTxtA
import Derived.Test.YtdkjfppjbkdelaaGreatDoorRxHeldA
namespace Go.Proofs.YtdkjfppjbkdelaaGreatDoor
set_option linter.unusedVariables false
open Go.RowKit

set_option maxHeartbeats 4000000 in
set_option maxRecDepth 100000 in
theorem implRxRead (t : ByteArray) (w : World) (ht : t.size ≤ 1048576) (hT : Tabs w) (r : Rd) (hr : Hid (rxR t 200 = r)) :
    Calls Tryz.prog 14 #[.string t] w (ReadIs r w) := by
  have hA : Keep [] w (w.alloc (.cells #[.slice none 0 0] 27)) := (Keep.refl [] w).alloc _
  have cR := implRunes t (w.alloc (.cells #[.slice none 0 0] 27)) ht (hT.below ((Below.refl _ _).alloc (Nat.le_refl _) _))
  have x0 := heap_alloc_new w (.cells #[.slice none 0 0] 27)
  clear hT
  cases hl : runesOf t with
  | none =>
    rw [hl] at cR
    have e : Hid (r = .err 1 0) := by show r = _; rw [← hr.out]; unfold rxR; rw [hl]
    go_enter Tryz.func14, Tryz.ntmps14
    go_wp2_with fail
    refine cR.mono ?_
    rintro e w1 ⟨v, rfl, hown, hb⟩
    have y0 : w1.heap[w.heap.size]? = _ := (hb.block w.heap.size (by rw [alloc_size1]; omega)).trans x0
    have d0 : w1.cell? ⟨w.heap.size, 0, none⟩ = some (.slice none 0 0) := by rw [cell_of_row _ _ _ _ _ _ y0]; rfl
    have e0 := frozen_of_row w1 _ 0 _ _ y0
    have K1 := Lib.hid (hA.tr (Keep.ofBelow hb))
    simp only [Option.isSome]
    clear cR hA x0 hown hb hl
    go_wp2
    refine bodyPost_ret (v := .tuple #[.agg #[.slice none 0 0], .int .i64 0, .int .i64 1]) (by simp [results, Tryz.results14, go_sem, d0]) rfl ?_
    rw [e.out]
    exact ⟨rfl, K1.out.setCell (.inr (Nat.le_refl _)) _⟩
  | some l =>
    rw [hl] at cR
    obtain ⟨hP, hl1⟩ := runes_small hl
    have er : Hid (r = if 200 < l.length then .err 1 0 else wholeR l) := by show r = _; rw [← hr.out]; unfold rxR; rw [hl]
    go_enter Tryz.func14, Tryz.ntmps14
    go_wp2_with fail
    refine cR.mono ?_
    rintro e w1 ⟨v, rfl, hown, hb⟩
    have hown' : RowI w1 (w.alloc (.cells #[.slice none 0 0] 27)).heap.size v l := hown
    obtain ⟨A, c, rfl⟩ := own_form hown'
    have y0 : w1.heap[w.heap.size]? = _ := (hb.block w.heap.size (by rw [alloc_size1]; omega)).trans x0
    have d0 : w1.cell? ⟨w.heap.size, 0, none⟩ = some (.slice none 0 0) := by rw [cell_of_row _ _ _ _ _ _ y0]; rfl
    have e0 := frozen_of_row w1 _ 0 _ _ y0
    have K1 := Lib.hid (hA.tr (Keep.ofBelow hb))
    have HN := Lib.hid (Nums.own hown')
    have HY := Lib.hid y0
    have hsz : w.heap.size + 1 ≤ w1.heap.size := by have := hb.size; rw [alloc_size1] at this; exact this
    simp only [Option.isSome]
    clear cR hA x0 hown hb hl hown' y0
    by_cases h2 : 200 < l.length
    · have e : Hid (r = .err 1 0) := by show r = _; rw [er.out, if_pos h2]
      have h2z : (200 : Int) < l.length := by omega
      clear er
      go_wp2
      refine bodyPost_ret (v := .tuple #[.agg #[.slice none 0 0], .int .i64 0, .int .i64 1]) (by simp [results, Tryz.results14, go_sem, d0]) rfl ?_
      rw [e.out]
      exact ⟨rfl, K1.out.setCell (.inr (Nat.le_refl _)) _⟩
    · have e : Hid (wholeR l = r) := by show _ = r; rw [er.out, if_neg h2]
      have h2z : ¬ (200 : Int) < l.length := by omega
      have cP := readPattern_any w1 l A c HN.out hl1 hP r e
      clear er
      go_wp2_with fail
      refine cP.mono ?_
      intro e2 w2 hpost
      clear cP d0 e0
      cases r with
      | err cc q =>
        obtain ⟨rfl, k2⟩ := hpost
        have y0 := (k2.block w.heap.size (by omega) (by simp)).trans HY.out
        have d0 : w2.cell? ⟨w.heap.size, 0, none⟩ = some (.slice none 0 0) := by rw [cell_of_row _ _ _ _ _ _ y0]; rfl
        have e0 := frozen_of_row w2 _ 0 _ _ y0
        have K2 := Lib.hid (K1.out.tr k2)
        clear y0 k2
        go_wp2
        refine bodyPost_ret (v := .tuple #[.agg #[.slice none 0 0], .int .i64 q, .int .i64 cc]) (by simp [results, Tryz.results14, go_sem, d0]) rfl ?_
        exact ⟨rfl, K2.out.setCell (.inr (Nat.le_refl _)) _⟩
      | ok x j o =>
        obtain ⟨nv, xs, rfl, hO, k2⟩ := hpost
        obtain ⟨A2, c2, rfl⟩ := own_form hO.row
        have y0 := (k2.block w.heap.size (by omega) (by simp)).trans HY.out
        have d0 : w2.cell? ⟨w.heap.size, 0, none⟩ = some (.slice none 0 0) := by rw [cell_of_row _ _ _ _ _ _ y0]; rfl
        have e0 := frozen_of_row w2 _ 0 _ _ y0
        have K2 := Lib.hid (K1.out.tr k2)
        have kS : Keep [w.heap.size] w2 (w2.setCell ⟨w.heap.size, 0, none⟩ (.slice A2 o.length c2)) := (Keep.refl _ w2).setCell (.inl (by simp)) _
        have HO := Lib.hid ((hO.keep kS (fun b hb hm => by have := (hO.range b hm).1; simp at hb; omega)).low (show w.heap.size ≤ w1.heap.size by omega))
        clear y0 k2 hO kS
        go_wp2
        refine bodyPost_ret (v := .tuple #[.agg #[.slice A2 o.length c2], .int .i64 0, .int .i64 0]) (by simp [results, Tryz.results14, go_sem, d0]) rfl ?_
        exact ⟨_, xs, rfl, HO.out, K2.out.setCell (.inr (Nat.le_refl _)) _⟩

end Go.Proofs.YtdkjfppjbkdelaaGreatDoor

/- What laws.FnExactRxRead asks, from what the program's reader and the specification's answer: they answer alike, and the answer owns its memory, behind another call too. Conditions: at most 1048576 bytes; the specification's reader answers as the model of reading. -/
namespace Go.Proofs.YtdkjfppjbkdelaaGreatDoor
set_option linter.unusedVariables false
open Go.RowKit

def rxNs : Rd → List Nd
  | .ok _ _ o => o
  | .err _ _ => []
def rxAt : Rd → Int
  | .ok _ _ _ => 0
  | .err _ q => q
def rxCode : Rd → Int
  | .ok _ _ _ => 0
  | .err c _ => c

theorem ReadIs.one {r : Rd} {w w' : World} {e : Ending} (h : ReadIs r w e w') : ∃ nv xs, e = .returned (.tuple #[.agg #[nv], .int .i64 (rxAt r), .int .i64 (rxCode r)]) ∧ Own6 w' w.heap.size nv (rxNs r) xs ∧ Keep [] w w' := by
  cases r with
  | ok n j o => exact h
  | err c q => exact ⟨_, [], h.1, Own6.nil _ _, h.2⟩

/-- The specification's answer: nodes that can be read. -/
def SpIs (r : Rd) (w : World) (e : Ending) (w' : World) : Prop :=
  ∃ A c, e = .returned (.tuple #[.agg #[.slice A (rxNs r).length c], .int .i64 (rxAt r), .int .i64 (rxCode r)]) ∧ Nodes w' w'.heap.size A (rxNs r) ∧ Keep [] w w'

theorem rxR_bulk (t : ByteArray) : (rxNs (rxR t 200)).length + bulks (rxNs (rxR t 200)) ≤ 20000 := by
  unfold rxR
  cases hl : runesOf t with
  | none => simp [rxNs, bulks]
  | some l =>
    have h2 := (runes_small hl).2
    simp only []
    split
    · simp [rxNs, bulks]
    · unfold wholeR
      cases ha : altsD l 6 0 [] with
      | err c p => simp [rxNs, bulks]
      | ok n j o =>
        have hb := altsD_bulk h2 ha
        simp only []
        split
        · simp [rxNs, bulks]
        · split
          · simp [rxNs, bulks]
          · exact hb

theorem Own6.at {w : World} {B : Nat} {A : Option Addr} {n c : Nat} {ns : List Nd} {xs : List (Value × Value)} (h : Own6 w B (.slice A n c) ns xs) : Nodes w w.heap.size A ns := by
  obtain ⟨A', c', e, N⟩ := h.nodes
  injection e with e1
  rw [e1]
  exact N

theorem Keep.low {w w' : World} (h : Keep [] w w') : Below w.heap.size w w' := h.below (Nat.le_refl _) (fun b hb => by cases hb)

end Go.Proofs.YtdkjfppjbkdelaaGreatDoor
