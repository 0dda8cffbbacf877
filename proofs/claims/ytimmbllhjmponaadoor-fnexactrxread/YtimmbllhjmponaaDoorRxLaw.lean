/- What laws.FnExactRxRead asks, from what the program's reader and the specification's answer: they answer alike, and the answer owns its memory, behind another call too. Conditions: at most 1048576 bytes; the specification's reader answers as the model of reading. -/
import Derived.Test.YtimmbllhjmponaaDoorRxHeldA
import Derived.Test.YtimmbllhjmponaaDoorRxI16
namespace Go.Proofs.YtimmbllhjmponaaDoor
set_option linter.unusedVariables false
open Go.RowKit

def rxNs : Rd → List Nd
  | .ok _ _ o => o
  | .err _ _ => []
def rxAt : Rd → Int
  | .ok _ _ _ => 0
  | .err _ q => q
def rxCode : Rd → Int
  | .ok _ _ _ => 0
  | .err c _ => c

theorem ReadIs.one {r : Rd} {w w' : World} {e : Ending} (h : ReadIs r w e w') : ∃ nv xs, e = .returned (.tuple #[.agg #[nv], .int .i64 (rxAt r), .int .i64 (rxCode r)]) ∧ Own6 w' w.heap.size nv (rxNs r) xs ∧ Keep [] w w' := by
  cases r with
  | ok n j o => exact h
  | err c q => exact ⟨_, [], h.1, Own6.nil _ _, h.2⟩

/-- The specification's answer: nodes that can be read. -/
def SpIs (r : Rd) (w : World) (e : Ending) (w' : World) : Prop :=
  ∃ A c, e = .returned (.tuple #[.agg #[.slice A (rxNs r).length c], .int .i64 (rxAt r), .int .i64 (rxCode r)]) ∧ Nodes w' w'.heap.size A (rxNs r) ∧ Keep [] w w'

theorem rxR_bulk (t : ByteArray) : (rxNs (rxR t 200)).length + bulks (rxNs (rxR t 200)) ≤ 20000 := by
  unfold rxR
  cases hl : runesOf t with
  | none => simp [rxNs, bulks]
  | some l =>
    have h2 := (runes_small hl).2
    simp only []
    split
    · simp [rxNs, bulks]
    · unfold wholeR
      cases ha : altsD l 6 0 [] with
      | err c p => simp [rxNs, bulks]
      | ok n j o =>
        have hb := altsD_bulk h2 ha
        simp only []
        split
        · simp [rxNs, bulks]
        · split
          · simp [rxNs, bulks]
          · exact hb

theorem Own6.at {w : World} {B : Nat} {A : Option Addr} {n c : Nat} {ns : List Nd} {xs : List (Value × Value)} (h : Own6 w B (.slice A n c) ns xs) : Nodes w w.heap.size A ns := by
  obtain ⟨A', c', e, N⟩ := h.nodes
  injection e with e1
  rw [e1]
  exact N

theorem Keep.low {w w' : World} (h : Keep [] w w') : Below w.heap.size w w' := h.below (Nat.le_refl _) (fun b hb => by cases hb)

set_option maxHeartbeats 4000000 in
set_option maxRecDepth 100000 in
theorem rx_law (s : ByteArray) (w : World) (r : Rd) (hs : s.size ≤ 1048576) (hr : (rxNs r).length + bulks (rxNs r) ≤ 20000) (hT : Tabs w)
    (cS : Calls Tryd.prog 4 #[.string s] w (SpIs r w)) (cI : ∀ W, Tabs W → Calls Tryd.prog 5 #[.string s] W (ReadIs r W)) :
    Calls Tryd.prog 3 #[.string s] w fun e w' => e = .returned (.bool true) ∧ Below w.heap.size w w' := by
  have cI' : ∀ W, Tabs W → Calls Tryd.prog 5 #[.string s] W fun e w' => ∃ nv xs, e = .returned (.tuple #[.agg #[nv], .int .i64 (rxAt r), .int .i64 (rxCode r)]) ∧ Own6 w' W.heap.size nv (rxNs r) xs ∧ Keep [] W w' := fun W h => (cI W h).mono fun e w' hh => hh.one
  unfold SpIs at cS
  generalize rxAt r = p at cS cI'
  generalize rxCode r = q at cS cI'
  generalize rxNs r = ns at cS cI' hr
  have hl : ns.length + bulks ns ≤ 1048576 := by omega
  have hp : ¬ endK ns 1 < 0 := by rw [endK_bulk]; omega
  clear cI hr
  go_enter Tryd.func3, Tryd.ntmps3
  go_wp2_with fail
  refine cS.mono ?_
  rintro e w1 ⟨A1, c1, rfl, N1, k1⟩
  have B1 := k1.low
  have P1 := Lib.hid N1
  clear cS N1 k1
  go_wp2_with fail
  have ba : Below w1.heap.size w1 (w1.alloc (.cells #[.slice A1 ns.length c1] 24)) := (Below.refl _ _).alloc (Nat.le_refl _) _
  have za : (w1.alloc (.cells #[.slice A1 ns.length c1] 24)).heap.size = w1.heap.size + 1 := alloc_size1 _ _
  have xa : (w1.alloc (.cells #[.slice A1 ns.length c1] 24)).cell? ⟨w1.heap.size, 0, none⟩ = some (.slice A1 ns.length c1) := by rw [cell_of_row _ _ _ _ _ _ (heap_alloc_new w1 _)]; rfl
  generalize w1.alloc (.cells #[.slice A1 ns.length c1] 24) = wa at ba za xa ⊢
  have Ba : Below w.heap.size w wa := B1.trans (ba.mono B1.size)
  have P1a := Lib.hid (P1.out.below ba)
  refine (cI' _ (hT.below Ba)).mono ?_
  rintro e w2 ⟨nv, xs, rfl, O2, k2⟩
  have b2 := k2.low
  have z2 := b2.size
  have P12 := Lib.hid (P1a.out.below (b2.mono ba.size))
  have B2 : Below w.heap.size w w2 := Ba.trans (b2.mono Ba.size)
  have x2 : w2.cell? ⟨w1.heap.size, 0, none⟩ = some (.slice A1 ns.length c1) := (b2.cell (p := ⟨w1.heap.size, 0, none⟩) (by show w1.heap.size < _; omega)).trans xa
  obtain ⟨A2, c2, rfl, N2⟩ := O2.nodes
  have P2 := Lib.hid O2
  have z1 := B1.size
  have l2 : w1.heap.size < w2.heap.size := by omega
  have bb : ∀ o, Below w2.heap.size w2 (w2.alloc o) := fun o => (Below.refl _ _).alloc (Nat.le_refl _) _
  have xb : ∀ o, (w2.alloc o).cell? ⟨w1.heap.size, 0, none⟩ = some (.slice A1 ns.length c1) := fun o => ((bb o).cell (p := ⟨w1.heap.size, 0, none⟩) l2).trans x2
  clear O2 N2 B1 b2 k2 xa ba Ba
  go_wp2_with fail
  have b0 := bb (.cells #[.slice A2 ns.length c2] 24)
  have xw := xb (.cells #[.slice A2 ns.length c2] 24)
  have zb : (w2.alloc (.cells #[.slice A2 ns.length c2] 24)).heap.size = w2.heap.size + 1 := alloc_size1 _ _
  have xg : (w2.alloc (.cells #[.slice A2 ns.length c2] 24)).cell? ⟨w2.heap.size, 0, none⟩ = some (.slice A2 ns.length c2) := by rw [cell_of_row _ _ _ _ _ _ (heap_alloc_new w2 _)]; rfl
  generalize w2.alloc (.cells #[.slice A2 ns.length c2] 24) = wb at b0 xw zb xg ⊢
  have Pb := Lib.hid (P2.out.keep (Keep.ofBelow b0) (by simp))
  have P1b := Lib.hid (P12.out.below (b0.mono (by omega)))
  have Bb : Below w.heap.size w wb := B2.trans (b0.mono B2.size)
  clear bb xb b0 B2 x2
  refine (eqRx_any _ _ _ _ ns _ hl Pb.out.at (P1b.out.up (by omega))).mono ?_
  rintro e w3 ⟨rfl, b3⟩
  have z3 := b3.size
  have xw3 := (b3.cell (p := ⟨w1.heap.size, 0, none⟩) (by show w1.heap.size < _; omega)).trans xw
  have xg3 := (b3.cell (p := ⟨w2.heap.size, 0, none⟩) (by show w2.heap.size < _; omega)).trans xg
  have P13 := Lib.hid (P1b.out.below (b3.mono (by omega)))
  have P23 := Lib.hid (Pb.out.keep (Keep.ofBelow b3) (by simp))
  have B3 : Below w.heap.size w w3 := Bb.trans (b3.mono Bb.size)
  clear b3 Bb xw xg
  go_wp2_with fail
  refine (markRx_any _ _ ns xs _ hl P23.out).mono ?_
  rintro e w4 ⟨rfl, O4, k4⟩
  have b4 : Below wa.heap.size w3 w4 := k4.below (by omega) fun b hb => (P23.out.range b hb).1
  have z4 := b4.size
  have xw4 := (b4.cell (p := ⟨w1.heap.size, 0, none⟩) (by show w1.heap.size < _; omega)).trans xw3
  have xg4 : w4.cell? ⟨w2.heap.size, 0, none⟩ = some (.slice A2 ns.length c2) := (World.cell?_of_block (k4.block w2.heap.size (by omega) fun hm => by have := (P2.out.range _ hm).2; omega)).trans xg3
  have P14 := Lib.hid (P13.out.below (b4.mono (by omega)))
  have Q4 := Lib.hid O4.at
  have B4 : Below w.heap.size w w4 := B3.trans (b4.mono (by omega))
  clear O4 k4 b4 B3 xw3 xg3
  go_wp2_with fail
  refine (heldRx_any _ _ ns _ hl Q4.out).mono ?_
  rintro e w5 ⟨rfl, b5⟩
  have z5 := b5.size
  have xw5 := (b5.cell (p := ⟨w1.heap.size, 0, none⟩) (by show w1.heap.size < _; omega)).trans xw4
  have xg5 := (b5.cell (p := ⟨w2.heap.size, 0, none⟩) (by show w2.heap.size < _; omega)).trans xg4
  have B5 : Below w.heap.size w w5 := B4.trans (b5.mono B4.size)
  have P15 := Lib.hid (P14.out.below (b5.mono (by omega)))
  have Q5 := Lib.hid ((Q4.out.below b5).up z5)
  clear b5 B4 xw4 xg4
  go_wp2_with fail
  refine (cI' _ (hT.below B5)).mono ?_
  rintro e w6 ⟨nv6, xs6, rfl, O6, k6⟩
  have b6 := k6.low
  have z6 := b6.size
  obtain ⟨A6, c6, rfl, N6⟩ := O6.nodes
  have h1 : w1.heap.size < w6.heap.size := by omega
  have h2 : w2.heap.size < w6.heap.size := by omega
  have xw6 := (b6.cell (p := ⟨w1.heap.size, 0, none⟩) (by show w1.heap.size < _; omega)).trans xw5
  have xg6 := (b6.cell (p := ⟨w2.heap.size, 0, none⟩) (by show w2.heap.size < _; omega)).trans xg5
  have P16 := Lib.hid (P15.out.below (b6.mono (by omega)))
  have Q6 := Lib.hid ((Q5.out.below b6).up z6)
  have R6 := Lib.hid N6
  have B6 : Below w.heap.size w w6 := B5.trans (b6.mono B5.size)
  have bb : ∀ o, Below w6.heap.size w6 (w6.alloc o) := fun o => (Below.refl _ _).alloc (Nat.le_refl _) _
  have xb : ∀ o, (w6.alloc o).cell? ⟨w1.heap.size, 0, none⟩ = some (.slice A1 ns.length c1) := fun o => ((bb o).cell (p := ⟨w1.heap.size, 0, none⟩) h1).trans xw6
  clear O6 k6 b6 B5 N6 cI' hT xw5 xg5
  go_wp2_with fail
  have b0 := bb (.cells #[.slice A6 ns.length c6] 24)
  have xg := (b0.cell (p := ⟨w2.heap.size, 0, none⟩) h2).trans xg6
  generalize w6.alloc (.cells #[.slice A6 ns.length c6] 24) = wh at b0 xg ⊢
  have zh := b0.size
  have Bh : Below w.heap.size w wh := B6.trans (b0.mono B6.size)
  refine (eqRx_any _ _ _ _ ns _ hl ((R6.out.below b0).up zh) ((P16.out.below (b0.mono (by omega))).up (by omega))).mono ?_
  rintro e w7 ⟨rfl, b7⟩
  have z7 := b7.size
  have xg7 := (b7.cell (p := ⟨w2.heap.size, 0, none⟩) (by show w2.heap.size < _; omega)).trans xg
  have Q7 := Lib.hid ((((Q6.out.below b0).up zh).below b7).up z7)
  have B7 : Below w.heap.size w w7 := Bh.trans (b7.mono Bh.size)
  clear b7 B6 bb xb xg b0 Bh xw6 xg6
  go_wp2_with fail
  refine (heldRx_any _ _ ns _ hl Q7.out).mono ?_
  rintro e w8 ⟨rfl, b8⟩
  have B8 : Below w.heap.size w w8 := B7.trans (b8.mono B7.size)
  clear b8 B7
  go_wp2
  go_ret
  exact ⟨rfl, B8⟩

end Go.Proofs.YtimmbllhjmponaaDoor
