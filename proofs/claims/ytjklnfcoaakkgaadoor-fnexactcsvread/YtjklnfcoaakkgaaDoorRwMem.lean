/- Rows of cells in memory: a slice value that reads as a list of lists of strings; the law's own measuring of them. Conditions: at most 1048576 elements in all. -/
import Derived.Test.YtjklnfcoaakkgaaDoorStrTo
namespace Go.Proofs.YtjklnfcoaakkgaaDoor
set_option linter.unusedVariables false
open Go.RowKit

/-- A slice of rows at address A reads as rs, all of it below block B. -/
def Rws (w : World) (B : Nat) (A : Option Addr) (rs : List (List ByteArray)) : Prop :=
  ∀ j, (h : j < rs.length) → ∃ b o A' c', A = some ⟨b, o, none⟩ ∧ b < B ∧ w.cell? ⟨b, o + j, none⟩ = some (.slice A' rs[j].length c') ∧ Strs w B A' rs[j]
theorem Rws.move {w w' : World} {B B' : Nat} {A : Option Addr} {rs : List (List ByteArray)} (h : Rws w B A rs) (hB : B ≤ B') (hk : ∀ p : Addr, p.block < B → w'.cell? p = w.cell? p) : Rws w' B' A rs := fun j hj => by
  obtain ⟨b, o, A', c', e, hb, hc, hs⟩ := h j hj
  exact ⟨b, o, A', c', e, by omega, (hk ⟨b, o + j, none⟩ hb).trans hc, hs.move hB hk⟩
theorem Rws.below {w w' : World} {B : Nat} {A : Option Addr} {rs : List (List ByteArray)} (h : Rws w B A rs) (hb : Below B w w') : Rws w' B A rs := h.move (Nat.le_refl _) fun _ hp => hb.cell hp
theorem Rws.up {w : World} {B B' : Nat} {A : Option Addr} {rs : List (List ByteArray)} (h : Rws w B A rs) (hB : B ≤ B') : Rws w B' A rs := h.move hB fun _ _ => rfl
theorem Rws.nil (w : World) (B : Nat) (A : Option Addr) : Rws w B A [] := fun j hj => absurd hj (by simp)
theorem Rws.on {w w' : World} {A : Option Addr} {rs : List (List ByteArray)} (h : Rws w w.heap.size A rs) (hb : Below w.heap.size w w') : Rws w' w'.heap.size A rs := (h.below hb).up hb.size
theorem Strs.on {w w' : World} {A : Option Addr} {xs : List ByteArray} (h : Strs w w.heap.size A xs) (hb : Below w.heap.size w w') : Strs w' w'.heap.size A xs := (h.below hb).up hb.size

/-- What is left of a number behind a need; -1 where it does not suffice. -/
def restN (need left : Nat) : Int := if need ≤ left then ((left - need : Nat) : Int) else -1
theorem restN_neg {need left : Nat} (h : ¬ need ≤ left) : restN need left = -1 := if_neg h
theorem restN_pos {need left : Nat} (h : need ≤ left) : restN need left = ((left - need : Nat) : Int) := if_pos h

set_option maxHeartbeats 2000000 in
set_option maxRecDepth 100000 in
theorem szStrsL_any (A : Option Addr) (c : Nat) (xs : List ByteArray) (left : Nat) (w : World) (hN : Strs w w.heap.size A xs) (hF : ∀ x ∈ xs, x.size ≤ maxLen) (hn : xs.length ≤ maxLen) (hleft : left ≤ 1048576) :
    Calls Tryd.prog 59 #[.slice A xs.length c, .int .i64 left] w fun e w' => e = .returned (.int .i64 (restN (xs.length + sizesS xs) left)) ∧ Below w.heap.size w w' := by
  have hn' := hn
  unfold maxLen at hn'
  by_cases h : xs.length ≤ left
  · have hi : ¬ ((left : Int) - (xs.length : Int)) < 0 := by omega
    obtain ⟨L, hL⟩ : ∃ L, left - xs.length = L := ⟨_, rfl⟩
    have hj : (left : Int) - (xs.length : Int) = (L : Int) := by omega
    have hLl : L ≤ 1048576 := by omega
    have HL := Lib.hid hL
    clear hL
    go_enter Tryd.func59, Tryd.ntmps59
    go_wp2
    clear hi hj
    go_loopw [1, 5] (fun l i wr => ∃ k : Nat, k ≤ xs.length ∧ i = .int .i64 k ∧ sizesS (xs.take k) ≤ L ∧ l = .int .i64 ((L - sizesS (xs.take k) : Nat) : Int) ∧ Below w.heap.size w wr) (fun _ i _ => xs.length - (intOf i).toNat)
    case atStart => exact ⟨0, Nat.zero_le _, rfl, by simp [sizesS], by simp [sizesS], Below.refl _ _⟩
    case round =>
      obtain ⟨k, hk, rfl, hb, rfl, hbel⟩ := hrel
      by_cases hlt : k < xs.length
      · obtain ⟨b, o, rfl, hbb, hc⟩ := hN k hlt
        have hcr := (hbel.cell (p := ⟨b, o + k, none⟩) hbb).trans hc
        have hsz := hF _ (List.getElem_mem hlt)
        unfold maxLen at hsz
        obtain ⟨X, hX⟩ : ∃ X, sizesS (xs.take k) = X := ⟨_, rfl⟩
        rw [hX] at hb
        have hT := sizesS_take hlt
        have hle := sizesS_le xs (k + 1)
        rw [hX] at hT
        obtain ⟨x, hx⟩ : ∃ x, xs[k] = x := ⟨_, rfl⟩
        rw [hx] at hcr hsz hT
        rw [hX]
        have HT := Lib.hid hT
        have HLe := Lib.hid hle
        clear hc hN hF hX hx hT hle
        by_cases q : x.size ≤ L - X
        · have h1 : ¬ (((L - X : Nat) : Int) - (x.size : Int)) < 0 := by omega
          have h2 : ((L - X : Nat) : Int) - (x.size : Int) = ((L - X - x.size : Nat) : Int) := by omega
          go_wp2
          go_roundw
          case rel => exact ⟨k + 1, hlt, by go_num, by have := HT.out; omega, by rw [HT.out, Nat.sub_sub], hbel⟩
          case measure => simp [intOf]; omega
        · have h1 : (((L - X : Nat) : Int) - (x.size : Int)) < 0 := by omega
          go_wp2
          go_ret
          exact ⟨by have h3 := HT.out; have h4 := HLe.out; have h5 := HL.out; rw [restN_neg (by omega)]; rfl, hbel⟩
      · obtain rfl : k = xs.length := by omega
        rw [List.take_length] at hb ⊢
        obtain ⟨X, hX⟩ : ∃ X, sizesS xs = X := ⟨_, rfl⟩
        rw [hX] at hb ⊢
        clear hN hF
        go_wp2
        go_ret
        exact ⟨by have h5 := HL.out; rw [hX, restN_pos (by omega), ← h5, Nat.sub_sub]; rfl, hbel⟩
  · have hi : ((left : Int) - (xs.length : Int)) < 0 := by omega
    have hR : Hid (restN (xs.length + sizesS xs) left = -1) := by show _ = _; rw [restN_neg (by omega)]
    clear hN hF
    go_enter Tryd.func59, Tryd.ntmps59
    go_wp2
    go_ret
    exact ⟨by rw [hR.out]; rfl, Below.refl _ _⟩

/-- How much a row needs; how much rows need. -/
def needR (xs : List ByteArray) : Nat := xs.length + sizesS xs
def needsR (rs : List (List ByteArray)) : Nat := (rs.map needR).sum
theorem needsR_take {rs : List (List ByteArray)} {k : Nat} (h : k < rs.length) : needsR (rs.take (k + 1)) = needsR (rs.take k) + needR rs[k] := by
  unfold needsR
  rw [take_succ_get h, List.map_append, List.sum_append]
  simp only [List.map_cons, List.map_nil, List.sum_cons, List.sum_nil, Nat.add_zero]
theorem needsR_le (rs : List (List ByteArray)) (k : Nat) : needsR (rs.take k) ≤ needsR rs := by
  have e : needsR (rs.take k ++ rs.drop k) = needsR (rs.take k) + needsR (rs.drop k) := by unfold needsR; rw [List.map_append, List.sum_append]
  rw [List.take_append_drop] at e
  omega
theorem needsR_one {rs : List (List ByteArray)} {k : Nat} (h : k < rs.length) : needR rs[k] ≤ needsR rs := by
  have h1 := needsR_take h
  have h2 := needsR_le rs (k + 1)
  omega
theorem sizesS_mem {xs : List ByteArray} {x : ByteArray} (h : x ∈ xs) : x.size ≤ sizesS xs := by
  obtain ⟨k, hk, rfl⟩ := List.mem_iff_getElem.1 h
  have h1 := sizesS_take hk
  have h2 := sizesS_le xs (k + 1)
  omega
/-- What comes in fits Go's own bounds. -/
def FitR (rs : List (List ByteArray)) : Prop := ∀ xs ∈ rs, xs.length ≤ maxLen ∧ ∀ x ∈ xs, x.size ≤ maxLen

set_option maxHeartbeats 1000000 in
set_option maxRecDepth 100000 in
theorem szRow_any (A : Option Addr) (c : Nat) (xs : List ByteArray) (left : Nat) (w : World) (hN : Strs w w.heap.size A xs) (hF : ∀ x ∈ xs, x.size ≤ maxLen) (hn : xs.length ≤ maxLen) (hleft : left ≤ 1048576) :
    Calls Tryd.prog 38 #[.agg #[.slice A xs.length c], .int .i64 left] w fun e w' => e = .returned (.int .i64 (restN (needR xs) left)) ∧ Below w.heap.size w w' := by
  have B0 : Below w.heap.size w (w.alloc (.cells #[.slice A xs.length c] 59)) := (Below.refl _ _).alloc (Nat.le_refl _) _
  have cN := szStrsL_any A c xs left _ (hN.on B0) hF hn hleft
  have e : xs.length + sizesS xs = needR xs := rfl
  rw [e] at cN
  clear e hN hF
  go_enter Tryd.func38, Tryd.ntmps38
  go_wp2_with fail
  refine cN.mono ?_
  rintro e w1 ⟨rfl, b1⟩
  have B1 : Below w.heap.size w w1 := B0.trans (b1.mono B0.size)
  clear cN b1 B0
  by_cases q : needR xs ≤ left
  · rw [restN_pos q]
    have hi : ¬ ((left - needR xs : Nat) : Int) < 0 := by omega
    go_wp2
    go_ret
    exact ⟨by rw [restN_pos q]; rfl, B1⟩
  · rw [restN_neg q]
    go_wp2
    go_ret
    exact ⟨by rw [restN_neg q]; rfl, B1⟩

set_option maxHeartbeats 2000000 in
set_option maxRecDepth 100000 in
theorem szRows_any (A : Option Addr) (c : Nat) (rs : List (List ByteArray)) (w : World) (hN : Rws w w.heap.size A rs) (hF : FitR rs) (hn : rs.length ≤ maxLen) :
    Calls Tryd.prog 19 #[.slice A rs.length c, .int .i64 1048576] w fun e w' => e = .returned (.int .i64 (restN (rs.length + needsR rs) 1048576)) ∧ Below w.heap.size w w' := by
  have hn' := hn
  unfold maxLen at hn'
  by_cases h : rs.length ≤ 1048576
  · have hi : ¬ ((1048576 : Int) - (rs.length : Int)) < 0 := by omega
    obtain ⟨L, hL⟩ : ∃ L, 1048576 - rs.length = L := ⟨_, rfl⟩
    have hj : (1048576 : Int) - (rs.length : Int) = (L : Int) := by omega
    have hLl : L ≤ 1048576 := by omega
    have HL := Lib.hid hL
    clear hL
    go_enter Tryd.func19, Tryd.ntmps19
    go_wp2
    clear hi hj
    go_loopw [1, 5] (fun l i wr => ∃ k : Nat, k ≤ rs.length ∧ i = .int .i64 k ∧ needsR (rs.take k) ≤ L ∧ l = .int .i64 ((L - needsR (rs.take k) : Nat) : Int) ∧ Below w.heap.size w wr) (fun _ i _ => rs.length - (intOf i).toNat)
    case atStart => exact ⟨0, Nat.zero_le _, rfl, by simp [needsR], by simp [needsR], Below.refl _ _⟩
    case round =>
      obtain ⟨k, hk, rfl, hb, rfl, hbel⟩ := hrel
      by_cases hlt : k < rs.length
      · obtain ⟨b, o, A', c', rfl, hbb, hc, hs⟩ := hN k hlt
        have hcr := (hbel.cell (p := ⟨b, o + k, none⟩) hbb).trans hc
        have f := hF _ (List.getElem_mem hlt)
        obtain ⟨X, hX⟩ : ∃ X, needsR (rs.take k) = X := ⟨_, rfl⟩
        rw [hX] at hb
        have cN := szRow_any A' c' rs[k] (L - X) wr ((hs.below hbel).up hbel.size) f.2 f.1 (by omega)
        have hT := needsR_take hlt
        rw [hX] at hT
        obtain ⟨xs, hxs⟩ : ∃ xs, rs[k] = xs := ⟨_, rfl⟩
        rw [hxs] at hcr cN hT
        have hle := needsR_le rs (k + 1)
        have HT := Lib.hid hT
        have HE := Lib.hid hle
        rw [hX]
        clear hc hN hF f hX hT hxs hle hs
        go_wp2_with fail
        refine cN.mono ?_
        rintro e w2 ⟨rfl, b2⟩
        have B2 : Below w.heap.size w w2 := hbel.trans (b2.mono hbel.size)
        clear cN b2
        by_cases q : needR xs ≤ L - X
        · rw [restN_pos q]
          have hi : ¬ ((L - X - needR xs : Nat) : Int) < 0 := by omega
          go_wp2
          go_roundw
          case rel => exact ⟨k + 1, hlt, by go_num, by rw [HT.out]; omega, by rw [HT.out, Nat.sub_sub], B2⟩
          case measure => simp [intOf]; omega
        · rw [restN_neg q]
          go_wp2
          go_ret
          refine ⟨?_, B2⟩
          have h1 := HE.out
          rw [HT.out] at h1
          rw [restN_neg (by have := HL.out; omega)]
          rfl
      · obtain rfl : k = rs.length := by omega
        rw [List.take_length] at hb ⊢
        clear hN hF
        go_wp2
        go_ret
        refine ⟨?_, hbel⟩
        rw [restN_pos (by have := HL.out; omega)]
        have := HL.out
        rw [← this, Nat.sub_sub]
        rfl
  · have hi : ((1048576 : Int) - (rs.length : Int)) < 0 := by omega
    clear hN hF
    go_enter Tryd.func19, Tryd.ntmps19
    go_wp2
    go_ret
    exact ⟨by rw [restN_neg (by omega)]; rfl, Below.refl _ _⟩

end Go.Proofs.YtjklnfcoaakkgaaDoor
