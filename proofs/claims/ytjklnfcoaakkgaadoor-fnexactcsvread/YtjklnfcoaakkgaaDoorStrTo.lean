/- The law's measuring and copying of a list of strings that came in. Conditions: at most 1048576 elements. -/
import Derived.Test.YtjklnfcoaakkgaaDoorStrMem
import Derived.Test.YtjklnfcoaakkgaaDoorRxMathA
namespace Go.Proofs.YtjklnfcoaakkgaaDoor
set_option linter.unusedVariables false
open Go.RowKit

theorem Tryd.infoStrS : (Tryd.prog.info? 9).map (fun i => (i.zero, i.size, i.bytes)) = some (some (.string ⟨#[]⟩), 1, 16) := by kernel_rfl
def sizesS (xs : List ByteArray) : Nat := (xs.map ByteArray.size).sum
theorem sizesS_take {xs : List ByteArray} {k : Nat} (h : k < xs.length) : sizesS (xs.take (k + 1)) = sizesS (xs.take k) + xs[k].size := by
  unfold sizesS
  rw [take_succ_get h, List.map_append, List.sum_append]
  simp only [List.map_cons, List.map_nil, List.sum_cons, List.sum_nil, Nat.add_zero]
theorem sizesS_le (xs : List ByteArray) (k : Nat) : sizesS (xs.take k) ≤ sizesS xs := by
  have e : sizesS (xs.take k ++ xs.drop k) = sizesS (xs.take k) + sizesS (xs.drop k) := by unfold sizesS; rw [List.map_append, List.sum_append]
  rw [List.take_append_drop] at e
  omega
/-- What is left. -/
def leftS (need : Nat) : Int := if need ≤ 1048576 then ((1048576 - need : Nat) : Int) else -1

set_option maxHeartbeats 2000000 in
set_option maxRecDepth 100000 in
theorem szStrs_any (A : Option Addr) (c : Nat) (xs : List ByteArray) (w : World) (hN : Strs w w.heap.size A xs) (hF : ∀ x ∈ xs, x.size ≤ maxLen) (hn : xs.length ≤ maxLen) :
    Calls Tryd.prog 59 #[.slice A xs.length c, .int .i64 1048576] w fun e w' => e = .returned (.int .i64 (leftS (xs.length + sizesS xs))) ∧ Below w.heap.size w w' := by
  have hn' := hn
  unfold maxLen at hn'
  by_cases h : xs.length ≤ 1048576
  · have hi : ¬ ((1048576 : Int) - (xs.length : Int)) < 0 := by omega
    obtain ⟨L, hL⟩ : ∃ L, 1048576 - xs.length = L := ⟨_, rfl⟩
    have hj : (1048576 : Int) - (xs.length : Int) = (L : Int) := by omega
    have hLl : L ≤ 1048576 := by omega
    have HL := Lib.hid hL
    clear hL
    go_enter Tryd.func59, Tryd.ntmps59
    go_wp2
    clear hi hj
    go_loopw [1, 5] (fun l i wr => ∃ k : Nat, k ≤ xs.length ∧ i = .int .i64 k ∧ sizesS (xs.take k) ≤ L ∧ l = .int .i64 ((L - sizesS (xs.take k) : Nat) : Int) ∧ Below w.heap.size w wr) (fun _ i _ => xs.length - (intOf i).toNat)
    case atStart => exact ⟨0, Nat.zero_le _, rfl, by simp [sizesS], by simp [sizesS], Below.refl _ _⟩
    case round =>
      obtain ⟨k, hk, rfl, hb, rfl, hbel⟩ := hrel
      by_cases hlt : k < xs.length
      · obtain ⟨b, o, rfl, hbb, hc⟩ := hN k hlt
        have hcr := (hbel.cell (p := ⟨b, o + k, none⟩) hbb).trans hc
        have hsz := hF _ (List.getElem_mem hlt)
        unfold maxLen at hsz
        obtain ⟨X, hX⟩ : ∃ X, sizesS (xs.take k) = X := ⟨_, rfl⟩
        rw [hX] at hb
        have hT := sizesS_take hlt
        have hle := sizesS_le xs (k + 1)
        rw [hX] at hT
        obtain ⟨x, hx⟩ : ∃ x, xs[k] = x := ⟨_, rfl⟩
        rw [hx] at hcr hsz hT
        rw [hX]
        have HT := Lib.hid hT
        have HLe := Lib.hid hle
        clear hc hN hF hX hx hT hle
        by_cases q : x.size ≤ L - X
        · have h1 : ¬ (((L - X : Nat) : Int) - (x.size : Int)) < 0 := by omega
          have h2 : ((L - X : Nat) : Int) - (x.size : Int) = ((L - X - x.size : Nat) : Int) := by omega
          go_wp2
          go_roundw
          case rel => exact ⟨k + 1, hlt, by go_num, by have := HT.out; omega, by rw [HT.out, Nat.sub_sub], hbel⟩
          case measure => simp [intOf]; omega
        · have h1 : (((L - X : Nat) : Int) - (x.size : Int)) < 0 := by omega
          go_wp2
          go_ret
          exact ⟨by have h3 := HT.out; have h4 := HLe.out; have h5 := HL.out; unfold leftS; rw [if_neg (by omega)]; rfl, hbel⟩
      · obtain rfl : k = xs.length := by omega
        rw [List.take_length] at hb ⊢
        obtain ⟨X, hX⟩ : ∃ X, sizesS xs = X := ⟨_, rfl⟩
        rw [hX] at hb ⊢
        clear hN hF
        go_wp2
        go_ret
        exact ⟨by have h5 := HL.out; unfold leftS; rw [hX, if_pos (by omega), ← h5, Nat.sub_sub]; rfl, hbel⟩
  · have hi : ((1048576 : Int) - (xs.length : Int)) < 0 := by omega
    have hR : Hid (leftS (xs.length + sizesS xs) = -1) := by show _ = _; unfold leftS; rw [if_neg (by omega)]
    clear hN hF
    go_enter Tryd.func59, Tryd.ntmps59
    go_wp2
    go_ret
    exact ⟨by rw [hR.out]; rfl, Below.refl _ _⟩

theorem copiedS_step (zs : List ByteArray) (k : Nat) (h : k < zs.length) :
    (((zs.take k ++ List.replicate (zs.length - k) (⟨#[]⟩ : ByteArray)).map Value.string).set k (.string zs[k])) = (zs.take (k + 1) ++ List.replicate (zs.length - (k + 1)) (⟨#[]⟩ : ByteArray)).map Value.string := by
  have e1 : zs.take (k + 1) = zs.take k ++ [zs[k]] := take_succ_get h
  obtain ⟨m, hm⟩ : ∃ m, zs.length - k = m + 1 := ⟨zs.length - k - 1, by omega⟩
  have hl : ((zs.take k).map Value.string).length = k := by simp; omega
  rw [e1, hm, show zs.length - (k + 1) = m by omega, List.replicate_succ, List.map_append, List.set_append_right _ _ (by omega), hl, Nat.sub_self, List.map_cons, List.set_cons_zero, List.map_append, List.map_append, List.append_assoc]
  rfl

set_option maxHeartbeats 1000000 in
set_option maxRecDepth 100000 in
theorem toStrs_any (A : Option Addr) (c : Nat) (zs : List ByteArray) (w : World) (hlen : zs.length ≤ 1048576) (hN : Strs w w.heap.size A zs) :
    Calls Tryd.prog 60 #[.slice A zs.length c] w fun e w' => e = .returned (.slice (some ⟨w.heap.size, 0, none⟩) zs.length zs.length) ∧
      w'.ownsRow w.heap.size 9 1 (.slice (some ⟨w.heap.size, 0, none⟩) zs.length zs.length) zs.length (zs.map Value.string) ∧ Below w.heap.size w w' := by
  obtain ⟨i0, hi, hz0, hz1, hz2⟩ := info_parts Tryd.infoStrS
  go_enter Tryd.func60, Tryd.ntmps60
  go_wp2_with (at_make; refine wpList_make_full _ rfl _ _ 44 rfl w.heap.size 9 i0 (.string ⟨#[]⟩) 1 Tryd.underlying44 hi hz0 hz1 _ _ _ _ zs.length rfl rfl rfl rfl (by rw [hz2]; omega) (by unfold maxLen; omega) (Nat.le_refl _) ?_; intro w0 hown0 hgrow0)
  have hb0 : Below w.heap.size w w0 := (Below.refl _ _).grown hgrow0 (Nat.le_refl _) (fun k h => by cases h)
  have hown0' : w0.ownsRow w.heap.size 9 1 (.slice (some ⟨w.heap.size, 0, none⟩) zs.length zs.length) zs.length ((zs.take 0 ++ List.replicate (zs.length - 0) (⟨#[]⟩ : ByteArray)).map Value.string) := by
    have e : (madeCells (Value.string ⟨#[]⟩).cells (zs.length * 1)).toList = (zs.take 0 ++ List.replicate (zs.length - 0) (⟨#[]⟩ : ByteArray)).map Value.string := by
      rw [Nat.mul_one]
      show (madeCells #[Value.string ⟨#[]⟩] zs.length).toList = _
      rw [toList_madeCells_one]
      simp
    rw [← e]
    exact hown0
  clear hown0 hgrow0
  go_wp2
  go_loopw [4] (fun i wr => ∃ k : Nat, k ≤ zs.length ∧ i = .int .i64 k ∧ wr.ownsRow w.heap.size 9 1 (.slice (some ⟨w.heap.size, 0, none⟩) zs.length zs.length) zs.length ((zs.take k ++ List.replicate (zs.length - k) (⟨#[]⟩ : ByteArray)).map Value.string) ∧ Below w.heap.size w wr)
    (fun i _ => zs.length - (intOf i).toNat)
  case atStart => exact ⟨0, Nat.zero_le _, rfl, hown0', hb0⟩
  case round =>
    obtain ⟨k, hk, rfl, hown, hbel⟩ := hrel
    clear hown0' hb0
    by_cases hlt : k < zs.length
    · obtain ⟨b, o, rfl, hb, hc⟩ := hN k hlt
      have hcr : wr.cell? ⟨b, o + k, none⟩ = some (.string zs[k]) := (hbel.cell (p := ⟨b, o + k, none⟩) hb).trans hc
      have hco : wr.cell? ⟨w.heap.size, k, none⟩ = some (.string ⟨#[]⟩) := by
        rw [hown.cellAt k (by omega)]
        simp [show min k zs.length = k by omega, show 0 < zs.length - k by omega]
      have hfo : wr.frozen? ⟨w.heap.size, k, none⟩ = false := hown.frozenAt k
      have hst := hown.stored k (.string zs[k])
      have HS : Hid (_ = _) := copiedS_step zs k hlt
      clear hc hN
      go_wp2
      go_roundw
      case rel => exact ⟨k + 1, hlt, by go_num, by rw [← HS.out]; exact hst.1, hbel.setCell (Nat.le_refl _) _⟩
      case measure => simp [intOf]; omega
    · obtain rfl : k = zs.length := by omega
      go_wp2
      go_ret
      exact ⟨rfl, by simpa using hown, hbel⟩

end Go.Proofs.YtjklnfcoaakkgaaDoor
