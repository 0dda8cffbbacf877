/- The program's reader of patterns in memory; its small functions: ahead, take, symbols of digits and letters. Conditions: at most 1000 code points. -/
import Derived.Test.YtimmbllhjmponaaDoorRxOwn
import Derived.Test.YtimmbllhjmponaaDoorRxParse
namespace Go.Proofs.YtimmbllhjmponaaDoor
set_option linter.unusedVariables false
open Go.RowKit

/-- The reader lies at block p: the code points s, the place i, the depth d, the nodes nv. -/
structure Rs (w : World) (p : Nat) (s : List Int) (PA : Option Addr) (pc : Nat) (i d : Nat) (nv : Value) : Prop where
  at_ : w.heap[p]? = some (.cells #[.slice PA s.length pc, .int .i64 i, .int .i64 d, nv] 46 (0, 0))
  nums : Nums .i64 w p PA s

section
variable {w w1 : World} {p : Nat} {s : List Int} {PA : Option Addr} {pc i d : Nat} {nv : Value}
theorem Rs.cell (h : Rs w p s PA pc i d nv) : w.cell? ⟨p, 0, none⟩ = some (.slice PA s.length pc) ∧ w.cell? ⟨p, 1, none⟩ = some (.int .i64 i) ∧ w.cell? ⟨p, 2, none⟩ = some (.int .i64 d) ∧ w.cell? ⟨p, 3, none⟩ = some nv := by
  refine ⟨?_, ?_, ?_, ?_⟩ <;> rw [cell_of_row w p _ _ _ _ h.at_] <;> rfl
theorem Rs.frozen (h : Rs w p s PA pc i d nv) (j : Nat) : w.frozen? ⟨p, j, none⟩ = false := frozen_of_row w p j _ _ h.at_
theorem Rs.lt (h : Rs w p s PA pc i d nv) : p < w.heap.size := (Array.getElem?_eq_some_iff.1 h.at_).1
theorem Rs.keep (h : Rs w p s PA pc i d nv) {G : List Nat} (hk : Keep G w w1) (hG : ∀ b ∈ G, p < b) : Rs w1 p s PA pc i d nv :=
  ⟨(hk.block p h.lt fun e => by have := hG p e; omega).trans h.at_, hk.nums h.nums (Nat.le_of_lt h.lt) fun b hb => Nat.le_of_lt (hG b hb)⟩
theorem Rs.keep0 (h : Rs w p s PA pc i d nv) (hk : Keep [] w w1) : Rs w1 p s PA pc i d nv := h.keep hk fun _ hb => by cases hb
theorem Rs.set1 (h : Rs w p s PA pc i d nv) (j : Nat) : Rs (w.setCell ⟨p, 1, none⟩ (.int .i64 j)) p s PA pc j d nv :=
  ⟨by rw [heap_setCell_same w p 1 _ _ _ h.at_]; rfl, ((Keep.refl [p] w).setCell (.inl (by simp)) _).nums h.nums (Nat.le_of_lt h.lt) fun b hb => by simp at hb; omega⟩
theorem Rs.set2 (h : Rs w p s PA pc i d nv) (j : Nat) : Rs (w.setCell ⟨p, 2, none⟩ (.int .i64 j)) p s PA pc i j nv :=
  ⟨by rw [heap_setCell_same w p 2 _ _ _ h.at_]; rfl, ((Keep.refl [p] w).setCell (.inl (by simp)) _).nums h.nums (Nat.le_of_lt h.lt) fun b hb => by simp at hb; omega⟩
theorem Rs.set3 (h : Rs w p s PA pc i d nv) (v : Value) : Rs (w.setCell ⟨p, 3, none⟩ v) p s PA pc i d v :=
  ⟨by rw [heap_setCell_same w p 3 _ _ _ h.at_]; rfl, ((Keep.refl [p] w).setCell (.inl (by simp)) _).nums h.nums (Nat.le_of_lt h.lt) fun b hb => by simp at hb; omega⟩
theorem Rs.keepSet (h : Rs w p s PA pc i d nv) (j : Nat) (v : Value) : Keep [p] w (w.setCell ⟨p, j, none⟩ v) := (Keep.refl [p] w).setCell (.inl (by simp)) _
end

set_option maxHeartbeats 1000000 in
set_option maxRecDepth 100000 in
theorem ahead_any (n : Nat) (w : World) (p : Nat) (s : List Int) (PA : Option Addr) (pc i d : Nat) (nv : Value) (h : Rs w p s PA pc i d nv) (hs : s.length ≤ 1000) (hi : i ≤ 1005) (hn : n ≤ 1) :
    Calls Tryd.prog 32 #[.pointer (some ⟨p, 0, none⟩), .int .i64 n] w fun e w' => e = .returned (.int .i64 (pk s (i + n))) ∧ Keep [] w w' := by
  obtain ⟨c0, c1, c2, c3⟩ := h.cell
  by_cases hlt : i + n < s.length
  · obtain ⟨b, o, rfl, hb, hc⟩ := h.nums (i + n) hlt
    have hp : Hid (pk s (i + n) = s[i + n]) := pk_lt hlt
    have hz0 : (i : Int) + (n : Int) = ((i + n : Nat) : Int) := by omega
    obtain ⟨m, hm⟩ : ∃ m, i + n = m := ⟨_, rfl⟩
    obtain ⟨x, hx⟩ : ∃ x, s[i + n] = x := ⟨_, rfl⟩
    rw [hx] at hc hp
    rw [hm] at hc hz0 hlt
    clear hx hm h
    go_enter Tryd.func32, Tryd.ntmps32
    go_wp2
    go_quiet (fail)
    go_wp2
    go_quiet (fail)
    go_wp2
    go_ret
    exact ⟨by rw [hp.out]; rfl, ((Keep.refl [] w).drewN _).drewN _⟩
  · have hp : Hid (pk s (i + n) = 0) := pk_ge (by omega)
    have hz : ¬ (i : Int) + n < s.length := by omega
    clear h
    go_enter Tryd.func32, Tryd.ntmps32
    go_wp2
    go_quiet (fail)
    go_wp2
    go_ret
    exact ⟨by rw [hp.out]; rfl, (Keep.refl [] w).drewN _⟩

theorem ahead0 (w : World) (p : Nat) (s : List Int) (PA : Option Addr) (pc i d : Nat) (nv : Value) (h : Rs w p s PA pc i d nv) (hs : s.length ≤ 1000) (hi : i ≤ 1005) :
    Calls Tryd.prog 32 #[.pointer (some ⟨p, 0, none⟩), .int .i64 0] w fun e w' => e = .returned (.int .i64 (pk s i)) ∧ Keep [] w w' ∧ Rs w' p s PA pc i d nv :=
  (ahead_any 0 w p s PA pc i d nv h hs hi (by omega)).mono fun e w' ⟨h1, h2⟩ => ⟨h1, h2, h.keep0 h2⟩
theorem ahead1 (w : World) (p : Nat) (s : List Int) (PA : Option Addr) (pc i d : Nat) (nv : Value) (h : Rs w p s PA pc i d nv) (hs : s.length ≤ 1000) (hi : i ≤ 1005) :
    Calls Tryd.prog 32 #[.pointer (some ⟨p, 0, none⟩), .int .i64 1] w fun e w' => e = .returned (.int .i64 (pk s (i + 1))) ∧ Keep [] w w' ∧ Rs w' p s PA pc i d nv :=
  (ahead_any 1 w p s PA pc i d nv h hs hi (by omega)).mono fun e w' ⟨h1, h2⟩ => ⟨h1, h2, h.keep0 h2⟩

set_option maxHeartbeats 1000000 in
theorem take_no (c : Int) (w : World) (p : Nat) (s : List Int) (PA : Option Addr) (pc i d : Nat) (nv : Value) (h : Rs w p s PA pc i d nv) (hs : s.length ≤ 1000) (hi : i ≤ 1005) (hc : pk s i ≠ c) :
    Calls Tryd.prog 42 #[.pointer (some ⟨p, 0, none⟩), .int .i64 c] w fun e w' => e = .returned (.bool false) ∧ Keep [] w w' ∧ Rs w' p s PA pc i d nv := by
  have cA := ahead0 w p s PA pc i d nv h hs hi
  obtain ⟨x, hx⟩ : ∃ x, pk s i = x := ⟨_, rfl⟩
  rw [hx] at cA hc
  clear hx h
  go_enter Tryd.func42, Tryd.ntmps42
  go_wp2_with fail
  refine cA.mono ?_
  rintro e w1 ⟨rfl, k1, r1⟩
  have R1 := Lib.hid r1
  clear r1 cA
  go_wp2
  go_ret
  exact ⟨rfl, k1, R1.out⟩

set_option maxHeartbeats 1000000 in
theorem take_yes (c : Int) (w : World) (p : Nat) (s : List Int) (PA : Option Addr) (pc i d : Nat) (nv : Value) (h : Rs w p s PA pc i d nv) (hs : s.length ≤ 1000) (hi : i ≤ 1005) (hc : pk s i = c) :
    Calls Tryd.prog 42 #[.pointer (some ⟨p, 0, none⟩), .int .i64 c] w fun e w' => e = .returned (.bool true) ∧ Keep [p] w w' ∧ Rs w' p s PA pc (i + 1) d nv := by
  have cA := ahead0 w p s PA pc i d nv h hs hi
  rw [hc] at cA
  clear hc h
  go_enter Tryd.func42, Tryd.ntmps42
  go_wp2_with fail
  refine cA.mono ?_
  rintro e w1 ⟨rfl, k1, r1⟩
  obtain ⟨c0, c1, c2, c3⟩ := r1.cell
  have f1 := r1.frozen 1
  have R1 := Lib.hid (r1.set1 (i + 1))
  have K1 := Lib.hid ((k1.nil (G := [p])).setCell (p := p) (j := 1) (.inl (by simp)) (.int .i64 ((i + 1 : Nat) : Int)))
  have hz0 : (i : Int) + 1 = ((i + 1 : Nat) : Int) := by omega
  obtain ⟨m, hm⟩ : ∃ m, i + 1 = m := ⟨_, rfl⟩
  rw [hm] at hz0 R1 K1
  have HM := Lib.hid hm
  clear r1 cA k1 hm
  go_wp2
  go_ret
  exact ⟨rfl, K1.out, by rw [HM.out]; exact R1.out⟩

set_option maxHeartbeats 400000 in
theorem isDigit_any (c : Int) (w : World) : Calls Tryd.prog 68 #[.int .i64 c] w fun e w' => e = .returned (.bool (isDig c)) ∧ w = w' := by
  unfold isDig
  by_cases h1 : 48 ≤ c
  · by_cases h2 : c ≤ 57
    · rw [decide_eq_true ⟨h1, h2⟩]
      go_enter Tryd.func68, Tryd.ntmps68
      go_wp2
      go_ret
      exact ⟨rfl, rfl⟩
    · rw [decide_eq_false (by omega)]
      go_enter Tryd.func68, Tryd.ntmps68
      go_wp2
      go_ret
      exact ⟨rfl, rfl⟩
  · rw [decide_eq_false (by omega)]
    go_enter Tryd.func68, Tryd.ntmps68
    go_wp2
    go_ret
    exact ⟨rfl, rfl⟩

set_option maxHeartbeats 400000 in
theorem isLetter_any (c : Int) (w : World) : Calls Tryd.prog 67 #[.int .i64 c] w fun e w' => e = .returned (.bool (isLet c)) ∧ w = w' := by
  unfold isLet
  by_cases h1 : 97 ≤ c
  · by_cases h2 : c ≤ 122
    · rw [decide_eq_true (.inl ⟨h1, h2⟩)]
      go_enter Tryd.func67, Tryd.ntmps67
      go_wp2
      go_ret
      exact ⟨rfl, rfl⟩
    · have h3 : 65 ≤ c := by omega
      have h4 : ¬ c ≤ 90 := by omega
      rw [decide_eq_false (by omega)]
      go_enter Tryd.func67, Tryd.ntmps67
      go_wp2
      go_ret
      exact ⟨rfl, rfl⟩
  · by_cases h3 : 65 ≤ c
    · by_cases h4 : c ≤ 90
      · rw [decide_eq_true (.inr ⟨h3, h4⟩)]
        go_enter Tryd.func67, Tryd.ntmps67
        go_wp2
        go_ret
        exact ⟨rfl, rfl⟩
      · rw [decide_eq_false (by omega)]
        go_enter Tryd.func67, Tryd.ntmps67
        go_wp2
        go_ret
        exact ⟨rfl, rfl⟩
    · rw [decide_eq_false (by omega)]
      go_enter Tryd.func67, Tryd.ntmps67
      go_wp2
      go_ret
      exact ⟨rfl, rfl⟩

end Go.Proofs.YtimmbllhjmponaaDoor
