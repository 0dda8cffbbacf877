/- The program's reader of patterns: classEnds. No condition. -/
import Derived.Test.YtimmbllhjmponaaDoorRxI3
namespace Go.Proofs.YtimmbllhjmponaaDoor
set_option linter.unusedVariables false
open Go.RowKit

/-- A list of ints in new memory. -/
def NewInts (l : List Int) (w : World) (e : Ending) (w' : World) : Prop := ∃ v, e = .returned v ∧ RowI w' w.heap.size v l ∧ Keep [] w w'

theorem new_ints (w : World) (l : List Int) (hl : l.length ≤ maxLen) : RowI (w.alloc (.cells (l.map (Value.int .i64)).toArray 3)) w.heap.size (.slice (some ⟨w.heap.size, 0, none⟩) l.length l.length) l :=
  ⟨by simp, .inr ⟨w.heap.size, l.length, (l.map (Value.int .i64)).toArray, rfl, Nat.le_refl _, heap_alloc_new w _, Nat.le_refl _, hl, by simp, by rw [Nat.mul_one, List.toList_toArray]; exact List.take_of_length_le (by simp)⟩⟩

set_option maxHeartbeats 1000000 in
set_option maxRecDepth 100000 in
theorem ends_alpha (w : World) : Calls Tryd.prog 71 #[.string ⟨#[97, 108, 112, 104, 97]⟩] w (NewInts [65, 90, 97, 122] w) := by
  go_enter Tryd.func71, Tryd.ntmps71
  go_wp2
  go_ret
  exact ⟨_, rfl, new_ints w [65, 90, 97, 122] (by decide), (Keep.refl [] w).alloc _⟩
set_option maxHeartbeats 1000000 in
set_option maxRecDepth 100000 in
theorem ends_digit (w : World) : Calls Tryd.prog 71 #[.string ⟨#[100, 105, 103, 105, 116]⟩] w (NewInts [48, 57] w) := by
  go_enter Tryd.func71, Tryd.ntmps71
  go_wp2
  go_ret
  exact ⟨_, rfl, new_ints w [48, 57] (by decide), (Keep.refl [] w).alloc _⟩
set_option maxHeartbeats 1000000 in
set_option maxRecDepth 100000 in
theorem ends_alnum (w : World) : Calls Tryd.prog 71 #[.string ⟨#[97, 108, 110, 117, 109]⟩] w (NewInts [48, 57, 65, 90, 97, 122] w) := by
  go_enter Tryd.func71, Tryd.ntmps71
  go_wp2
  go_ret
  exact ⟨_, rfl, new_ints w [48, 57, 65, 90, 97, 122] (by decide), (Keep.refl [] w).alloc _⟩
set_option maxHeartbeats 1000000 in
set_option maxRecDepth 100000 in
theorem ends_upper (w : World) : Calls Tryd.prog 71 #[.string ⟨#[117, 112, 112, 101, 114]⟩] w (NewInts [65, 90] w) := by
  go_enter Tryd.func71, Tryd.ntmps71
  go_wp2
  go_ret
  exact ⟨_, rfl, new_ints w [65, 90] (by decide), (Keep.refl [] w).alloc _⟩
set_option maxHeartbeats 1000000 in
set_option maxRecDepth 100000 in
theorem ends_lower (w : World) : Calls Tryd.prog 71 #[.string ⟨#[108, 111, 119, 101, 114]⟩] w (NewInts [97, 122] w) := by
  go_enter Tryd.func71, Tryd.ntmps71
  go_wp2
  go_ret
  exact ⟨_, rfl, new_ints w [97, 122] (by decide), (Keep.refl [] w).alloc _⟩
set_option maxHeartbeats 1000000 in
set_option maxRecDepth 100000 in
theorem ends_space (w : World) : Calls Tryd.prog 71 #[.string ⟨#[115, 112, 97, 99, 101]⟩] w (NewInts [9, 13, 32, 32] w) := by
  go_enter Tryd.func71, Tryd.ntmps71
  go_wp2
  go_ret
  exact ⟨_, rfl, new_ints w [9, 13, 32, 32] (by decide), (Keep.refl [] w).alloc _⟩
set_option maxHeartbeats 1000000 in
set_option maxRecDepth 100000 in
theorem ends_blank (w : World) : Calls Tryd.prog 71 #[.string ⟨#[98, 108, 97, 110, 107]⟩] w (NewInts [9, 9, 32, 32] w) := by
  go_enter Tryd.func71, Tryd.ntmps71
  go_wp2
  go_ret
  exact ⟨_, rfl, new_ints w [9, 9, 32, 32] (by decide), (Keep.refl [] w).alloc _⟩
set_option maxHeartbeats 1000000 in
set_option maxRecDepth 100000 in
theorem ends_punct (w : World) : Calls Tryd.prog 71 #[.string ⟨#[112, 117, 110, 99, 116]⟩] w (NewInts [33, 47, 58, 64, 91, 96, 123, 126] w) := by
  go_enter Tryd.func71, Tryd.ntmps71
  go_wp2
  go_ret
  exact ⟨_, rfl, new_ints w [33, 47, 58, 64, 91, 96, 123, 126] (by decide), (Keep.refl [] w).alloc _⟩
set_option maxHeartbeats 1000000 in
set_option maxRecDepth 100000 in
theorem ends_xdigit (w : World) : Calls Tryd.prog 71 #[.string ⟨#[120, 100, 105, 103, 105, 116]⟩] w (NewInts [48, 57, 65, 70, 97, 102] w) := by
  go_enter Tryd.func71, Tryd.ntmps71
  go_wp2
  go_ret
  exact ⟨_, rfl, new_ints w [48, 57, 65, 70, 97, 102] (by decide), (Keep.refl [] w).alloc _⟩

set_option maxHeartbeats 1000000 in
set_option maxRecDepth 100000 in
theorem ends_none (t : ByteArray) (w : World) (h0 : (t.toList == [97, 108, 112, 104, 97]) = false) (h1 : (t.toList == [100, 105, 103, 105, 116]) = false) (h2 : (t.toList == [97, 108, 110, 117, 109]) = false) (h3 : (t.toList == [117, 112, 112, 101, 114]) = false) (h4 : (t.toList == [108, 111, 119, 101, 114]) = false) (h5 : (t.toList == [115, 112, 97, 99, 101]) = false) (h6 : (t.toList == [98, 108, 97, 110, 107]) = false) (h7 : (t.toList == [112, 117, 110, 99, 116]) = false) (h8 : (t.toList == [120, 100, 105, 103, 105, 116]) = false) : Calls Tryd.prog 71 #[.string t] w (NewInts [] w) := by
  go_enter Tryd.func71, Tryd.ntmps71
  go_wp2
  go_ret
  exact ⟨_, rfl, row_nil _ _, Keep.refl _ _⟩

def bi (b : UInt8) : Int := b.toNat
theorem bi_inj {a b : List UInt8} (h : a.map bi = b.map bi) : a = b := by
  induction a generalizing b with
  | nil => cases b <;> simp_all
  | cons x r ih =>
    cases b with
    | nil => simp at h
    | cons y q =>
      simp only [List.map_cons, List.cons.injEq] at h
      rw [ih h.2]
      have : x.toNat = y.toNat := by have := h.1; unfold bi at this; omega
      rw [UInt8.toNat_inj.1 this]
theorem list_ba (bs : List UInt8) : (⟨bs.toArray⟩ : ByteArray).toList = bs := by rw [ByteArray.toList_eq]
theorem ba_eq {bs l : List UInt8} (h : bs = l) : (⟨bs.toArray⟩ : ByteArray) = ⟨l.toArray⟩ := by rw [h]

set_option maxRecDepth 100000 in
theorem classEnds_any (bs : List UInt8) (w : World) : Calls Tryd.prog 71 #[.string ⟨bs.toArray⟩] w (NewInts (classOf (bs.map bi)) w) := by
  have no : ∀ l : List UInt8, ¬ bs = l → ((⟨bs.toArray⟩ : ByteArray).toList == l) = false := fun l h => by rw [list_ba, beq_eq_false_iff_ne]; exact h
  by_cases h0 : bs = [97, 108, 112, 104, 97]
  · rw [h0]
    have e : classOf (([97, 108, 112, 104, 97] : List UInt8).map bi) = [65, 90, 97, 122] := by decide
    rw [e]
    exact ends_alpha w
  by_cases h1 : bs = [100, 105, 103, 105, 116]
  · rw [h1]
    have e : classOf (([100, 105, 103, 105, 116] : List UInt8).map bi) = [48, 57] := by decide
    rw [e]
    exact ends_digit w
  by_cases h2 : bs = [97, 108, 110, 117, 109]
  · rw [h2]
    have e : classOf (([97, 108, 110, 117, 109] : List UInt8).map bi) = [48, 57, 65, 90, 97, 122] := by decide
    rw [e]
    exact ends_alnum w
  by_cases h3 : bs = [117, 112, 112, 101, 114]
  · rw [h3]
    have e : classOf (([117, 112, 112, 101, 114] : List UInt8).map bi) = [65, 90] := by decide
    rw [e]
    exact ends_upper w
  by_cases h4 : bs = [108, 111, 119, 101, 114]
  · rw [h4]
    have e : classOf (([108, 111, 119, 101, 114] : List UInt8).map bi) = [97, 122] := by decide
    rw [e]
    exact ends_lower w
  by_cases h5 : bs = [115, 112, 97, 99, 101]
  · rw [h5]
    have e : classOf (([115, 112, 97, 99, 101] : List UInt8).map bi) = [9, 13, 32, 32] := by decide
    rw [e]
    exact ends_space w
  by_cases h6 : bs = [98, 108, 97, 110, 107]
  · rw [h6]
    have e : classOf (([98, 108, 97, 110, 107] : List UInt8).map bi) = [9, 9, 32, 32] := by decide
    rw [e]
    exact ends_blank w
  by_cases h7 : bs = [112, 117, 110, 99, 116]
  · rw [h7]
    have e : classOf (([112, 117, 110, 99, 116] : List UInt8).map bi) = [33, 47, 58, 64, 91, 96, 123, 126] := by decide
    rw [e]
    exact ends_punct w
  by_cases h8 : bs = [120, 100, 105, 103, 105, 116]
  · rw [h8]
    have e : classOf (([120, 100, 105, 103, 105, 116] : List UInt8).map bi) = [48, 57, 65, 70, 97, 102] := by decide
    rw [e]
    exact ends_xdigit w
  have e : classOf (bs.map bi) = [] := by
    have ne : ∀ l : List UInt8, ¬ bs = l → ¬ bs.map bi = l.map bi := fun l h e => h (bi_inj e)
    unfold classOf
    rw [if_neg (show ¬ bs.map bi = [97, 108, 112, 104, 97] from ne [97, 108, 112, 104, 97] h0)]
    rw [if_neg (show ¬ bs.map bi = [100, 105, 103, 105, 116] from ne [100, 105, 103, 105, 116] h1)]
    rw [if_neg (show ¬ bs.map bi = [97, 108, 110, 117, 109] from ne [97, 108, 110, 117, 109] h2)]
    rw [if_neg (show ¬ bs.map bi = [117, 112, 112, 101, 114] from ne [117, 112, 112, 101, 114] h3)]
    rw [if_neg (show ¬ bs.map bi = [108, 111, 119, 101, 114] from ne [108, 111, 119, 101, 114] h4)]
    rw [if_neg (show ¬ bs.map bi = [115, 112, 97, 99, 101] from ne [115, 112, 97, 99, 101] h5)]
    rw [if_neg (show ¬ bs.map bi = [98, 108, 97, 110, 107] from ne [98, 108, 97, 110, 107] h6)]
    rw [if_neg (show ¬ bs.map bi = [112, 117, 110, 99, 116] from ne [112, 117, 110, 99, 116] h7)]
    rw [if_neg (show ¬ bs.map bi = [120, 100, 105, 103, 105, 116] from ne [120, 100, 105, 103, 105, 116] h8)]
  rw [e]
  exact ends_none _ w (no _ h0) (no _ h1) (no _ h2) (no _ h3) (no _ h4) (no _ h5) (no _ h6) (no _ h7) (no _ h8)

end Go.Proofs.YtimmbllhjmponaaDoor
