/- spec.TextOf and impl.TextOf answer the same text of every list of ints, and write nothing that was there. Condition: at most 1048576 elements. -/
import Derived.Test.YtbdacfljdpdmiaaPts
import Derived.Test.YtbdacfljdpdmiaaShelf
import Derived.Test.YtbdacfljdpdmiaaInts
namespace Go.Proofs.Ytbdacfljdpdmiaa
open Go.RowKit
open Go.Lib (encodeRuneZ encodeRune byteCells runeCells encodeRuneZ_length)

/-- What both hand back. -/
def TextIs (zs : List Int) (w : World) (e : Ending) (w' : World) : Prop :=
  e = .returned (.tuple #[.string (txt (textGo [] zs)), .bool (textGo [] zs).isSome]) ∧ Below w.heap.size w w'

theorem TextIs.none_ {zs : List Int} {w w' : World} (h : textGo [] zs = none) (hb : Below w.heap.size w w') : TextIs zs w (.returned (.tuple #[.string ⟨#[]⟩, .bool false])) w' := by
  unfold TextIs; rw [h]; exact ⟨rfl, hb⟩
theorem TextIs.some_ {zs : List Int} {w w' : World} {a : List UInt8} (h : textGo [] zs = some a) (hb : Below w.heap.size w w') : TextIs zs w (.returned (.tuple #[.string ⟨a.toArray⟩, .bool true])) w' := by
  unfold TextIs; rw [h]; exact ⟨rfl, hb⟩

/-- What holds at the head of each round, of both. -/
def TextRel (zs : List Int) (w : World) (v i : Value) (wr : World) : Prop :=
  ∃ (k : Nat) (acc : List UInt8), k ≤ zs.length ∧ i = .int .i64 k ∧ wr.ownsRow w.heap.size 5 1 v acc.length (byteCells acc) ∧ acc.length ≤ 1000 ∧ textGo acc (zs.drop k) = textGo [] zs ∧ Below w.heap.size w wr

set_option maxHeartbeats 2000000 in
set_option maxRecDepth 100000 in
theorem specTextOf (A : Option Addr) (c : Nat) (zs : List Int) (w : World) (hlen : zs.length ≤ 1048576) (hN : Nums .i64 w w.heap.size A zs) :
    Calls Try.prog 4 #[.slice A zs.length c] w (TextIs zs w) := by
  obtain ⟨i0, hi, hz0, hz1, hz2⟩ := info_parts Try.infoByte
  go_enter Try.func4, Try.ntmps4
  go_wp2
  go_loopw [4, 5] (fun v i wr => TextRel zs w v i wr) (fun _ i _ => zs.length - (intOf i).toNat)
  case atStart =>
    refine ⟨0, [], Nat.zero_le _, rfl, ?_, by simp, by simp, (Below.refl _ _).alloc (Nat.le_refl _) _⟩
    exact World.ownsRow_lit w #[] 0 (Nat.le_refl _) (Nat.zero_le _) rfl
  case round =>
    obtain ⟨k, acc, hk, rfl, hown, hacc, hgo, hbel⟩ := hrel
    have HG := Lib.hid hgo; clear hgo
    by_cases hlt : k < zs.length
    · obtain ⟨b, o, rfl, hb, hc0⟩ := hN k hlt
      obtain ⟨z, hz⟩ : ∃ z, zs[k] = z := ⟨_, rfl⟩
      have hcr : wr.cell? ⟨b, o + k, none⟩ = some (.int .i64 z) := by rw [← hz]; exact (hbel.cell (p := ⟨b, o + k, none⟩) hb).trans hc0
      have HZ := Lib.hid hz
      clear hz hc0 hN
      have hm := encodeRuneZ_length z
      obtain ⟨A1, c1, rfl⟩ := own_form hown
      by_cases hp : pt z = true
      · by_cases hl : 1000 < acc.length + (encodeRuneZ z).length
        all_goals
          go_wp2_with (first
            | (go_at_call 8; refine (point_any _ _).mono ?_; rintro e w' ⟨rfl, rfl⟩)
            | (go_at_call 9; refine (bytes_any _ _ hp).mono ?_; rintro e w' ⟨rfl, rfl⟩)
            | (at_builtin; refine wpList_append_own _ rfl _ _ 28 rfl w.heap.size 5 i0 (.int .u8 0) 1 1 Try.underlying28 hi hz0 hz1 hz2 rfl (by decide) _ _ _ rfl (hown.alloc _) ⟨wr.heap.size, 0, none⟩ _ _ ((encodeRuneZ z).map (Value.int .u8)) rfl (by simp) (new_cells wr z 5) (new_one z) (by unfold maxLen; omega) (by omega) (by have := hbel.size; simp; omega) ?_; intro v' w1 hown1 hgrow1 _; obtain ⟨A2, c2, rfl⟩ := own_form hown1))
          have hb1 : Below w.heap.size w w1 := (hbel.alloc hbel.size _).grown hgrow1 (by have := hbel.size; simp; omega) (own_block hown)
          have hown2 := own_more hown1
          clear hown1 hgrow1 hown hbel
          first
            | (go_ret2
               exact TextIs.none_ (by rw [← HG.out]; exact textGo_long hlt (by rw [HZ.out, ← encZ_length]; exact hl)) hb1)
            | (go_roundw
               case rel => exact ⟨k + 1, acc ++ encodeRune z, hlt, by go_num, by simpa [encZ_length] using hown2, by simp; rw [← encZ_length]; omega, by rw [← HG.out, ← HZ.out]; exact (textGo_on hlt (by rw [HZ.out]; exact hp) (by rw [HZ.out, ← encZ_length]; exact hl)).symm, hb1⟩
               case measure => simp [intOf]; omega)
      · have hp' : pt z = false := by simpa using hp
        clear hp
        go_wp2_with (go_at_call 8; refine (point_any _ _).mono ?_; rintro e w' ⟨rfl, rfl⟩)
        go_ret2
        exact TextIs.none_ (by rw [← HG.out]; exact textGo_bad hlt (by rw [HZ.out]; exact hp')) hbel
    · have hcv := conv_own (P := Try.prog) (dst := 9) Try.underlying28 Try.underlying5 Try.underlying9 hown
      go_wp2
      go_ret2
      exact TextIs.some_ (by rw [← HG.out]; exact textGo_end (by omega)) hbel

set_option maxHeartbeats 2000000 in
set_option maxRecDepth 100000 in
theorem implTextOf (A : Option Addr) (c : Nat) (zs : List Int) (w : World) (hlen : zs.length ≤ 1048576) (hN : Nums .i64 w w.heap.size A zs) :
    Calls Try.prog 6 #[.slice A zs.length c] w (TextIs zs w) := by
  go_enter Try.func6, Try.ntmps6
  go_wp2
  go_loopw [4, 9] (fun v i wr => TextRel zs w v i wr) (fun _ i _ => zs.length - (intOf i).toNat)
  case atStart => exact ⟨0, [], Nat.zero_le _, rfl, World.ownsRow_nil _ _ _ _, by simp, by simp, Below.refl _ _⟩
  case round =>
    obtain ⟨k, acc, hk, rfl, hown, hacc, hgo, hbel⟩ := hrel
    have HG := Lib.hid hgo; clear hgo
    by_cases hlt : k < zs.length
    · obtain ⟨b, o, rfl, hb, hc0⟩ := hN k hlt
      obtain ⟨z, hz⟩ : ∃ z, zs[k] = z := ⟨_, rfl⟩
      have hcr : wr.cell? ⟨b, o + k, none⟩ = some (.int .i64 z) := by rw [← hz]; exact (hbel.cell (p := ⟨b, o + k, none⟩) hb).trans hc0
      have HZ := Lib.hid hz
      clear hz hc0 hN
      have hm := encodeRuneZ_length z
      obtain ⟨A1, c1, rfl⟩ := own_form hown
      by_cases hp : pt z = true
      · have hz0 : 1 ≤ z := (pt_iff.1 hp).1
        have hz1 : z ≤ 1114111 := (pt_iff.1 hp).2.1
        by_cases hl : 1000 < acc.length + (encodeRuneZ z).length
        all_goals
          go_wp2_with (first
            | (go_at_call 10; refine (isPoint_any _ _).mono ?_; rintro e w' ⟨rfl, rfl⟩)
            | (go_at_call 11; refine (Try.utf8_AppendRune_plain w.heap.size _ acc.length (byteCells acc) z (by omega) (by omega) _ hown (by omega) hbel.size).mono ?_; rintro e w1 ⟨v', rfl, hown1, o1, hgrow1⟩; have hown2 : w1.ownsRow w.heap.size 5 1 v' (acc.length + (encodeRuneZ z).length) (byteCells acc ++ (encodeRuneZ z).map (Value.int .u8)) := (by rw [show (encodeRuneZ z).length = (runeCells z).length from (by simp [runeCells])]; exact hown1); clear hown1; obtain ⟨A2, c2, rfl⟩ := own_form hown2))
          have hb1 : Below w.heap.size w w1 := (hbel.alloc hbel.size o1).grown hgrow1 (by have := hbel.size; simp; omega) (own_block hown)
          have hown3 := own_more hown2
          clear hown2 hgrow1 hown hbel
          first
            | (go_ret2
               exact TextIs.none_ (by rw [← HG.out]; exact textGo_long hlt (by rw [HZ.out, ← encZ_length]; exact hl)) hb1)
            | (go_roundw
               case rel => exact ⟨k + 1, acc ++ encodeRune z, hlt, by go_num, by simpa [encZ_length] using hown3, by simp; rw [← encZ_length]; omega, by rw [← HG.out, ← HZ.out]; exact (textGo_on hlt (by rw [HZ.out]; exact hp) (by rw [HZ.out, ← encZ_length]; exact hl)).symm, hb1⟩
               case measure => simp [intOf]; omega)
      · have hp' : pt z = false := by simpa using hp
        clear hp
        go_wp2_with (go_at_call 10; refine (isPoint_any _ _).mono ?_; rintro e w' ⟨rfl, rfl⟩)
        go_ret2
        exact TextIs.none_ (by rw [← HG.out]; exact textGo_bad hlt (by rw [HZ.out]; exact hp')) hbel
    · have hcv := conv_own (P := Try.prog) (dst := 9) Try.underlying28 Try.underlying5 Try.underlying9 hown
      go_wp2
      go_ret2
      exact TextIs.some_ (by rw [← HG.out]; exact textGo_end (by omega)) hbel

end Go.Proofs.Ytbdacfljdpdmiaa
