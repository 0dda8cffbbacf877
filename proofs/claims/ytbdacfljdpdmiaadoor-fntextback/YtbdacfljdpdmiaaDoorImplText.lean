/- impl.TextOf makes the text of a list of ints, where there is one. Condition: at most 1048576 elements. -/
import Derived.Test.YtbdacfljdpdmiaaDoorSpecText
import Derived.Test.YtbdacfljdpdmiaaDoorShelf
namespace Go.Proofs.YtbdacfljdpdmiaaDoor
open Go.RowKit
open Go.Lib (encodeRuneZ encodeRune byteCells runeCells encodeRuneZ_length)

/-- What both hand back. -/
def TextIs (zs : List Int) (w : World) (e : Ending) (w' : World) : Prop :=
  e = .returned (.tuple #[.string (txt (textGo [] zs)), .bool (textGo [] zs).isSome]) ∧ Below w.heap.size w w'

theorem TextIs.none_ {zs : List Int} {w w' : World} (h : textGo [] zs = none) (hb : Below w.heap.size w w') : TextIs zs w (.returned (.tuple #[.string ⟨#[]⟩, .bool false])) w' := by
  unfold TextIs; rw [h]; exact ⟨rfl, hb⟩
theorem TextIs.some_ {zs : List Int} {w w' : World} {a : List UInt8} (h : textGo [] zs = some a) (hb : Below w.heap.size w w') : TextIs zs w (.returned (.tuple #[.string ⟨a.toArray⟩, .bool true])) w' := by
  unfold TextIs; rw [h]; exact ⟨rfl, hb⟩

/-- What holds at the head of each round, of both. -/
def TextRel (zs : List Int) (w : World) (v i : Value) (wr : World) : Prop :=
  ∃ (k : Nat) (acc : List UInt8), k ≤ zs.length ∧ i = .int .i64 k ∧ wr.ownsRow w.heap.size 5 1 v acc.length (byteCells acc) ∧ acc.length ≤ 1000 ∧ textGo acc (zs.drop k) = textGo [] zs ∧ Below w.heap.size w wr

set_option maxHeartbeats 2000000 in
set_option maxRecDepth 100000 in
theorem implTextOf (A : Option Addr) (c : Nat) (zs : List Int) (w : World) (hlen : zs.length ≤ 1048576) (hN : Nums .i64 w w.heap.size A zs) :
    Calls Tryd.prog 20 #[.slice A zs.length c] w (TextIs zs w) := by
  go_enter Tryd.func20, Tryd.ntmps20
  go_wp2
  go_loopw [4, 9] (fun v i wr => TextRel zs w v i wr) (fun _ i _ => zs.length - (intOf i).toNat)
  case atStart => exact ⟨0, [], Nat.zero_le _, rfl, World.ownsRow_nil _ _ _ _, by simp, by simp, Below.refl _ _⟩
  case round =>
    obtain ⟨k, acc, hk, rfl, hown, hacc, hgo, hbel⟩ := hrel
    have HG := Lib.hid hgo; clear hgo
    by_cases hlt : k < zs.length
    · obtain ⟨b, o, rfl, hb, hc0⟩ := hN k hlt
      obtain ⟨z, hz⟩ : ∃ z, zs[k] = z := ⟨_, rfl⟩
      have hcr : wr.cell? ⟨b, o + k, none⟩ = some (.int .i64 z) := by rw [← hz]; exact (hbel.cell (p := ⟨b, o + k, none⟩) hb).trans hc0
      have HZ := Lib.hid hz
      clear hz hc0 hN
      have hm := encodeRuneZ_length z
      obtain ⟨A1, c1, rfl⟩ := own_form hown
      by_cases hp : pt z = true
      · have hz0 : 1 ≤ z := (pt_iff.1 hp).1
        have hz1 : z ≤ 1114111 := (pt_iff.1 hp).2.1
        by_cases hl : 1000 < acc.length + (encodeRuneZ z).length
        all_goals
          go_wp2_with (first
            | (go_at_call 43; refine (isPoint_any _ _).mono ?_; rintro e w' ⟨rfl, rfl⟩)
            | (go_at_call 44; refine (Tryd.utf8_AppendRune_plain w.heap.size _ acc.length (byteCells acc) z (by omega) (by omega) _ hown (by omega) hbel.size).mono ?_; rintro e w1 ⟨v', rfl, hown1, o1, hgrow1⟩; have hown2 : w1.ownsRow w.heap.size 5 1 v' (acc.length + (encodeRuneZ z).length) (byteCells acc ++ (encodeRuneZ z).map (Value.int .u8)) := (by rw [show (encodeRuneZ z).length = (runeCells z).length from (by simp [runeCells])]; exact hown1); clear hown1; obtain ⟨A2, c2, rfl⟩ := own_form hown2))
          have hb1 : Below w.heap.size w w1 := (hbel.alloc hbel.size o1).grown hgrow1 (by have := hbel.size; simp; omega) (own_block hown)
          have hown3 := own_more hown2
          clear hown2 hgrow1 hown hbel
          first
            | (go_ret2
               exact TextIs.none_ (by rw [← HG.out]; exact textGo_long hlt (by rw [HZ.out, ← encZ_length]; exact hl)) hb1)
            | (go_roundw
               case rel => exact ⟨k + 1, acc ++ encodeRune z, hlt, by go_num, by simpa [encZ_length] using hown3, by simp; rw [← encZ_length]; omega, by rw [← HG.out, ← HZ.out]; exact (textGo_on hlt (by rw [HZ.out]; exact hp) (by rw [HZ.out, ← encZ_length]; exact hl)).symm, hb1⟩
               case measure => simp [intOf]; omega)
      · have hp' : pt z = false := by simpa using hp
        clear hp
        go_wp2_with (go_at_call 43; refine (isPoint_any _ _).mono ?_; rintro e w' ⟨rfl, rfl⟩)
        go_ret2
        exact TextIs.none_ (by rw [← HG.out]; exact textGo_bad hlt (by rw [HZ.out]; exact hp')) hbel
    · have hcv := conv_own (P := Tryd.prog) (dst := 9) Tryd.underlying22 Tryd.underlying5 Tryd.underlying9 hown
      go_wp2
      go_ret2
      exact TextIs.some_ (by rw [← HG.out]; exact textGo_end (by omega)) hbel

theorem textGo_cat : ∀ (l : List Int) (acc : List UInt8), (∀ c ∈ l, pt c = true) → acc.length + (cat l).length ≤ 1000 → textGo acc l = some (acc ++ cat l)
  | [], acc, _, _ => by simp [textGo, cat]
  | c :: l, acc, hp, hl => by
    rw [cat_cons, List.length_append] at hl
    have h1 : pt c = true := hp c (by simp)
    have h2 := textGo_cat l (acc ++ encodeRune c) (fun d hd => hp d (by simp [hd])) (by rw [List.length_append]; omega)
    rw [cat_cons, ← List.append_assoc, ← h2]
    simp [textGo, h1]
    omega

end Go.Proofs.YtbdacfljdpdmiaaDoor
