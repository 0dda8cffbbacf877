/- spec.FileOk and impl.FileOk tell whether a string is the text of a file. Conditions: at most 1048576 bytes; for the program utf8's two tables hold what Go's text lays. -/
import Derived.Test.YtjklnfcoaakkgaaDoorSpecRunesA
import Derived.Test.YtjklnfcoaakkgaaDoorImplOk
namespace Go.Proofs.YtjklnfcoaakkgaaDoor
open Go.RowKit

/-- Is it the text of a file? -/
def fileB (s : ByteArray) : Bool := decide (s.size ≤ 4000) && (runesFrom s s.size 0).isSome
theorem fileB_big {s : ByteArray} (h : ¬ s.size ≤ 4000) : fileB s = false := by unfold fileB; rw [decide_eq_false h]; rfl
theorem fileB_in {s : ByteArray} (h : s.size ≤ 4000) : fileB s = (runesFrom s s.size 0).isSome := by unfold fileB; rw [decide_eq_true h]; rfl
theorem well_eq (s : ByteArray) : (Lib.validD s.data.toList && decide (Lib.indexByte s.data.toList 0 < 0)) = (runesFrom s s.size 0).isSome := by
  rw [index_zf, ← valid_from s s.size 0 (by omega)]
  simp

set_option maxHeartbeats 1000000 in
set_option maxRecDepth 100000 in
theorem implFileOk (s : ByteArray) (w : World) (hs : s.size ≤ 1048576) (hT : Tabs w) : Calls Tryd.prog 28 #[.string s] w (BoolIs (fileB s) w) := by
  by_cases hbig : s.size ≤ 4000
  · have HE : Hid ((Lib.validD s.data.toList && decide (Lib.indexByte s.data.toList 0 < 0)) = fileB s) := by show _ = _; rw [fileB_in hbig]; exact well_eq s
    have cV : Calls Tryd.prog 66 #[.string s] w fun e w' => e = .returned (.bool (Lib.validD s.data.toList)) ∧ Below w.heap.size w w' := Any.utf8_ValidString Tryd.laysValid s w (by omega) hT
    have cI : ∀ W, Calls Tryd.prog 67 #[.string s, .int .u8 0] W fun e w' => e = .returned (.int .i64 (Lib.indexByte s.data.toList 0)) ∧ w' = W := fun W => Tryd.strings_IndexByte s 0 W
    generalize Lib.indexByte s.data.toList 0 = X at cI HE
    generalize fileB s = R at HE ⊢
    generalize Lib.validD s.data.toList = V at cV HE
    clear hT
    cases V
    · go_enter Tryd.func28, Tryd.ntmps28
      go_wp2_with (first | (go_at_call 66; refine cV.mono ?_; rintro e w1 ⟨rfl, hb⟩) | go_in)
      go_ret
      exact ⟨by rw [← HE.out]; rfl, hb⟩
    · by_cases hx : X < 0
      all_goals
        go_enter Tryd.func28, Tryd.ntmps28
        go_wp2_with (first | (go_at_call 66; refine cV.mono ?_; rintro e w1 ⟨rfl, hb⟩) | (go_at_call 67; refine (cI _).mono ?_; rintro e w2 ⟨rfl, rfl⟩) | go_in)
        go_ret
        exact ⟨by rw [← HE.out]; simp <;> omega, hb⟩
  · have HE := Lib.hid (fileB_big hbig)
    clear hT
    generalize fileB s = R at HE ⊢
    go_enter Tryd.func28, Tryd.ntmps28
    go_wp2
    go_ret
    exact ⟨by rw [HE.out]; rfl, Below.refl _ _⟩

def FileRel (s : ByteArray) (w : World) (p : Value) (wr : World) : Prop :=
  ∃ (i f : Nat), i ≤ s.size ∧ p = .int .i64 i ∧ s.size ≤ i + f ∧ (runesFrom s f i).isSome = fileB s ∧ Below w.heap.size w wr

set_option maxHeartbeats 2000000 in
set_option maxRecDepth 100000 in
theorem specFileOk (s : ByteArray) (w : World) (hs : s.size ≤ 1048576) : Calls Tryd.prog 32 #[.string s] w (BoolIs (fileB s) w) := by
  by_cases hbig : s.size ≤ 4000
  · have HR := Lib.hid (fileB_in hbig)
    go_enter Tryd.func32, Tryd.ntmps32
    go_wp2
    go_loopw [3] (fun p wr => FileRel s w p wr) (fun p _ => s.size - (intOf p).toNat)
    case atStart => exact ⟨0, s.size, Nat.zero_le _, rfl, by omega, HR.out.symm, Below.refl _ _⟩
    case round =>
      obtain ⟨i, f, hil, rfl, hf, hgo, hbel⟩ := hrel
      have HG := Lib.hid hgo; clear hgo
      by_cases hlt : i < s.size
      · have hfit := nx_fits hlt
        have cN : ∀ W, Calls Tryd.prog 56 #[.string s, .int .i64 i] W fun e w' => e = .returned (.tuple #[.int .i64 (nx s i).1, .int .i64 (nx s i).2]) ∧ Below W.heap.size W w' := fun W => next_any s i W hs hlt
        obtain ⟨c, hc⟩ : ∃ c, (nx s i).1 = c := ⟨_, rfl⟩
        obtain ⟨n, hn⟩ : ∃ n, (nx s i).2 = n := ⟨_, rfl⟩
        rw [hn] at hfit
        rw [hc, hn] at cN
        have HC := Lib.hid hc; have HN := Lib.hid hn
        clear hc hn
        by_cases h0 : n = 0
        · subst h0
          go_wp2_with (go_at_call 56; refine (cN _).mono ?_; rintro e w1 ⟨rfl, hb1⟩)
          go_ret
          exact ⟨by rw [← HG.out, runesFrom_no hf hlt HN.out]; rfl, hbel.trans (hb1.mono hbel.size)⟩
        · have h0z : ((n : Int) == 0) = false := by simp; omega
          go_wp2_with (go_at_call 56; refine (cN _).mono ?_; rintro e w1 ⟨rfl, hb1⟩)
          have hb2 : Below w.heap.size w w1 := hbel.trans (hb1.mono hbel.size)
          clear cN hbel hb1
          go_roundw
          case rel =>
            refine ⟨i + n, f - 1, hfit, by go_num, by omega, ?_, hb2⟩
            rw [← HG.out, runesFrom_on hf hlt (by rw [HN.out]; exact h0), Option.isSome_map, HN.out]
          case measure => simp [intOf]; omega
      · go_wp2
        go_ret
        exact ⟨by rw [← HG.out, runesFrom_end hlt]; rfl, hbel⟩
  · have HE := Lib.hid (fileB_big hbig)
    generalize fileB s = R at HE ⊢
    go_enter Tryd.func32, Tryd.ntmps32
    go_wp2
    go_ret
    exact ⟨by rw [HE.out]; rfl, Below.refl _ _⟩

end Go.Proofs.YtjklnfcoaakkgaaDoor
