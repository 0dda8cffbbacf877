/- impl.TextOk tells whether a string is a text. Conditions: at most 1048576 bytes; utf8's two tables hold what Go's text lays. -/
import Derived.Test.YtjklnfcoaakkgaaDoorRows
import Derived.Test.YtjklnfcoaakkgaaDoorMem
import Derived.Test.YtjklnfcoaakkgaaDoorValidA
import Derived.Test.YtjklnfcoaakkgaaDoorShelf
import Derived.Lib.Hide
namespace Go.Proofs.YtjklnfcoaakkgaaDoor
open Go.RowKit

def Tabs (w : World) : Prop := Lib.Utf8Tabs (Tryd.laysValid_ren.g 3) (Tryd.laysValid_ren.g 4) w
theorem Tabs.below {w w' : World} (h : Tabs w) (hb : Below w.heap.size w w') : Tabs w' := Utf8Tabs_below h hb

def BoolIs (b : Bool) (w : World) (e : Ending) (w' : World) : Prop := e = .returned (.bool b) ∧ Below w.heap.size w w'

set_option maxHeartbeats 1000000 in
set_option maxRecDepth 100000 in
theorem implTextOk (s : ByteArray) (w : World) (hs : s.size ≤ 1048576) (hT : Tabs w) : Calls Tryd.prog 62 #[.string s] w (BoolIs (runesOf s).isSome w) := by
  by_cases hbig : s.size ≤ 1000
  · have HE := Lib.hid (textOk_eq s hbig)
    have cV : Calls Tryd.prog 66 #[.string s] w fun e w' => e = .returned (.bool (Lib.validD s.data.toList)) ∧ Below w.heap.size w w' := Any.utf8_ValidString Tryd.laysValid s w (by omega) hT
    have cI : ∀ W, Calls Tryd.prog 67 #[.string s, .int .u8 0] W fun e w' => e = .returned (.int .i64 (Lib.indexByte s.data.toList 0)) ∧ w' = W := fun W => Tryd.strings_IndexByte s 0 W
    generalize Lib.indexByte s.data.toList 0 = X at cI HE
    generalize (runesOf s).isSome = R at HE ⊢
    generalize Lib.validD s.data.toList = V at cV HE
    clear hT
    cases V
    · go_enter Tryd.func62, Tryd.ntmps62
      go_wp2_with (first | (go_at_call 66; refine cV.mono ?_; rintro e w1 ⟨rfl, hb⟩) | go_in)
      go_ret
      exact ⟨by rw [← HE.out]; rfl, hb⟩
    · by_cases hx : X < 0
      all_goals
        go_enter Tryd.func62, Tryd.ntmps62
        go_wp2_with (first | (go_at_call 66; refine cV.mono ?_; rintro e w1 ⟨rfl, hb⟩) | (go_at_call 67; refine (cI _).mono ?_; rintro e w2 ⟨rfl, rfl⟩) | go_in)
        go_ret
        exact ⟨by rw [← HE.out]; simp <;> omega, hb⟩
  · have HE := Lib.hid (show (runesOf s).isSome = false by unfold runesOf; rw [if_pos (by omega)]; rfl)
    clear hT
    generalize (runesOf s).isSome = R at HE ⊢
    go_enter Tryd.func62, Tryd.ntmps62
    go_wp2
    go_ret
    exact ⟨by rw [HE.out]; rfl, Below.refl _ _⟩

end Go.Proofs.YtjklnfcoaakkgaaDoor
