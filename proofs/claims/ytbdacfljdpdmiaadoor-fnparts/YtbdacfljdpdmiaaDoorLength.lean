/- spec.Length and impl.Length count the code points of a text, and hand back -1 of anything else. Conditions: at most 1048576 bytes; impl: utf8's tables. -/
import Derived.Test.YtbdacfljdpdmiaaDoorSpecRunes
import Derived.Test.YtbdacfljdpdmiaaDoorImplOk
namespace Go.Proofs.YtbdacfljdpdmiaaDoor
open Go.RowKit

def lenOf (o : Option (List Int)) : Int := match o with | some l => l.length | none => -1
def LenIs (s : ByteArray) (w : World) (e : Ending) (w' : World) : Prop := e = .returned (.int .i64 (lenOf (runesOf s))) ∧ Below w.heap.size w w'

theorem count_from (s : ByteArray) : ∀ f i l, runesFrom s f i = some l → s.size ≤ i + f → Lib.runeCountFrom s f i = l.length
  | 0, i, l, h, hf => by
    rw [runesFrom] at h
    cases h
    rfl
  | f + 1, i, l, h, hf => by
    by_cases hi : i < s.size
    · by_cases h0 : (nx s i).2 = 0
      · rw [runesFrom_no hf hi h0] at h; cases h
      · rw [runesFrom_on hf hi h0] at h
        obtain ⟨l', h1, rfl⟩ := Option.map_eq_some_iff.1 h
        have hd := (nx_point h0).1
        rw [hd] at h1 h0
        have ih := count_from s f _ l' h1 (by omega)
        rw [Lib.runeCountFrom, if_pos hi, ih]
        simp; omega
    · rw [runesFrom_end hi] at h
      cases h
      rw [Lib.runeCountFrom_end s _ _ hi]; rfl

theorem count_of {s : ByteArray} {l : List Int} (h : runesOf s = some l) : Lib.runeCount s = l.length := by
  unfold runesOf at h
  split at h
  · cases h
  · exact count_from s _ 0 l h (by omega)

set_option maxHeartbeats 1000000 in
theorem specLength (s : ByteArray) (w : World) (hs : s.size ≤ 1048576) : Calls Tryd.prog 24 #[.string s] w (LenIs s w) := by
  have cR := specRunes s w hs
  unfold LenIs
  cases ho : runesOf s with
  | none =>
    rw [ho] at cR
    clear ho
    go_enter Tryd.func24, Tryd.ntmps24
    go_wp2_with fail
    refine cR.mono ?_
    rintro e w1 ⟨v, rfl, hown, hb⟩
    clear cR hown
    go_wp2
    go_ret
    exact ⟨rfl, hb⟩
  | some l =>
    rw [ho] at cR
    clear ho
    go_enter Tryd.func24, Tryd.ntmps24
    go_wp2_with fail
    refine cR.mono ?_
    rintro e w1 ⟨v, rfl, hown, hb⟩
    obtain ⟨A1, c1, rfl⟩ := own_form hown
    clear cR hown
    go_wp2
    go_ret
    exact ⟨rfl, hb⟩

set_option maxHeartbeats 1000000 in
theorem implLength (s : ByteArray) (w : World) (hs : s.size ≤ 1048576) (hT : Tabs w) : Calls Tryd.prog 19 #[.string s] w (LenIs s w) := by
  have cO := implTextOk s w hs hT
  have cC : ∀ W, Calls Tryd.prog 42 #[.string s] W fun e w' => e = .returned (.int .i64 (Lib.runeCount s)) ∧ ∃ pos, w' = W.iter s pos := fun W => Tryd.utf8_RuneCountInString s W (by omega)
  unfold LenIs
  cases ho : runesOf s with
  | none =>
    rw [ho] at cO
    clear ho cC
    go_enter Tryd.func19, Tryd.ntmps19
    go_wp2_with fail
    refine cO.mono ?_
    rintro e w1 ⟨rfl, hb⟩
    clear cO hT
    go_wp2
    go_ret
    exact ⟨rfl, hb⟩
  | some l =>
    rw [count_of ho] at cC
    rw [ho] at cO
    clear ho
    go_enter Tryd.func19, Tryd.ntmps19
    go_wp2_with fail
    refine cO.mono ?_
    rintro e w1 ⟨rfl, hb⟩
    clear cO hT
    go_wp2_with fail
    refine (cC _).mono ?_
    rintro e w2 ⟨rfl, pos, rfl⟩
    clear cC
    go_wp2
    go_ret
    exact ⟨rfl, hb.alloc hb.size _⟩

end Go.Proofs.YtbdacfljdpdmiaaDoor
