/- The specification's drawing of two texts. Conditions: the code has at most 1048576 bytes. -/
import Derived.Test.YtbdacfljdpdmiaaDoorOpen
import Derived.Test.YtbdacfljdpdmiaaDoorSpecPart
import Derived.Test.YtbdacfljdpdmiaaDoorPartsMath
namespace Go.Proofs.YtbdacfljdpdmiaaDoor
open Go.RowKit

/-- What drawing two strings leaves. -/
def Drawn2 (w : World) (e : Ending) (w' : World) : Prop := ∃ s t : ByteArray, s.size ≤ 3000 ∧ t.size ≤ 3000 ∧ e = .returned (.tuple #[.string s, .string t]) ∧ Below w.heap.size w w'

set_option maxHeartbeats 4000000 in
set_option maxRecDepth 100000 in
theorem drawFind_any (a : Option Addr) (c : Nat) (zs : List Int) (w : World) (hlen : zs.length ≤ 1048576) (hN : Nums .u8 w w.heap.size a zs) (hZ : Bytes zs) :
    Calls Tryd.prog 25 #[.slice a zs.length c] w (Drawn2 w) := by
  have cO := open_cur a c zs w hlen hN
  clear hN
  go_enter Tryd.func25, Tryd.ntmps25
  go_wp2_with fail
  refine cO.mono ?_
  rintro e w1 ⟨rfl, hc1, hb1⟩
  clear cO
  go_wp2_with fail
  refine (any_cur 12 hlen hZ (by omega) (by omega) (by omega) hc1).mono ?_
  rintro e w2 ⟨s, hs, rfl, hc2, hb2⟩
  have D2 := hb1.trans hb2
  clear hc1 hb1 hb2
  go_wp2_with fail
  refine (any_cur 2 hlen hZ (by omega) (by omega) (by omega) hc2).mono ?_
  rintro e w3 ⟨t, ht, rfl, hc3, hb3⟩
  have D3 := D2.trans hb3
  clear hc2 hb3 D2
  go_wp2_with fail
  refine (pick_cur 2 hlen hZ (by omega) (by omega) (by omega) hc3).mono ?_
  rintro e w4 ⟨x, hx, rfl, hc4, hg4, hz4⟩
  have D4 := D3.trans (below_pick hg4 (by have := hc3.lt; omega))
  clear hc3 hg4 D3
  by_cases x0 : x = 0
  · subst x0
    go_wp2_with fail
    refine (pick_cur 6 hlen hZ (by omega) (by omega) (by omega) hc4).mono ?_
    rintro e w5 ⟨x, hx6, rfl, hc5, hg5, hz5⟩
    have D5 := D4.trans (below_pick hg5 (by have := hc4.lt; omega))
    clear hc4 hg5 D4
    go_wp2_with fail
    refine (pick_cur 3 hlen hZ (by omega) (by omega) (by omega) hc5).mono ?_
    rintro e w6 ⟨y, hy3, rfl, hc6, hg6, hz6⟩
    have D6 := D5.trans (below_pick hg6 (by have := hc5.lt; omega))
    clear hc5 hg6 D5 hZ hc6
    have hps := part_size s (1 + (x : Int)) (1 + (y : Int))
    go_wp2_with fail
    refine (specPart s _ _ _ (by omega) (by omega) (by omega) (by omega) (by omega)).mono ?_
    rintro e w7 ⟨rfl, B7⟩
    have D7 := D6.trans (B7.mono D6.size)
    clear B7 D6
    have hsz : (⟨(partOf s (1 + (x : Int)) (1 + (y : Int))).toArray⟩ : ByteArray).size ≤ 3000 := show (partOf s (1 + (x : Int)) (1 + (y : Int))).length ≤ _ by omega
    generalize (⟨(partOf s (1 + (x : Int)) (1 + (y : Int))).toArray⟩ : ByteArray) = q at hsz
    go_wp2
    go_ret2
    exact ⟨s, q, by omega, by omega, rfl, D7⟩
  · have hxi : ((x : Int) == 0) = false := beq_eq_false_iff_ne.2 (by omega)
    have HZ := Lib.hid hZ
    have HC := Lib.hid hc4
    clear hZ hc4
    go_wp2
    go_ret2
    exact ⟨s, t, by omega, by omega, rfl, D4⟩

end Go.Proofs.YtbdacfljdpdmiaaDoor
