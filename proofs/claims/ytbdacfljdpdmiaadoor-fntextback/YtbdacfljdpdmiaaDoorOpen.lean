/- The specification's drawing of a text from a code. Conditions: the code has at most 1048576 bytes. -/
import Derived.Test.YtbdacfljdpdmiaaDoorAny
namespace Go.Proofs.YtbdacfljdpdmiaaDoor
open Go.RowKit

set_option maxHeartbeats 4000000 in
set_option maxRecDepth 100000 in
theorem open_cur (a : Option Addr) (c : Nat) (zs : List Int) (w : World) (hlen : zs.length ≤ 1048576) (hN : Nums .u8 w w.heap.size a zs) :
    Calls Tryd.prog 38 #[.slice a zs.length c] w fun e w' => e = .returned (.pointer (some ⟨w.heap.size, 0, none⟩)) ∧ Cur w.heap.size a c zs 0 w' ∧ Below w.heap.size w w' := by
  have HN := Lib.hid hN
  clear hN
  obtain ⟨s, hs⟩ : ∃ s, 17 + (zs.length : Int) % 1000 = s := ⟨_, rfl⟩
  have s0 : 0 ≤ s := by omega
  have s1 : s < 65521 := by omega
  go_enter Tryd.func38, Tryd.ntmps38
  go_wp2
  go_ret
  have hb := (Below.refl w.heap.size w).alloc (Nat.le_refl _) (.cells #[.slice a zs.length c, .int .i64 0, .int .i64 s] 55)
  exact ⟨rfl, ⟨HN.out.below hb, 0, s, by omega, by omega, s0, s1, heap_alloc_new w _⟩, hb⟩

/-- What drawing a string from a code leaves. -/
def Drawn (w : World) (e : Ending) (w' : World) : Prop := ∃ t : ByteArray, t.size ≤ 3000 ∧ e = .returned (.string t) ∧ Below w.heap.size w w'

set_option maxHeartbeats 4000000 in
set_option maxRecDepth 100000 in
theorem drawRunes_any (a : Option Addr) (c : Nat) (zs : List Int) (w : World) (hlen : zs.length ≤ 1048576) (hN : Nums .u8 w w.heap.size a zs) (hZ : Bytes zs) :
    Calls Tryd.prog 15 #[.slice a zs.length c] w (Drawn w) := by
  have cO := open_cur a c zs w hlen hN
  clear hN
  go_enter Tryd.func15, Tryd.ntmps15
  go_wp2_with fail
  refine cO.mono ?_
  rintro e w1 ⟨rfl, hc1, hb1⟩
  clear cO
  go_wp2_with fail
  refine (any_cur 12 hlen hZ (by omega) (by omega) (by omega) hc1).mono ?_
  rintro e w2 ⟨t, ht, rfl, hc2, hb2⟩
  have B := hb1.trans hb2
  clear hc1 hc2 hb1 hb2 hZ
  go_wp2
  go_ret
  exact ⟨t, by omega, rfl, B⟩

end Go.Proofs.YtbdacfljdpdmiaaDoor
