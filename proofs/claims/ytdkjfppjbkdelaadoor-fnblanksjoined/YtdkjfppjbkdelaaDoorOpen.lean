/- The specification's drawing of a text from a code. Conditions: the code has at most 1048576 bytes. -/
import Derived.Test.YtdkjfppjbkdelaaDoorAny
namespace Go.Proofs.YtdkjfppjbkdelaaDoor
open Go.RowKit

set_option maxHeartbeats 4000000 in
set_option maxRecDepth 100000 in
theorem open_cur (a : Option Addr) (c : Nat) (zs : List Int) (w : World) (hlen : zs.length ≤ 1048576) (hN : Nums .u8 w w.heap.size a zs) :
    Calls Tryd.prog 22 #[.slice a zs.length c] w fun e w' => e = .returned (.pointer (some ⟨w.heap.size, 0, none⟩)) ∧ Cur w.heap.size a c zs 0 w' ∧ Below w.heap.size w w' := by
  have HN := Lib.hid hN
  clear hN
  obtain ⟨s, hs⟩ : ∃ s, 17 + (zs.length : Int) % 1000 = s := ⟨_, rfl⟩
  have s0 : 0 ≤ s := by omega
  have s1 : s < 65521 := by omega
  go_enter Tryd.func22, Tryd.ntmps22
  go_wp2
  go_ret
  have hb := (Below.refl w.heap.size w).alloc (Nat.le_refl _) (.cells #[.slice a zs.length c, .int .i64 0, .int .i64 s] 79)
  exact ⟨rfl, ⟨HN.out.below hb, 0, s, by omega, by omega, s0, s1, heap_alloc_new w _⟩, hb⟩

/-- What drawing a string from a code leaves. -/
def Drawn (w : World) (e : Ending) (w' : World) : Prop := ∃ t : ByteArray, t.size ≤ 3000 ∧ e = .returned (.string t) ∧ Below w.heap.size w w'

end Go.Proofs.YtdkjfppjbkdelaaDoor
