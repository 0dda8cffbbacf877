/- The specification's drawing of a short text. Conditions: the code has at most 1048576 bytes. -/
import Derived.Test.YtdkjfppjbkdelaaDoorDraw
import Derived.Deep.DeepMust
namespace Go.Proofs.YtdkjfppjbkdelaaDoor
open Go.RowKit

/-- What drawing a string leaves: a string of at most m bytes; the cursor at most d on; nothing below it turned. -/
def StrDrawn (m : Nat) (d : Int) (p : Nat) (A : Option Addr) (n c : Nat) (k : Int) (w : World) (e : Ending) (w' : World) : Prop :=
  ∃ (t : ByteArray) (k' s' : Int), t.size ≤ m ∧ e = .returned (.string t) ∧ CurAt w' p A n c k' s' ∧ k ≤ k' ∧ k' ≤ k + d ∧ 0 ≤ s' ∧ s' < 65521 ∧ Below p w w'

def okStr : Value → Bool
  | .string t => decide (t.size ≤ 3)
  | _ => false
theorem str_at {w : World} {g : Nat} {arr : Array Value} {T : TypeId} {fz : Nat × Nat} (h : w.heap[g]? = some (.cells arr T fz)) (hok : arr.toList.all okStr = true) (j : Nat) (hj : j < arr.size) :
    ∃ t : ByteArray, w.cell? ⟨g, j, none⟩ = some (.string t) ∧ t.size ≤ 3 := by
  rw [cell_of_row w g j arr T fz h]
  have h1 := List.all_eq_true.1 hok (arr[j]) (by simp)
  rw [Array.getElem?_eq_getElem hj]
  generalize arr[j] = v at h1
  unfold okStr at h1
  split at h1
  · exact ⟨_, rfl, by simpa using h1⟩
  · cases h1

def WordRel (n : Nat) (p : Nat) (A : Option Addr) (m c : Nat) (k : Int) (w : World) (out q : Value) (wr : World) : Prop :=
  ∃ (j : Nat) (t : ByteArray) (k' s' : Int), q = .int .i64 j ∧ out = .string t ∧ t.size + 3 * j ≤ 3 * n ∧ CurAt wr p A m c k' s' ∧ k ≤ k' ∧ k' + j ≤ k + 1 + n ∧ 0 ≤ s' ∧ s' < 65521 ∧ Below p w wr

set_option maxHeartbeats 4000000 in
set_option maxRecDepth 100000 in
theorem word_any (n : Nat) (p : Nat) (A : Option Addr) (c : Nat) (zs : List Int) (k seed : Int) (w : World) (hn : 1 ≤ n) (hn2 : n ≤ 1000) (hlen : zs.length ≤ 1048576) (hN : Nums .u8 w p A zs) (hZ : Bytes zs)
    (hk : 0 ≤ k) (hk2 : k ≤ 900000000) (hs : 0 ≤ seed) (hs2 : seed < 65521) (hC : CurAt w p A zs.length c k seed) :
    Calls Tryd.prog 53 #[.pointer (some ⟨p, 0, none⟩), .int .i64 n] w (StrDrawn (3 * n) (n + 1) p A zs.length c k w) := by
  have cS := size_any n p A c zs k seed w (by omega) (by omega) hlen hN hZ hk (by omega) hs hs2 hC
  have hp := hC.lt
  have HN := Lib.hid hN
  have HZ := Lib.hid hZ
  clear hC hN hZ
  go_enter Tryd.func53, Tryd.ntmps53
  go_wp2_with fail
  refine cS.mono ?_
  rintro e w1 ⟨x, s1, x0, x1, rfl, hC1, g0, g1, hg1, hz1⟩
  have hb1 := below_pick hg1 (by omega)
  obtain ⟨j, rfl⟩ : ∃ j : Nat, x = j := ⟨x.toNat, by omega⟩
  clear cS hg1
  go_wp2
  go_loopw [5, 6] (fun out q wr => WordRel n p A zs.length c k w out q wr) (fun _ q _ => (intOf q).toNat)
  case atStart => exact ⟨j, _, k + 1, s1, rfl, rfl, by show 0 + 3 * j ≤ 3 * n; omega, hC1, by omega, by omega, g0, g1, hb1⟩
  case round =>
    obtain ⟨q, t, k', s', rfl, rfl, hts, hCr, hkk, hkk2, r0, r1, hbel⟩ := hrel
    clear hC1 hb1 hz1 g0 g1
    have hpr := hCr.lt
    by_cases hq : q = 0
    · subst hq
      have HC := Lib.hid hCr; clear hCr
      go_wp2
      go_ret
      exact ⟨t, k', s', by omega, rfl, HC.out, by omega, by omega, r0, r1, hbel⟩
    · have hq1 : (0 : Int) < (q : Int) := by omega
      have HC := Lib.hid hCr; clear hCr
      go_wp2_with (go_at_call 35; go_must (refine (pick_any 24 p A c zs k' s' _ (by omega) (by omega) hlen ((HN.out.below hbel).alloc (by omega) _) HZ.out (by omega) (by omega) r0 r1 (HC.out.alloc _)).mono ?_); rintro e w2 ⟨x, s2, x0, x1, rfl, hC2, u0, u1, hg2, hz2⟩; obtain ⟨i, rfl⟩ : ∃ i : Nat, x = i := ⟨x.toNat, by omega⟩; have hblk := (hg2.block wr.heap.size (by simp) (by intro e; injection e with e; omega)).trans (heap_alloc_new wr _); obtain ⟨t2, ht2, ht3⟩ := str_at hblk (by decide) i (by simp; omega); clear hblk)
      have hb2 : Below p w w2 := (hbel.alloc (by omega) _).trans (below_pick hg2 (by simp; omega))
      have HC2 := Lib.hid hC2
      clear hg2 hC2 hz2 hbel HC
      have hts2 : (t ++ t2).size = t.size + t2.size := by simp
      have HT := Lib.hid hts2; clear hts2
      go_wp2
      go_roundw
      case rel => exact ⟨q - 1, t ++ t2, k' + 1, s2, by simp; omega, rfl, by rw [HT.out]; omega, HC2.out, by omega, by omega, u0, u1, hb2⟩
      case measure => simp [intOf]; omega

end Go.Proofs.YtdkjfppjbkdelaaDoor
