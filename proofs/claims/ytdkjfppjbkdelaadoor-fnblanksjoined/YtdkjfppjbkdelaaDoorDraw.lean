/- The specification's drawing of inputs: the cursor over the code, its pick and its size. Conditions: the code has at most 1048576 bytes. -/
import Derived.Test.YtdkjfppjbkdelaaDoorRows
import Derived.Test.YtdkjfppjbkdelaaDoorMem
import Derived.Deep.QuietTactic
import Derived.BigQuiet
import Derived.Lib.Hide
import Derived.IntWalk
namespace Go.Proofs.YtdkjfppjbkdelaaDoor
open Go.RowKit

/-- The cursor lies at block p: its code, its place, its seed. -/
def CurAt (w : World) (p : Nat) (A : Option Addr) (n c : Nat) (k seed : Int) : Prop :=
  w.heap[p]? = some (.cells #[.slice A n c, .int .i64 k, .int .i64 seed] 79 (0, 0))

section
variable {w w' : World} {p n c : Nat} {A : Option Addr} {k seed : Int}
theorem CurAt.cell (h : CurAt w p A n c k seed) : w.cell? ⟨p, 0, none⟩ = some (.slice A n c) ∧ w.cell? ⟨p, 1, none⟩ = some (.int .i64 k) ∧ w.cell? ⟨p, 2, none⟩ = some (.int .i64 seed) := by
  unfold CurAt at h
  refine ⟨?_, ?_, ?_⟩ <;> rw [cell_of_row w p _ _ _ _ h] <;> rfl
theorem CurAt.frozen (h : CurAt w p A n c k seed) (j : Nat) : w.frozen? ⟨p, j, none⟩ = false := frozen_of_row w p j _ _ h
theorem CurAt.lt (h : CurAt w p A n c k seed) : p < w.heap.size := (Array.getElem?_eq_some_iff.1 h).1
theorem CurAt.setK (h : CurAt w p A n c k seed) (k' : Int) : CurAt (w.setCell ⟨p, 1, none⟩ (.int .i64 k')) p A n c k' seed := by
  unfold CurAt at h ⊢
  rw [heap_setCell_same w p 1 _ _ _ h]; rfl
theorem CurAt.setS (h : CurAt w p A n c k seed) (s' : Int) : CurAt (w.setCell ⟨p, 2, none⟩ (.int .i64 s')) p A n c k s' := by
  unfold CurAt at h ⊢
  rw [heap_setCell_same w p 2 _ _ _ h]; rfl
theorem CurAt.drewN (h : CurAt w p A n c k seed) (q : Nat) : CurAt (w.drewN q) p A n c k seed := h
theorem CurAt.below (h : CurAt w p A n c k seed) {B : Nat} (hb : Below B w w') (hp : p < B) : CurAt w' p A n c k seed := (hb.block p hp).trans h
end

/-- The code's bytes. -/
def Bytes (zs : List Int) : Prop := ∀ j, (h : j < zs.length) → 0 ≤ zs[j] ∧ zs[j] < 256

/-- What a pick leaves: a number below the bound; the cursor one on; nothing else. -/
def PickIs (m : Int) (p : Nat) (A : Option Addr) (n c : Nat) (k : Int) (w : World) (e : Ending) (w' : World) : Prop :=
  ∃ x s' : Int, 0 ≤ x ∧ x < m ∧ e = .returned (.int .i64 x) ∧ CurAt w' p A n c (k + 1) s' ∧ 0 ≤ s' ∧ s' < 65521 ∧ w.grownBy w' (some p) ∧ w'.heap.size = w.heap.size

theorem grown_draw {w : World} {p : Nat} {a : World} (h : a.grownBy w (some p)) (q : Nat) : a.grownBy (w.drewN q) (some p) := ⟨h.os, h.tape, h.output, h.size, h.block⟩
theorem grown_set {w : World} {p j : Nat} {a : World} (h : a.grownBy w (some p)) (v : Value) : a.grownBy (w.setCell ⟨p, j, none⟩ v) (some p) :=
  ⟨h.os, h.tape, h.output, by simpa [World.setCell] using h.size, fun k hk hn => (Below.heap_setCell w ⟨p, j, none⟩ v k (fun e => hn (by rw [e]))).trans (h.block k hk hn)⟩
theorem CurAt.alloc {w : World} {p n c : Nat} {A : Option Addr} {k seed : Int} (h : CurAt w p A n c k seed) (o : Obj) : CurAt (w.alloc o) p A n c k seed := (Below.heap_alloc w o p h.lt).trans h
theorem Nums.alloc {k : IntKind} {w : World} {B : Nat} {A : Option Addr} {zs : List Int} (h : Nums k w B A zs) (hB : B ≤ w.heap.size) (o : Obj) : Nums k (w.alloc o) B A zs :=
  h.move (Nat.le_refl _) fun a ha => World.cell?_alloc_lt w o a (by omega)
theorem Nums.grown {k : IntKind} {w w' : World} {p : Nat} {A : Option Addr} {zs : List Int} (h : Nums k w p A zs) (hg : w.grownBy w' (some p)) (hp : p ≤ w.heap.size) : Nums k w' p A zs :=
  h.move (Nat.le_refl _) fun a ha => World.cell?_of_block (hg.block a.block (by omega) (fun e => by injection e with e; omega))
theorem below_pick {w w' : World} {p : Nat} (hg : w.grownBy w' (some p)) (hp : p ≤ w.heap.size) : Below p w w' := (Below.refl p w).grown hg hp (fun k hk => by injection hk with hk; omega)

theorem setCell_size (w : World) (a : Addr) (v : Value) : (w.setCell a v).heap.size = w.heap.size := by simp [World.setCell]

set_option maxHeartbeats 4000000 in
set_option maxRecDepth 100000 in
theorem pick_any (m : Int) (p : Nat) (A : Option Addr) (c : Nat) (zs : List Int) (k seed : Int) (w : World) (hm : 2 ≤ m) (hm2 : m ≤ 100000) (hlen : zs.length ≤ 1048576) (hN : Nums .u8 w p A zs) (hZ : Bytes zs)
    (hk : 0 ≤ k) (hk2 : k ≤ 1000000000) (hs : 0 ≤ seed) (hs2 : seed < 65521) (hC : CurAt w p A zs.length c k seed) :
    Calls Tryd.prog 35 #[.pointer (some ⟨p, 0, none⟩), .int .i64 m] w (PickIs m p A zs.length c k w) := by
  obtain ⟨c0, c1, c2⟩ := hC.cell
  have f1 := hC.frozen 1
  have f2 := hC.frozen 2
  by_cases hin : k < zs.length
  · obtain ⟨j, rfl⟩ : ∃ j : Nat, k = j := ⟨k.toNat, by omega⟩
    obtain ⟨b, o, rfl, hb, hc⟩ := hN j (by omega)
    obtain ⟨z, hz⟩ : ∃ z, zs[j]'(by omega) = z := ⟨_, rfl⟩
    have hzb := hZ j (by omega)
    rw [hz] at hc hzb
    have z0 := hzb.1
    have z1 := hzb.2
    have HC := Lib.hid hC
    clear hz hzb hN hZ hC
    have q1 := Int.emod_nonneg z (show m ≠ 0 by omega)
    have q2 := Int.emod_lt_of_pos z (show 0 < m by omega)
    have HQ := Lib.hid (And.intro q1 q2)
    clear q1 q2
    go_enter Tryd.func35, Tryd.ntmps35
    go_wp2
    go_quiet (fail)
    go_wp2
    go_quiet (fail)
    go_wp2
    go_ret
    exact ⟨z % m, seed, HQ.out.1, HQ.out.2, rfl, (HC.out.drewN _).setK _, hs, hs2, grown_set (grown_draw (World.grownBy.refl w _) _) _, by rw [setCell_size]; rfl⟩
  · obtain ⟨s', hs'⟩ : ∃ s', (seed * 1103 + 12345) % 65521 = s' := ⟨_, rfl⟩
    have s0 : 0 ≤ s' := by omega
    have s1 : s' < 65521 := by omega
    have HC := Lib.hid hC
    by_cases hz : zs.length = 0
    · have hzi : (zs.length : Int) = 0 := by omega
      clear hN hZ hC
      go_enter Tryd.func35, Tryd.ntmps35
      go_wp2
      go_quiet (fail)
      go_wp2
      go_ret
      exact ⟨0, s', by omega, by omega, rfl, (HC.out.setS s').setK (k + 1), s0, s1, grown_set (grown_set (grown_draw (World.grownBy.refl w _) _) _) _, by rw [setCell_size]; exact setCell_size w ⟨p, 2, none⟩ (.int .i64 s')⟩
    · obtain ⟨j, hj⟩ : ∃ j : Nat, k % (zs.length : Int) = j := ⟨(k % (zs.length : Int)).toNat, by have := Int.emod_nonneg k (show (zs.length : Int) ≠ 0 by omega); omega⟩
      have hjl : j < zs.length := by have := Int.emod_lt_of_pos k (show (0 : Int) < (zs.length : Int) by omega); omega
      obtain ⟨b, o, rfl, hb, hc⟩ := hN j hjl
      obtain ⟨z, hz⟩ : ∃ z, zs[j] = z := ⟨_, rfl⟩
      have hzb := hZ j hjl
      rw [hz] at hc hzb
      have z0 := hzb.1
      have z1 := hzb.2
      clear hz hzb hN hZ hC
      obtain ⟨x, hx⟩ : ∃ x, s' / 7 + z = x := ⟨_, rfl⟩
      have x0 : 0 ≤ x := by omega
      have x1 : x ≤ 100000 := by omega
      have q1 := Int.emod_nonneg x (show m ≠ 0 by omega)
      have q2 := Int.emod_lt_of_pos x (show 0 < m by omega)
      have HQ := Lib.hid (And.intro q1 q2)
      clear q1 q2
      go_enter Tryd.func35, Tryd.ntmps35
      go_wp2
      go_quiet (fail)
      go_wp2
      go_quiet (fail)
      go_wp2
      go_ret
      exact ⟨x % m, s', HQ.out.1, HQ.out.2, rfl, (HC.out.setS s').setK (k + 1), s0, s1, grown_set (grown_draw (grown_set (grown_draw (World.grownBy.refl w _) _) _) _) _, by rw [setCell_size]; exact setCell_size w ⟨p, 2, none⟩ (.int .i64 s')⟩

set_option maxHeartbeats 4000000 in
set_option maxRecDepth 100000 in
theorem size_any (n : Int) (p : Nat) (A : Option Addr) (c : Nat) (zs : List Int) (k seed : Int) (w : World) (hn : 1 ≤ n) (hn2 : n ≤ 1000) (hlen : zs.length ≤ 1048576) (hN : Nums .u8 w p A zs) (hZ : Bytes zs)
    (hk : 0 ≤ k) (hk2 : k ≤ 1000000000) (hs : 0 ≤ seed) (hs2 : seed < 65521) (hC : CurAt w p A zs.length c k seed) :
    Calls Tryd.prog 54 #[.pointer (some ⟨p, 0, none⟩), .int .i64 n] w (PickIs (n + 1) p A zs.length c k w) := by
  have c0 := hC.cell.1
  have cP : ∀ m, 2 ≤ m → m ≤ n + 1 → Calls Tryd.prog 35 #[.pointer (some ⟨p, 0, none⟩), .int .i64 m] w (PickIs (n + 1) p A zs.length c k w) := fun m h1 h2 =>
    (pick_any m p A c zs k seed w h1 (by omega) hlen hN hZ hk hk2 hs hs2 hC).mono fun e w' ⟨x, s', a, b, r⟩ => ⟨x, s', a, by omega, r⟩
  have CP := Lib.hid cP
  clear cP hN hZ hC
  by_cases h : n < 1 + (zs.length : Int) / 10
  all_goals
    go_enter Tryd.func54, Tryd.ntmps54
    go_wp2_with fail
    refine (CP.out _ (by omega) (by omega)).mono ?_
    rintro e w' ⟨x, s', x0, x1, rfl, r⟩
    have R := Lib.hid r
    clear r
    go_wp2
    go_ret
    exact ⟨x, s', x0, x1, rfl, R.out⟩

end Go.Proofs.YtdkjfppjbkdelaaDoor
