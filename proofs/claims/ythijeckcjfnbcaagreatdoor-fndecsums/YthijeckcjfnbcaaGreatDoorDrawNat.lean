/- The specification's drawing of naturals from a code. Conditions: the code has at most 1048576 bytes. -/
import Derived.Test.YthijeckcjfnbcaaGreatDoorDraw
import Derived.Test.YthijeckcjfnbcaaGreatDoorSpecNatB
import Derived.Deep.DeepMust
namespace Go.Proofs.YthijeckcjfnbcaaGreatDoor
open Go.RowKit

def okStr : Value → Bool
  | .string t => decide (t.size ≤ 3)
  | _ => false
theorem str_at {w : World} {g : Nat} {arr : Array Value} {T : TypeId} {fz : Nat × Nat} (h : w.heap[g]? = some (.cells arr T fz)) (hok : arr.toList.all okStr = true) (j : Nat) (hj : j < arr.size) :
    ∃ t : ByteArray, w.cell? ⟨g, j, none⟩ = some (.string t) ∧ t.size ≤ 3 := by
  rw [cell_of_row w g j arr T fz h]
  have h1 := List.all_eq_true.1 hok (arr[j]) (by simp)
  rw [Array.getElem?_eq_getElem hj]
  generalize arr[j] = v at h1
  unfold okStr at h1
  split at h1
  · exact ⟨_, rfl, by simpa using h1⟩
  · cases h1

/-- The cursor lies whole at block p, at most K on. -/
def Cur (p : Nat) (A : Option Addr) (c : Nat) (zs : List Int) (K : Int) (W : World) : Prop :=
  Nums .u8 W p A zs ∧ ∃ k s : Int, 0 ≤ k ∧ k ≤ K ∧ 0 ≤ s ∧ s < 65521 ∧ CurAt W p A zs.length c k s

section
variable {p : Nat} {A : Option Addr} {c : Nat} {zs : List Int} {K : Int} {W : World}
theorem Cur.lt (h : Cur p A c zs K W) : p < W.heap.size := by obtain ⟨_, k, s, _, _, _, _, h⟩ := h; exact h.lt
theorem Cur.alloc (h : Cur p A c zs K W) (o : Obj) : Cur p A c zs K (W.alloc o) := by
  have hl := h.lt
  obtain ⟨h1, k, s, a, b, d, e, h2⟩ := h
  exact ⟨h1.alloc (by omega) o, k, s, a, b, d, e, h2.alloc o⟩
theorem Cur.drew (h : Cur p A c zs K W) : Cur p A c zs K W.drew := h
theorem Cur.drewN (h : Cur p A c zs K W) (q : Nat) : Cur p A c zs K (W.drewN q) := h
theorem Cur.up {K' : Int} (h : Cur p A c zs K W) (hk : K ≤ K') : Cur p A c zs K' W := by
  obtain ⟨h1, k, s, a, b, d, e, h2⟩ := h
  exact ⟨h1, k, s, a, by omega, d, e, h2⟩
end

def PickCur (m : Int) (p : Nat) (A : Option Addr) (c : Nat) (zs : List Int) (K : Int) (W : World) (e : Ending) (w' : World) : Prop :=
  ∃ x : Nat, (x : Int) < m ∧ e = .returned (.int .i64 x) ∧ Cur p A c zs (K + 1) w' ∧ W.grownBy w' (some p) ∧ w'.heap.size = W.heap.size

theorem pick_cur (m : Int) {p : Nat} {A : Option Addr} {c : Nat} {zs : List Int} {K : Int} {W : World} (hlen : zs.length ≤ 1048576) (hZ : Bytes zs) (hm : 2 ≤ m) (hm2 : m ≤ 1000) (hK : K ≤ 900000000) (h : Cur p A c zs K W) :
    Calls Tryz.prog 50 #[.pointer (some ⟨p, 0, none⟩), .int .i64 m] W (PickCur m p A c zs K W) := by
  have hl := h.lt
  obtain ⟨h1, k, s, a, b, d, e, h2⟩ := h
  refine (pick_any m p A c zs k s W hm (by omega) hlen h1 hZ a (by omega) d e h2).mono ?_
  rintro e w' ⟨x, s', x0, x1, rfl, hC, s0, s1, hg, hz⟩
  exact ⟨x.toNat, by omega, by rw [Int.toNat_of_nonneg x0], ⟨h1.grown hg (by omega), k + 1, s', by omega, by omega, s0, s1, hC⟩, hg, hz⟩

/-- What drawing a string leaves. -/
def StrCur (m : Nat) (d : Int) (p : Nat) (A : Option Addr) (c : Nat) (zs : List Int) (K : Int) (w : World) (e : Ending) (w' : World) : Prop :=
  ∃ t : ByteArray, t.size ≤ m ∧ e = .returned (.string t) ∧ Cur p A c zs (K + d) w' ∧ Below p w w'

set_option maxHeartbeats 4000000 in
set_option maxRecDepth 100000 in
theorem open_cur (a : Option Addr) (c : Nat) (zs : List Int) (w : World) (hlen : zs.length ≤ 1048576) (hN : Nums .u8 w w.heap.size a zs) :
    Calls Tryz.prog 22 #[.slice a zs.length c] w fun e w' => e = .returned (.pointer (some ⟨w.heap.size, 0, none⟩)) ∧ Cur w.heap.size a c zs 0 w' ∧ Below w.heap.size w w' := by
  have HN := Lib.hid hN
  clear hN
  obtain ⟨s, hs⟩ : ∃ s, 17 + (zs.length : Int) % 1000 = s := ⟨_, rfl⟩
  have s0 : 0 ≤ s := by omega
  have s1 : s < 65521 := by omega
  go_enter Tryz.func22, Tryz.ntmps22
  go_wp2
  go_ret
  have hb := (Below.refl w.heap.size w).alloc (Nat.le_refl _) (.cells #[.slice a zs.length c, .int .i64 0, .int .i64 s] 73)
  exact ⟨rfl, ⟨HN.out.below hb, 0, s, by omega, by omega, s0, s1, heap_alloc_new w _⟩, hb⟩

theorem size_cur (n : Int) {p : Nat} {A : Option Addr} {c : Nat} {zs : List Int} {K : Int} {W : World} (hlen : zs.length ≤ 1048576) (hZ : Bytes zs) (hn : 1 ≤ n) (hn2 : n ≤ 1000) (hK : K ≤ 900000000) (h : Cur p A c zs K W) :
    Calls Tryz.prog 49 #[.pointer (some ⟨p, 0, none⟩), .int .i64 n] W (PickCur (n + 1) p A c zs K W) := by
  have hl := h.lt
  obtain ⟨h1, k, s, a, b, d, e, h2⟩ := h
  refine (size_any n p A c zs k s W hn (by omega) hlen h1 hZ a (by omega) d e h2).mono ?_
  rintro e w' ⟨x, s', x0, x1, rfl, hC, s0, s1, hg, hz⟩
  exact ⟨x.toNat, by omega, by rw [Int.toNat_of_nonneg x0], ⟨h1.grown hg (by omega), k + 1, s', by omega, by omega, s0, s1, hC⟩, hg, hz⟩

theorem trim_len1 (l : List UInt8) : (trim l).length ≤ l.length + 1 := by
  by_cases h : l = []
  · subst h; decide
  · exact Nat.le_succ_of_le (trim_len l h)

def NatLoop (n : Nat) (p : Nat) (A : Option Addr) (c : Nat) (zs : List Int) (K : Int) (w : World) (out q : Value) (wr : World) : Prop :=
  ∃ (j : Nat) (t : ByteArray), q = .int .i64 (j : Int) ∧ out = .string t ∧ t.size + 3 * j ≤ 3 * (n + 1) ∧ Cur p A c zs (K + 2 + (n : Int) - (j : Int)) wr ∧ j ≤ n + 1 ∧ Below p w wr

def IntCur (d : Int) (p : Nat) (A : Option Addr) (c : Nat) (zs : List Int) (K : Int) (w : World) (e : Ending) (w' : World) : Prop :=
  ∃ x : Int, e = .returned (.int .i64 x) ∧ Cur p A c zs (K + d) w' ∧ Below p w w'

def okInt : Value → Bool
  | .int .i64 _ => true
  | _ => false
theorem int_at {w : World} {g : Nat} {arr : Array Value} {T : TypeId} {fz : Nat × Nat} (h : w.heap[g]? = some (.cells arr T fz)) (hok : arr.toList.all okInt = true) (j : Nat) (hj : j < arr.size) :
    ∃ x : Int, w.cell? ⟨g, j, none⟩ = some (.int .i64 x) := by
  rw [cell_of_row w g j arr T fz h]
  have h1 := List.all_eq_true.1 hok (arr[j]) (by simp)
  rw [Array.getElem?_eq_getElem hj]
  generalize arr[j] = v at h1
  unfold okInt at h1
  split at h1
  · exact ⟨_, rfl⟩
  · cases h1

/-- What drawing two naturals, or one and a number, leaves. -/
def Drawn2 (w : World) (e : Ending) (w' : World) : Prop := ∃ s t : ByteArray, s.size ≤ 3000 ∧ t.size ≤ 3000 ∧ e = .returned (.tuple #[.string s, .string t]) ∧ Below w.heap.size w w'
def DrawnI (w : World) (e : Ending) (w' : World) : Prop := ∃ (s : ByteArray) (n : Int), s.size ≤ 3000 ∧ e = .returned (.tuple #[.string s, .int .i64 n]) ∧ Below w.heap.size w w'

end Go.Proofs.YthijeckcjfnbcaaGreatDoor
