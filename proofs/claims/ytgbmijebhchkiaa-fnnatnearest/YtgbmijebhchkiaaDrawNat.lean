/- The specification's drawing of naturals from a code. Conditions: the code has at most 1048576 bytes. -/
import Derived.Test.YtgbmijebhchkiaaDraw
import Derived.Test.YtgbmijebhchkiaaSpecNat10
import Derived.Deep.DeepMust
namespace Go.Proofs.Ytgbmijebhchkiaa
open Go.RowKit

def okStr : Value → Bool
  | .string t => decide (t.size ≤ 3)
  | _ => false
theorem str_at {w : World} {g : Nat} {arr : Array Value} {T : TypeId} {fz : Nat × Nat} (h : w.heap[g]? = some (.cells arr T fz)) (hok : arr.toList.all okStr = true) (j : Nat) (hj : j < arr.size) :
    ∃ t : ByteArray, w.cell? ⟨g, j, none⟩ = some (.string t) ∧ t.size ≤ 3 := by
  rw [cell_of_row w g j arr T fz h]
  have h1 := List.all_eq_true.1 hok (arr[j]) (by simp)
  rw [Array.getElem?_eq_getElem hj]
  generalize arr[j] = v at h1
  unfold okStr at h1
  split at h1
  · exact ⟨_, rfl, by simpa using h1⟩
  · cases h1

/-- The cursor lies whole at block p, at most K on. -/
def Cur (p : Nat) (A : Option Addr) (c : Nat) (zs : List Int) (K : Int) (W : World) : Prop :=
  Nums .u8 W p A zs ∧ ∃ k s : Int, 0 ≤ k ∧ k ≤ K ∧ 0 ≤ s ∧ s < 65521 ∧ CurAt W p A zs.length c k s

section
variable {p : Nat} {A : Option Addr} {c : Nat} {zs : List Int} {K : Int} {W : World}
theorem Cur.lt (h : Cur p A c zs K W) : p < W.heap.size := by obtain ⟨_, k, s, _, _, _, _, h⟩ := h; exact h.lt
theorem Cur.alloc (h : Cur p A c zs K W) (o : Obj) : Cur p A c zs K (W.alloc o) := by
  have hl := h.lt
  obtain ⟨h1, k, s, a, b, d, e, h2⟩ := h
  exact ⟨h1.alloc (by omega) o, k, s, a, b, d, e, h2.alloc o⟩
theorem Cur.drew (h : Cur p A c zs K W) : Cur p A c zs K W.drew := h
theorem Cur.drewN (h : Cur p A c zs K W) (q : Nat) : Cur p A c zs K (W.drewN q) := h
theorem Cur.up {K' : Int} (h : Cur p A c zs K W) (hk : K ≤ K') : Cur p A c zs K' W := by
  obtain ⟨h1, k, s, a, b, d, e, h2⟩ := h
  exact ⟨h1, k, s, a, by omega, d, e, h2⟩
end

def PickCur (m : Int) (p : Nat) (A : Option Addr) (c : Nat) (zs : List Int) (K : Int) (W : World) (e : Ending) (w' : World) : Prop :=
  ∃ x : Nat, (x : Int) < m ∧ e = .returned (.int .i64 x) ∧ Cur p A c zs (K + 1) w' ∧ W.grownBy w' (some p) ∧ w'.heap.size = W.heap.size

theorem pick_cur (m : Int) {p : Nat} {A : Option Addr} {c : Nat} {zs : List Int} {K : Int} {W : World} (hlen : zs.length ≤ 1048576) (hZ : Bytes zs) (hm : 2 ≤ m) (hm2 : m ≤ 1000) (hK : K ≤ 900000000) (h : Cur p A c zs K W) :
    Calls Try.prog 53 #[.pointer (some ⟨p, 0, none⟩), .int .i64 m] W (PickCur m p A c zs K W) := by
  have hl := h.lt
  obtain ⟨h1, k, s, a, b, d, e, h2⟩ := h
  refine (pick_any m p A c zs k s W hm (by omega) hlen h1 hZ a (by omega) d e h2).mono ?_
  rintro e w' ⟨x, s', x0, x1, rfl, hC, s0, s1, hg, hz⟩
  exact ⟨x.toNat, by omega, by rw [Int.toNat_of_nonneg x0], ⟨h1.grown hg (by omega), k + 1, s', by omega, by omega, s0, s1, hC⟩, hg, hz⟩

/-- What drawing a string leaves. -/
def StrCur (m : Nat) (d : Int) (p : Nat) (A : Option Addr) (c : Nat) (zs : List Int) (K : Int) (w : World) (e : Ending) (w' : World) : Prop :=
  ∃ t : ByteArray, t.size ≤ m ∧ e = .returned (.string t) ∧ Cur p A c zs (K + d) w' ∧ Below p w w'

set_option maxHeartbeats 4000000 in
set_option maxRecDepth 100000 in
theorem open_cur (a : Option Addr) (c : Nat) (zs : List Int) (w : World) (hlen : zs.length ≤ 1048576) (hN : Nums .u8 w w.heap.size a zs) :
    Calls Try.prog 34 #[.slice a zs.length c] w fun e w' => e = .returned (.pointer (some ⟨w.heap.size, 0, none⟩)) ∧ Cur w.heap.size a c zs 0 w' ∧ Below w.heap.size w w' := by
  have HN := Lib.hid hN
  clear hN
  obtain ⟨s, hs⟩ : ∃ s, 17 + (zs.length : Int) % 1000 = s := ⟨_, rfl⟩
  have s0 : 0 ≤ s := by omega
  have s1 : s < 65521 := by omega
  go_enter Try.func34, Try.ntmps34
  go_wp2
  go_ret
  have hb := (Below.refl w.heap.size w).alloc (Nat.le_refl _) (.cells #[.slice a zs.length c, .int .i64 0, .int .i64 s] 66)
  exact ⟨rfl, ⟨HN.out.below hb, 0, s, by omega, by omega, s0, s1, heap_alloc_new w _⟩, hb⟩

theorem size_cur (n : Int) {p : Nat} {A : Option Addr} {c : Nat} {zs : List Int} {K : Int} {W : World} (hlen : zs.length ≤ 1048576) (hZ : Bytes zs) (hn : 1 ≤ n) (hn2 : n ≤ 1000) (hK : K ≤ 900000000) (h : Cur p A c zs K W) :
    Calls Try.prog 59 #[.pointer (some ⟨p, 0, none⟩), .int .i64 n] W (PickCur (n + 1) p A c zs K W) := by
  have hl := h.lt
  obtain ⟨h1, k, s, a, b, d, e, h2⟩ := h
  refine (size_any n p A c zs k s W hn (by omega) hlen h1 hZ a (by omega) d e h2).mono ?_
  rintro e w' ⟨x, s', x0, x1, rfl, hC, s0, s1, hg, hz⟩
  exact ⟨x.toNat, by omega, by rw [Int.toNat_of_nonneg x0], ⟨h1.grown hg (by omega), k + 1, s', by omega, by omega, s0, s1, hC⟩, hg, hz⟩

theorem trim_len1 (l : List UInt8) : (trim l).length ≤ l.length + 1 := by
  by_cases h : l = []
  · subst h; decide
  · exact Nat.le_succ_of_le (trim_len l h)

def NatLoop (n : Nat) (p : Nat) (A : Option Addr) (c : Nat) (zs : List Int) (K : Int) (w : World) (out q : Value) (wr : World) : Prop :=
  ∃ (j : Nat) (t : ByteArray), q = .int .i64 (j : Int) ∧ out = .string t ∧ t.size + 3 * j ≤ 3 * (n + 1) ∧ Cur p A c zs (K + 2 + (n : Int) - (j : Int)) wr ∧ j ≤ n + 1 ∧ Below p w wr

set_option maxHeartbeats 1000000 in
set_option maxRecDepth 100000 in
theorem nat_cur (n : Nat) {p : Nat} {A : Option Addr} {c : Nat} {zs : List Int} {K : Int} {w : World} (hlen : zs.length ≤ 1048576) (hZ : Bytes zs) (hn : 1 ≤ n) (hn2 : n ≤ 300) (hK : K ≤ 800000000) (h : Cur p A c zs K w) :
    Calls Try.prog 35 #[.pointer (some ⟨p, 0, none⟩), .int .i64 n] w (StrCur 1000 (n + 10) p A c zs K w) := by
  have cS := size_cur n hlen hZ (by omega) (by omega) (by omega) h
  have hp := h.lt
  clear h
  go_enter Try.func35, Try.ntmps35
  go_wp2_with fail
  refine cS.mono ?_
  rintro e w1 ⟨x, hx, rfl, hc1, hg1, hz1⟩
  have hb1 := below_pick hg1 (by omega)
  clear cS hg1
  go_wp2
  go_loopw [5, 6] (fun out q wr => NatLoop n p A c zs K w out q wr) (fun _ q _ => (intOf q).toNat)
  case atStart => exact ⟨x + 1, _, by first | rfl | go_num | (simp; omega), rfl, by show 0 + 3 * (x + 1) ≤ 3 * (n + 1); omega, hc1.up (by omega), by omega, hb1⟩
  case round =>
    obtain ⟨q, t, rfl, rfl, hts, hc, hqn, hbel⟩ := hrel
    clear hc1 hb1 hz1
    have hpr := hc.lt
    by_cases hq : q = 0
    · subst hq
      have cT := fun W => specTrim t W (by omega)
      have htl := trim_len1 t.data.toList
      rw [size_list] at htl
      unfold AnsS at cT
      obtain ⟨u, hu⟩ : ∃ u : ByteArray, ⟨(trim t.data.toList).toArray⟩ = u := ⟨_, rfl⟩
      have huz : u.size ≤ t.size + 1 := by rw [← hu]; exact htl
      rw [hu] at cT
      clear hu htl
      go_wp2_with fail
      refine (cT _).mono ?_
      rintro e w2 ⟨rfl, B2⟩
      have hc2 : Cur p A c zs (K + 2 + (n : Int)) w2 := by
        have hcl := hc.lt
        obtain ⟨h1, k, s, a, b, d, e, h2⟩ := hc
        exact ⟨h1.below (B2.mono (by omega)), k, s, a, by simpa using b, d, e, h2.below B2 hcl⟩
      have D2 := hbel.trans (B2.mono (by omega))
      clear cT B2 hc hbel
      go_wp2_with fail
      refine (pick_cur 16 hlen hZ (by omega) (by omega) (by omega) hc2).mono ?_
      rintro e w3 ⟨y, hy, rfl, hc3, hg3, hz3⟩
      have D3 := D2.trans (below_pick hg3 (by have := hc2.lt; omega))
      clear hc2 hg3 D2 hz3
      by_cases y0 : y = 0
      · subst y0
        have hp3 := hc3.lt
        go_wp2_with (go_at_call 53; go_must (refine (pick_cur 8 hlen hZ (by omega) (by omega) (by omega) (hc3.alloc _)).mono ?_); rintro e w4 ⟨i, hi, rfl, hc4, hg4, hz4⟩; have hblk := (hg4.block w3.heap.size (by simp) (by intro e; injection e with e; omega)).trans (heap_alloc_new w3 _); obtain ⟨t2, ht2, ht3⟩ := str_at hblk (by decide) i (by simp; omega); clear hblk)
        have D4 : Below p w w4 := (D3.alloc (by omega) _).trans (below_pick hg4 (by simp; omega))
        clear hg4 hz4 hc3 D3
        go_wp2
        go_ret
        exact ⟨t2, by omega, rfl, hc4.up (by omega), D4⟩
      · have hy0 : ((y : Int) == 0) = false := beq_eq_false_iff_ne.2 (by omega)
        by_cases y1 : y = 1
        · subst y1
          go_wp2_with fail
          refine (pick_cur 2 hlen hZ (by omega) (by omega) (by omega) hc3).mono ?_
          rintro e w4 ⟨z, hz, rfl, hc4, hg4, hz4⟩
          have D4 := D3.trans (below_pick hg4 (by have := hc3.lt; omega))
          clear hc3 hg4 D3
          obtain ⟨m, hm⟩ : ∃ m : Nat, (599 : Int) + (z : Int) = (m : Int) := ⟨599 + z, by omega⟩
          have cZ := fun W => specZeros m W (by omega)
          unfold AnsS at cZ
          have hzl : (⟨(List.replicate m (48 : UInt8)).toArray⟩ : ByteArray).size = m := by show (List.replicate m (48 : UInt8)).length = m; simp
          generalize (⟨(List.replicate m (48 : UInt8)).toArray⟩ : ByteArray) = zz at *
          have hzl2 : zz.size ≤ 601 := by omega
          obtain ⟨r, hr⟩ : ∃ r : ByteArray, (⟨#[49]⟩ : ByteArray) ++ zz = r := ⟨_, rfl⟩
          have hrz : r.size ≤ 602 := by rw [← hr, ByteArray.size_append]; show 1 + zz.size ≤ 602; omega
          clear hzl
          go_wp2_with fail
          refine (cZ _).mono ?_
          rintro e w5 ⟨rfl, B5⟩
          have hc5 : Cur p A c zs (K + 2 + (n : Int) + 1 + 1) w5 := by
            have hcl := hc4.lt
            obtain ⟨h1, k, s, a, b, d, e, h2⟩ := hc4
            exact ⟨h1.below (B5.mono (by omega)), k, s, a, b, d, e, h2.below B5 hcl⟩
          have D5 := D4.trans (B5.mono (by have := hc4.lt; omega))
          clear cZ B5 hc4 D4
          go_wp2
          go_ret
          exact ⟨r, by omega, rfl, hc5.up (by omega), D5⟩
        · have hy1 : ((y : Int) == 1) = false := beq_eq_false_iff_ne.2 (by omega)
          by_cases y2 : y = 2
          · subst y2
            go_wp2
            go_ret
            exact ⟨_, by decide, rfl, hc3.up (by omega), D3⟩
          · have hy2 : ((y : Int) == 2) = false := beq_eq_false_iff_ne.2 (by omega)
            go_wp2
            go_ret
            exact ⟨u, by omega, rfl, hc3.up (by omega), D3⟩
    · have hq1 : (0 : Int) < (q : Int) := by omega
      go_wp2_with (go_at_call 53; go_must (refine (pick_cur 10 hlen hZ (by omega) (by omega) (by omega) (hc.alloc _)).mono ?_); rintro e w2 ⟨i, hi, rfl, hc2, hg2, hz2⟩; have hblk := (hg2.block wr.heap.size (by simp) (by intro e; injection e with e; omega)).trans (heap_alloc_new wr _); obtain ⟨t2, ht2, ht3⟩ := str_at hblk (by decide) i (by simp; omega); clear hblk)
      have hb2 : Below p w w2 := (hbel.alloc (by omega) _).trans (below_pick hg2 (by simp; omega))
      clear hg2 hz2 hbel hc
      have hts2 : (t ++ t2).size = t.size + t2.size := by simp
      have HT := Lib.hid hts2; clear hts2
      go_wp2
      go_roundw
      case rel => exact ⟨q - 1, t ++ t2, by simp; omega, rfl, by rw [HT.out]; omega, hc2.up (by omega), by omega, hb2⟩
      case measure => simp [intOf]; omega

def IntCur (d : Int) (p : Nat) (A : Option Addr) (c : Nat) (zs : List Int) (K : Int) (w : World) (e : Ending) (w' : World) : Prop :=
  ∃ x : Int, e = .returned (.int .i64 x) ∧ Cur p A c zs (K + d) w' ∧ Below p w w'

def okInt : Value → Bool
  | .int .i64 _ => true
  | _ => false
theorem int_at {w : World} {g : Nat} {arr : Array Value} {T : TypeId} {fz : Nat × Nat} (h : w.heap[g]? = some (.cells arr T fz)) (hok : arr.toList.all okInt = true) (j : Nat) (hj : j < arr.size) :
    ∃ x : Int, w.cell? ⟨g, j, none⟩ = some (.int .i64 x) := by
  rw [cell_of_row w g j arr T fz h]
  have h1 := List.all_eq_true.1 hok (arr[j]) (by simp)
  rw [Array.getElem?_eq_getElem hj]
  generalize arr[j] = v at h1
  unfold okInt at h1
  split at h1
  · exact ⟨_, rfl⟩
  · cases h1

set_option maxHeartbeats 1000000 in
set_option maxRecDepth 100000 in
theorem raw_cur {p : Nat} {A : Option Addr} {c : Nat} {zs : List Int} {K : Int} {w : World} (hlen : zs.length ≤ 1048576) (hZ : Bytes zs) (hK : K ≤ 800000000) (h : Cur p A c zs K w) :
    Calls Try.prog 54 #[.pointer (some ⟨p, 0, none⟩)] w (IntCur 2 p A c zs K w) := by
  have hp := h.lt
  have cP := pick_cur 8 hlen hZ (by omega) (by omega) (by omega) h
  clear h
  go_enter Try.func54, Try.ntmps54
  go_wp2_with fail
  refine cP.mono ?_
  rintro e w1 ⟨y, hy, rfl, hc1, hg1, hz1⟩
  have D1 := below_pick hg1 (by omega)
  clear cP hg1 hz1
  have hp1 := hc1.lt
  by_cases y0 : y = 0
  · subst y0
    go_wp2_with fail
    refine (pick_cur 256 hlen hZ (by omega) (by omega) (by omega) hc1).mono ?_
    rintro e w2 ⟨x, hx, rfl, hc2, hg2, hz2⟩
    have D2 := D1.trans (below_pick hg2 (by omega))
    clear hc1 hg2 D1
    go_wp2
    go_ret
    exact ⟨_, rfl, hc2.up (by omega), D2⟩
  · have hy0 : ((y : Int) == 0) = false := beq_eq_false_iff_ne.2 (by omega)
    by_cases y1 : y = 1
    · subst y1
      go_wp2_with (go_at_call 53; go_must (refine (pick_cur 8 hlen hZ (by omega) (by omega) (by omega) (hc1.alloc _)).mono ?_); rintro e w4 ⟨i, hi, rfl, hc4, hg4, hz4⟩; have hblk := (hg4.block w1.heap.size (by simp) (by intro e; injection e with e; omega)).trans (heap_alloc_new w1 _); obtain ⟨x2, hx2⟩ := int_at hblk (by decide) i (by simp; omega); clear hblk)
      have D4 : Below p w w4 := (D1.alloc (by omega) _).trans (below_pick hg4 (by simp; omega))
      clear hg4 hz4 hc1 D1
      go_wp2
      go_ret
      exact ⟨x2, rfl, hc4.up (by omega), D4⟩
    · have hy1 : ((y : Int) == 1) = false := beq_eq_false_iff_ne.2 (by omega)
      go_wp2_with fail
      refine (pick_cur 14 hlen hZ (by omega) (by omega) (by omega) hc1).mono ?_
      rintro e w2 ⟨x, hx, rfl, hc2, hg2, hz2⟩
      have D2 := D1.trans (below_pick hg2 (by omega))
      clear hc1 hg2 D1
      go_wp2
      go_ret
      exact ⟨_, rfl, hc2.up (by omega), D2⟩

/-- What drawing two naturals, or one and a number, leaves. -/
def Drawn2 (w : World) (e : Ending) (w' : World) : Prop := ∃ s t : ByteArray, s.size ≤ 3000 ∧ t.size ≤ 3000 ∧ e = .returned (.tuple #[.string s, .string t]) ∧ Below w.heap.size w w'
def DrawnI (w : World) (e : Ending) (w' : World) : Prop := ∃ (s : ByteArray) (n : Int), s.size ≤ 3000 ∧ e = .returned (.tuple #[.string s, .int .i64 n]) ∧ Below w.heap.size w w'

set_option maxHeartbeats 1000000 in
set_option maxRecDepth 100000 in
theorem drawNatDiv_any (a : Option Addr) (c : Nat) (zs : List Int) (w : World) (hlen : zs.length ≤ 1048576) (hN : Nums .u8 w w.heap.size a zs) (hZ : Bytes zs) :
    Calls Try.prog 15 #[.slice a zs.length c] w (Drawn2 w) := by
  have cO := open_cur a c zs w hlen hN
  clear hN
  go_enter Try.func15, Try.ntmps15
  go_wp2_with fail
  refine cO.mono ?_
  rintro e w1 ⟨rfl, hc1, hb1⟩
  clear cO
  go_wp2_with fail
  refine (nat_cur 20 hlen hZ (by omega) (by omega) (by omega) hc1).mono ?_
  rintro e w2 ⟨s, hs, rfl, hc2, hb2⟩
  have D2 := hb1.trans hb2
  clear hc1 hb1 hb2
  go_wp2_with fail
  refine (nat_cur 6 hlen hZ (by omega) (by omega) (by omega) hc2).mono ?_
  rintro e w3 ⟨t, ht, rfl, hc3, hb3⟩
  have D3 := D2.trans hb3
  clear hc2 hb3 D2 hc3
  go_wp2
  go_ret2
  exact ⟨s, t, by omega, by omega, rfl, D3⟩
set_option maxHeartbeats 1000000 in
set_option maxRecDepth 100000 in
theorem drawNatAdd_any (a : Option Addr) (c : Nat) (zs : List Int) (w : World) (hlen : zs.length ≤ 1048576) (hN : Nums .u8 w w.heap.size a zs) (hZ : Bytes zs) :
    Calls Try.prog 21 #[.slice a zs.length c] w (Drawn2 w) := by
  have cO := open_cur a c zs w hlen hN
  clear hN
  go_enter Try.func21, Try.ntmps21
  go_wp2_with fail
  refine cO.mono ?_
  rintro e w1 ⟨rfl, hc1, hb1⟩
  clear cO
  go_wp2_with fail
  refine (nat_cur 14 hlen hZ (by omega) (by omega) (by omega) hc1).mono ?_
  rintro e w2 ⟨s, hs, rfl, hc2, hb2⟩
  have D2 := hb1.trans hb2
  clear hc1 hb1 hb2
  go_wp2_with fail
  refine (nat_cur 14 hlen hZ (by omega) (by omega) (by omega) hc2).mono ?_
  rintro e w3 ⟨t, ht, rfl, hc3, hb3⟩
  have D3 := D2.trans hb3
  clear hc2 hb3 D2 hc3
  go_wp2
  go_ret2
  exact ⟨s, t, by omega, by omega, rfl, D3⟩
set_option maxHeartbeats 1000000 in
set_option maxRecDepth 100000 in
theorem drawNatRound_any (a : Option Addr) (c : Nat) (zs : List Int) (w : World) (hlen : zs.length ≤ 1048576) (hN : Nums .u8 w w.heap.size a zs) (hZ : Bytes zs) :
    Calls Try.prog 28 #[.slice a zs.length c] w (DrawnI w) := by
  have cO := open_cur a c zs w hlen hN
  clear hN
  go_enter Try.func28, Try.ntmps28
  go_wp2_with fail
  refine cO.mono ?_
  rintro e w1 ⟨rfl, hc1, hb1⟩
  clear cO
  go_wp2_with fail
  refine (nat_cur 14 hlen hZ (by omega) (by omega) (by omega) hc1).mono ?_
  rintro e w2 ⟨s, hs, rfl, hc2, hb2⟩
  have D2 := hb1.trans hb2
  clear hc1 hb1 hb2
  go_wp2_with fail
  refine (pick_cur 2 hlen hZ (by omega) (by omega) (by omega) hc2).mono ?_
  rintro e w3 ⟨x, hx, rfl, hc3, hg3, hz3⟩
  have D3 := D2.trans (below_pick hg3 (by have := hc2.lt; omega))
  clear hc2 hg3 D2
  by_cases x0 : x = 0
  · subst x0
    go_wp2_with fail
    refine (pick_cur 4 hlen hZ (by omega) (by omega) (by omega) hc3).mono ?_
    rintro e w4 ⟨m, hm, rfl, hc4, hg4, hz4⟩
    have D4 := D3.trans (below_pick hg4 (by have := hc3.lt; omega))
    clear hc3 hg4 D3
    have cZ := fun W => specZeros m W (by omega)
    unfold AnsS at cZ
    have hzl : (⟨(List.replicate m (48 : UInt8)).toArray⟩ : ByteArray).size = m := by show (List.replicate m (48 : UInt8)).length = m; simp
    generalize (⟨(List.replicate m (48 : UInt8)).toArray⟩ : ByteArray) = zz at *
    have hzl2 : zz.size ≤ 4 := by omega
    obtain ⟨r1, hr1⟩ : ∃ r : ByteArray, s ++ (⟨#[53]⟩ : ByteArray) = r := ⟨_, rfl⟩
    have hrz1 : r1.size ≤ 1001 := by rw [← hr1, ByteArray.size_append]; show s.size + 1 ≤ 1001; omega
    obtain ⟨r, hr⟩ : ∃ r : ByteArray, r1 ++ zz = r := ⟨_, rfl⟩
    have hrz : r.size ≤ 1005 := by rw [← hr, ByteArray.size_append]; omega
    have hfx : (⟨#[53]⟩ : ByteArray).size = 1 := rfl
    clear hzl
    go_wp2_with fail
    refine (cZ _).mono ?_
    rintro e w5 ⟨rfl, B5⟩
    have hc5 : Cur w.heap.size a c zs (0 + (14 + 10) + 1 + 1) w5 := by
      have hcl := hc4.lt
      obtain ⟨h1, k, s, a, b, d, e, h2⟩ := hc4
      exact ⟨h1.below (B5.mono (by omega)), k, s, a, b, d, e, h2.below B5 hcl⟩
    have D5 := D4.trans (B5.mono (by have := hc4.lt; omega))
    clear cZ B5 hc4 D4
    go_wp2_with fail
    refine (pick_cur 7 hlen hZ (by omega) (by omega) (by omega) hc5).mono ?_
    rintro e w6 ⟨x, hx, rfl, hc6, hg6, hz6⟩
    have D6 := D5.trans (below_pick hg6 (by have := hc5.lt; omega))
    clear hc5 hg6 D5
    go_wp2
    go_ret2
    exact ⟨r, _, by omega, rfl, D6⟩
  · have hxi : ((x : Int) == 0) = false := beq_eq_false_iff_ne.2 (by omega)
    go_wp2_with fail
    refine (raw_cur hlen hZ (by omega) hc3).mono ?_
    rintro e w4 ⟨y, rfl, hc4, hb4⟩
    have D4 := D3.trans hb4
    clear hc3 hb4 D3 hc4
    go_wp2
    go_ret2
    exact ⟨s, y, by omega, rfl, D4⟩

end Go.Proofs.Ytgbmijebhchkiaa
