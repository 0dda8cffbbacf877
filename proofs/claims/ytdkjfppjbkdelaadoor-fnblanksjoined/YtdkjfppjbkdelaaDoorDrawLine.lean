/- The specification's drawing of a line: a text with many blanks and commas; DrawBlanks. Conditions: the code has at most 1048576 bytes. -/
import Derived.Test.YtdkjfppjbkdelaaDoorOpen
namespace Go.Proofs.YtdkjfppjbkdelaaDoor
open Go.RowKit

def LineRel (n : Nat) (p : Nat) (A : Option Addr) (m c : Nat) (k : Int) (w : World) (out q : Value) (wr : World) : Prop :=
  ∃ (j : Nat) (t : ByteArray) (k' s' : Int), q = .int .i64 j ∧ out = .string t ∧ t.size + 3 * j ≤ 3 * n ∧ CurAt wr p A m c k' s' ∧ k ≤ k' ∧ k' + j ≤ k + 1 + n ∧ 0 ≤ s' ∧ s' < 65521 ∧ Below p w wr

set_option maxHeartbeats 4000000 in
set_option maxRecDepth 100000 in
theorem line_any (p : Nat) (A : Option Addr) (c : Nat) (zs : List Int) (k seed : Int) (w : World) (hlen : zs.length ≤ 1048576) (hN : Nums .u8 w p A zs) (hZ : Bytes zs)
    (hk : 0 ≤ k) (hk2 : k ≤ 900000000) (hs : 0 ≤ seed) (hs2 : seed < 65521) (hC : CurAt w p A zs.length c k seed) :
    Calls Tryd.prog 25 #[.pointer (some ⟨p, 0, none⟩)] w (StrDrawn 42 15 p A zs.length c k w) := by
  have cS := size_any 14 p A c zs k seed w (by omega) (by omega) hlen hN hZ hk (by omega) hs hs2 hC
  have hp := hC.lt
  have HN := Lib.hid hN
  have HZ := Lib.hid hZ
  clear hC hN hZ
  go_enter Tryd.func25, Tryd.ntmps25
  go_wp2_with fail
  refine cS.mono ?_
  rintro e w1 ⟨x, s1, x0, x1, rfl, hC1, g0, g1, hg1, hz1⟩
  have hb1 := below_pick hg1 (by omega)
  obtain ⟨j, rfl⟩ : ∃ j : Nat, x = j := ⟨x.toNat, by omega⟩
  clear cS hg1
  go_wp2
  go_loopw [3, 4] (fun out q wr => LineRel 14 p A zs.length c k w out q wr) (fun _ q _ => (intOf q).toNat)
  case atStart => exact ⟨j, _, k + 1, s1, rfl, rfl, by show 0 + 3 * j ≤ 3 * 14; omega, hC1, by omega, by omega, g0, g1, hb1⟩
  case round =>
    obtain ⟨q, t, k', s', rfl, rfl, hts, hCr, hkk, hkk2, r0, r1, hbel⟩ := hrel
    clear hC1 hb1 hz1 g0 g1
    have hpr := hCr.lt
    by_cases hq : q = 0
    · subst hq
      have HC := Lib.hid hCr; clear hCr
      go_wp2
      go_ret
      exact ⟨t, k', s', by omega, rfl, HC.out, by omega, by omega, r0, r1, hbel⟩
    · have hq1 : (0 : Int) < (q : Int) := by omega
      have HC := Lib.hid hCr; clear hCr
      go_wp2_with (go_at_call 35; go_must (refine (pick_any 14 p A c zs k' s' _ (by omega) (by omega) hlen ((HN.out.below hbel).alloc (by omega) _) HZ.out (by omega) (by omega) r0 r1 (HC.out.alloc _)).mono ?_); rintro e w2 ⟨x, s2, x0, x1, rfl, hC2, u0, u1, hg2, hz2⟩; obtain ⟨i, rfl⟩ : ∃ i : Nat, x = i := ⟨x.toNat, by omega⟩; have hblk := (hg2.block wr.heap.size (by simp) (by intro e; injection e with e; omega)).trans (heap_alloc_new wr _); obtain ⟨t2, ht2, ht3⟩ := str_at hblk (by decide) i (by simp; omega); clear hblk)
      have hb2 : Below p w w2 := (hbel.alloc (by omega) _).trans (below_pick hg2 (by simp; omega))
      have HC2 := Lib.hid hC2
      clear hg2 hC2 hz2 hbel HC
      have hts2 : (t ++ t2).size = t.size + t2.size := by simp
      have HT := Lib.hid hts2; clear hts2
      go_wp2
      go_roundw
      case rel => exact ⟨q - 1, t ++ t2, k' + 1, s2, by simp; omega, rfl, by rw [HT.out]; omega, HC2.out, by omega, by omega, u0, u1, hb2⟩
      case measure => simp [intOf]; omega

theorem line_cur {p : Nat} {A : Option Addr} {c : Nat} {zs : List Int} {K : Int} {W : World} (hlen : zs.length ≤ 1048576) (hZ : Bytes zs) (hK : K ≤ 900000000) (h : Cur p A c zs K W) :
    Calls Tryd.prog 25 #[.pointer (some ⟨p, 0, none⟩)] W (StrCur 42 15 p A c zs K W) := by
  have hl := h.lt
  obtain ⟨h1, k, s, a, b, d, e, h2⟩ := h
  refine (line_any p A c zs k s W hlen h1 hZ a (by omega) d e h2).mono ?_
  rintro e w' ⟨t, k', s', ht, rfl, hC, k0, k1, s0, s1, hb⟩
  exact ⟨t, ht, rfl, ⟨h1.below hb, k', s', by omega, by omega, s0, s1, hC⟩, hb⟩

theorem once_curL (m : Int) {p : Nat} {A : Option Addr} {c : Nat} {zs : List Int} {K : Int} {W : World} (hlen : zs.length ≤ 1048576) (hZ : Bytes zs) (hm : 2 ≤ m) (hm2 : m ≤ 1000) (hK : K ≤ 900000000) (h : Cur p A c zs K W) :
    Calls Tryd.prog 23 #[.pointer (some ⟨p, 0, none⟩), .int .i64 m] W fun e w' => ∃ b : Bool, e = .returned (.bool b) ∧ Cur p A c zs (K + 1) w' ∧ W.grownBy w' (some p) ∧ w'.heap.size = W.heap.size := by
  have cP := pick_cur m hlen hZ hm hm2 hK h
  clear h
  go_enter Tryd.func23, Tryd.ntmps23
  go_wp2_with fail
  refine cP.mono ?_
  rintro e w1 ⟨x, hx, rfl, hc1, hg1, hz1⟩
  clear cP
  go_wp2
  go_ret
  exact ⟨_, rfl, hc1, hg1, hz1⟩

set_option maxHeartbeats 4000000 in
set_option maxRecDepth 100000 in
theorem drawBlanks_any (a : Option Addr) (c : Nat) (zs : List Int) (w : World) (hlen : zs.length ≤ 1048576) (hN : Nums .u8 w w.heap.size a zs) (hZ : Bytes zs) :
    Calls Tryd.prog 7 #[.slice a zs.length c] w (Drawn w) := by
  have cO := open_cur a c zs w hlen hN
  clear hN
  go_enter Tryd.func7, Tryd.ntmps7
  go_wp2_with fail
  refine cO.mono ?_
  rintro e w1 ⟨rfl, hc1, hb1⟩
  clear cO
  have hp := hc1.lt
  go_wp2_with fail
  refine (once_curL 10 hlen hZ (by omega) (by omega) (by omega) hc1).mono ?_
  rintro e w2 ⟨b, rfl, hc2, hg2, hz2⟩
  have hb2 : Below w.heap.size w w2 := hb1.trans (below_pick hg2 (by omega))
  clear hc1 hg2 hb1
  cases b with
  | true =>
    go_wp2_with fail
    refine (any_cur 4 hlen hZ (by omega) (by omega) (by omega) hc2).mono ?_
    rintro e w3 ⟨t, ht, rfl, hc3, hb3⟩
    have B := hb2.trans hb3
    clear hc2 hc3 hb2 hb3 hZ
    go_wp2
    go_ret
    exact ⟨t, by omega, rfl, B⟩
  | false =>
    go_wp2_with fail
    refine (line_cur hlen hZ (by omega) hc2).mono ?_
    rintro e w3 ⟨t, ht, rfl, hc3, hb3⟩
    have B := hb2.trans hb3
    clear hc2 hc3 hb2 hb3 hZ
    go_wp2
    go_ret
    exact ⟨t, by omega, rfl, B⟩

end Go.Proofs.YtdkjfppjbkdelaaDoor
