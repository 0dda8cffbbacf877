/- The specification's drawing of a text, one in so many spoilt. Conditions: the code has at most 1048576 bytes. -/
import Derived.Test.YtdkjfppjbkdelaaDoorWord
import Derived.RegionTactic
import Derived.RegionCalls
import Derived.Deep.RegionWith
import Derived.Deep.RegionHeld3
namespace Go.Proofs.YtdkjfppjbkdelaaDoor
open Go.RowKit

/-- The cursor lies whole at block p, at most K on. -/
def Cur (p : Nat) (A : Option Addr) (c : Nat) (zs : List Int) (K : Int) (W : World) : Prop :=
  Nums .u8 W p A zs ∧ ∃ k s : Int, 0 ≤ k ∧ k ≤ K ∧ 0 ≤ s ∧ s < 65521 ∧ CurAt W p A zs.length c k s

section
variable {p : Nat} {A : Option Addr} {c : Nat} {zs : List Int} {K : Int} {W : World}
theorem Cur.lt (h : Cur p A c zs K W) : p < W.heap.size := by obtain ⟨_, k, s, _, _, _, _, h⟩ := h; exact h.lt
theorem Cur.alloc (h : Cur p A c zs K W) (o : Obj) : Cur p A c zs K (W.alloc o) := by
  have hl := h.lt
  obtain ⟨h1, k, s, a, b, d, e, h2⟩ := h
  exact ⟨h1.alloc (by omega) o, k, s, a, b, d, e, h2.alloc o⟩
theorem Cur.drew (h : Cur p A c zs K W) : Cur p A c zs K W.drew := h
theorem Cur.drewN (h : Cur p A c zs K W) (q : Nat) : Cur p A c zs K (W.drewN q) := h
theorem Cur.up {K' : Int} (h : Cur p A c zs K W) (hk : K ≤ K') : Cur p A c zs K' W := by
  obtain ⟨h1, k, s, a, b, d, e, h2⟩ := h
  exact ⟨h1, k, s, a, by omega, d, e, h2⟩
end

def strSz : Value → Nat
  | .string t => t.size
  | _ => 0

def PickCur (m : Int) (p : Nat) (A : Option Addr) (c : Nat) (zs : List Int) (K : Int) (W : World) (e : Ending) (w' : World) : Prop :=
  ∃ x : Nat, (x : Int) < m ∧ e = .returned (.int .i64 x) ∧ Cur p A c zs (K + 1) w' ∧ W.grownBy w' (some p) ∧ w'.heap.size = W.heap.size

theorem pick_cur (m : Int) {p : Nat} {A : Option Addr} {c : Nat} {zs : List Int} {K : Int} {W : World} (hlen : zs.length ≤ 1048576) (hZ : Bytes zs) (hm : 2 ≤ m) (hm2 : m ≤ 1000) (hK : K ≤ 900000000) (h : Cur p A c zs K W) :
    Calls Tryd.prog 35 #[.pointer (some ⟨p, 0, none⟩), .int .i64 m] W (PickCur m p A c zs K W) := by
  have hl := h.lt
  obtain ⟨h1, k, s, a, b, d, e, h2⟩ := h
  refine (pick_any m p A c zs k s W hm (by omega) hlen h1 hZ a (by omega) d e h2).mono ?_
  rintro e w' ⟨x, s', x0, x1, rfl, hC, s0, s1, hg, hz⟩
  exact ⟨x.toNat, by omega, by rw [Int.toNat_of_nonneg x0], ⟨h1.grown hg (by omega), k + 1, s', by omega, by omega, s0, s1, hC⟩, hg, hz⟩

/-- What drawing a string leaves. -/
def StrCur (m : Nat) (d : Int) (p : Nat) (A : Option Addr) (c : Nat) (zs : List Int) (K : Int) (w : World) (e : Ending) (w' : World) : Prop :=
  ∃ t : ByteArray, t.size ≤ m ∧ e = .returned (.string t) ∧ Cur p A c zs (K + d) w' ∧ Below p w w'

theorem word_cur (n : Nat) {p : Nat} {A : Option Addr} {c : Nat} {zs : List Int} {K : Int} {W : World} (hlen : zs.length ≤ 1048576) (hZ : Bytes zs) (hn : 1 ≤ n) (hn2 : n ≤ 1000) (hK : K ≤ 900000000) (h : Cur p A c zs K W) :
    Calls Tryd.prog 53 #[.pointer (some ⟨p, 0, none⟩), .int .i64 n] W (StrCur (3 * n) (n + 1) p A c zs K W) := by
  have hl := h.lt
  obtain ⟨h1, k, s, a, b, d, e, h2⟩ := h
  refine (word_any n p A c zs k s W hn hn2 hlen h1 hZ a (by omega) d e h2).mono ?_
  rintro e w' ⟨t, k', s', ht, rfl, hC, k0, k1, s0, s1, hb⟩
  exact ⟨t, ht, rfl, ⟨h1.below hb, k', s', by omega, by omega, s0, s1, hC⟩, hb⟩

/-- The cursor lies whole, and below it nothing was turned since w. -/
def CurB (p : Nat) (A : Option Addr) (c : Nat) (zs : List Int) (K : Int) (w W : World) : Prop := Cur p A c zs K W ∧ Below p w W
theorem CurB.drew {p : Nat} {A : Option Addr} {c : Nat} {zs : List Int} {K : Int} {w W : World} (h : CurB p A c zs K w W) : CurB p A c zs K w W.drew := ⟨h.1, h.2.drew⟩
theorem CurB.alloc {p : Nat} {A : Option Addr} {c : Nat} {zs : List Int} {K : Int} {w W : World} (h : CurB p A c zs K w W) (o : Obj) : CurB p A c zs K w (W.alloc o) := ⟨h.1.alloc o, h.2.alloc (by have := h.1.lt; omega) o⟩

def PickCurB (m : Int) (p : Nat) (A : Option Addr) (c : Nat) (zs : List Int) (K : Int) (w W : World) (e : Ending) (w' : World) : Prop :=
  ∃ x : Nat, (x : Int) < m ∧ e = .returned (.int .i64 x) ∧ CurB p A c zs (K + 1) w w' ∧ W.grownBy w' (some p) ∧ w'.heap.size = W.heap.size
theorem pick_cur2 (m : Int) {p : Nat} {A : Option Addr} {c : Nat} {zs : List Int} {K : Int} {w W : World} (h : CurB p A c zs K w W) (hlen : zs.length ≤ 1048576) (hZ : Bytes zs) (hm : 2 ≤ m) (hm2 : m ≤ 1000) (hK : K ≤ 900000000) :
    Calls Tryd.prog 35 #[.pointer (some ⟨p, 0, none⟩), .int .i64 m] W (PickCurB m p A c zs K w W) := by
  have hl := h.1.lt
  exact (pick_cur m hlen hZ hm hm2 hK h.1).mono fun e w' ⟨x, hx, he, hc, hg, hz⟩ => ⟨x, hx, he, ⟨hc, h.2.trans (below_pick hg (by omega))⟩, hg, hz⟩

def tab8 (x : Nat) : Int := [128, 255, 192, 224, 237, 0, 240, 244].getD x 0
theorem tab8_at (x : Nat) (h : (x : Int) < 8) : (#[Value.int IntKind.u8 128, Value.int IntKind.u8 255, Value.int IntKind.u8 192, Value.int IntKind.u8 224, Value.int IntKind.u8 237, Value.int IntKind.u8 0, Value.int IntKind.u8 240, Value.int IntKind.u8 244] : Array Value)[x]? = some (.int .u8 (tab8 x)) := by
  match x, h with
  | 0, _ => rfl
  | 1, _ => rfl
  | 2, _ => rfl
  | 3, _ => rfl
  | 4, _ => rfl
  | 5, _ => rfl
  | 6, _ => rfl
  | 7, _ => rfl
  | x + 8, h => omega
theorem kept_cell {W W1 : World} {p : Nat} (hg : W.grownBy W1 (some p)) (b : Nat) (hb : b ≠ p) (hlt : b < W.heap.size) : ∀ o, W1.cell? ⟨b, o, none⟩ = W.cell? ⟨b, o, none⟩ := fun o =>
  World.cell?_of_block (hg.block b hlt (fun e => hb (by injection e)))

/-- The string of the first m of three bytes. -/
def S3 (a b d : Int) (m : Nat) : ByteArray := ([a, b, d].take m).foldl (fun r n => r.push (UInt8.ofNat n.toNat)) ByteArray.empty
theorem S3_size (a b d : Int) (m : Nat) : (S3 a b d m).size ≤ 3 := by
  match m with
  | 0 => exact Nat.zero_le _
  | 1 => show 1 ≤ 3; omega
  | 2 => show 2 ≤ 3; omega
  | m + 3 =>
    have e : [a, b, d].take (m + 3) = [a, b, d] := by simp
    unfold S3
    rw [e]
    exact Nat.le_refl 3
theorem conv3 {W : World} {g m : Nat} {a b d : Int} (hm : m ≤ 3) (h : W.heap[g]? = some (.cells #[.int .u8 a, .int .u8 b, .int .u8 d] 5 (0, 0))) :
    (convert 22 9 (.slice (some ⟨g, 0, none⟩) m 3)).run Tryd.prog W = .ok (.string (S3 a b d m)) W := by
  rw [run_convert_bytes_string W 22 9 5 (some ⟨g, 0, none⟩) m 3 Tryd.underlying22 Tryd.underlying5 Tryd.underlying9]
  have hl := run_loadCells_list (P := Tryd.prog) W ⟨g, 0, none⟩ (([a, b, d].take m).map (Value.int .u8)) (fun j v hj => by
    rw [Addr.add_lit, Nat.zero_add, cell_of_row W g j _ _ _ h]
    rw [List.getElem?_map, List.getElem?_take] at hj
    split at hj
    · rw [← hj]
      match j with
      | 0 => rfl
      | 1 => rfl
      | 2 => rfl
      | j + 3 => simp at hj
    · cases hj)
  have hlen : (([a, b, d].take m).map (Value.int .u8)).length = m := by simp; omega
  rw [hlen] at hl
  exact run_bytesToString W ⟨g, 0, none⟩ m 3 _ hl
theorem conv_new {X : World} {g m : Nat} (hX : X.heap.size = g) (hm : m ≤ 3) (a b d : Int) :
    (convert 22 9 (.slice (some ⟨g, 0, none⟩) m 3)).run Tryd.prog (X.alloc (.cells #[.int .u8 a, .int .u8 b, .int .u8 d] 5)) = .ok (.string (S3 a b d m)) (X.alloc (.cells #[.int .u8 a, .int .u8 b, .int .u8 d] 5)) := by
  subst hX; exact conv3 hm (heap_alloc_new X _)
/-- Behind the last pick, the three bytes laid before it. -/
theorem conv_old {X W1 : World} {g m p : Nat} (hX : X.heap.size = g) (hm : m ≤ 3) (a b d : Int) (hg : (X.alloc (.cells #[.int .u8 a, .int .u8 b, .int .u8 d] 5)).grownBy W1 (some p)) (hp : g ≠ p) :
    (convert 22 9 (.slice (some ⟨g, 0, none⟩) m 3)).run Tryd.prog W1 = .ok (.string (S3 a b d m)) W1 := by
  subst hX
  exact conv3 hm ((hg.block X.heap.size (by simp) (fun e => hp (by injection e))).trans (heap_alloc_new X _))

set_option maxHeartbeats 8000000 in
set_option maxRecDepth 100000 in
theorem any_cur (n : Nat) {p : Nat} {A : Option Addr} {c : Nat} {zs : List Int} {K : Int} {w : World} (hlen : zs.length ≤ 1048576) (hZ : Bytes zs) (hn : 1 ≤ n) (hn2 : n ≤ 1000) (hK : K ≤ 800000000) (h : Cur p A c zs K w) :
    Calls Tryd.prog 24 #[.pointer (some ⟨p, 0, none⟩), .int .i64 n] w (StrCur (3 * n + 2048) (n + 10) p A c zs K w) := by
  have cW := word_cur n hlen hZ hn hn2 (by omega) h
  have hp := h.lt
  clear h
  go_enter Tryd.func24, Tryd.ntmps24
  go_wp2_with fail
  refine cW.mono ?_
  rintro e w1 ⟨s, hs, rfl, hc1, hb1⟩
  have z1 := hb1.size
  clear cW
  go_wp2_with fail
  refine (pick_cur 14 hlen hZ (by omega) (by omega) (by omega) hc1).mono ?_
  rintro e w2 ⟨x, hx, rfl, hc2, hg2, hz2⟩
  have hb2 : Below p w w2 := hb1.trans (below_pick hg2 (by omega))
  have HC := Lib.hid hc2
  have HZ := Lib.hid hZ
  clear hc1 hg2 hb1 hc2 hZ
  by_cases x0 : x = 0
  · subst x0
    have hcur : CurB p A c zs (K + ((n : Int) + 1) + 1) w w2 := ⟨HC.out, hb2⟩
    have hZ2 := HZ.out
    clear HC hb2
    go_wp2
    go_region_with (first | (go_at_call 35; go_must (refine (pick_cur2 _ (by first | assumption | exact CurB.drew (by assumption) | exact CurB.drew (CurB.alloc (by assumption) _) | exact CurB.alloc (by assumption) _ | exact CurB.drew (CurB.alloc (CurB.alloc (by assumption) _) _) | exact CurB.alloc (CurB.alloc (by assumption) _) _) hlen hZ2 (by omega) (by omega) (by omega)).mono ?_); rintro e W1 ⟨x, hx, rfl, hcurx, hgx, hzx⟩; (try simp at hzx); (first | (have h3 : (x : Int) < 3 := hx; obtain ⟨xd, rfl⟩ : ∃ y : Nat, y = x := ⟨_, rfl⟩; have v3 := IntWalk.i64_in (1 + (xd : Int)) ⟨by omega, by omega⟩; obtain ⟨T, hT⟩ : ∃ T, S3 (tab8 xa) (128 + (xb : Int)) (128 + (xc : Int)) (1 + xd) = T := ⟨_, rfl⟩; have hT3 : T.size ≤ 3 := (by rw [← hT]; exact S3_size _ _ _ _); (first | (have hcv := conv_old (g := w1.heap.size + 1) (m := 1 + xd) (by first | omega | (simp; omega)) (by omega) _ _ _ hgx (by omega); rw [hT] at hcv) | (have hcv := conv_new (X := W1) (g := w1.heap.size + 1) (m := 1 + xd) (by omega) (by omega) (tab8 xa) (128 + (xb : Int)) (128 + (xc : Int)); rw [hT] at hcv) | (have hcv := conv_new (X := W1.alloc (.cells #[Value.int IntKind.u8 128, Value.int IntKind.u8 255, Value.int IntKind.u8 192, Value.int IntKind.u8 224, Value.int IntKind.u8 237, Value.int IntKind.u8 0, Value.int IntKind.u8 240, Value.int IntKind.u8 244] 5)) (g := w1.heap.size + 1) (m := 1 + xd) (by simp; omega) (by omega) (tab8 xa) (128 + (xb : Int)) (128 + (xc : Int)); rw [hT] at hcv)); clear hT) | (have h8a : (x : Int) < 8 := hx; obtain ⟨xa, rfl⟩ : ∃ y : Nat, y = x := ⟨_, rfl⟩; have h8 := tab8_at xa h8a) | (have h64 : (x : Int) < 64 := hx; have _g := hxb; obtain ⟨xc, rfl⟩ : ∃ y : Nat, y = x := ⟨_, rfl⟩; have v1 := IntWalk.i64_in (128 + (xc : Int)) ⟨by omega, by omega⟩; have v2 := IntWalk.u8_in (128 + (xc : Int)) ⟨by omega, by omega⟩) | (have hxb : (x : Int) < 64 := hx; obtain ⟨xb, rfl⟩ : ∃ y : Nat, y = x := ⟨_, rfl⟩; have v1 := IntWalk.i64_in (128 + (xb : Int)) ⟨by omega, by omega⟩; have v2 := IntWalk.u8_in (128 + (xb : Int)) ⟨by omega, by omega⟩)); (try have hcl := kept_cell hgx w1.heap.size (by omega) (by first | omega | (simp; omega))); (try have hcl2 := kept_cell hgx (w1.heap.size + 1) (by omega) (by first | omega | (simp; omega))); clear hgx))
    all_goals
      go_wp2
      go_ret
      refine ⟨s ++ T, by rw [ByteArray.size_append]; omega, rfl, ?_⟩
      exact And.imp_left (fun h => h.up (by omega)) (show CurB p A c zs _ w _ from by first | assumption | exact CurB.alloc (by assumption) _ | exact CurB.alloc (CurB.alloc (by assumption) _) _ | exact CurB.drew (by assumption) | exact CurB.drew (CurB.alloc (by assumption) _) | exact CurB.drew (CurB.alloc (CurB.alloc (by assumption) _) _))
  · by_cases x1 : x = 1
    · subst x1
      go_wp2
      go_loop [6] (fun o => ∃ t : ByteArray, o = .string t ∧ (t.size = 2 ∨ t.size = 4 ∨ t.size = 8 ∨ t.size = 16 ∨ t.size = 32 ∨ t.size = 64 ∨ t.size = 128 ∨ t.size = 256 ∨ t.size = 512 ∨ t.size = 1024)) (fun o => 2000 - strSz o)
      case atStart => exact ⟨_, rfl, .inl rfl⟩
      case round =>
        obtain ⟨t, rfl, ht⟩ := hrel
        have HT := Lib.hid ht
        have ht1 : 2 ≤ t.size := by omega
        have ht2 : t.size ≤ 1024 := by omega
        clear ht
        by_cases hlt : t.size < 1000
        · have hsz : (t ++ t).size = t.size + t.size := ByteArray.size_append
          have HS := Lib.hid hsz; clear hsz
          go_wp2
          go_round
          case rel => exact ⟨t ++ t, rfl, by have := HT.out; rw [HS.out]; omega⟩
          case measure => simp only [strSz]; rw [HS.out]; omega
        · have ht3 : t.size = 1024 := by have := HT.out; omega
          have ht4 : (1024 : Int) ≤ (t.size : Int) := by omega
          clear ht3
          go_wp2_with (go_at_call 35; go_must (refine (pick_cur 3 hlen HZ.out (by omega) (by omega) (by omega) HC.out).mono ?_); rintro e w3 ⟨y, hy, rfl, hc3, hg3, hz3⟩; have hc3' := Lib.hid hc3; clear hc3)
          have hb3 : Below p w w3 := hb2.trans (below_pick hg3 (by omega))
          clear hg3 HC hb2
          go_wp2
          go_ret
          refine ⟨_, ?_, rfl, hc3'.out.up (by omega), hb3⟩
          simp
          omega
    · by_cases x2 : x = 2
      · subst x2
        go_wp2
        go_ret
        refine ⟨_, ?_, rfl, HC.out.up (by omega), hb2⟩
        rw [ByteArray.size_append]
        show s.size + 11 ≤ _
        omega
      · have t0 : ((x : Int) == 0) = false := by simp; omega
        have t1 : ((x : Int) == 1) = false := by simp; omega
        have t2 : ((x : Int) == 2) = false := by simp; omega
        go_wp2
        go_ret
        exact ⟨s, by omega, rfl, HC.out.up (by omega), hb2⟩

end Go.Proofs.YtdkjfppjbkdelaaDoor
