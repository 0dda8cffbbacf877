/- The specification's drawing of a decimal from a code: what is drawn is bounded. Conditions: the code has at most 1048576 bytes. -/
import Derived.Test.YthijeckcjfnbcaaGreatDoorDrawNat
import Derived.Test.YthijeckcjfnbcaaGreatDoorTailA
import Derived.Test.YthijeckcjfnbcaaGreatDoorSpecDec2
import Derived.Test.YthijeckcjfnbcaaGreatDoorSpecDec12
import Derived.Deep.DeepMust
namespace Go.Proofs.YthijeckcjfnbcaaGreatDoor
set_option linter.unusedVariables false
open Go.RowKit

def okDig (m : Nat) : Value → Bool
  | .string t => decide (t.size ≤ m) && t.data.toList.all (fun b => decide (48 ≤ b.toNat ∧ b.toNat ≤ 57))
  | _ => false
theorem dig_at {w : World} {g : Nat} {arr : Array Value} {T : TypeId} {fz : Nat × Nat} (m : Nat) (h : w.heap[g]? = some (.cells arr T fz)) (hok : arr.toList.all (okDig m) = true) (j : Nat) (hj : j < arr.size) :
    ∃ t : ByteArray, w.cell? ⟨g, j, none⟩ = some (.string t) ∧ t.size ≤ m ∧ Digs t.data.toList := by
  rw [cell_of_row w g j arr T fz h]
  have h1 := List.all_eq_true.1 hok (arr[j]) (by simp)
  rw [Array.getElem?_eq_getElem hj]
  generalize arr[j] = v at h1
  unfold okDig at h1
  split at h1
  · rw [Bool.and_eq_true, List.all_eq_true] at h1
    exact ⟨_, rfl, of_decide_eq_true h1.1, fun b hb => of_decide_eq_true (h1.2 b hb)⟩
  · cases h1
def okI (v : Value) : Bool := match v with
  | .int .i64 x => decide (-9223372036854775808 ≤ x ∧ x ≤ 9223372036854775807)
  | _ => false
theorem int_atB {w : World} {g : Nat} {arr : Array Value} {T : TypeId} {fz : Nat × Nat} (h : w.heap[g]? = some (.cells arr T fz)) (hok : arr.toList.all okI = true) (j : Nat) (hj : j < arr.size) :
    ∃ x : Int, w.cell? ⟨g, j, none⟩ = some (.int .i64 x) ∧ -9223372036854775808 ≤ x ∧ x ≤ 9223372036854775807 := by
  rw [cell_of_row w g j arr T fz h]
  have h1 := List.all_eq_true.1 hok (arr[j]) (by simp)
  rw [Array.getElem?_eq_getElem hj]
  generalize arr[j] = v at h1
  unfold okI at h1
  split at h1
  · exact ⟨_, rfl, of_decide_eq_true h1⟩
  · cases h1
theorem DecAt.grown {w w' : World} {g p : Nat} {n : Bool} {s : ByteArray} {e : Int} (h : DecAt w g n s e) (hg : w.grownBy w' (some p)) (hne : p ≠ g) : DecAt w' g n s e :=
  (hg.block g h.lt (by intro e; injection e with e; omega)).trans h
theorem Cur.belowS {p : Nat} {A : Option Addr} {c : Nat} {zs : List Int} {K : Int} {w w' : World} (h : Cur p A c zs K w) (hb : Below w.heap.size w w') : Cur p A c zs K w' := by
  have hl := h.lt
  obtain ⟨h1, k, s, a, b, d, e, h2⟩ := h
  exact ⟨h1.below (hb.mono (by omega)), k, s, a, b, d, e, h2.below hb hl⟩
theorem Cur.row {p : Nat} {A : Option Addr} {c : Nat} {zs : List Int} {K : Int} {w : World} {g : Nat} (h : Cur p A c zs K w) (hg : p < g) (C : Array Value) : Cur p A c zs K (w.setRow g C) := by
  have hl := h.lt
  have hb : Below g w (w.setRow g C) := ⟨rfl, rfl, rfl, by simp, fun k hk => setRow_other w g k C (by omega)⟩
  obtain ⟨h1, k, s, a, b, d, e, h2⟩ := h
  exact ⟨h1.below (hb.mono (by omega)), k, s, a, b, d, e, h2.below hb hg⟩

theorem Cur.belowB {p : Nat} {A : Option Addr} {c : Nat} {zs : List Int} {K : Int} {w w' : World} {B : Nat} (h : Cur p A c zs K w) (hb : Below B w w') (hp : p < B) : Cur p A c zs K w' := by
  obtain ⟨h1, k, s, a, b, d, e, h2⟩ := h
  exact ⟨h1.below (hb.mono (by omega)), k, s, a, b, d, e, h2.below hb hp⟩
theorem Cur.cell {p : Nat} {A : Option Addr} {c : Nat} {zs : List Int} {K : Int} {w : World} {g : Nat} (h : Cur p A c zs K w) (hg : p < g) (j : Nat) (v : Value) : Cur p A c zs K (w.setCell ⟨g, j, none⟩ v) :=
  h.belowB (B := g) ((Below.refl g w).setCell (Nat.le_refl _) _) hg
/-- Below a block nothing has turned, and beside it nothing that was there. -/
def Bel (p : Nat) (w W : World) : Prop := p < w.heap.size ∧ Below p w W ∧ w.heap.size ≤ W.heap.size ∧ ∀ k, k < w.heap.size → k ≠ p → W.heap[k]? = w.heap[k]?
section
variable {p : Nat} {w W W' : World}
theorem Bel.refl (h : p < w.heap.size) : Bel p w w := ⟨h, Below.refl _ _, Nat.le_refl _, fun _ _ _ => rfl⟩
theorem Bel.grow (h : Bel p w W) (hb : Below W.heap.size W W') : Bel p w W' := by
  obtain ⟨a, b, c, d⟩ := h
  exact ⟨a, b.trans (hb.mono (by omega)), Nat.le_trans c hb.size, fun k hk hn => (hb.block k (by omega)).trans (d k hk hn)⟩
theorem Bel.alloc (h : Bel p w W) (o : Obj) : Bel p w (W.alloc o) := h.grow ((Below.refl _ _).alloc (Nat.le_refl _) _)
theorem Bel.pick (h : Bel p w W) (hg : W.grownBy W' (some p)) : Bel p w W' := by
  obtain ⟨a, b, c, d⟩ := h
  exact ⟨a, b.trans (below_pick hg (by omega)), Nat.le_trans c hg.size, fun k hk hn => (hg.block k (by omega) (by intro e; injection e with e; omega)).trans (d k hk hn)⟩
theorem Bel.row (h : Bel p w W) {g : Nat} (hg : w.heap.size ≤ g) (C : Array Value) : Bel p w (W.setRow g C) := by
  obtain ⟨a, b, c, d⟩ := h
  exact ⟨a, below_row3 b (by omega) C, by simpa using c, fun k hk hn => (setRow_other W g k C (by omega)).trans (d k hk hn)⟩
theorem Bel.cell (h : Bel p w W) {g : Nat} (hg : w.heap.size ≤ g) (j : Nat) (v : Value) : Bel p w (W.setCell ⟨g, j, none⟩ v) := by
  obtain ⟨a, b, c, d⟩ := h
  exact ⟨a, b.setCell (by show p ≤ g; omega) _, by simpa [World.setCell] using c, fun k hk hn => (Below.heap_setCell W ⟨g, j, none⟩ v k (by show k ≠ g; omega)).trans (d k hk hn)⟩
theorem Bel.dec (h : Bel p w W) {g : Nat} {n : Bool} {s : ByteArray} {e : Int} (hd : DecAt w g n s e) (hn : g ≠ p) : DecAt W g n s e := (h.2.2.2 g hd.lt hn).trans hd
end
/-- What drawing a decimal leaves. -/
def DrawnDec (p : Nat) (w : World) (r : Ending) (w' : World) : Prop :=
  ∃ (n : Bool) (t : ByteArray) (x : Int), t.size ≤ 1000 ∧ -9223372036854775808 ≤ x ∧ x ≤ 9223372036854775807 ∧ r = .returned (.agg (row3 n t x)) ∧ Below p w w'
def DrawnDecC (p : Nat) (A : Option Addr) (c : Nat) (zs : List Int) (K : Int) (w : World) (r : Ending) (w' : World) : Prop :=
  ∃ (n : Bool) (t : ByteArray) (x : Int), t.size ≤ 1000 ∧ -9223372036854775808 ≤ x ∧ x ≤ 9223372036854775807 ∧ r = .returned (.agg (row3 n t x)) ∧ Bel p w w' ∧ Cur p A c zs (K + 30) w'
def DecLoop (p : Nat) (A : Option Addr) (c : Nat) (zs : List Int) (K : Int) (w : World) (out q : Value) (wr : World) : Prop :=
  ∃ (j : Nat) (t : ByteArray), q = .int .i64 (j : Int) ∧ out = .string t ∧ Hid (Digs t.data.toList) ∧ t.size + 2 * j ≤ 22 ∧ Cur p A c zs (K + 12 - (j : Int)) wr ∧ j ≤ 11 ∧ DecAt wr w.heap.size false ⟨#[]⟩ 0 ∧ Bel p w wr

set_option maxHeartbeats 1000000 in
theorem once_cur (m : Int) {p : Nat} {A : Option Addr} {c : Nat} {zs : List Int} {K : Int} {W : World} (hlen : zs.length ≤ 1048576) (hZ : Bytes zs) (hm : 2 ≤ m) (hm2 : m ≤ 1000) (hK : K ≤ 900000000) (h : Cur p A c zs K W) :
    Calls Tryz.prog 52 #[.pointer (some ⟨p, 0, none⟩), .int .i64 m] W fun e w' => ∃ b : Bool, e = .returned (.bool b) ∧ Cur p A c zs (K + 1) w' ∧ W.grownBy w' (some p) ∧ w'.heap.size = W.heap.size := by
  have cP := pick_cur m hlen hZ hm hm2 hK h
  clear h
  go_enter Tryz.func52, Tryz.ntmps52
  go_wp2_with fail
  refine cP.mono ?_
  rintro e w1 ⟨x, hx, rfl, hc1, hg1, hz1⟩
  clear cP
  go_wp2
  go_ret
  exact ⟨_, rfl, hc1, hg1, hz1⟩

theorem decOf_ok (n : Int) : (decOfV n).Ok := form_ok _ _ _
theorem form_size (neg : Bool) (v : Nat) (e : Int) : (formOf neg v e).1.dig.length ≤ 20 ∧ -118 ≤ (formOf neg v e).1.exp ∧ (formOf neg v e).1.exp ≤ 99 :=
  ⟨(form_ok neg v e).len, (form_ok neg v e).exps⟩

theorem set_dig {w : World} {g : Nat} {n : Bool} {s : ByteArray} {e : Int} (h : DecAt w g n s e) (t : ByteArray) : DecAt (w.setCell ⟨g, 1, none⟩ (.string t)) g n t e := by
  unfold DecAt at h ⊢
  rw [heap_setCell_same w g 1 _ _ _ h]; rfl
theorem below_cell {B : Nat} {a w : World} {g j : Nat} {v : Value} (h : Below B a w) (hg : B ≤ g) : Below B a (w.setCell ⟨g, j, none⟩ v) := h.setCell hg _
theorem set_exp {w : World} {g : Nat} {n : Bool} {s : ByteArray} {e : Int} (h : DecAt w g n s e) (x : Int) : DecAt (w.setCell ⟨g, 2, none⟩ (.int .i64 x)) g n s x := by
  unfold DecAt at h ⊢
  rw [heap_setCell_same w g 2 _ _ _ h]; rfl
theorem set_digO {w : World} {g k : Nat} {n : Bool} {s : ByteArray} {e : Int} (h : DecAt w k n s e) (hne : k ≠ g) (t : ByteArray) : DecAt (w.setCell ⟨g, 1, none⟩ (.string t)) k n s e :=
  (Below.heap_setCell w ⟨g, 1, none⟩ _ k hne).trans h
theorem set_expO {w : World} {g k : Nat} {n : Bool} {s : ByteArray} {e : Int} (h : DecAt w k n s e) (hne : k ≠ g) (x : Int) : DecAt (w.setCell ⟨g, 2, none⟩ (.int .i64 x)) k n s e :=
  (Below.heap_setCell w ⟨g, 2, none⟩ _ k hne).trans h

set_option maxHeartbeats 4000000 in
set_option maxRecDepth 100000 in
theorem dec_curC {p : Nat} {A : Option Addr} {c : Nat} {zs : List Int} {K : Int} {w : World} (hlen : zs.length ≤ 1048576) (hZ : Bytes zs) (hK0 : 0 ≤ K) (hK : K ≤ 800000000) (h : Cur p A c zs K w) :
    Calls Tryz.prog 23 #[.pointer (some ⟨p, 0, none⟩)] w (DrawnDecC p A c zs K w) := by
  have hp := h.lt
  have K0 := DecAt.new w false ⟨#[]⟩ 0
  have cS := size_cur 10 hlen hZ (by omega) (by omega) (by omega) (h.alloc (.cells #[.bool false, .string ⟨#[]⟩, .int .i64 0] 25))
  clear h
  go_enter Tryz.func23, Tryz.ntmps23
  go_wp2_with fail
  refine cS.mono ?_
  rintro e w1 ⟨x, hx, rfl, hc1, hg, hz1⟩
  have K1 := K0.grown hg (by omega)
  have D1 : Bel p w w1 := ((Bel.refl hp).alloc _).pick hg
  clear cS hg K0
  go_wp2
  go_loopw [3, 4] (fun out q wr => DecLoop p A c zs K w out q wr) (fun _ q _ => (intOf q).toNat)
  case atStart => exact ⟨x + 1, _, by first | rfl | go_num | (simp; omega), rfl, digs_nil, by show 0 + 2 * (x + 1) ≤ 22; omega, hc1.up (by omega), by omega, K1, D1⟩
  case round =>
    obtain ⟨q, t, rfl, rfl, HT, hts, hc, hq11, KR, hbel⟩ := hrel
    clear hc1 D1 K1 hz1
    have hpr := hc.lt
    have hgr := KR.lt
    by_cases hq : q = 0
    · subst hq
      have hx22 : t.size ≤ 22 := by omega
      have cut : ∃ u : ByteArray, (t.size ≤ 20 ∧ u = t ∨ ¬ t.size ≤ 20 ∧ t.extract 0 20 = u) ∧ u.size ≤ 20 ∧ Digs u.data.toList := by
        by_cases h20 : t.size ≤ 20
        · exact ⟨t, .inl ⟨h20, rfl⟩, h20, HT.out⟩
        · refine ⟨t.extract 0 20, .inr ⟨h20, rfl⟩, by rw [ByteArray.size_extract]; omega, ?_⟩
          rw [ByteArray.data_extract, Array.toList_extract, List.extract_eq_take_drop, List.drop_zero]
          exact fun b hb => HT.out b (List.mem_of_mem_take hb)
      obtain ⟨u, hcut, hu20, HU0⟩ := cut
      have HU := Lib.hid HU0
      clear HU0 HT
      have K1 := KR
      have D1 := hbel
      clear KR hbel
      rcases hcut with ⟨h20, rfl⟩ | ⟨h20, hux⟩
      all_goals
        go_wp2_with fail
        refine (pick_cur 13 hlen hZ (by omega) (by omega) (by omega) hc).mono ?_
        rintro e w3 ⟨x3, hx3, rfl, hc3, hg, hz⟩
        have K2 := K1.grown hg (by omega)
        have D2 := D1.pick hg
        clear hc hg hz K1 D1
        have K1 := K2
        have D1 := D2
        clear K2 D2
        go_wp2_with fail
        refine (pick_cur 10 hlen hZ (by omega) (by omega) (by omega) hc3).mono ?_
        rintro e w4 ⟨y, hy, rfl, hc4, hg, hz⟩
        have K2 := K1.grown hg (by omega)
        have D2 := D1.pick hg
        clear hc3 hg hz K1 D1
        have K1 := K2
        have D1 := D2
        clear K2 D2
        have hp4 := hc4.lt
        by_cases y0 : y = 0
        · subst y0
          go_wp2_with fail
          refine (pick_cur 198 hlen hZ (by omega) (by omega) (by omega) hc4).mono ?_
          rintro e w7 ⟨z, hz, rfl, hc40, hg, hz⟩
          have K2 := K1.grown hg (by omega)
          have D2 := D1.pick hg
          clear hc4 hg hz K1 D1
          have K1 := K2
          have D1 := D2
          clear K2 D2
          obtain ⟨E, hE⟩ : ∃ E : Int, (z : Int) - 99 = E := ⟨_, rfl⟩
          go_wp2_with fail
          refine (pick_cur 3 hlen hZ (by omega) (by omega) (by omega) hc40).mono ?_
          rintro e w5 ⟨v, hv, rfl, hc5, hg, hz⟩
          have K2 := K1.grown hg (by omega)
          have D2 := D1.pick hg
          clear hc40 hg hz K1 D1
          have K1 := K2
          have D1 := D2
          clear K2 D2
          obtain ⟨ng, hng⟩ : ∃ ng : Bool, ((v : Int) == 0) = ng := ⟨_, rfl⟩
          have cF := fun W => specForm ng u E false W (by omega) HU.out (by omega) (by omega)
          obtain ⟨f1, f2, f3⟩ := form_size ng (if false then 10 * nv u + 1 else nv u) (if false then E - 1 else E)
          obtain ⟨R, hR⟩ : ∃ R, formOf ng (if false then 10 * nv u + 1 else nv u) (if false then E - 1 else E) = R := ⟨_, rfl⟩
          rw [hR] at cF f1 f2 f3
          clear hR
          obtain ⟨⟨rn, rd, re⟩, rc⟩ := R
          unfold AnsDC at cF
          dsimp only at cF f1 f2 f3
          obtain ⟨rs, hrs⟩ : ∃ rs : ByteArray, ⟨rd.toArray⟩ = rs := ⟨_, rfl⟩
          rw [hrs] at cF
          have hrz : rs.size ≤ 20 := by rw [← hrs]; exact f1
          clear hrs f1
          go_wp2_with fail
          refine (cF _).mono ?_
          rintro r w6 ⟨rfl, B6⟩
          have K6 := K1.belowS B6
          have hc6 := hc5.belowS B6
          have D6 := D1.grow B6
          clear cF B6 K1 D1 hc5
          have N6 := DecAt.new w6 false ⟨#[]⟩ 0
          have N7 : DecAt ((w6.alloc (.cells (row3 false ⟨#[]⟩ 0) 25)).setRow w6.heap.size (row3 rn rs re)) w6.heap.size rn rs re := N6.row
          have K7 : DecAt ((w6.alloc (.cells (row3 false ⟨#[]⟩ 0) 25)).setRow w6.heap.size (row3 rn rs re)) w.heap.size false ⟨#[]⟩ 0 := (K6.alloc _).rowO (Nat.ne_of_lt K6.lt) _
          have hc7 := (hc6.alloc (.cells (row3 false ⟨#[]⟩ 0) 25)).row hc6.lt (row3 rn rs re)
          have D7 := (D6.alloc (.cells (row3 false ⟨#[]⟩ 0) 25)).row (g := w6.heap.size) D6.2.2.1 (row3 rn rs re)
          have hp6 := hc6.lt
          have hw6 := K6.lt
          clear K6 D6 hc6
          go_wp2_with (with_reducible show wpList _ _ _ (⟨_, .store _ _ _, _, _, _, _⟩ :: _) _ _; refine store_dec w6.heap.size rfl rfl N6 ?_)
          clear N6
          refine (once_cur 18 hlen hZ (by omega) (by omega) (by omega) hc7).mono ?_
          rintro e w8 ⟨b, rfl, hc8, hg, hz⟩
          have K8 := K7.grown hg (by omega)
          have N8 := N7.grown hg (by omega)
          have D8 := D7.pick hg
          clear hc7 hg hz K7 N7 D7
          cases b
          · go_wp2_with (first | (with_reducible show wpList _ _ _ (⟨_, .load _ _, _, _, _, _⟩ :: _) _ _; refine load_dec w6.heap.size rfl N8 ?_) | (with_reducible show wpList _ _ _ (⟨_, .store _ _ _, _, _, _, _⟩ :: _) _ _; refine store_dec w.heap.size rfl rfl K8 ?_))
            refine bodyPost_ret (v := .agg (row3 rn rs re)) (results_dec rfl _ _ rfl K8.row) rfl ?_
            exact ⟨rn, rs, re, by omega, by omega, by omega, rfl, D8.row (Nat.le_refl _) _, (hc8.row hp _).up (by omega)⟩
          · go_wp2_with fail
            refine (pick_cur 5 hlen hZ (by omega) (by omega) (by omega) hc8).mono ?_
            rintro e w9 ⟨v5, hv5, rfl, hc9, hg, hz⟩
            have K9 := K8.grown hg (by omega)
            have N9 := N8.grown hg (by omega)
            have D9 := D8.pick hg
            have hsz9 := N9.lt
            have hp9 := hc9.lt
            obtain ⟨k0, k1, k2⟩ := N9.cell
            have kf1 := N9.frozen 1
            have kf2 := N9.frozen 2
            clear hc8 hg hz K8 N8 D8
            by_cases q0 : v5 = 0
            · subst q0
              obtain ⟨t5, ht5⟩ : ∃ t : ByteArray, rs ++ ⟨#[48]⟩ = t := ⟨_, rfl⟩
              have hz5 : t5.size ≤ 21 := by rw [← ht5, ByteArray.size_append]; show rs.size + 1 ≤ 21; omega
              have N10 := set_dig N9 t5
              have K10 := set_digO K9 (show w.heap.size ≠ w6.heap.size by omega) t5
              have D10 := D9.cell (g := w6.heap.size) (by omega) 1 (.string t5)
              clear K9 N9 D9
              go_wp2_with (first | (with_reducible show wpList _ _ _ (⟨_, .load _ _, _, _, _, _⟩ :: _) _ _; refine load_dec w6.heap.size rfl N10 ?_) | (with_reducible show wpList _ _ _ (⟨_, .store _ _ _, _, _, _, _⟩ :: _) _ _; refine store_dec w.heap.size rfl rfl K10 ?_))
              refine bodyPost_ret (v := .agg (row3 rn t5 re)) (results_dec rfl _ _ rfl K10.row) rfl ?_
              exact ⟨rn, t5, re, by omega, by omega, by omega, rfl, D10.row (Nat.le_refl _) _, ((hc9.cell hp6 1 _).row hp _).up (by omega)⟩
            · have p0 : ((v5 : Int) == 0) = false := beq_eq_false_iff_ne.2 (by omega)
              by_cases q1 : v5 = 1
              · subst q1
                go_wp2_with (first | (go_at_call 50; go_must (refine (pick_cur 4 hlen hZ (by omega) (by omega) (by omega) (hc9.alloc _)).mono ?_); rintro e w11 ⟨i, hi, rfl, hc11, hg, hz11⟩; have hblk := (hg.block w9.heap.size (by simp) (by intro e; injection e with e; omega)).trans (heap_alloc_new w9 _); obtain ⟨x5, hx5, hx6, hx7⟩ := int_atB hblk (by decide) i (by simp; omega); clear hblk; have K11 := (K9.alloc (.cells #[.int .i64 200, .int .i64 (-300), .int .i64 9223372036854775807, .int .i64 (-9223372036854775808)] 3)).grown hg (by omega); have N11 := (N9.alloc (.cells #[.int .i64 200, .int .i64 (-300), .int .i64 9223372036854775807, .int .i64 (-9223372036854775808)] 3)).grown hg (by omega); have kf3 := N11.frozen 2; obtain ⟨j0, j1, j2⟩ := N11.cell; have D11 := (D9.alloc (.cells #[.int .i64 200, .int .i64 (-300), .int .i64 9223372036854775807, .int .i64 (-9223372036854775808)] 3)).pick hg; clear hg; have N10 := set_exp N11 x5; have K10 := set_expO K11 (show w.heap.size ≠ w6.heap.size by omega) x5; have D10 := D11.cell (g := w6.heap.size) (by omega) 2 (.int .i64 x5); clear K9 N9 D9 K11 N11 D11) | (with_reducible show wpList _ _ _ (⟨_, .load _ _, _, _, _, _⟩ :: _) _ _; refine load_dec w6.heap.size rfl N10 ?_) | (with_reducible show wpList _ _ _ (⟨_, .store _ _ _, _, _, _, _⟩ :: _) _ _; refine store_dec w.heap.size rfl rfl K10 ?_))
                refine bodyPost_ret (v := .agg (row3 rn rs x5)) (results_dec rfl _ _ rfl K10.row) rfl ?_
                exact ⟨rn, rs, x5, by omega, by omega, by omega, rfl, D10.row (Nat.le_refl _) _, ((hc11.cell hp6 2 _).row hp _).up (by omega)⟩
              · have p1 : ((v5 : Int) == 1) = false := beq_eq_false_iff_ne.2 (by omega)
                by_cases q2 : v5 = 2
                · subst q2
                  obtain ⟨t5, ht5⟩ : ∃ t : ByteArray, ⟨#[48]⟩ ++ rs = t := ⟨_, rfl⟩
                  have hz5 : t5.size ≤ 21 := by rw [← ht5, ByteArray.size_append]; show 1 + rs.size ≤ 21; omega
                  have N10 := set_dig N9 t5
                  have K10 := set_digO K9 (show w.heap.size ≠ w6.heap.size by omega) t5
                  have D10 := D9.cell (g := w6.heap.size) (by omega) 1 (.string t5)
                  clear K9 N9 D9
                  go_wp2_with (first | (with_reducible show wpList _ _ _ (⟨_, .load _ _, _, _, _, _⟩ :: _) _ _; refine load_dec w6.heap.size rfl N10 ?_) | (with_reducible show wpList _ _ _ (⟨_, .store _ _ _, _, _, _, _⟩ :: _) _ _; refine store_dec w.heap.size rfl rfl K10 ?_))
                  refine bodyPost_ret (v := .agg (row3 rn t5 re)) (results_dec rfl _ _ rfl K10.row) rfl ?_
                  exact ⟨rn, t5, re, by omega, by omega, by omega, rfl, D10.row (Nat.le_refl _) _, ((hc9.cell hp6 1 _).row hp _).up (by omega)⟩
                · have p2 : ((v5 : Int) == 2) = false := beq_eq_false_iff_ne.2 (by omega)
                  by_cases q3 : v5 = 3
                  · subst q3
                    obtain ⟨t5, ht5⟩ : ∃ t : ByteArray, (⟨#[49, 120, 51]⟩ : ByteArray) = t := ⟨_, rfl⟩
                    have hz5 : t5.size ≤ 21 := by rw [← ht5]; decide
                    have N10 := set_dig N9 t5
                    have K10 := set_digO K9 (show w.heap.size ≠ w6.heap.size by omega) t5
                    have D10 := D9.cell (g := w6.heap.size) (by omega) 1 (.string t5)
                    clear K9 N9 D9
                    go_wp2_with (first | (with_reducible show wpList _ _ _ (⟨_, .load _ _, _, _, _, _⟩ :: _) _ _; refine load_dec w6.heap.size rfl N10 ?_) | (with_reducible show wpList _ _ _ (⟨_, .store _ _ _, _, _, _, _⟩ :: _) _ _; refine store_dec w.heap.size rfl rfl K10 ?_))
                    refine bodyPost_ret (v := .agg (row3 rn t5 re)) (results_dec rfl _ _ rfl K10.row) rfl ?_
                    exact ⟨rn, t5, re, by omega, by omega, by omega, rfl, D10.row (Nat.le_refl _) _, ((hc9.cell hp6 1 _).row hp _).up (by omega)⟩
                  · have p3 : ((v5 : Int) == 3) = false := beq_eq_false_iff_ne.2 (by omega)
                    have N10 : DecAt (w9.setRow w6.heap.size (row3 true ⟨#[]⟩ 0)) w6.heap.size true ⟨#[]⟩ 0 := N9.row
                    have K10 : DecAt (w9.setRow w6.heap.size (row3 true ⟨#[]⟩ 0)) w.heap.size false ⟨#[]⟩ 0 := K9.rowO (by omega) _
                    have D10 := D9.row (g := w6.heap.size) (by omega) (row3 true ⟨#[]⟩ 0)
                    go_wp2_with (first | (with_reducible show wpList _ _ _ (⟨_, .store _ _ _, _, _, _, _⟩ :: _) _ _; refine store_dec w6.heap.size rfl rfl N9 ?_) | (with_reducible show wpList _ _ _ (⟨_, .load _ _, _, _, _, _⟩ :: _) _ _; refine load_dec w6.heap.size rfl N10 ?_) | (with_reducible show wpList _ _ _ (⟨_, .store _ _ _, _, _, _, _⟩ :: _) _ _; refine store_dec w.heap.size rfl rfl K10 ?_))
                    refine bodyPost_ret (v := .agg (row3 true ⟨#[]⟩ 0)) (results_dec rfl _ _ rfl K10.row) rfl ?_
                    exact ⟨true, ⟨#[]⟩, 0, by decide, by omega, by omega, rfl, D10.row (Nat.le_refl _) _, ((hc9.row hp6 _).row hp _).up (by omega)⟩
        · have hy0 : ((y : Int) == 0) = false := beq_eq_false_iff_ne.2 (by omega)
          by_cases y1 : y = 1
          · subst y1
            obtain ⟨E, hE⟩ : ∃ E : Int, (x3 : Int) - 6 = E := ⟨_, rfl⟩
            clear HU hu20
            go_wp2_with (go_at_call 50; refine (pick_cur 6 hlen hZ (by omega) (by omega) (by omega) (hc4.alloc _)).mono ?_; rintro e w7 ⟨i, hi, rfl, hc40, hg, hz7⟩; have hblk := (hg.block w4.heap.size (by simp) (by intro e; injection e with e; omega)).trans (heap_alloc_new w4 _); have K2 := (K1.alloc _).grown hg (by omega); have D2 := (D1.alloc _).pick hg; obtain ⟨u2, hu2, hu20, HU0⟩ := dig_at 20 hblk (by decide) i (by simp; omega); have HU := Lib.hid HU0; clear hblk hg HU0 K1 D1 hc4)
            have K1 := K2
            have D1 := D2
            clear K2 D2
            go_wp2_with fail
            refine (pick_cur 3 hlen hZ (by omega) (by omega) (by omega) hc40).mono ?_
            rintro e w5 ⟨v, hv, rfl, hc5, hg, hz⟩
            have K2 := K1.grown hg (by omega)
            have D2 := D1.pick hg
            clear hc40 hg hz K1 D1
            have K1 := K2
            have D1 := D2
            clear K2 D2
            obtain ⟨ng, hng⟩ : ∃ ng : Bool, ((v : Int) == 0) = ng := ⟨_, rfl⟩
            have cF := fun W => specForm ng u2 E false W (by omega) HU.out (by omega) (by omega)
            obtain ⟨f1, f2, f3⟩ := form_size ng (if false then 10 * nv u2 + 1 else nv u2) (if false then E - 1 else E)
            obtain ⟨R, hR⟩ : ∃ R, formOf ng (if false then 10 * nv u2 + 1 else nv u2) (if false then E - 1 else E) = R := ⟨_, rfl⟩
            rw [hR] at cF f1 f2 f3
            clear hR
            obtain ⟨⟨rn, rd, re⟩, rc⟩ := R
            unfold AnsDC at cF
            dsimp only at cF f1 f2 f3
            obtain ⟨rs, hrs⟩ : ∃ rs : ByteArray, ⟨rd.toArray⟩ = rs := ⟨_, rfl⟩
            rw [hrs] at cF
            have hrz : rs.size ≤ 20 := by rw [← hrs]; exact f1
            clear hrs f1
            go_wp2_with fail
            refine (cF _).mono ?_
            rintro r w6 ⟨rfl, B6⟩
            have K6 := K1.belowS B6
            have hc6 := hc5.belowS B6
            have D6 := D1.grow B6
            clear cF B6 K1 D1 hc5
            have N6 := DecAt.new w6 false ⟨#[]⟩ 0
            have N7 : DecAt ((w6.alloc (.cells (row3 false ⟨#[]⟩ 0) 25)).setRow w6.heap.size (row3 rn rs re)) w6.heap.size rn rs re := N6.row
            have K7 : DecAt ((w6.alloc (.cells (row3 false ⟨#[]⟩ 0) 25)).setRow w6.heap.size (row3 rn rs re)) w.heap.size false ⟨#[]⟩ 0 := (K6.alloc _).rowO (Nat.ne_of_lt K6.lt) _
            have hc7 := (hc6.alloc (.cells (row3 false ⟨#[]⟩ 0) 25)).row hc6.lt (row3 rn rs re)
            have D7 := (D6.alloc (.cells (row3 false ⟨#[]⟩ 0) 25)).row (g := w6.heap.size) D6.2.2.1 (row3 rn rs re)
            have hp6 := hc6.lt
            have hw6 := K6.lt
            clear K6 D6 hc6
            go_wp2_with (with_reducible show wpList _ _ _ (⟨_, .store _ _ _, _, _, _, _⟩ :: _) _ _; refine store_dec w6.heap.size rfl rfl N6 ?_)
            clear N6
            refine (once_cur 18 hlen hZ (by omega) (by omega) (by omega) hc7).mono ?_
            rintro e w8 ⟨b, rfl, hc8, hg, hz⟩
            have K8 := K7.grown hg (by omega)
            have N8 := N7.grown hg (by omega)
            have D8 := D7.pick hg
            clear hc7 hg hz K7 N7 D7
            cases b
            · go_wp2_with (first | (with_reducible show wpList _ _ _ (⟨_, .load _ _, _, _, _, _⟩ :: _) _ _; refine load_dec w6.heap.size rfl N8 ?_) | (with_reducible show wpList _ _ _ (⟨_, .store _ _ _, _, _, _, _⟩ :: _) _ _; refine store_dec w.heap.size rfl rfl K8 ?_))
              refine bodyPost_ret (v := .agg (row3 rn rs re)) (results_dec rfl _ _ rfl K8.row) rfl ?_
              exact ⟨rn, rs, re, by omega, by omega, by omega, rfl, D8.row (Nat.le_refl _) _, (hc8.row hp _).up (by omega)⟩
            · go_wp2_with fail
              refine (pick_cur 5 hlen hZ (by omega) (by omega) (by omega) hc8).mono ?_
              rintro e w9 ⟨v5, hv5, rfl, hc9, hg, hz⟩
              have K9 := K8.grown hg (by omega)
              have N9 := N8.grown hg (by omega)
              have D9 := D8.pick hg
              have hsz9 := N9.lt
              have hp9 := hc9.lt
              obtain ⟨k0, k1, k2⟩ := N9.cell
              have kf1 := N9.frozen 1
              have kf2 := N9.frozen 2
              clear hc8 hg hz K8 N8 D8
              by_cases q0 : v5 = 0
              · subst q0
                obtain ⟨t5, ht5⟩ : ∃ t : ByteArray, rs ++ ⟨#[48]⟩ = t := ⟨_, rfl⟩
                have hz5 : t5.size ≤ 21 := by rw [← ht5, ByteArray.size_append]; show rs.size + 1 ≤ 21; omega
                have N10 := set_dig N9 t5
                have K10 := set_digO K9 (show w.heap.size ≠ w6.heap.size by omega) t5
                have D10 := D9.cell (g := w6.heap.size) (by omega) 1 (.string t5)
                clear K9 N9 D9
                go_wp2_with (first | (with_reducible show wpList _ _ _ (⟨_, .load _ _, _, _, _, _⟩ :: _) _ _; refine load_dec w6.heap.size rfl N10 ?_) | (with_reducible show wpList _ _ _ (⟨_, .store _ _ _, _, _, _, _⟩ :: _) _ _; refine store_dec w.heap.size rfl rfl K10 ?_))
                refine bodyPost_ret (v := .agg (row3 rn t5 re)) (results_dec rfl _ _ rfl K10.row) rfl ?_
                exact ⟨rn, t5, re, by omega, by omega, by omega, rfl, D10.row (Nat.le_refl _) _, ((hc9.cell hp6 1 _).row hp _).up (by omega)⟩
              · have p0 : ((v5 : Int) == 0) = false := beq_eq_false_iff_ne.2 (by omega)
                by_cases q1 : v5 = 1
                · subst q1
                  go_wp2_with (first | (go_at_call 50; go_must (refine (pick_cur 4 hlen hZ (by omega) (by omega) (by omega) (hc9.alloc _)).mono ?_); rintro e w11 ⟨i, hi, rfl, hc11, hg, hz11⟩; have hblk := (hg.block w9.heap.size (by simp) (by intro e; injection e with e; omega)).trans (heap_alloc_new w9 _); obtain ⟨x5, hx5, hx6, hx7⟩ := int_atB hblk (by decide) i (by simp; omega); clear hblk; have K11 := (K9.alloc (.cells #[.int .i64 200, .int .i64 (-300), .int .i64 9223372036854775807, .int .i64 (-9223372036854775808)] 3)).grown hg (by omega); have N11 := (N9.alloc (.cells #[.int .i64 200, .int .i64 (-300), .int .i64 9223372036854775807, .int .i64 (-9223372036854775808)] 3)).grown hg (by omega); have kf3 := N11.frozen 2; obtain ⟨j0, j1, j2⟩ := N11.cell; have D11 := (D9.alloc (.cells #[.int .i64 200, .int .i64 (-300), .int .i64 9223372036854775807, .int .i64 (-9223372036854775808)] 3)).pick hg; clear hg; have N10 := set_exp N11 x5; have K10 := set_expO K11 (show w.heap.size ≠ w6.heap.size by omega) x5; have D10 := D11.cell (g := w6.heap.size) (by omega) 2 (.int .i64 x5); clear K9 N9 D9 K11 N11 D11) | (with_reducible show wpList _ _ _ (⟨_, .load _ _, _, _, _, _⟩ :: _) _ _; refine load_dec w6.heap.size rfl N10 ?_) | (with_reducible show wpList _ _ _ (⟨_, .store _ _ _, _, _, _, _⟩ :: _) _ _; refine store_dec w.heap.size rfl rfl K10 ?_))
                  refine bodyPost_ret (v := .agg (row3 rn rs x5)) (results_dec rfl _ _ rfl K10.row) rfl ?_
                  exact ⟨rn, rs, x5, by omega, by omega, by omega, rfl, D10.row (Nat.le_refl _) _, ((hc11.cell hp6 2 _).row hp _).up (by omega)⟩
                · have p1 : ((v5 : Int) == 1) = false := beq_eq_false_iff_ne.2 (by omega)
                  by_cases q2 : v5 = 2
                  · subst q2
                    obtain ⟨t5, ht5⟩ : ∃ t : ByteArray, ⟨#[48]⟩ ++ rs = t := ⟨_, rfl⟩
                    have hz5 : t5.size ≤ 21 := by rw [← ht5, ByteArray.size_append]; show 1 + rs.size ≤ 21; omega
                    have N10 := set_dig N9 t5
                    have K10 := set_digO K9 (show w.heap.size ≠ w6.heap.size by omega) t5
                    have D10 := D9.cell (g := w6.heap.size) (by omega) 1 (.string t5)
                    clear K9 N9 D9
                    go_wp2_with (first | (with_reducible show wpList _ _ _ (⟨_, .load _ _, _, _, _, _⟩ :: _) _ _; refine load_dec w6.heap.size rfl N10 ?_) | (with_reducible show wpList _ _ _ (⟨_, .store _ _ _, _, _, _, _⟩ :: _) _ _; refine store_dec w.heap.size rfl rfl K10 ?_))
                    refine bodyPost_ret (v := .agg (row3 rn t5 re)) (results_dec rfl _ _ rfl K10.row) rfl ?_
                    exact ⟨rn, t5, re, by omega, by omega, by omega, rfl, D10.row (Nat.le_refl _) _, ((hc9.cell hp6 1 _).row hp _).up (by omega)⟩
                  · have p2 : ((v5 : Int) == 2) = false := beq_eq_false_iff_ne.2 (by omega)
                    by_cases q3 : v5 = 3
                    · subst q3
                      obtain ⟨t5, ht5⟩ : ∃ t : ByteArray, (⟨#[49, 120, 51]⟩ : ByteArray) = t := ⟨_, rfl⟩
                      have hz5 : t5.size ≤ 21 := by rw [← ht5]; decide
                      have N10 := set_dig N9 t5
                      have K10 := set_digO K9 (show w.heap.size ≠ w6.heap.size by omega) t5
                      have D10 := D9.cell (g := w6.heap.size) (by omega) 1 (.string t5)
                      clear K9 N9 D9
                      go_wp2_with (first | (with_reducible show wpList _ _ _ (⟨_, .load _ _, _, _, _, _⟩ :: _) _ _; refine load_dec w6.heap.size rfl N10 ?_) | (with_reducible show wpList _ _ _ (⟨_, .store _ _ _, _, _, _, _⟩ :: _) _ _; refine store_dec w.heap.size rfl rfl K10 ?_))
                      refine bodyPost_ret (v := .agg (row3 rn t5 re)) (results_dec rfl _ _ rfl K10.row) rfl ?_
                      exact ⟨rn, t5, re, by omega, by omega, by omega, rfl, D10.row (Nat.le_refl _) _, ((hc9.cell hp6 1 _).row hp _).up (by omega)⟩
                    · have p3 : ((v5 : Int) == 3) = false := beq_eq_false_iff_ne.2 (by omega)
                      have N10 : DecAt (w9.setRow w6.heap.size (row3 true ⟨#[]⟩ 0)) w6.heap.size true ⟨#[]⟩ 0 := N9.row
                      have K10 : DecAt (w9.setRow w6.heap.size (row3 true ⟨#[]⟩ 0)) w.heap.size false ⟨#[]⟩ 0 := K9.rowO (by omega) _
                      have D10 := D9.row (g := w6.heap.size) (by omega) (row3 true ⟨#[]⟩ 0)
                      go_wp2_with (first | (with_reducible show wpList _ _ _ (⟨_, .store _ _ _, _, _, _, _⟩ :: _) _ _; refine store_dec w6.heap.size rfl rfl N9 ?_) | (with_reducible show wpList _ _ _ (⟨_, .load _ _, _, _, _, _⟩ :: _) _ _; refine load_dec w6.heap.size rfl N10 ?_) | (with_reducible show wpList _ _ _ (⟨_, .store _ _ _, _, _, _, _⟩ :: _) _ _; refine store_dec w.heap.size rfl rfl K10 ?_))
                      refine bodyPost_ret (v := .agg (row3 true ⟨#[]⟩ 0)) (results_dec rfl _ _ rfl K10.row) rfl ?_
                      exact ⟨true, ⟨#[]⟩, 0, by decide, by omega, by omega, rfl, D10.row (Nat.le_refl _) _, ((hc9.row hp6 _).row hp _).up (by omega)⟩
          · have hy1 : ((y : Int) == 1) = false := beq_eq_false_iff_ne.2 (by omega)
            by_cases y2 : y = 2
            · subst y2
              go_wp2_with fail
              refine (pick_cur 12 hlen hZ (by omega) (by omega) (by omega) hc4).mono ?_
              rintro e w7 ⟨z, hz, rfl, hc40, hg, hz⟩
              have K2 := K1.grown hg (by omega)
              have D2 := D1.pick hg
              clear hc4 hg hz K1 D1
              have K1 := K2
              have D1 := D2
              clear K2 D2
              have cO := fun W => specDecOf ((z : Int) - 3) W (by omega) (by omega)
              have hO : (decOfV ((z : Int) - 3)).Ok := decOf_ok _
              obtain ⟨R, hR⟩ : ∃ R, decOfV ((z : Int) - 3) = R := ⟨_, rfl⟩
              rw [hR] at cO hO
              have f1 := hO.len
              obtain ⟨f2, f3⟩ := hO.exps
              clear hR hO
              obtain ⟨rn, rd, re⟩ := R
              unfold AnsD at cO
              dsimp only at cO f1 f2 f3
              obtain ⟨rs, hrs⟩ : ∃ rs : ByteArray, ⟨rd.toArray⟩ = rs := ⟨_, rfl⟩
              rw [hrs] at cO
              have hrz : rs.size ≤ 20 := by rw [← hrs]; exact f1
              clear hrs f1
              go_wp2_with fail
              refine (cO _).mono ?_
              rintro r w6 ⟨rfl, B6⟩
              have K6 := K1.belowS B6
              have D6 := D1.grow B6
              have hc6 := hc40.belowS B6
              clear cO B6 K1 D1 hc40
              go_wp2_with (with_reducible show wpList _ _ _ (⟨_, .store _ _ _, _, _, _, _⟩ :: _) _ _; refine store_dec w.heap.size rfl rfl K6 ?_)
              refine bodyPost_ret (v := .agg (row3 rn rs re)) (results_dec rfl _ _ rfl K6.row) rfl ?_
              exact ⟨rn, rs, re, by omega, by omega, by omega, rfl, D6.row (Nat.le_refl _) _, (hc6.row hp _).up (by omega)⟩
            · have hy2 : ((y : Int) == 2) = false := beq_eq_false_iff_ne.2 (by omega)
              obtain ⟨E, hE⟩ : ∃ E : Int, (x3 : Int) - 6 = E := ⟨_, rfl⟩
              go_wp2_with fail
              refine (pick_cur 3 hlen hZ (by omega) (by omega) (by omega) hc4).mono ?_
              rintro e w5 ⟨v, hv, rfl, hc5, hg, hz⟩
              have K2 := K1.grown hg (by omega)
              have D2 := D1.pick hg
              clear hc4 hg hz K1 D1
              have K1 := K2
              have D1 := D2
              clear K2 D2
              obtain ⟨ng, hng⟩ : ∃ ng : Bool, ((v : Int) == 0) = ng := ⟨_, rfl⟩
              have cF := fun W => specForm ng u E false W (by omega) HU.out (by omega) (by omega)
              obtain ⟨f1, f2, f3⟩ := form_size ng (if false then 10 * nv u + 1 else nv u) (if false then E - 1 else E)
              obtain ⟨R, hR⟩ : ∃ R, formOf ng (if false then 10 * nv u + 1 else nv u) (if false then E - 1 else E) = R := ⟨_, rfl⟩
              rw [hR] at cF f1 f2 f3
              clear hR
              obtain ⟨⟨rn, rd, re⟩, rc⟩ := R
              unfold AnsDC at cF
              dsimp only at cF f1 f2 f3
              obtain ⟨rs, hrs⟩ : ∃ rs : ByteArray, ⟨rd.toArray⟩ = rs := ⟨_, rfl⟩
              rw [hrs] at cF
              have hrz : rs.size ≤ 20 := by rw [← hrs]; exact f1
              clear hrs f1
              go_wp2_with fail
              refine (cF _).mono ?_
              rintro r w6 ⟨rfl, B6⟩
              have K6 := K1.belowS B6
              have hc6 := hc5.belowS B6
              have D6 := D1.grow B6
              clear cF B6 K1 D1 hc5
              have N6 := DecAt.new w6 false ⟨#[]⟩ 0
              have N7 : DecAt ((w6.alloc (.cells (row3 false ⟨#[]⟩ 0) 25)).setRow w6.heap.size (row3 rn rs re)) w6.heap.size rn rs re := N6.row
              have K7 : DecAt ((w6.alloc (.cells (row3 false ⟨#[]⟩ 0) 25)).setRow w6.heap.size (row3 rn rs re)) w.heap.size false ⟨#[]⟩ 0 := (K6.alloc _).rowO (Nat.ne_of_lt K6.lt) _
              have hc7 := (hc6.alloc (.cells (row3 false ⟨#[]⟩ 0) 25)).row hc6.lt (row3 rn rs re)
              have D7 := (D6.alloc (.cells (row3 false ⟨#[]⟩ 0) 25)).row (g := w6.heap.size) D6.2.2.1 (row3 rn rs re)
              have hp6 := hc6.lt
              have hw6 := K6.lt
              clear K6 D6 hc6
              go_wp2_with (with_reducible show wpList _ _ _ (⟨_, .store _ _ _, _, _, _, _⟩ :: _) _ _; refine store_dec w6.heap.size rfl rfl N6 ?_)
              clear N6
              refine (once_cur 18 hlen hZ (by omega) (by omega) (by omega) hc7).mono ?_
              rintro e w8 ⟨b, rfl, hc8, hg, hz⟩
              have K8 := K7.grown hg (by omega)
              have N8 := N7.grown hg (by omega)
              have D8 := D7.pick hg
              clear hc7 hg hz K7 N7 D7
              cases b
              · go_wp2_with (first | (with_reducible show wpList _ _ _ (⟨_, .load _ _, _, _, _, _⟩ :: _) _ _; refine load_dec w6.heap.size rfl N8 ?_) | (with_reducible show wpList _ _ _ (⟨_, .store _ _ _, _, _, _, _⟩ :: _) _ _; refine store_dec w.heap.size rfl rfl K8 ?_))
                refine bodyPost_ret (v := .agg (row3 rn rs re)) (results_dec rfl _ _ rfl K8.row) rfl ?_
                exact ⟨rn, rs, re, by omega, by omega, by omega, rfl, D8.row (Nat.le_refl _) _, (hc8.row hp _).up (by omega)⟩
              · go_wp2_with fail
                refine (pick_cur 5 hlen hZ (by omega) (by omega) (by omega) hc8).mono ?_
                rintro e w9 ⟨v5, hv5, rfl, hc9, hg, hz⟩
                have K9 := K8.grown hg (by omega)
                have N9 := N8.grown hg (by omega)
                have D9 := D8.pick hg
                have hsz9 := N9.lt
                have hp9 := hc9.lt
                obtain ⟨k0, k1, k2⟩ := N9.cell
                have kf1 := N9.frozen 1
                have kf2 := N9.frozen 2
                clear hc8 hg hz K8 N8 D8
                by_cases q0 : v5 = 0
                · subst q0
                  obtain ⟨t5, ht5⟩ : ∃ t : ByteArray, rs ++ ⟨#[48]⟩ = t := ⟨_, rfl⟩
                  have hz5 : t5.size ≤ 21 := by rw [← ht5, ByteArray.size_append]; show rs.size + 1 ≤ 21; omega
                  have N10 := set_dig N9 t5
                  have K10 := set_digO K9 (show w.heap.size ≠ w6.heap.size by omega) t5
                  have D10 := D9.cell (g := w6.heap.size) (by omega) 1 (.string t5)
                  clear K9 N9 D9
                  go_wp2_with (first | (with_reducible show wpList _ _ _ (⟨_, .load _ _, _, _, _, _⟩ :: _) _ _; refine load_dec w6.heap.size rfl N10 ?_) | (with_reducible show wpList _ _ _ (⟨_, .store _ _ _, _, _, _, _⟩ :: _) _ _; refine store_dec w.heap.size rfl rfl K10 ?_))
                  refine bodyPost_ret (v := .agg (row3 rn t5 re)) (results_dec rfl _ _ rfl K10.row) rfl ?_
                  exact ⟨rn, t5, re, by omega, by omega, by omega, rfl, D10.row (Nat.le_refl _) _, ((hc9.cell hp6 1 _).row hp _).up (by omega)⟩
                · have p0 : ((v5 : Int) == 0) = false := beq_eq_false_iff_ne.2 (by omega)
                  by_cases q1 : v5 = 1
                  · subst q1
                    go_wp2_with (first | (go_at_call 50; go_must (refine (pick_cur 4 hlen hZ (by omega) (by omega) (by omega) (hc9.alloc _)).mono ?_); rintro e w11 ⟨i, hi, rfl, hc11, hg, hz11⟩; have hblk := (hg.block w9.heap.size (by simp) (by intro e; injection e with e; omega)).trans (heap_alloc_new w9 _); obtain ⟨x5, hx5, hx6, hx7⟩ := int_atB hblk (by decide) i (by simp; omega); clear hblk; have K11 := (K9.alloc (.cells #[.int .i64 200, .int .i64 (-300), .int .i64 9223372036854775807, .int .i64 (-9223372036854775808)] 3)).grown hg (by omega); have N11 := (N9.alloc (.cells #[.int .i64 200, .int .i64 (-300), .int .i64 9223372036854775807, .int .i64 (-9223372036854775808)] 3)).grown hg (by omega); have kf3 := N11.frozen 2; obtain ⟨j0, j1, j2⟩ := N11.cell; have D11 := (D9.alloc (.cells #[.int .i64 200, .int .i64 (-300), .int .i64 9223372036854775807, .int .i64 (-9223372036854775808)] 3)).pick hg; clear hg; have N10 := set_exp N11 x5; have K10 := set_expO K11 (show w.heap.size ≠ w6.heap.size by omega) x5; have D10 := D11.cell (g := w6.heap.size) (by omega) 2 (.int .i64 x5); clear K9 N9 D9 K11 N11 D11) | (with_reducible show wpList _ _ _ (⟨_, .load _ _, _, _, _, _⟩ :: _) _ _; refine load_dec w6.heap.size rfl N10 ?_) | (with_reducible show wpList _ _ _ (⟨_, .store _ _ _, _, _, _, _⟩ :: _) _ _; refine store_dec w.heap.size rfl rfl K10 ?_))
                    refine bodyPost_ret (v := .agg (row3 rn rs x5)) (results_dec rfl _ _ rfl K10.row) rfl ?_
                    exact ⟨rn, rs, x5, by omega, by omega, by omega, rfl, D10.row (Nat.le_refl _) _, ((hc11.cell hp6 2 _).row hp _).up (by omega)⟩
                  · have p1 : ((v5 : Int) == 1) = false := beq_eq_false_iff_ne.2 (by omega)
                    by_cases q2 : v5 = 2
                    · subst q2
                      obtain ⟨t5, ht5⟩ : ∃ t : ByteArray, ⟨#[48]⟩ ++ rs = t := ⟨_, rfl⟩
                      have hz5 : t5.size ≤ 21 := by rw [← ht5, ByteArray.size_append]; show 1 + rs.size ≤ 21; omega
                      have N10 := set_dig N9 t5
                      have K10 := set_digO K9 (show w.heap.size ≠ w6.heap.size by omega) t5
                      have D10 := D9.cell (g := w6.heap.size) (by omega) 1 (.string t5)
                      clear K9 N9 D9
                      go_wp2_with (first | (with_reducible show wpList _ _ _ (⟨_, .load _ _, _, _, _, _⟩ :: _) _ _; refine load_dec w6.heap.size rfl N10 ?_) | (with_reducible show wpList _ _ _ (⟨_, .store _ _ _, _, _, _, _⟩ :: _) _ _; refine store_dec w.heap.size rfl rfl K10 ?_))
                      refine bodyPost_ret (v := .agg (row3 rn t5 re)) (results_dec rfl _ _ rfl K10.row) rfl ?_
                      exact ⟨rn, t5, re, by omega, by omega, by omega, rfl, D10.row (Nat.le_refl _) _, ((hc9.cell hp6 1 _).row hp _).up (by omega)⟩
                    · have p2 : ((v5 : Int) == 2) = false := beq_eq_false_iff_ne.2 (by omega)
                      by_cases q3 : v5 = 3
                      · subst q3
                        obtain ⟨t5, ht5⟩ : ∃ t : ByteArray, (⟨#[49, 120, 51]⟩ : ByteArray) = t := ⟨_, rfl⟩
                        have hz5 : t5.size ≤ 21 := by rw [← ht5]; decide
                        have N10 := set_dig N9 t5
                        have K10 := set_digO K9 (show w.heap.size ≠ w6.heap.size by omega) t5
                        have D10 := D9.cell (g := w6.heap.size) (by omega) 1 (.string t5)
                        clear K9 N9 D9
                        go_wp2_with (first | (with_reducible show wpList _ _ _ (⟨_, .load _ _, _, _, _, _⟩ :: _) _ _; refine load_dec w6.heap.size rfl N10 ?_) | (with_reducible show wpList _ _ _ (⟨_, .store _ _ _, _, _, _, _⟩ :: _) _ _; refine store_dec w.heap.size rfl rfl K10 ?_))
                        refine bodyPost_ret (v := .agg (row3 rn t5 re)) (results_dec rfl _ _ rfl K10.row) rfl ?_
                        exact ⟨rn, t5, re, by omega, by omega, by omega, rfl, D10.row (Nat.le_refl _) _, ((hc9.cell hp6 1 _).row hp _).up (by omega)⟩
                      · have p3 : ((v5 : Int) == 3) = false := beq_eq_false_iff_ne.2 (by omega)
                        have N10 : DecAt (w9.setRow w6.heap.size (row3 true ⟨#[]⟩ 0)) w6.heap.size true ⟨#[]⟩ 0 := N9.row
                        have K10 : DecAt (w9.setRow w6.heap.size (row3 true ⟨#[]⟩ 0)) w.heap.size false ⟨#[]⟩ 0 := K9.rowO (by omega) _
                        have D10 := D9.row (g := w6.heap.size) (by omega) (row3 true ⟨#[]⟩ 0)
                        go_wp2_with (first | (with_reducible show wpList _ _ _ (⟨_, .store _ _ _, _, _, _, _⟩ :: _) _ _; refine store_dec w6.heap.size rfl rfl N9 ?_) | (with_reducible show wpList _ _ _ (⟨_, .load _ _, _, _, _, _⟩ :: _) _ _; refine load_dec w6.heap.size rfl N10 ?_) | (with_reducible show wpList _ _ _ (⟨_, .store _ _ _, _, _, _, _⟩ :: _) _ _; refine store_dec w.heap.size rfl rfl K10 ?_))
                        refine bodyPost_ret (v := .agg (row3 true ⟨#[]⟩ 0)) (results_dec rfl _ _ rfl K10.row) rfl ?_
                        exact ⟨true, ⟨#[]⟩, 0, by decide, by omega, by omega, rfl, D10.row (Nat.le_refl _) _, ((hc9.row hp6 _).row hp _).up (by omega)⟩
    · have hq1 : (0 : Int) < (q : Int) := by omega
      go_wp2_with (go_at_call 50; go_must (refine (pick_cur 10 hlen hZ (by omega) (by omega) (by omega) (hc.alloc _)).mono ?_); rintro e w2 ⟨i, hi, rfl, hc2, hg2, hz2⟩; have hblk := (hg2.block wr.heap.size (by simp) (by intro e; injection e with e; omega)).trans (heap_alloc_new wr _); obtain ⟨t2, ht2, ht3, ht4⟩ := dig_at 2 hblk (by decide) i (by simp; omega); clear hblk)
      have hb2 : Bel p w w2 := (hbel.alloc _).pick hg2
      have K2 := (KR.alloc _).grown hg2 (by omega)
      clear hg2 hz2 hbel hc KR
      have hts2 : (t ++ t2).size = t.size + t2.size := by simp
      have HD : Hid (Digs (t ++ t2).data.toList) := by
        show Digs _
        rw [ByteArray.data_append, Array.toList_append]
        exact HT.out.append ht4
      have HT2 := Lib.hid hts2; clear hts2 HT
      go_wp2
      go_roundw
      case rel => exact ⟨q - 1, t ++ t2, by simp; omega, rfl, HD, by rw [HT2.out]; omega, hc2.up (by omega), by omega, K2, hb2⟩
      case measure => simp [intOf]; omega

theorem dec_cur {p : Nat} {A : Option Addr} {c : Nat} {zs : List Int} {K : Int} {w : World} (hlen : zs.length ≤ 1048576) (hZ : Bytes zs) (hK0 : 0 ≤ K) (hK : K ≤ 800000000) (h : Cur p A c zs K w) :
    Calls Tryz.prog 23 #[.pointer (some ⟨p, 0, none⟩)] w (DrawnDec p w) :=
  (dec_curC hlen hZ hK0 hK h).mono fun r w' ⟨n, t, x, h1, h2, h3, h4, h5, h6⟩ => ⟨n, t, x, h1, h2, h3, h4, h5.2.1⟩

end Go.Proofs.YthijeckcjfnbcaaGreatDoor
