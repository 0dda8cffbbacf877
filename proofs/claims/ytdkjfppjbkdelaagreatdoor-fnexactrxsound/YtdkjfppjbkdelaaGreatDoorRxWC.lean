/- The program's writer of patterns: bracket. Conditions: numbers are ints; at most 1048576 elements. -/
import Derived.Test.YtdkjfppjbkdelaaGreatDoorRxWB
namespace Go.Proofs.YtdkjfppjbkdelaaGreatDoor
set_option linter.unusedVariables false
open Go.RowKit

theorem pairsO_step {l : List Int} {k : Nat} (h : k + 1 < l.length) : pairsO (l.drop k) = catO (pairO l[k] l[k + 1]) (pairsO (l.drop (k + 2))) := by
  rw [List.drop_eq_getElem_cons (by omega), List.drop_eq_getElem_cons h, pairsO]
theorem pairsO_end {l : List Int} {k : Nat} (h : l.length ≤ k) : pairsO (l.drop k) = some [] := by rw [List.drop_eq_nil_of_le h]; rfl

theorem Wk.at {w w1 : World} {p : Nat} {A : Option Addr} {c : Nat} {ns : List Nd} {F : List Nat} {st : Wr} (h : Wk w p A c ns F st w1) {b : Nat} (hb : b < w.heap.size) (hp : b ≠ p) (hf : b ∉ F) : w1.heap[b]? = w.heap[b]? := by
  obtain ⟨_, _, h2, _⟩ := h
  exact h2.block b hb fun e => by
    rcases List.mem_cons.1 e with e | e
    · exact hp e
    · exact hf e
theorem Wk.low {w w1 : World} {p : Nat} {A : Option Addr} {c : Nat} {ns : List Nd} {F : List Nat} {st : Wr} (h : Wk w p A c ns F st w1) (hp : p ≤ w.heap.size) (hF : ∀ b ∈ F, p < b) : Below p w w1 := by
  obtain ⟨_, _, h2, _⟩ := h
  exact h2.below hp fun b hb => by
    rcases List.mem_cons.1 hb with rfl | hb
    · exact Nat.le_refl _
    · exact Nat.le_of_lt (hF b hb)
/-- The next call of the writer. -/
theorem Wk.next {w w1 : World} {p : Nat} {A : Option Addr} {c : Nat} {ns : List Nd} {F : List Nat} {st : Wr} (h : Wk w p A c ns F st w1) {f : FuncId} {args : Array Value} {t : Wr}
    (hc : ∀ F1, Wt w1 p A c ns st F1 → Calls Tryz.prog f args w1 (WPost w1 p A c ns F1 (W t st))) : Calls Tryz.prog f args w1 (WPost w p A c ns F (W t st)) := by
  obtain ⟨F1, h1, h2, h3⟩ := h
  exact (hc F1 h1).mono fun e w2 ⟨he, hk⟩ => ⟨he, Wk.tr h2 h3 hk⟩
theorem Wk.flag {w w1 : World} {p : Nat} {A : Option Addr} {c : Nat} {ns : List Nd} {F : List Nat} {st : Wr} (h : Wk w p A c ns F st w1) : ∃ fl, w1.cell? ⟨p, 2, none⟩ = some (.bool fl) ∧ (fl = true → st = none) := by
  obtain ⟨F1, ⟨v, fl, acc, h1, _, _, h4, _⟩, _⟩ := h
  exact ⟨fl, h1.cell.2.2, fun e => by rw [h4, if_pos e]⟩
theorem Wk.nil {w w1 : World} {p : Nat} {A : Option Addr} {c : Nat} {ns : List Nd} {F : List Nat} {st : Wr} (h : Wk w p A c ns F st w1) : W (some []) st = st := by
  obtain ⟨F1, h1, _⟩ := h
  exact h1.nil

theorem pair_one (x : Int) (st : Wr) : W (pairO x x) st = W (pointO escIn x) st := by unfold pairO; rw [if_pos rfl, catO_nil]
theorem pair_two {x y : Int} (h : x ≠ y) (st : Wr) : W (pointO escIn y) (W (some [45]) (W (pointO escIn x) st)) = W (pairO x y) st := by
  rw [W_cat, W_cat]; unfold pairO; rw [if_neg h]
theorem pairs_next {a b c st : Wr} : W (catO b c) (W a st) = W (catO (catO a b) c) st := by rw [W_cat, catO_assoc]
/-- A place of the loop over the items: what is to come, from what is written. -/
def BRel (w : World) (p : Nat) (A : Option Addr) (c : Nat) (ns : List Nd) (F : List Nat) (l : List Int) (R : Wr) (i : Value) (wr : World) : Prop :=
  ∃ (k : Nat) (st : Wr), k ≤ l.length ∧ k % 2 = 0 ∧ i = .int .i64 k ∧ Hid (W (catO (pairsO (l.drop k)) (some [93])) st = R) ∧ Wk w p A c ns F st wr

set_option maxHeartbeats 4000000 in
set_option maxRecDepth 100000 in
theorem wbracket_any (nd : Nd) (sa : Option Addr) (sc : Nat) (ka : Option Addr) (kc : Nat) (w : World) (p : Nat) (A : Option Addr) (c : Nat) (ns : List Nd) (st : Wr) (F : List Nat) (h : Wt w p A c ns st F)
    (hev : nd.set.length % 2 = 0) (hlen : nd.set.length ≤ 1048576) (hS : Nums .i64 w p sa nd.set) :
    Calls Tryz.prog 107 #[.pointer (some ⟨p, 0, none⟩), ndv nd sa sc ka kc] w (WPost w p A c ns F (W (setO nd.neg nd.set) st)) := by
  unfold ndv
  have hpw := h.lt
  have hFr := h.range
  obtain ⟨w0, hw0⟩ : ∃ w0, w.alloc (.cells #[.int .i64 nd.kind, .int .i64 nd.lo, .int .i64 nd.hi, .bool nd.neg, .slice sa nd.set.length sc, .slice ka nd.kids.length kc] 47) = w0 := ⟨_, rfl⟩
  have hk0 : Keep [] w w0 := by rw [← hw0]; exact (Keep.refl [] w).alloc _
  have h0 : Wt w0 p A c ns st F := h.keep0 hk0
  have hz0 : w0.heap.size = w.heap.size + 1 := by rw [← hw0, alloc_size1]
  have hX : w0.heap[w.heap.size]? = some (.cells #[.int .i64 nd.kind, .int .i64 nd.lo, .int .i64 nd.hi, .bool nd.neg, .slice sa nd.set.length sc, .slice ka nd.kids.length kc] 47 (0, 0)) := by rw [← hw0]; exact heap_alloc_new w _
  have hS0 : Nums .i64 w0 p sa nd.set := hk0.nums hS (by omega) fun b hb => by cases hb
  obtain ⟨kd, lo, hi, neg, set, kids⟩ := nd
  simp only at *
  have box : ∀ w1 st1, Wk w0 p A c ns F st1 w1 → w1.cell? ⟨w.heap.size, 3, none⟩ = some (.bool neg) ∧ w1.cell? ⟨w.heap.size, 4, none⟩ = some (.slice sa set.length sc) ∧ Nums .i64 w1 p sa set := fun w1 st1 hk => by
    have e := (hk.at (b := w.heap.size) (by omega) (by omega) (fun hm => by have := (hFr _ hm).2; omega)).trans hX
    exact ⟨by rw [cell_of_row _ _ _ _ _ _ e]; rfl, by rw [cell_of_row _ _ _ _ _ _ e]; rfl, hS0.below (hk.low (by omega) fun b hb => (hFr b hb).1)⟩
  have out : ∀ w1 st1, Wk w0 p A c ns F st1 w1 → Wk w p A c ns F st1 w1 := fun w1 st1 hk => Wk.tr hk0.nil (fun b hb => .inl hb) hk
  have cA : ∀ (bs : ByteArray) (t : List UInt8) (st1 : Wr) (w1 : World), Wk w0 p A c ns F st1 w1 → bs.data.toList = t → bs.size ≤ 10000 → Calls Tryz.prog 106 #[.pointer (some ⟨p, 0, none⟩), .string bs] w1 (WPost w0 p A c ns F (W (some t) st1)) := fun bs t st1 w1 hk hb hz =>
    hk.next fun F1 h1 => wadd_str bs w1 p A c ns st1 F1 h1 hz t hb
  have cP : ∀ (z : Int) (st1 : Wr) (w1 : World), Wk w0 p A c ns F st1 w1 → Calls Tryz.prog 105 #[.pointer (some ⟨p, 0, none⟩), .int .i64 z, .string strIn] w1 (WPost w0 p A c ns F (W (pointO escIn z) st1)) := fun z st1 w1 hk =>
    hk.next fun F1 h1 => wpoint_any strIn escIn esc_in z w1 p A c ns st1 F1 h1
  have CA := Lib.hid cA
  have CP := Lib.hid cP
  have BX := Lib.hid box
  have OUT := Lib.hid out
  have cL := cA ⟨#[91]⟩ [91] st w0 (Wk.start h0) rfl (by decide)
  have HR : Hid (W (catO (pairsO set) (some [93])) (W (some (if neg then [94] else [])) (W (some [91]) st)) = W (setO neg set) st) := by show _ = _; unfold setO; rw [W_cat, W_cat]
  obtain ⟨R, hR⟩ : ∃ R, W (setO neg set) st = R := ⟨_, rfl⟩
  rw [hR] at HR ⊢
  clear hS hS0 h h0 hX cA cP box out hR hk0
  unfold strIn at CP
  go_enter Tryz.func107, Tryz.ntmps107
  go_wp2_with fail
  refine cL.mono ?_
  rintro e w1 ⟨rfl, hk1⟩
  clear cL
  obtain ⟨x3, x4, xs⟩ := BX.out _ _ hk1
  have key : ∀ w2, Wk w0 p A c ns F (W (some (if neg then [94] else [])) (W (some [91]) st)) w2 → BRel w0 p A c ns F set R (.int .i64 0) w2 := fun w2 hk => ⟨0, _, Nat.zero_le _, rfl, rfl, HR.out, hk⟩
  have HK := Lib.hid key
  clear key HR
  cases neg with
  | false =>
    have hk1' : Wk w0 p A c ns F (W (some []) (W (some [91]) st)) w1 := by
      have := hk1.nil
      rw [this]; exact hk1
    have hB := HK.out w1 hk1'
    clear HK hk1 hk1' x4 xs
    go_wp2
    go_loopw [4] (BRel w0 p A c ns F set R) (fun i _ => set.length + 1 - (intOf i).toNat)
    case atStart => exact hB
    case round =>
      obtain ⟨k, st1, hk, hk2, rfl, HW, hwk⟩ := hrel
      clear hB
      obtain ⟨fl, hfl, hfn⟩ := hwk.flag
      obtain ⟨y3, y4, ys⟩ := BX.out _ _ hwk
      by_cases hlt : k < set.length
      · have hk1 : k + 1 < set.length := by omega
        cases fl with
        | true =>
          have hst : st1 = none := hfn rfl
          subst hst
          have hRn : Hid (R = none) := by show _ = _; rw [← HW.out]; rfl
          have cE := CA.out ⟨#[93]⟩ [93] none wr hwk rfl (by decide)
          have HY := Lib.hid ys
          clear hfn HW ys hwk
          go_wp2_with (go_at_call 106; refine cE.mono ?_; rintro e w5 ⟨rfl, hk5⟩)
          go_end0
          exact ⟨rfl, by rw [hRn.out]; exact OUT.out _ _ hk5⟩
        | false =>
          obtain ⟨b, o, rfl, hb, hc0⟩ := ys k hlt
          obtain ⟨b', o', hAA, hb', hc1⟩ := ys (k + 1) hk1
          cases hAA
          rw [pairsO_step hk1] at HW
          obtain ⟨x, hx⟩ : ∃ x, set[k] = x := ⟨_, rfl⟩
          obtain ⟨y, hy⟩ : ∃ y, set[k + 1] = y := ⟨_, rfl⟩
          rw [hx, hy] at HW
          rw [hx] at hc0
          rw [hy] at hc1
          obtain ⟨m, hm⟩ : ∃ m, k + 1 = m := ⟨_, rfl⟩
          have hz1 : (k : Int) + 1 = (m : Int) := by omega
          have hwm : IntKind.i64.wrap (m : Int) = (m : Int) := IntWalk.i64_in _ ⟨by omega, by omega⟩
          have hml : m < set.length := by omega
          have hmz : (m : Int) < (set.length : Int) := by omega
          have hkz : (k : Int) < (set.length : Int) := by omega
          rw [hm] at hc1
          have HWK := Lib.hid hwk
          clear hx hy hm ys hwk hfn
          go_wp2
          go_quiet (fail)
          have hk5 : Hid (Wk w0 p A c ns F st1 (wr.drewN nq)) := HWK.out.keep0 ((Keep.refl [] wr).drewN nq)
          clear HWK hc0 hc1 hfl y3 y4
          generalize wr.drewN nq = w5 at *
          go_wp2_with fail
          refine (CP.out x st1 w5 hk5.out).mono ?_
          rintro e w6 ⟨rfl, hk6⟩
          by_cases hxy : x = y
          · subst hxy
            have HW2 : Hid (W (catO (pairsO (set.drop (k + 2))) (some [93])) (W (pointO escIn x) st1) = R) := by show _ = _; rw [← HW.out, ← pair_one, pairs_next]
            clear HW
            go_wp2
            go_roundw
            case rel => exact ⟨k + 2, _, by omega, by omega, by go_num, HW2, hk6⟩
            case measure => simp [intOf]; omega
          · have hbxy : (x == y) = false := by simpa using hxy
            have HW2 : Hid (W (catO (pairsO (set.drop (k + 2))) (some [93])) (W (pointO escIn y) (W (some [45]) (W (pointO escIn x) st1))) = R) := by show _ = _; rw [pair_two hxy, pairs_next]; exact HW.out
            clear HW hxy
            go_wp2_with fail
            refine (CA.out ⟨#[45]⟩ [45] _ w6 hk6 rfl (by decide)).mono ?_
            rintro e w7 ⟨rfl, hk7⟩
            clear hk6
            go_wp2_with fail
            refine (CP.out y _ w7 hk7).mono ?_
            rintro e w8 ⟨rfl, hk8⟩
            clear hk7
            go_wp2
            go_roundw
            case rel => exact ⟨k + 2, _, by omega, by omega, by go_num, HW2, hk8⟩
            case measure => simp [intOf]; omega
      · have hRn : Hid (W (some [93]) st1 = R) := by show _ = _; rw [← HW.out, pairsO_end (by omega), catO_ahead]
        have cE := CA.out ⟨#[93]⟩ [93] st1 wr hwk rfl (by decide)
        have hkz : ¬ (k : Int) < (set.length : Int) := by omega
        clear hfn HW ys hwk
        go_wp2_with (go_at_call 106; refine cE.mono ?_; rintro e w5 ⟨rfl, hk5⟩)
        go_end0
        exact ⟨rfl, by rw [← hRn.out]; exact OUT.out _ _ hk5⟩
  | true =>
    clear x4 xs
    go_wp2_with fail
    refine (CA.out ⟨#[94]⟩ [94] _ w1 hk1 rfl (by decide)).mono ?_
    rintro e w2 ⟨rfl, hk2⟩
    have hB := HK.out w2 hk2
    clear HK hk1 hk2 x3
    go_wp2
    go_loopw [4] (BRel w0 p A c ns F set R) (fun i _ => set.length + 1 - (intOf i).toNat)
    case atStart => exact hB
    case round =>
      obtain ⟨k, st1, hk, hk2, rfl, HW, hwk⟩ := hrel
      clear hB
      obtain ⟨fl, hfl, hfn⟩ := hwk.flag
      obtain ⟨y3, y4, ys⟩ := BX.out _ _ hwk
      by_cases hlt : k < set.length
      · have hk1 : k + 1 < set.length := by omega
        cases fl with
        | true =>
          have hst : st1 = none := hfn rfl
          subst hst
          have hRn : Hid (R = none) := by show _ = _; rw [← HW.out]; rfl
          have cE := CA.out ⟨#[93]⟩ [93] none wr hwk rfl (by decide)
          have HY := Lib.hid ys
          clear hfn HW ys hwk
          go_wp2_with (go_at_call 106; refine cE.mono ?_; rintro e w5 ⟨rfl, hk5⟩)
          go_end0
          exact ⟨rfl, by rw [hRn.out]; exact OUT.out _ _ hk5⟩
        | false =>
          obtain ⟨b, o, rfl, hb, hc0⟩ := ys k hlt
          obtain ⟨b', o', hAA, hb', hc1⟩ := ys (k + 1) hk1
          cases hAA
          rw [pairsO_step hk1] at HW
          obtain ⟨x, hx⟩ : ∃ x, set[k] = x := ⟨_, rfl⟩
          obtain ⟨y, hy⟩ : ∃ y, set[k + 1] = y := ⟨_, rfl⟩
          rw [hx, hy] at HW
          rw [hx] at hc0
          rw [hy] at hc1
          obtain ⟨m, hm⟩ : ∃ m, k + 1 = m := ⟨_, rfl⟩
          have hz1 : (k : Int) + 1 = (m : Int) := by omega
          have hwm : IntKind.i64.wrap (m : Int) = (m : Int) := IntWalk.i64_in _ ⟨by omega, by omega⟩
          have hml : m < set.length := by omega
          have hmz : (m : Int) < (set.length : Int) := by omega
          have hkz : (k : Int) < (set.length : Int) := by omega
          rw [hm] at hc1
          have HWK := Lib.hid hwk
          clear hx hy hm ys hwk hfn
          go_wp2
          go_quiet (fail)
          have hk5 : Hid (Wk w0 p A c ns F st1 (wr.drewN nq)) := HWK.out.keep0 ((Keep.refl [] wr).drewN nq)
          clear HWK hc0 hc1 hfl y3 y4
          generalize wr.drewN nq = w5 at *
          go_wp2_with fail
          refine (CP.out x st1 w5 hk5.out).mono ?_
          rintro e w6 ⟨rfl, hk6⟩
          by_cases hxy : x = y
          · subst hxy
            have HW2 : Hid (W (catO (pairsO (set.drop (k + 2))) (some [93])) (W (pointO escIn x) st1) = R) := by show _ = _; rw [← HW.out, ← pair_one, pairs_next]
            clear HW
            go_wp2
            go_roundw
            case rel => exact ⟨k + 2, _, by omega, by omega, by go_num, HW2, hk6⟩
            case measure => simp [intOf]; omega
          · have hbxy : (x == y) = false := by simpa using hxy
            have HW2 : Hid (W (catO (pairsO (set.drop (k + 2))) (some [93])) (W (pointO escIn y) (W (some [45]) (W (pointO escIn x) st1))) = R) := by show _ = _; rw [pair_two hxy, pairs_next]; exact HW.out
            clear HW hxy
            go_wp2_with fail
            refine (CA.out ⟨#[45]⟩ [45] _ w6 hk6 rfl (by decide)).mono ?_
            rintro e w7 ⟨rfl, hk7⟩
            clear hk6
            go_wp2_with fail
            refine (CP.out y _ w7 hk7).mono ?_
            rintro e w8 ⟨rfl, hk8⟩
            clear hk7
            go_wp2
            go_roundw
            case rel => exact ⟨k + 2, _, by omega, by omega, by go_num, HW2, hk8⟩
            case measure => simp [intOf]; omega
      · have hRn : Hid (W (some [93]) st1 = R) := by show _ = _; rw [← HW.out, pairsO_end (by omega), catO_ahead]
        have cE := CA.out ⟨#[93]⟩ [93] st1 wr hwk rfl (by decide)
        have hkz : ¬ (k : Int) < (set.length : Int) := by omega
        clear hfn HW ys hwk
        go_wp2_with (go_at_call 106; refine cE.mono ?_; rintro e w5 ⟨rfl, hk5⟩)
        go_end0
        exact ⟨rfl, by rw [← hRn.out]; exact OUT.out _ _ hk5⟩

end Go.Proofs.YtdkjfppjbkdelaaGreatDoor

/- The program's writer of patterns: kids. Conditions: as each theorem states. -/
namespace Go.Proofs.YtdkjfppjbkdelaaGreatDoor
set_option linter.unusedVariables false
open Go.RowKit

theorem Wk.nodes {w w1 : World} {p : Nat} {A : Option Addr} {c : Nat} {ns : List Nd} {F : List Nat} {st : Wr} (h : Wk w p A c ns F st w1) : Nodes w1 p A ns ∧ w1.cell? ⟨p, 0, none⟩ = some (.slice A ns.length c) := by
  obtain ⟨F1, ⟨v, fl, acc, h1, _, _, _, _, h6⟩, _⟩ := h
  exact ⟨h6.1, h1.cell.1⟩
theorem kindAt_get {ns : List Nd} {m : Nat} (h : m < ns.length) : kindAt ns (m : Int) = ns[m].kind := by
  unfold kindAt
  rw [Int.toNat_natCast, List.getElem?_eq_getElem h]; rfl
theorem kidsO_step {ns : List Nd} {z : List Wr} {p : Int} {b : Bool} {ks : List Int} {j : Nat} (h : j < ks.length) :
    kidsO ns z p b (ks.drop j) = catO (catO (some (sepT p b)) (if encl p (kindAt ns ks[j]) then catO (some [40]) (catO (z.getD (ks[j]).toNat none) (some [41])) else z.getD (ks[j]).toNat none)) (kidsO ns z p false (ks.drop (j + 1))) := by
  rw [List.drop_eq_getElem_cons h, kidsO]

/-- A row of numbers lies at block g. -/
def EnAt (w : World) (g : Nat) (en : List Int) : Prop := w.heap[g]? = some (.cells (en.map (Value.int .i64)).toArray 3 (0, 0))
theorem EnAt.cells {w : World} {g : Nat} {en : List Int} (h : EnAt w g en) : ∀ j, j < en.length → w.cell? ⟨g, 0 + j, none⟩ = some (.int .i64 (en.getD j 0)) := fun j hj => by
  rw [cell_of_row _ _ _ _ _ _ h, Nat.zero_add]
  simp [List.getD_eq_getElem?_getD, hj]

def KdRel (w : World) (p : Nat) (A : Option Addr) (c : Nat) (ns : List Nd) (z : List Wr) (F : List Nat) (pk : Int) (ks : List Int) (R : Wr) (i : Value) (wr : World) : Prop :=
  ∃ (j : Nat) (st : Wr), j ≤ ks.length ∧ i = .int .i64 j ∧ Hid (W (kidsO ns z pk (decide (j = 0)) (ks.drop j)) st = R) ∧ Wk w p A c ns F st wr

/-- The contract of a node that is a kid. -/
def NodeOk (p : Nat) (A : Option Addr) (c : Nat) (ns : List Nd) (z : List Wr) (k : Int) : Prop :=
  ∀ w1 st1 F1, Wt w1 p A c ns st1 F1 → Calls Tryz.prog 59 #[.pointer (some ⟨p, 0, none⟩), .int .i64 k] w1 (WPost w1 p A c ns F1 (W (z.getD k.toNat none) st1))

set_option maxHeartbeats 4000000 in
set_option maxRecDepth 100000 in
theorem wkids_any (z : List Wr) (pk : Int) (ks : List Int) (KA : Option Addr) (kc : Nat) (sep : ByteArray) (en : List Int) (eb : Nat) (w : World) (p : Nat) (A : Option Addr) (c : Nat) (ns : List Nd) (st : Wr) (F : List Nat)
    (h : Wt w p A c ns st F) (hns : ns.length ≤ 1048576) (hks : ks.length ≤ 1048576) (hK : Nums .i64 w p KA ks) (hE : EnAt w eb en) (hel : en.length ≤ 10) (hep : p < eb) (heF : eb ∉ F) (hen : ∀ k, en.contains k = encl pk k)
    (hsep : sep.data.toList = sepT pk false) (hsz : sep.size ≤ 10) (hN : ∀ k ∈ ks, (0 ≤ k ∧ k < (ns.length : Int)) ∧ NodeOk p A c ns z k) :
    Calls Tryz.prog 108 #[.pointer (some ⟨p, 0, none⟩), .slice KA ks.length kc, .string sep, .slice (some ⟨eb, 0, none⟩) en.length en.length] w (WPost w p A c ns F (W (kidsO ns z pk true ks) st)) := by
  have hpw := h.lt
  have hFr := h.range
  have heb : eb < w.heap.size := (Array.getElem?_eq_some_iff.1 hE).1
  have EN : Hid (∀ w1 st1, Wk w p A c ns F st1 w1 → ∀ j, j < en.length → w1.cell? ⟨eb, 0 + j, none⟩ = some (.int .i64 (en.getD j 0))) := fun w1 st1 hk =>
    EnAt.cells (show EnAt w1 eb en from (hk.at heb (by omega) heF).trans hE)
  have KN : Hid (∀ w1 st1, Wk w p A c ns F st1 w1 → Nums .i64 w1 p KA ks) := fun w1 st1 hk => hK.below (hk.low (by omega) fun b hb => (hFr b hb).1)
  have CA : Hid (∀ (bs : ByteArray) (t : List UInt8) (st1 : Wr) (w1 : World), Wk w p A c ns F st1 w1 → bs.data.toList = t → bs.size ≤ 10000 → Calls Tryz.prog 106 #[.pointer (some ⟨p, 0, none⟩), .string bs] w1 (WPost w p A c ns F (W (some t) st1))) := fun bs t st1 w1 hk hb hz =>
    hk.next fun F1 h1 => wadd_str bs w1 p A c ns st1 F1 h1 hz t hb
  have CN : Hid (∀ k ∈ ks, (0 ≤ k ∧ k < (ns.length : Int)) ∧ ∀ st1 w1, Wk w p A c ns F st1 w1 → Calls Tryz.prog 59 #[.pointer (some ⟨p, 0, none⟩), .int .i64 k] w1 (WPost w p A c ns F (W (z.getD k.toNat none) st1))) := fun k hk =>
    ⟨(hN k hk).1, fun st1 w1 hw => hw.next fun F1 h1 => (hN k hk).2 w1 st1 F1 h1⟩
  have HS := Lib.hid hsep
  have HE := Lib.hid hen
  obtain ⟨R, hR⟩ : ∃ R, W (kidsO ns z pk true ks) st = R := ⟨_, rfl⟩
  have hB : KdRel w p A c ns z F pk ks R (.int .i64 0) w := ⟨0, st, Nat.zero_le _, rfl, hR, Wk.start h⟩
  rw [hR]
  clear h hK hE hen hsep hN hR heF hFr
  go_enter Tryz.func108, Tryz.ntmps108
  go_wp2
  go_loopw [12] (KdRel w p A c ns z F pk ks R) (fun i _ => ks.length - (intOf i).toNat)
  case atStart => exact hB
  case round =>
    obtain ⟨j, st1, hj, rfl, HW, hwk⟩ := hrel
    clear hB
    by_cases hlt : j < ks.length
    · obtain ⟨b, o, rfl, hb, hc0⟩ := KN.out _ _ hwk j hlt
      have hkn := CN.out _ (List.getElem_mem hlt)
      rw [kidsO_step hlt] at HW
      obtain ⟨x, hx⟩ : ∃ x, ks[j] = x := ⟨_, rfl⟩
      rw [hx] at hc0 hkn HW
      obtain ⟨⟨hx0, hx1⟩, hnode⟩ := hkn
      have HND := Lib.hid hnode
      clear hx hnode
      by_cases hj0 : j = 0
      · have hjp : ¬ (0 : Int) < (j : Int) := by omega
        have HW2 : Hid (W (catO (if encl pk (kindAt ns x) then catO (some [40]) (catO (z.getD x.toNat none) (some [41])) else z.getD x.toNat none) (kidsO ns z pk false (ks.drop (j + 1)))) st1 = R) := by
          have := HW.out
          rw [decide_eq_true hj0] at this
          simp only [sepT, if_true, catO_ahead] at this
          exact this
        clear hj0
        obtain ⟨fl, hfl, hfn⟩ := hwk.flag
        cases fl with
        | true =>
          have hst : st1 = none := hfn rfl
          have hRn : Hid (R = none) := by show _ = _; rw [← HW2.out, hst]; rfl
          have HKK : Hid (Wk w p A c ns F none wr) := by rw [hst] at hwk; exact hwk
          clear hfn HW2 HW hwk hst
          go_wp2
          go_end0
          exact ⟨rfl, by rw [hRn.out]; exact HKK.out⟩
        | false =>
          obtain ⟨m, rfl⟩ : ∃ m : Nat, x = m := ⟨x.toNat, by omega⟩
          obtain ⟨hNd, hcl⟩ := hwk.nodes
          have hmn : m < ns.length := by omega
          obtain ⟨b2, o2, sa, sc, ka, kc2, hAe, hb2, six, _, _⟩ := hNd m hmn
          rw [hAe] at hcl
          have d0 := six.c0
          rw [kindAt_get hmn] at HW2
          obtain ⟨kd, hkd⟩ : ∃ kd, ns[m].kind = kd := ⟨_, rfl⟩
          rw [hkd] at d0 HW2
          have cC := Tryz.slices_Contains_int eb 0 en.length en.length en kd wr (Nat.le_refl _) (by omega) (EN.out _ _ hwk)
          rw [List.take_length, HE.out kd] at cC
          have HKK := Lib.hid hwk
          have HAe := Lib.hid hAe
          clear hfn HW hNd six hkd hwk hAe
          cases hen : encl pk kd with
          | false =>
            rw [hen] at cC HW2
            have HW3 : Hid (W (kidsO ns z pk (decide (j + 1 = 0)) (ks.drop (j + 1))) (W (z.getD (m : Int).toNat none) st1) = R) := by
              show _ = _
              rw [W_cat, ← HW2.out]; simp
            clear HW2 hen
            go_wp2_with (first | (go_at_call 146; refine cC.mono ?_; rintro e w' ⟨rfl, hw⟩; rw [hw]; clear hw) | (go_at_call 59; refine (HND.out st1 wr HKK.out).mono ?_; rintro e w3 ⟨rfl, hk3⟩))
            go_roundw
            case rel => exact ⟨j + 1, _, hlt, by go_num, HW3, hk3⟩
            case measure => simp [intOf]; omega
          | true =>
            rw [hen] at cC HW2
            have HW3 : Hid (W (kidsO ns z pk (decide (j + 1 = 0)) (ks.drop (j + 1))) (W (some [41]) (W (z.getD (m : Int).toNat none) (W (some [40]) st1))) = R) := by
              show _ = _
              rw [W_cat, W_cat, W_cat, ← HW2.out]; simp [catO_assoc]
            clear HW2 hen
            go_wp2_with (go_at_call 146; refine cC.mono ?_; rintro e w' ⟨rfl, hw⟩; rw [hw]; clear hw)
            refine (CA.out ⟨#[40]⟩ [40] st1 wr HKK.out rfl (by decide)).mono ?_
            rintro e w3 ⟨rfl, hk3⟩
            go_wp2_with fail
            refine (HND.out _ w3 hk3).mono ?_
            rintro e w4 ⟨rfl, hk4⟩
            clear hk3
            go_wp2_with fail
            refine (CA.out ⟨#[41]⟩ [41] _ w4 hk4 rfl (by decide)).mono ?_
            rintro e w5 ⟨rfl, hk5⟩
            clear hk4
            go_wp2
            go_roundw
            case rel => exact ⟨j + 1, _, hlt, by go_num, HW3, hk5⟩
            case measure => simp [intOf]; omega
      · have hjz : ¬ (j : Int) = 0 := by omega
        have hjp : (0 : Int) < (j : Int) := by omega
        obtain ⟨st2, hst2⟩ : ∃ st2, W (some (sepT pk false)) st1 = st2 := ⟨_, rfl⟩
        have HW2 : Hid (W (catO (if encl pk (kindAt ns x) then catO (some [40]) (catO (z.getD x.toNat none) (some [41])) else z.getD x.toNat none) (kidsO ns z pk false (ks.drop (j + 1)))) st2 = R) := by
          have := HW.out
          rw [decide_eq_false hj0, catO_assoc, ← W_cat, hst2] at this
          exact this
        have cS := CA.out sep (sepT pk false) st1 wr hwk HS.out (by omega)
        rw [hst2] at cS
        clear hst2 hj0 hwk
        go_wp2_with fail
        refine cS.mono ?_
        rintro e w2 ⟨rfl, hk2⟩
        clear cS
        obtain ⟨fl, hfl, hfn⟩ := hk2.flag
        cases fl with
        | true =>
          have hst : st2 = none := hfn rfl
          have hRn : Hid (R = none) := by show _ = _; rw [← HW2.out, hst]; rfl
          have HKK : Hid (Wk w p A c ns F none w2) := by rw [hst] at hk2; exact hk2
          clear hfn HW2 HW hk2 hst
          go_wp2
          go_end0
          exact ⟨rfl, by rw [hRn.out]; exact HKK.out⟩
        | false =>
          obtain ⟨m, rfl⟩ : ∃ m : Nat, x = m := ⟨x.toNat, by omega⟩
          obtain ⟨hNd, hcl⟩ := hk2.nodes
          have hmn : m < ns.length := by omega
          obtain ⟨b2, o2, sa, sc, ka, kc2, hAe, hb2, six, _, _⟩ := hNd m hmn
          rw [hAe] at hcl
          have d0 := six.c0
          rw [kindAt_get hmn] at HW2
          obtain ⟨kd, hkd⟩ : ∃ kd, ns[m].kind = kd := ⟨_, rfl⟩
          rw [hkd] at d0 HW2
          have cC := Tryz.slices_Contains_int eb 0 en.length en.length en kd w2 (Nat.le_refl _) (by omega) (EN.out _ _ hk2)
          rw [List.take_length, HE.out kd] at cC
          have HKK := Lib.hid hk2
          have HAe := Lib.hid hAe
          clear hfn HW hNd six hkd hk2 hAe
          cases hen : encl pk kd with
          | false =>
            rw [hen] at cC HW2
            have HW3 : Hid (W (kidsO ns z pk (decide (j + 1 = 0)) (ks.drop (j + 1))) (W (z.getD (m : Int).toNat none) st2) = R) := by
              show _ = _
              rw [W_cat, ← HW2.out]; simp
            clear HW2 hen
            go_wp2_with (first | (go_at_call 146; refine cC.mono ?_; rintro e w' ⟨rfl, hw⟩; rw [hw]; clear hw) | (go_at_call 59; refine (HND.out st2 w2 HKK.out).mono ?_; rintro e w3 ⟨rfl, hk3⟩))
            go_roundw
            case rel => exact ⟨j + 1, _, hlt, by go_num, HW3, hk3⟩
            case measure => simp [intOf]; omega
          | true =>
            rw [hen] at cC HW2
            have HW3 : Hid (W (kidsO ns z pk (decide (j + 1 = 0)) (ks.drop (j + 1))) (W (some [41]) (W (z.getD (m : Int).toNat none) (W (some [40]) st2))) = R) := by
              show _ = _
              rw [W_cat, W_cat, W_cat, ← HW2.out]; simp [catO_assoc]
            clear HW2 hen
            go_wp2_with (go_at_call 146; refine cC.mono ?_; rintro e w' ⟨rfl, hw⟩; rw [hw]; clear hw)
            refine (CA.out ⟨#[40]⟩ [40] st2 w2 HKK.out rfl (by decide)).mono ?_
            rintro e w3 ⟨rfl, hk3⟩
            go_wp2_with fail
            refine (HND.out _ w3 hk3).mono ?_
            rintro e w4 ⟨rfl, hk4⟩
            clear hk3
            go_wp2_with fail
            refine (CA.out ⟨#[41]⟩ [41] _ w4 hk4 rfl (by decide)).mono ?_
            rintro e w5 ⟨rfl, hk5⟩
            clear hk4
            go_wp2
            go_roundw
            case rel => exact ⟨j + 1, _, hlt, by go_num, HW3, hk5⟩
            case measure => simp [intOf]; omega
    · have hRn : Hid (R = st1) := by show _ = _; rw [← HW.out, List.drop_eq_nil_of_le (by omega), kidsO]; exact hwk.nil
      clear HW
      go_wp2
      go_end0
      exact ⟨rfl, by rw [hRn.out]; exact hwk⟩

end Go.Proofs.YtdkjfppjbkdelaaGreatDoor

/- The program's writer of patterns: node. Conditions: a tree; each node of a form that has a text; numbers are ints. -/
namespace Go.Proofs.YtdkjfppjbkdelaaGreatDoor
set_option linter.unusedVariables false
open Go.RowKit

theorem encl7 (k : Int) : [7, 8, 1].contains k = encl 7 k := by
  rw [Bool.eq_iff_iff]; simp [encl]
theorem encl8 (k : Int) : [8].contains k = encl 8 k := by
  rw [Bool.eq_iff_iff]; simp [encl]
theorem encl9 (k : Int) : [7, 8, 9, 1].contains k = encl 9 k := by
  rw [Bool.eq_iff_iff]; simp [encl]

set_option maxHeartbeats 8000000 in
set_option maxRecDepth 100000 in
theorem wnode_step (z : List Wr) (p : Nat) (A : Option Addr) (c : Nat) (ns : List Nd) (i : Nat) (hi : i < ns.length) (hns : ns.length + bulks ns ≤ 1048576) (hz : z.getD i none = bodyO ns z ns[i]) (hT : hasT ns[i] = true) (hB : I64 ns[i].lo ∧ I64 ns[i].hi)
    (hN : ∀ k ∈ ns[i].kids, (0 ≤ k ∧ k < (ns.length : Int)) ∧ NodeOk p A c ns z k) : NodeOk p A c ns z i := by
  intro w st F h
  rw [Int.toNat_natCast, hz]
  have hpw := h.lt
  have hFr := h.range
  obtain ⟨hNd, hcl⟩ := (Wk.start h).nodes
  obtain ⟨b2, o2, sa, sc, ka, kc, rfl, hb2, ⟨c0, c1, c2, c3, c4, c5⟩, hS, hK⟩ := hNd i hi
  have hbk : bulkOf ns[i] ≤ bulks ns := by have h1 := bulks_take hi; have h2 := bulks_le ns (i + 1); omega
  unfold bulkOf at hbk
  obtain ⟨nd, hnd⟩ : ∃ nd, ns[i] = nd := ⟨_, rfl⟩
  rw [hnd] at hT hB hN c0 c1 c2 c3 c4 c5 hS hK hbk
  rw [hnd]
  clear hnd hz hNd
  obtain ⟨w0, hw0⟩ : ∃ w0, w.alloc (.cells #[.int .i64 nd.kind, .int .i64 nd.lo, .int .i64 nd.hi, .bool nd.neg, .slice sa nd.set.length sc, .slice ka nd.kids.length kc] 47) = w0 := ⟨_, rfl⟩
  have hk0 : Keep [] w w0 := by rw [← hw0]; exact (Keep.refl [] w).alloc _
  have h0 : Wt w0 p (some ⟨b2, o2, none⟩) c ns st F := h.keep0 hk0
  have hz0 : w0.heap.size = w.heap.size + 1 := by rw [← hw0, alloc_size1]
  have hX : w0.heap[w.heap.size]? = some (.cells #[.int .i64 nd.kind, .int .i64 nd.lo, .int .i64 nd.hi, .bool nd.neg, .slice sa nd.set.length sc, .slice ka nd.kids.length kc] 47 (0, 0)) := by rw [← hw0]; exact heap_alloc_new w _
  have hS0 : Nums .i64 w0 p sa nd.set := hk0.nums hS (by omega) fun b hb => by cases hb
  have hK0 : Nums .i64 w0 p ka nd.kids := hk0.nums hK (by omega) fun b hb => by cases hb
  have hi2 : (i : Int) < (ns.length : Int) := by omega
  obtain ⟨kd, lo, hi', neg, set, kids⟩ := nd
  simp only at *
  have e0 : w0.cell? ⟨w.heap.size, 0, none⟩ = some (.int .i64 kd) := by rw [cell_of_row _ _ _ _ _ _ hX]; rfl
  have e1 : w0.cell? ⟨w.heap.size, 1, none⟩ = some (.int .i64 lo) := by rw [cell_of_row _ _ _ _ _ _ hX]; rfl
  have e2 : w0.cell? ⟨w.heap.size, 2, none⟩ = some (.int .i64 hi') := by rw [cell_of_row _ _ _ _ _ _ hX]; rfl
  have e3 : w0.cell? ⟨w.heap.size, 3, none⟩ = some (.bool neg) := by rw [cell_of_row _ _ _ _ _ _ hX]; rfl
  have e4 : w0.cell? ⟨w.heap.size, 4, none⟩ = some (.slice sa set.length sc) := by rw [cell_of_row _ _ _ _ _ _ hX]; rfl
  have e5 : w0.cell? ⟨w.heap.size, 5, none⟩ = some (.slice ka kids.length kc) := by rw [cell_of_row _ _ _ _ _ _ hX]; rfl
  have OUT : Hid (∀ w1 st1, Wk w0 p (some ⟨b2, o2, none⟩) c ns F st1 w1 → Wk w p (some ⟨b2, o2, none⟩) c ns F st1 w1) := fun w1 st1 hk => Wk.tr hk0.nil (fun b hb => .inl hb) hk
  have H0 := Lib.hid h0
  have HN := Lib.hid hN
  have HX := Lib.hid hX
  have HK := Lib.hid hK0
  have HS := Lib.hid hS0
  have HT : Hid (set.length % 2 = 0) := by show _ = _; simp [hasT] at hT; exact hT.2.1
  have HB := Lib.hid hB
  clear h h0 hN hX hK0 hS0 hT hS hK hB hk0
  by_cases q2 : kd = 2
  · subst q2
    have hb : Hid (bodyO ns z ⟨2, lo, hi', neg, set, kids⟩ = pointO escOut lo) := by show _ = _; unfold bodyO; rfl
    have cP := wpoint_any strOut escOut esc_out lo w0 p _ c ns st F H0.out
    unfold strOut at cP
    go_enter Tryz.func59, Tryz.ntmps59
    go_wp2_with (go_at_call 105; refine cP.mono ?_; rintro e w2 ⟨rfl, hk⟩)
    go_end0
    exact ⟨rfl, by rw [hb.out]; exact OUT.out _ _ hk⟩
  by_cases q3 : kd = 3
  · subst q3
    have hb : Hid (bodyO ns z ⟨3, lo, hi', neg, set, kids⟩ = some [46]) := by show _ = _; unfold bodyO; rfl
    have cP := wadd_str ⟨#[46]⟩ w0 p _ c ns st F H0.out (by decide) [46] rfl
    go_enter Tryz.func59, Tryz.ntmps59
    go_wp2_with (go_at_call 106; refine cP.mono ?_; rintro e w2 ⟨rfl, hk⟩)
    go_end0
    exact ⟨rfl, by rw [hb.out]; exact OUT.out _ _ hk⟩
  by_cases q5 : kd = 5
  · subst q5
    have hb : Hid (bodyO ns z ⟨5, lo, hi', neg, set, kids⟩ = some [94]) := by show _ = _; unfold bodyO; rfl
    have cP := wadd_str ⟨#[94]⟩ w0 p _ c ns st F H0.out (by decide) [94] rfl
    go_enter Tryz.func59, Tryz.ntmps59
    go_wp2_with (go_at_call 106; refine cP.mono ?_; rintro e w2 ⟨rfl, hk⟩)
    go_end0
    exact ⟨rfl, by rw [hb.out]; exact OUT.out _ _ hk⟩
  by_cases q6 : kd = 6
  · subst q6
    have hb : Hid (bodyO ns z ⟨6, lo, hi', neg, set, kids⟩ = some [36]) := by show _ = _; unfold bodyO; rfl
    have cP := wadd_str ⟨#[36]⟩ w0 p _ c ns st F H0.out (by decide) [36] rfl
    go_enter Tryz.func59, Tryz.ntmps59
    go_wp2_with (go_at_call 106; refine cP.mono ?_; rintro e w2 ⟨rfl, hk⟩)
    go_end0
    exact ⟨rfl, by rw [hb.out]; exact OUT.out _ _ hk⟩
  by_cases q4 : kd = 4
  · subst q4
    have hb : Hid (bodyO ns z ⟨4, lo, hi', neg, set, kids⟩ = setO neg set) := by show _ = _; unfold bodyO; rfl
    have cP := wbracket_any ⟨4, lo, hi', neg, set, kids⟩ sa sc ka kc w0 p _ c ns st F H0.out HT.out (by show set.length ≤ _; omega) HS.out
    unfold ndv at cP
    simp only at cP
    go_enter Tryz.func59, Tryz.ntmps59
    go_wp2_with (go_at_call 107; refine cP.mono ?_; rintro e w2 ⟨rfl, hk⟩)
    go_end0
    exact ⟨rfl, by rw [hb.out]; exact OUT.out _ _ hk⟩
  by_cases q7 : kd = 7
  · subst q7
    have hb : Hid (bodyO ns z ⟨7, lo, hi', neg, set, kids⟩ = kidsO ns z 7 true kids) := by show _ = _; unfold bodyO; rfl
    have heF : w0.heap.size ∉ F := fun hm => by have := (hFr _ hm).2; omega
    obtain ⟨w1, hw1⟩ : ∃ w1, w0.alloc (.cells #[.int .i64 7, .int .i64 8, .int .i64 1] 3) = w1 := ⟨_, rfl⟩
    have hk1 : Keep [] w0 w1 := by rw [← hw1]; exact (Keep.refl [] w0).alloc _
    have hE1 : EnAt w1 w0.heap.size [7, 8, 1] := by rw [← hw1]; exact heap_alloc_new w0 _
    have cP := wkids_any z 7 kids ka kc ⟨#[]⟩ [7, 8, 1] w0.heap.size w1 p _ c ns st F (H0.out.keep0 hk1) (by omega) (by omega) (hk1.nums HK.out (by omega) fun b hb => by cases hb) hE1 (by decide) (by omega) heF encl7 rfl (by decide) HN.out
    have cQ : Calls Tryz.prog 108 #[.pointer (some ⟨p, 0, none⟩), .slice ka kids.length kc, .string ⟨#[]⟩, .slice (some ⟨w0.heap.size, 0, none⟩) 3 3] w1 _ := cP
    clear cP
    have HK1 := Lib.hid hk1
    have X1 : Hid (w1.heap[w.heap.size]? = w0.heap[w.heap.size]?) := hk1.block _ (by omega) (fun hb => by cases hb)
    have hz1 : w.heap.size < w1.heap.size := by have := hk1.size; omega
    clear hk1 hE1 heF hz0
    go_enter Tryz.func59, Tryz.ntmps59
    go_wp2_with (go_at_call 108; refine cQ.mono ?_; rintro e w2 ⟨rfl, hk⟩)
    go_end0
    exact ⟨rfl, by rw [hb.out]; exact OUT.out _ _ (Wk.tr HK1.out.nil (fun b hb => .inl hb) hk)⟩
  by_cases q8 : kd = 8
  · subst q8
    have hb : Hid (bodyO ns z ⟨8, lo, hi', neg, set, kids⟩ = kidsO ns z 8 true kids) := by show _ = _; unfold bodyO; rfl
    have heF : w0.heap.size ∉ F := fun hm => by have := (hFr _ hm).2; omega
    obtain ⟨w1, hw1⟩ : ∃ w1, w0.alloc (.cells #[.int .i64 8] 3) = w1 := ⟨_, rfl⟩
    have hk1 : Keep [] w0 w1 := by rw [← hw1]; exact (Keep.refl [] w0).alloc _
    have hE1 : EnAt w1 w0.heap.size [8] := by rw [← hw1]; exact heap_alloc_new w0 _
    have cP := wkids_any z 8 kids ka kc ⟨#[124]⟩ [8] w0.heap.size w1 p _ c ns st F (H0.out.keep0 hk1) (by omega) (by omega) (hk1.nums HK.out (by omega) fun b hb => by cases hb) hE1 (by decide) (by omega) heF encl8 rfl (by decide) HN.out
    have cQ : Calls Tryz.prog 108 #[.pointer (some ⟨p, 0, none⟩), .slice ka kids.length kc, .string ⟨#[124]⟩, .slice (some ⟨w0.heap.size, 0, none⟩) 1 1] w1 _ := cP
    clear cP
    have HK1 := Lib.hid hk1
    have X1 : Hid (w1.heap[w.heap.size]? = w0.heap[w.heap.size]?) := hk1.block _ (by omega) (fun hb => by cases hb)
    have hz1 : w.heap.size < w1.heap.size := by have := hk1.size; omega
    clear hk1 hE1 heF hz0
    go_enter Tryz.func59, Tryz.ntmps59
    go_wp2_with (go_at_call 108; refine cQ.mono ?_; rintro e w2 ⟨rfl, hk⟩)
    go_end0
    exact ⟨rfl, by rw [hb.out]; exact OUT.out _ _ (Wk.tr HK1.out.nil (fun b hb => .inl hb) hk)⟩
  by_cases q9 : kd = 9
  · subst q9
    have hb : Hid (bodyO ns z ⟨9, lo, hi', neg, set, kids⟩ = catO (kidsO ns z 9 true kids) (oftenO lo hi')) := by show _ = _; unfold bodyO; rfl
    have heF : w0.heap.size ∉ F := fun hm => by have := (hFr _ hm).2; omega
    obtain ⟨w1, hw1⟩ : ∃ w1, w0.alloc (.cells #[.int .i64 7, .int .i64 8, .int .i64 9, .int .i64 1] 3) = w1 := ⟨_, rfl⟩
    have hk1 : Keep [] w0 w1 := by rw [← hw1]; exact (Keep.refl [] w0).alloc _
    have hE1 : EnAt w1 w0.heap.size [7, 8, 9, 1] := by rw [← hw1]; exact heap_alloc_new w0 _
    have cP := wkids_any z 9 kids ka kc ⟨#[]⟩ [7, 8, 9, 1] w0.heap.size w1 p _ c ns st F (H0.out.keep0 hk1) (by omega) (by omega) (hk1.nums HK.out (by omega) fun b hb => by cases hb) hE1 (by decide) (by omega) heF encl9 rfl (by decide) HN.out
    have cQ : Calls Tryz.prog 108 #[.pointer (some ⟨p, 0, none⟩), .slice ka kids.length kc, .string ⟨#[]⟩, .slice (some ⟨w0.heap.size, 0, none⟩) 4 4] w1 _ := cP
    clear cP
    have HK1 := Lib.hid hk1
    have X1 : Hid (w1.heap[w.heap.size]? = w0.heap[w.heap.size]?) := hk1.block _ (by omega) (fun hb => by cases hb)
    have hz1 : w.heap.size < w1.heap.size := by have := hk1.size; omega
    clear hk1 hE1 heF hz0
    have after : ∀ w2, Wk w1 p (some ⟨b2, o2, none⟩) c ns F (W (kidsO ns z 9 true kids) st) w2 → w2.cell? ⟨w.heap.size, 1, none⟩ = some (.int .i64 lo) ∧ w2.cell? ⟨w.heap.size, 2, none⟩ = some (.int .i64 hi') ∧
        Calls Tryz.prog 109 #[.pointer (some ⟨p, 0, none⟩), .int .i64 lo, .int .i64 hi'] w2 (WPost w1 p (some ⟨b2, o2, none⟩) c ns F (W (oftenO lo hi') (W (kidsO ns z 9 true kids) st))) := fun w2 hk => by
      have e := ((hk.at (b := w.heap.size) hz1 (by omega) (fun hm => by have := (hFr _ hm).2; omega)).trans X1.out).trans HX.out
      exact ⟨by rw [cell_of_row _ _ _ _ _ _ e]; rfl, by rw [cell_of_row _ _ _ _ _ _ e]; rfl, hk.next fun F1 h1 => wtimes_any lo hi' HB.out.1 HB.out.2 w2 p _ c ns _ F1 h1⟩
    have AF := Lib.hid after
    clear after
    go_enter Tryz.func59, Tryz.ntmps59
    go_wp2_with fail
    refine cQ.mono ?_
    rintro e w2 ⟨rfl, hk⟩
    obtain ⟨x1, x2, cT⟩ := AF.out _ hk
    clear e0 e1 e2 e3 e4 e5 cQ
    go_wp2_with (go_at_call 109; refine cT.mono ?_; rintro e w3 ⟨rfl, hk3⟩)
    go_end0
    exact ⟨rfl, by rw [hb.out, ← W_cat]; exact OUT.out _ _ (Wk.tr HK1.out.nil (fun b hb => .inl hb) hk3)⟩
  have hb : Hid (bodyO ns z ⟨kd, lo, hi', neg, set, kids⟩ = some []) := by
    show _ = _
    unfold bodyO
    simp only []
    rw [if_neg q2, if_neg q3, if_neg q4, if_neg q5, if_neg q6, if_neg (by omega), if_neg q9]
  have hnil : Hid (W (some []) st = st) := H0.out.nil
  go_enter Tryz.func59, Tryz.ntmps59
  go_wp2
  go_end0
  exact ⟨rfl, by rw [hb.out, hnil.out]; exact OUT.out _ _ (Wk.start H0.out)⟩

/-- Every node writes what it is. -/
theorem wnode_all (p : Nat) (A : Option Addr) (c : Nat) (ns : List Nd) (hns : ns.length + bulks ns ≤ 1048576) (hk : ∀ j, (hj : j < ns.length) → ∀ k ∈ ns[j].kids, 0 ≤ k ∧ k < (j : Int)) (hT : ∀ n ∈ ns, hasT n = true) (hB : ∀ n ∈ ns, I64 n.lo ∧ I64 n.hi) :
    ∀ i : Nat, i < ns.length → NodeOk p A c ns (textsO ns ns []) i := by
  intro i
  induction i using Nat.strongRecOn with
  | _ i ih =>
    intro hi
    refine wnode_step (textsO ns ns []) p A c ns i hi hns (textO_body hk hi) (hT _ (List.getElem_mem hi)) (hB _ (List.getElem_mem hi)) fun k hkk => ?_
    have := hk i hi k hkk
    refine ⟨⟨this.1, by omega⟩, ?_⟩
    have := ih k.toNat (by omega) (by omega)
    rwa [Int.toNat_of_nonneg (by omega)] at this

end Go.Proofs.YtdkjfppjbkdelaaGreatDoor
