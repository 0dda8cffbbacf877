/- Digits of a number by place; impl's naturals as they lie in memory: 601 digits, least place first, and a size. No condition. -/
import Derived.Test.YtpkmhojcccpolaaDoorImplNat1
import Derived.Deep.WholeRow
import Derived.Deep.MidRow
import Derived.Deep.LoopGhost
import Derived.Laws.CopyRow
namespace Go.Proofs.YtpkmhojcccpolaaDoor
set_option linter.unusedVariables false
open Go.RowKit
open Go.Lib (byteCells)

/-- The digit of v at place i. -/
def dgt (v i : Nat) : Nat := v / 10 ^ i % 10
/-- The number of digits of v; 0 has none. -/
def len (v : Nat) : Nat := if v = 0 then 0 else (natOf v).length

theorem dgt_lt (v i : Nat) : dgt v i < 10 := Nat.mod_lt _ (by omega)
theorem pow_pos' (k : Nat) : 0 < 10 ^ k := Nat.pow_pos (by omega)
theorem dgt_low {q k l i : Nat} (hi : i < k) : dgt (q * 10 ^ k + l) i = dgt l i := by
  obtain ⟨j, rfl⟩ : ∃ j, k = i + 1 + j := ⟨k - i - 1, by omega⟩
  unfold dgt
  have e : q * 10 ^ (i + 1 + j) = 10 ^ i * (10 * (q * 10 ^ j)) := by
    rw [show i + 1 + j = i + (j + 1) by omega, Nat.pow_add, Nat.pow_succ]
    rw [Nat.mul_left_comm, Nat.mul_comm (10 ^ j) 10, Nat.mul_left_comm q 10]
  rw [e, Nat.mul_add_div (pow_pos' i)]
  omega
theorem dgt_high {q k l : Nat} (hl : l < 10 ^ k) (j : Nat) : dgt (q * 10 ^ k + l) (k + j) = dgt q j := by
  unfold dgt
  rw [Nat.pow_add, ← Nat.div_div_eq_div_mul, Nat.mul_comm q, Nat.mul_add_div (pow_pos' k), Nat.div_eq_of_lt hl, Nat.add_zero]
theorem dgt_zero (v : Nat) : dgt v 0 = v % 10 := by simp [dgt]
theorem dgt_succ (v j : Nat) : dgt v (j + 1) = dgt (v / 10) j := by
  unfold dgt
  rw [Nat.pow_succ, Nat.mul_comm, ← Nat.div_div_eq_div_mul]
theorem split3 (h x l k : Nat) : h * 10 ^ (k + 1) + x * 10 ^ k + l = (10 * h + x) * 10 ^ k + l := by
  rw [Nat.pow_succ, Nat.add_mul, Nat.mul_comm (10 ^ k) 10, ← Nat.mul_assoc, Nat.mul_comm h 10]
theorem dgt_at {h x l k : Nat} (hx : x < 10) (hl : l < 10 ^ k) : dgt (h * 10 ^ (k + 1) + x * 10 ^ k + l) k = x := by
  rw [split3]
  have := dgt_high (q := 10 * h + x) hl 0
  rw [Nat.add_zero] at this
  rw [this, dgt_zero]; omega
theorem dgt_same {h x y l k i : Nat} (hx : x < 10) (hy : y < 10) (hl : l < 10 ^ k) (hi : i ≠ k) : dgt (h * 10 ^ (k + 1) + x * 10 ^ k + l) i = dgt (h * 10 ^ (k + 1) + y * 10 ^ k + l) i := by
  rw [split3, split3]
  rcases Nat.lt_or_gt_of_ne hi with h1 | h1
  · rw [dgt_low h1, dgt_low h1]
  · obtain ⟨j, rfl⟩ : ∃ j, i = k + (j + 1) := ⟨i - k - 1, by omega⟩
    rw [dgt_high hl, dgt_high hl, dgt_succ, dgt_succ]
    congr 1
    omega
/-- A number, taken apart at a place. -/
theorem apart_at (v k : Nat) : v = v / 10 ^ (k + 1) * 10 ^ (k + 1) + dgt v k * 10 ^ k + v % 10 ^ k := by
  have h1 := Nat.div_add_mod v (10 ^ k)
  have h2 := Nat.div_add_mod (v / 10 ^ k) 10
  have h3 : v / 10 ^ (k + 1) = v / 10 ^ k / 10 := by rw [Nat.pow_succ, Nat.div_div_eq_div_mul]
  rw [split3, h3]
  unfold dgt
  rw [h2, Nat.mul_comm, h1]
theorem mod_succ (v k : Nat) : v % 10 ^ (k + 1) = dgt v k * 10 ^ k + v % 10 ^ k := by
  have h1 := apart_at v k
  have h2 := Nat.mod_lt v (pow_pos' k)
  have h3 := dgt_lt v k
  have h4 : dgt v k * 10 ^ k + v % 10 ^ k < 10 ^ (k + 1) := by
    rw [Nat.pow_succ]
    have : dgt v k * 10 ^ k ≤ 9 * 10 ^ k := Nat.mul_le_mul_right _ (by omega)
    omega
  have h5 : v % 10 ^ (k + 1) = (v / 10 ^ (k + 1) * 10 ^ (k + 1) + (dgt v k * 10 ^ k + v % 10 ^ k)) % 10 ^ (k + 1) := by rw [← Nat.add_assoc, ← h1]
  rw [h5, Nat.add_comm, Nat.add_mul_mod_self_right, Nat.mod_eq_of_lt h4]
theorem dgt_top {v k : Nat} (hv : v < 10 ^ (k + 1)) : dgt v k = v / 10 ^ k := by
  unfold dgt
  apply Nat.mod_eq_of_lt
  rw [Nat.div_lt_iff_lt_mul (pow_pos' k), Nat.mul_comm, ← Nat.pow_succ]
  exact hv
theorem dgt_over {v k : Nat} (hv : v < 10 ^ k) : dgt v k = 0 := by
  unfold dgt
  rw [Nat.div_eq_of_lt hv]
theorem dgt_ge {v n i : Nat} (hv : v < 10 ^ n) (hi : n ≤ i) : dgt v i = 0 := dgt_over (Nat.lt_of_lt_of_le hv (Nat.pow_le_pow_right (by omega) hi))

theorem len_zero : len 0 = 0 := rfl
theorem lt_len (v : Nat) : v < 10 ^ len v := by
  unfold len
  split
  · next h => subst h; exact pow_pos' 0
  · have := val_lt (natOf_digs v)
    rwa [val_natOf] at this
theorem len_le_of {v n : Nat} (hv : v < 10 ^ n) : len v ≤ n := by
  unfold len
  split
  · omega
  · next h =>
    have h1 := pos_of_head (natOf_digs v) (natOf_ne v) (natOf_head v (by omega))
    rw [val_natOf] at h1
    have h2 := (Nat.pow_lt_pow_iff_right (a := 10) (by omega)).1 (Nat.lt_of_le_of_lt h1 hv)
    omega
theorem len_eq {v n : Nat} (hv : v < 10 ^ n) (h : n = 0 ∨ 10 ^ (n - 1) ≤ v) : len v = n := by
  have h1 := len_le_of hv
  rcases h with rfl | h
  · omega
  · have h2 := lt_len v
    have h3 := (Nat.pow_lt_pow_iff_right (a := 10) (by omega)).1 (Nat.lt_of_le_of_lt h h2)
    omega
theorem le_of_len {v : Nat} (h : v ≠ 0) : 10 ^ (len v - 1) ≤ v := by
  have h1 := pos_of_head (natOf_digs v) (natOf_ne v) (natOf_head v (by omega))
  rw [val_natOf] at h1
  unfold len
  rw [if_neg h]; exact h1
theorem len_nz {v : Nat} (h : v ≠ 0) : len v = (natOf v).length := by unfold len; rw [if_neg h]
theorem len_pos {v : Nat} (h : v ≠ 0) : 1 ≤ len v := by rw [len_nz h]; exact List.length_pos_iff.2 (natOf_ne v)
theorem zero_of_len {v : Nat} (h : len v = 0) : v = 0 := by
  have := lt_len v
  rw [h] at this
  simpa using this
theorem natOf_at : ∀ (v k : Nat), k < (natOf v).length → (natOf v)[(natOf v).length - 1 - k]? = some (dig (dgt v k)) := by
  intro v
  induction v using Nat.strongRecOn with
  | _ v ih =>
    intro k hk
    by_cases h : v < 10
    · have e := natOf_small h
      rw [e] at hk ⊢
      have hk0 : k = 0 := by simp at hk; exact hk
      subst hk0
      rw [dgt_zero, Nat.mod_eq_of_lt h]; rfl
    · have e := natOf_big h
      have el : (natOf v).length = (natOf (v / 10)).length + 1 := by rw [e]; simp
      rw [el] at hk ⊢
      rw [e]
      rcases k with _ | k
      · rw [show (natOf (v / 10)).length + 1 - 1 - 0 = (natOf (v / 10)).length by omega, List.getElem?_append_right (Nat.le_refl _), Nat.sub_self, dgt_zero]; rfl
      · rw [List.getElem?_append_left (by omega), show (natOf (v / 10)).length + 1 - 1 - (k + 1) = (natOf (v / 10)).length - 1 - k by omega, ih (v / 10) (by omega) k (by omega), dgt_succ]

/-- What the digits of a natural can hold. -/
def topOf (n : Nat) : Nat := 10 ^ n
def TOP : Nat := topOf 601
theorem lt_topOf {v n m : Nat} (hv : v < 10 ^ n) (hn : n ≤ m) : v < topOf m := Nat.lt_of_lt_of_le hv (Nat.pow_le_pow_right (by omega) hn)
theorem topOf_pos (m : Nat) : 0 < topOf m := pow_pos' m
theorem len_topOf {v m : Nat} (hv : v < topOf m) : len v ≤ m := len_le_of hv
theorem lt_top {v n : Nat} (hv : v < 10 ^ n) (hn : n ≤ 601) : v < TOP := lt_topOf hv hn
theorem top_pos : 0 < TOP := topOf_pos _
theorem len_top {v : Nat} (hv : v < TOP) : len v ≤ 601 := len_topOf hv

/-- The cells of a natural: the digits of v, and a size. -/
structure IsNat (C : Array Value) (v n : Nat) : Prop where
  size : C.size = 602
  dig : ∀ i, i < 601 → C[i]? = some (.int .u8 ((dgt v i : Nat) : Int))
  len : C[601]? = some (.int .i64 (n : Int))
  lt : v < TOP

theorem IsNat.one {C : Array Value} {v n : Nat} (h : IsNat C v n) : C.all (·.oneCell') = true := by
  refine Array.all_eq_true.2 fun i hi => ?_
  have hi2 : i < 602 := h.size ▸ hi
  by_cases h1 : i < 601
  · have := h.dig i h1
    rw [Array.getElem?_eq_getElem hi] at this
    rw [Option.some.inj this]; rfl
  · have h2 : i = 601 := by omega
    subst h2
    have := h.len
    rw [Array.getElem?_eq_getElem hi] at this
    rw [Option.some.inj this]; rfl

theorem IsNat.put {C : Array Value} {v v' n k : Nat} (h : IsNat C v n) (hk : k < 601) (hs : ∀ i, i ≠ k → dgt v' i = dgt v i) (hv : v' < TOP) :
    IsNat (C.setIfInBounds k (.int .u8 ((dgt v' k : Nat) : Int))) v' n := by
  have hsz := h.size
  refine ⟨by simp [hsz], fun i hi => ?_, ?_, hv⟩
  · rw [Array.getElem?_setIfInBounds]
    split
    · next e => subst e; rw [if_pos (by omega)]
    · next e => rw [h.dig i hi, hs i (fun x => e x.symm)]
  · rw [Array.getElem?_setIfInBounds, if_neg (by omega), h.len]

theorem IsNat.setLen {C : Array Value} {v n : Nat} (h : IsNat C v n) (n' : Nat) : IsNat (C.setIfInBounds 601 (.int .i64 (n' : Int))) v n' := by
  have hsz := h.size
  refine ⟨by simp [hsz], fun i hi => ?_, ?_, h.lt⟩
  · rw [Array.getElem?_setIfInBounds, if_neg (by omega), h.dig i hi]
  · rw [Array.getElem?_setIfInBounds, if_pos rfl, if_pos (by omega)]

/-- The cells of nought. -/
def noughts (n : Nat) : Array Value := (List.replicate n (Value.int .u8 0) ++ [Value.int .i64 0]).toArray
theorem noughts_size (n : Nat) : (noughts n).size = n + 1 := by simp [noughts]
theorem noughts_dig {n i : Nat} (hi : i < n) : (noughts n)[i]? = some (.int .u8 0) := by
  unfold noughts
  rw [List.getElem?_toArray, List.getElem?_append_left (by rw [List.length_replicate]; exact hi), List.getElem?_replicate, if_pos hi]
theorem noughts_len (n : Nat) : (noughts n)[n]? = some (.int .i64 0) := by
  unfold noughts
  rw [List.getElem?_toArray, List.getElem?_append_right (by rw [List.length_replicate]; exact Nat.le_refl _), List.length_replicate, Nat.sub_self]; rfl
def zeroCells : Array Value := noughts 601
theorem dgt_nought (i : Nat) : dgt 0 i = 0 := by simp [dgt]
theorem zero_is : IsNat zeroCells 0 0 :=
  ⟨noughts_size 601, fun i hi => by rw [dgt_nought]; exact noughts_dig hi, noughts_len 601, top_pos⟩

theorem Tryd.infoNat : (Tryd.prog.info? 63).map (fun i => (i.zero, i.size)) = some (some (.agg zeroCells), 602) := by kernel_rfl
theorem Tryd.zeroNat : ∀ w, (zeroValue 63).run Tryd.prog w = .ok (.agg zeroCells) w := (zero_of_info Tryd.infoNat).1
theorem Tryd.sizeNat : (Tryd.prog.info? 63).map (·.size) = some 602 := (zero_of_info Tryd.infoNat).2

/-- A natural lies at block g, whole. -/
def NatAt (w : World) (g v n : Nat) : Prop := ∃ C, w.heap[g]? = some (.cells C 63 (0, 0)) ∧ IsNat C v n

theorem NatAt.lt {w : World} {g v n : Nat} (h : NatAt w g v n) : g < w.heap.size := by
  obtain ⟨C, h, _⟩ := h
  exact (Array.getElem?_eq_some_iff.1 h).1
theorem NatAt.cells {w : World} {g v n : Nat} (h : NatAt w g v n) : (∀ i, i < 601 → w.cell? ⟨g, i, none⟩ = some (.int .u8 ((dgt v i : Nat) : Int))) ∧ w.cell? ⟨g, 601, none⟩ = some (.int .i64 (n : Int)) ∧ ∀ i, w.frozen? ⟨g, i, none⟩ = false := by
  obtain ⟨C, h, hI⟩ := h
  exact ⟨fun i hi => by rw [cell_of_row w g i C _ _ h, hI.dig i hi], by rw [cell_of_row w g 601 C _ _ h, hI.len], fun i => frozen_of_row w g i C _ h⟩
theorem NatAt.put {w : World} {g v v' n k d : Nat} (h : NatAt w g v n) (hk : k < 601) (hd : d = dgt v' k) (hs : ∀ i, i ≠ k → dgt v' i = dgt v i) (hv : v' < TOP) :
    NatAt (w.setCell ⟨g, k, none⟩ (.int .u8 (d : Int))) g v' n := by
  obtain ⟨C, h, hI⟩ := h
  subst hd
  exact ⟨_, heap_setCell_same w g k C _ _ h, hI.put hk hs hv⟩
theorem NatAt.put2 {w : World} {g v v' n k d : Nat} (h : NatAt w g v n) (u : Value) (hk : k < 601) (hd : d = dgt v' k) (hs : ∀ i, i ≠ k → dgt v' i = dgt v i) (hv : v' < TOP) :
    NatAt ((w.setCell ⟨g, k, none⟩ u).setCell ⟨g, k, none⟩ (.int .u8 (d : Int))) g v' n := by
  obtain ⟨C, h, hI⟩ := h
  subst hd
  refine ⟨_, heap_setCell_same _ g k _ _ _ (heap_setCell_same w g k C _ _ h), ?_⟩
  rw [Array.setIfInBounds_setIfInBounds]
  exact hI.put hk hs hv
theorem NatAt.setLen {w : World} {g v n : Nat} (h : NatAt w g v n) (n' : Nat) : NatAt (w.setCell ⟨g, 601, none⟩ (.int .i64 (n' : Int))) g v n' := by
  obtain ⟨C, h, hI⟩ := h
  exact ⟨_, heap_setCell_same w g 601 C _ _ h, hI.setLen n'⟩
theorem NatAt.keep {w w' : World} {g v n : Nat} (h : NatAt w g v n) (e : w'.heap[g]? = w.heap[g]?) : NatAt w' g v n := by
  obtain ⟨C, h, hI⟩ := h
  exact ⟨C, e.trans h, hI⟩
theorem NatAt.below {w w' : World} {g v n B : Nat} (h : NatAt w g v n) (hb : Below B w w') (hg : g < B) : NatAt w' g v n := h.keep (hb.block g hg)
theorem NatAt.alloc {w : World} {g v n : Nat} (h : NatAt w g v n) (o : Obj) : NatAt (w.alloc o) g v n := h.keep (Below.heap_alloc w o g h.lt)
theorem NatAt.grown {w w' : World} {g v n k : Nat} (h : NatAt w g v n) (hg : w.grownBy w' (some k)) (hk : g ≠ k) : NatAt w' g v n := h.keep (hg.block g h.lt (fun e => hk (Option.some.inj e)))
theorem NatAt.setOther {w : World} {g v n k i : Nat} (h : NatAt w g v n) (u : Value) (hk : g ≠ k) : NatAt (w.setCell ⟨k, i, none⟩ u) g v n := h.keep (Below.heap_setCell w ⟨k, i, none⟩ u g hk)
theorem NatAt.new (w : World) {C : Array Value} {v n : Nat} (h : IsNat C v n) : NatAt (w.alloc (.cells C 63)) w.heap.size v n := ⟨C, heap_alloc_new w _, h⟩

/-- One block may have turned, and blocks have come: the frame of a method behind a pointer. -/
theorem gset {a w : World} {g i : Nat} (h : a.grownBy w (some g)) (v : Value) : a.grownBy (w.setCell ⟨g, i, none⟩ v) (some g) :=
  ⟨h.os, h.tape, h.output, by simpa [World.setCell] using h.size, fun k hk hn => (Below.heap_setCell w ⟨g, i, none⟩ v k (fun e => hn (by rw [e]))).trans (h.block k hk hn)⟩
theorem grefl (w : World) (row : Option Nat) : w.grownBy w row := ⟨rfl, rfl, rfl, Nat.le_refl _, fun _ _ _ => rfl⟩
theorem gdrew {a w : World} {row : Option Nat} (h : a.grownBy w row) : a.grownBy w.drew row := ⟨h.os, h.tape, h.output, h.size, h.block⟩
theorem gdrewN {a w : World} {row : Option Nat} (h : a.grownBy w row) (q : Nat) : a.grownBy (w.drewN q) row := ⟨h.os, h.tape, h.output, h.size, h.block⟩
theorem NatAt.drewN {w : World} {g v n : Nat} (h : NatAt w g v n) (q : Nat) : NatAt (w.drewN q) g v n := h
theorem setCell_sizeN (w : World) (a : Addr) (v : Value) : (w.setCell a v).heap.size = w.heap.size := by simp [World.setCell]
theorem gtrans {a b c : World} {row : Option Nat} (h : a.grownBy b row) (k : b.grownBy c row) : a.grownBy c row :=
  ⟨k.os.trans h.os, k.tape.trans h.tape, k.output.trans h.output, Nat.le_trans h.size k.size, fun i hi hn => (k.block i (Nat.lt_of_lt_of_le hi h.size) hn).trans (h.block i hi hn)⟩

/-- What a method that returns nothing leaves of its receiver. -/
def Left (g v n : Nat) (w : World) (e : Ending) (w' : World) : Prop := e = .returned (.tuple #[]) ∧ NatAt w' g v n ∧ w.grownBy w' (some g) ∧ w'.heap.size = w.heap.size

theorem u8_beq (d : Nat) : (((d : Nat) : Int) == 0) = decide (d = 0) := by
  by_cases h : d = 0
  · subst h; rfl
  · rw [decide_eq_false h]; exact beq_eq_false_iff_ne.2 (by omega)

set_option maxHeartbeats 2000000 in
set_option maxRecDepth 100000 in
theorem implTrim (g v n : Nat) (w : World) (h : NatAt w g v n) (hv : v < 10 ^ n) (hn : n ≤ 601) :
    Calls Tryd.prog 86 #[.pointer (some ⟨g, 0, none⟩)] w (Left g v (len v) w) := by
  have HV := Lib.hid hv
  clear hv
  go_enter Tryd.func86, Tryd.ntmps86
  go_wp2
  go_loopg [2] n (fun k _ wr => v < 10 ^ k ∧ k ≤ n ∧ NatAt wr g v k ∧ w.grownBy wr (some g) ∧ wr.heap.size = w.heap.size)
  case atStart => exact ⟨HV.out, Nat.le_refl _, h, grefl _ _, rfl⟩
  case round =>
    obtain ⟨hv, hkn, hN, hG, hS⟩ := hrel
    have HV := Lib.hid hv
    clear hv
    obtain ⟨c1, c2, c3⟩ := hN.cells
    have f1 := c3 601
    clear c3
    cases gk with
    | zero =>
      have HL : Hid (len v = 0) := len_eq HV.out (.inl rfl)
      have c2' : wr.cell? ⟨g, 601, none⟩ = some (.int .i64 0) := c2
      clear c1 c2
      go_wp2
      go_quiet (fail)
      go_wp2
      go_end0
      exact ⟨rfl, by rw [HL.out]; exact hN.drewN _, gdrewN hG _, hS⟩
    | succ m =>
      have c2' : wr.cell? ⟨g, 601, none⟩ = some (.int .i64 ((m : Int) + 1)) := c2
      have hd : decide ((0 : Int) < (m : Int) + 1) = true := decide_eq_true (by omega)
      have c3 := c1 m (by omega)
      have hm1 : (m : Int) < 601 := by omega
      clear c1 c2
      obtain ⟨d, hd2⟩ : ∃ d, dgt v m = d := ⟨_, rfl⟩
      rw [hd2] at c3
      by_cases h0 : d = 0
      · subst h0
        have c3' : wr.cell? ⟨g, m, none⟩ = some (.int .u8 0) := c3
        clear c3
        go_wp2
        go_quiet (fail)
        go_wp2
        go_roundg m
        case measure => omega
        case rel => exact ⟨by have := HV.out; have h1 := dgt_top this; rw [hd2] at h1; rcases Nat.lt_or_ge v (10 ^ m) with h2 | h2; exact h2; exact absurd (Nat.div_pos h2 (pow_pos' m)) (by omega), by omega, (hN.drewN _).setLen m, gset (gdrewN hG _) _, (setCell_sizeN _ _ _).trans hS⟩
      · have hb : (((d : Nat) : Int) == 0) = false := beq_eq_false_iff_ne.2 (by omega)
        go_wp2
        go_quiet (fail)
        go_wp2
        have HL : Hid (len v = m + 1) := len_eq HV.out (.inr (by
          rw [Nat.add_sub_cancel]
          rcases Nat.lt_or_ge v (10 ^ m) with h2 | h2
          · exact absurd ((dgt_over h2).symm.trans hd2) (fun e => h0 e.symm)
          · exact h2))
        go_end0
        exact ⟨rfl, by rw [HL.out]; exact hN.drewN _, gdrewN hG _, hS⟩

end Go.Proofs.YtpkmhojcccpolaaDoor
