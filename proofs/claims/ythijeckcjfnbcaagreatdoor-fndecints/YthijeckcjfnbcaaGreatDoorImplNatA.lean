/- Digits of a number by place; impl's naturals as they lie in memory: 601 digits, least place first, and a size. No condition. -/
import Derived.Test.YthijeckcjfnbcaaGreatDoorImplNat1
import Derived.Deep.WholeRow
import Derived.Deep.MidRow
import Derived.Deep.LoopGhost
import Derived.Laws.CopyRow
import Derived.Laws.ResultCell
import Derived.StillTailTactics
namespace Go.Proofs.YthijeckcjfnbcaaGreatDoor
set_option linter.unusedVariables false
open Go.RowKit
open Go.Lib (byteCells)

/-- The digit of v at place i. -/
def dgt (v i : Nat) : Nat := v / 10 ^ i % 10
/-- The number of digits of v; 0 has none. -/
def len (v : Nat) : Nat := if v = 0 then 0 else (natOf v).length

theorem dgt_lt (v i : Nat) : dgt v i < 10 := Nat.mod_lt _ (by omega)
theorem pow_pos' (k : Nat) : 0 < 10 ^ k := Nat.pow_pos (by omega)
theorem dgt_low {q k l i : Nat} (hi : i < k) : dgt (q * 10 ^ k + l) i = dgt l i := by
  obtain ⟨j, rfl⟩ : ∃ j, k = i + 1 + j := ⟨k - i - 1, by omega⟩
  unfold dgt
  have e : q * 10 ^ (i + 1 + j) = 10 ^ i * (10 * (q * 10 ^ j)) := by
    rw [show i + 1 + j = i + (j + 1) by omega, Nat.pow_add, Nat.pow_succ]
    rw [Nat.mul_left_comm, Nat.mul_comm (10 ^ j) 10, Nat.mul_left_comm q 10]
  rw [e, Nat.mul_add_div (pow_pos' i)]
  omega
theorem dgt_high {q k l : Nat} (hl : l < 10 ^ k) (j : Nat) : dgt (q * 10 ^ k + l) (k + j) = dgt q j := by
  unfold dgt
  rw [Nat.pow_add, ← Nat.div_div_eq_div_mul, Nat.mul_comm q, Nat.mul_add_div (pow_pos' k), Nat.div_eq_of_lt hl, Nat.add_zero]
theorem dgt_zero (v : Nat) : dgt v 0 = v % 10 := by simp [dgt]
theorem dgt_succ (v j : Nat) : dgt v (j + 1) = dgt (v / 10) j := by
  unfold dgt
  rw [Nat.pow_succ, Nat.mul_comm, ← Nat.div_div_eq_div_mul]
theorem split3 (h x l k : Nat) : h * 10 ^ (k + 1) + x * 10 ^ k + l = (10 * h + x) * 10 ^ k + l := by
  rw [Nat.pow_succ, Nat.add_mul, Nat.mul_comm (10 ^ k) 10, ← Nat.mul_assoc, Nat.mul_comm h 10]
theorem dgt_at {h x l k : Nat} (hx : x < 10) (hl : l < 10 ^ k) : dgt (h * 10 ^ (k + 1) + x * 10 ^ k + l) k = x := by
  rw [split3]
  have := dgt_high (q := 10 * h + x) hl 0
  rw [Nat.add_zero] at this
  rw [this, dgt_zero]; omega
theorem dgt_same {h x y l k i : Nat} (hx : x < 10) (hy : y < 10) (hl : l < 10 ^ k) (hi : i ≠ k) : dgt (h * 10 ^ (k + 1) + x * 10 ^ k + l) i = dgt (h * 10 ^ (k + 1) + y * 10 ^ k + l) i := by
  rw [split3, split3]
  rcases Nat.lt_or_gt_of_ne hi with h1 | h1
  · rw [dgt_low h1, dgt_low h1]
  · obtain ⟨j, rfl⟩ : ∃ j, i = k + (j + 1) := ⟨i - k - 1, by omega⟩
    rw [dgt_high hl, dgt_high hl, dgt_succ, dgt_succ]
    congr 1
    omega
/-- A number, taken apart at a place. -/
theorem apart_at (v k : Nat) : v = v / 10 ^ (k + 1) * 10 ^ (k + 1) + dgt v k * 10 ^ k + v % 10 ^ k := by
  have h1 := Nat.div_add_mod v (10 ^ k)
  have h2 := Nat.div_add_mod (v / 10 ^ k) 10
  have h3 : v / 10 ^ (k + 1) = v / 10 ^ k / 10 := by rw [Nat.pow_succ, Nat.div_div_eq_div_mul]
  rw [split3, h3]
  unfold dgt
  rw [h2, Nat.mul_comm, h1]
theorem mod_succ (v k : Nat) : v % 10 ^ (k + 1) = dgt v k * 10 ^ k + v % 10 ^ k := by
  have h1 := apart_at v k
  have h2 := Nat.mod_lt v (pow_pos' k)
  have h3 := dgt_lt v k
  have h4 : dgt v k * 10 ^ k + v % 10 ^ k < 10 ^ (k + 1) := by
    rw [Nat.pow_succ]
    have : dgt v k * 10 ^ k ≤ 9 * 10 ^ k := Nat.mul_le_mul_right _ (by omega)
    omega
  have h5 : v % 10 ^ (k + 1) = (v / 10 ^ (k + 1) * 10 ^ (k + 1) + (dgt v k * 10 ^ k + v % 10 ^ k)) % 10 ^ (k + 1) := by rw [← Nat.add_assoc, ← h1]
  rw [h5, Nat.add_comm, Nat.add_mul_mod_self_right, Nat.mod_eq_of_lt h4]
theorem dgt_top {v k : Nat} (hv : v < 10 ^ (k + 1)) : dgt v k = v / 10 ^ k := by
  unfold dgt
  apply Nat.mod_eq_of_lt
  rw [Nat.div_lt_iff_lt_mul (pow_pos' k), Nat.mul_comm, ← Nat.pow_succ]
  exact hv
theorem dgt_over {v k : Nat} (hv : v < 10 ^ k) : dgt v k = 0 := by
  unfold dgt
  rw [Nat.div_eq_of_lt hv]
theorem dgt_ge {v n i : Nat} (hv : v < 10 ^ n) (hi : n ≤ i) : dgt v i = 0 := dgt_over (Nat.lt_of_lt_of_le hv (Nat.pow_le_pow_right (by omega) hi))

theorem len_zero : len 0 = 0 := rfl
theorem lt_len (v : Nat) : v < 10 ^ len v := by
  unfold len
  split
  · next h => subst h; exact pow_pos' 0
  · have := val_lt (natOf_digs v)
    rwa [val_natOf] at this
theorem len_le_of {v n : Nat} (hv : v < 10 ^ n) : len v ≤ n := by
  unfold len
  split
  · omega
  · next h =>
    have h1 := pos_of_head (natOf_digs v) (natOf_ne v) (natOf_head v (by omega))
    rw [val_natOf] at h1
    have h2 := (Nat.pow_lt_pow_iff_right (a := 10) (by omega)).1 (Nat.lt_of_le_of_lt h1 hv)
    omega
theorem len_eq {v n : Nat} (hv : v < 10 ^ n) (h : n = 0 ∨ 10 ^ (n - 1) ≤ v) : len v = n := by
  have h1 := len_le_of hv
  rcases h with rfl | h
  · omega
  · have h2 := lt_len v
    have h3 := (Nat.pow_lt_pow_iff_right (a := 10) (by omega)).1 (Nat.lt_of_le_of_lt h h2)
    omega
theorem le_of_len {v : Nat} (h : v ≠ 0) : 10 ^ (len v - 1) ≤ v := by
  have h1 := pos_of_head (natOf_digs v) (natOf_ne v) (natOf_head v (by omega))
  rw [val_natOf] at h1
  unfold len
  rw [if_neg h]; exact h1
theorem len_nz {v : Nat} (h : v ≠ 0) : len v = (natOf v).length := by unfold len; rw [if_neg h]
theorem len_pos {v : Nat} (h : v ≠ 0) : 1 ≤ len v := by rw [len_nz h]; exact List.length_pos_iff.2 (natOf_ne v)
theorem zero_of_len {v : Nat} (h : len v = 0) : v = 0 := by
  have := lt_len v
  rw [h] at this
  simpa using this
theorem natOf_at : ∀ (v k : Nat), k < (natOf v).length → (natOf v)[(natOf v).length - 1 - k]? = some (dig (dgt v k)) := by
  intro v
  induction v using Nat.strongRecOn with
  | _ v ih =>
    intro k hk
    by_cases h : v < 10
    · have e := natOf_small h
      rw [e] at hk ⊢
      have hk0 : k = 0 := by simp at hk; exact hk
      subst hk0
      rw [dgt_zero, Nat.mod_eq_of_lt h]; rfl
    · have e := natOf_big h
      have el : (natOf v).length = (natOf (v / 10)).length + 1 := by rw [e]; simp
      rw [el] at hk ⊢
      rw [e]
      rcases k with _ | k
      · rw [show (natOf (v / 10)).length + 1 - 1 - 0 = (natOf (v / 10)).length by omega, List.getElem?_append_right (Nat.le_refl _), Nat.sub_self, dgt_zero]; rfl
      · rw [List.getElem?_append_left (by omega), show (natOf (v / 10)).length + 1 - 1 - (k + 1) = (natOf (v / 10)).length - 1 - k by omega, ih (v / 10) (by omega) k (by omega), dgt_succ]

/-- What the digits of a natural can hold. -/
def topOf (n : Nat) : Nat := 10 ^ n
def TOP : Nat := topOf 601
theorem lt_topOf {v n m : Nat} (hv : v < 10 ^ n) (hn : n ≤ m) : v < topOf m := Nat.lt_of_lt_of_le hv (Nat.pow_le_pow_right (by omega) hn)
theorem topOf_pos (m : Nat) : 0 < topOf m := pow_pos' m
theorem len_topOf {v m : Nat} (hv : v < topOf m) : len v ≤ m := len_le_of hv
theorem lt_top {v n : Nat} (hv : v < 10 ^ n) (hn : n ≤ 601) : v < TOP := lt_topOf hv hn
theorem top_pos : 0 < TOP := topOf_pos _
theorem len_top {v : Nat} (hv : v < TOP) : len v ≤ 601 := len_topOf hv

/-- The cells of a natural: the digits of v, and a size. -/
structure IsNat (C : Array Value) (v n : Nat) : Prop where
  size : C.size = 602
  dig : ∀ i, i < 601 → C[i]? = some (.int .u8 ((dgt v i : Nat) : Int))
  len : C[601]? = some (.int .i64 (n : Int))
  lt : v < TOP

theorem IsNat.one {C : Array Value} {v n : Nat} (h : IsNat C v n) : C.all (·.oneCell') = true := by
  refine Array.all_eq_true.2 fun i hi => ?_
  have hi2 : i < 602 := h.size ▸ hi
  by_cases h1 : i < 601
  · have := h.dig i h1
    rw [Array.getElem?_eq_getElem hi] at this
    rw [Option.some.inj this]; rfl
  · have h2 : i = 601 := by omega
    subst h2
    have := h.len
    rw [Array.getElem?_eq_getElem hi] at this
    rw [Option.some.inj this]; rfl

theorem IsNat.put {C : Array Value} {v v' n k : Nat} (h : IsNat C v n) (hk : k < 601) (hs : ∀ i, i ≠ k → dgt v' i = dgt v i) (hv : v' < TOP) :
    IsNat (C.setIfInBounds k (.int .u8 ((dgt v' k : Nat) : Int))) v' n := by
  have hsz := h.size
  refine ⟨by simp [hsz], fun i hi => ?_, ?_, hv⟩
  · rw [Array.getElem?_setIfInBounds]
    split
    · next e => subst e; rw [if_pos (by omega)]
    · next e => rw [h.dig i hi, hs i (fun x => e x.symm)]
  · rw [Array.getElem?_setIfInBounds, if_neg (by omega), h.len]

theorem IsNat.setLen {C : Array Value} {v n : Nat} (h : IsNat C v n) (n' : Nat) : IsNat (C.setIfInBounds 601 (.int .i64 (n' : Int))) v n' := by
  have hsz := h.size
  refine ⟨by simp [hsz], fun i hi => ?_, ?_, h.lt⟩
  · rw [Array.getElem?_setIfInBounds, if_neg (by omega), h.dig i hi]
  · rw [Array.getElem?_setIfInBounds, if_pos rfl, if_pos (by omega)]

/-- The cells of nought. -/
def noughts (n : Nat) : Array Value := (List.replicate n (Value.int .u8 0) ++ [Value.int .i64 0]).toArray
theorem noughts_size (n : Nat) : (noughts n).size = n + 1 := by simp [noughts]
theorem noughts_dig {n i : Nat} (hi : i < n) : (noughts n)[i]? = some (.int .u8 0) := by
  unfold noughts
  rw [List.getElem?_toArray, List.getElem?_append_left (by rw [List.length_replicate]; exact hi), List.getElem?_replicate, if_pos hi]
theorem noughts_len (n : Nat) : (noughts n)[n]? = some (.int .i64 0) := by
  unfold noughts
  rw [List.getElem?_toArray, List.getElem?_append_right (by rw [List.length_replicate]; exact Nat.le_refl _), List.length_replicate, Nat.sub_self]; rfl
def zeroCells : Array Value := noughts 601
theorem dgt_nought (i : Nat) : dgt 0 i = 0 := by simp [dgt]
theorem zero_is : IsNat zeroCells 0 0 :=
  ⟨noughts_size 601, fun i hi => by rw [dgt_nought]; exact noughts_dig hi, noughts_len 601, top_pos⟩

theorem Tryz.infoNat : (Tryz.prog.info? 45).map (fun i => (i.zero, i.size)) = some (some (.agg zeroCells), 602) := by kernel_rfl
theorem Tryz.zeroNat : ∀ w, (zeroValue 45).run Tryz.prog w = .ok (.agg zeroCells) w := (zero_of_info Tryz.infoNat).1
theorem Tryz.sizeNat : (Tryz.prog.info? 45).map (·.size) = some 602 := (zero_of_info Tryz.infoNat).2

/-- A natural lies at block g, whole. -/
def NatAt (w : World) (g v n : Nat) : Prop := ∃ C, w.heap[g]? = some (.cells C 45 (0, 0)) ∧ IsNat C v n

theorem NatAt.lt {w : World} {g v n : Nat} (h : NatAt w g v n) : g < w.heap.size := by
  obtain ⟨C, h, _⟩ := h
  exact (Array.getElem?_eq_some_iff.1 h).1
theorem NatAt.cells {w : World} {g v n : Nat} (h : NatAt w g v n) : (∀ i, i < 601 → w.cell? ⟨g, i, none⟩ = some (.int .u8 ((dgt v i : Nat) : Int))) ∧ w.cell? ⟨g, 601, none⟩ = some (.int .i64 (n : Int)) ∧ ∀ i, w.frozen? ⟨g, i, none⟩ = false := by
  obtain ⟨C, h, hI⟩ := h
  exact ⟨fun i hi => by rw [cell_of_row w g i C _ _ h, hI.dig i hi], by rw [cell_of_row w g 601 C _ _ h, hI.len], fun i => frozen_of_row w g i C _ h⟩
theorem NatAt.put {w : World} {g v v' n k d : Nat} (h : NatAt w g v n) (hk : k < 601) (hd : d = dgt v' k) (hs : ∀ i, i ≠ k → dgt v' i = dgt v i) (hv : v' < TOP) :
    NatAt (w.setCell ⟨g, k, none⟩ (.int .u8 (d : Int))) g v' n := by
  obtain ⟨C, h, hI⟩ := h
  subst hd
  exact ⟨_, heap_setCell_same w g k C _ _ h, hI.put hk hs hv⟩
theorem NatAt.put2 {w : World} {g v v' n k d : Nat} (h : NatAt w g v n) (u : Value) (hk : k < 601) (hd : d = dgt v' k) (hs : ∀ i, i ≠ k → dgt v' i = dgt v i) (hv : v' < TOP) :
    NatAt ((w.setCell ⟨g, k, none⟩ u).setCell ⟨g, k, none⟩ (.int .u8 (d : Int))) g v' n := by
  obtain ⟨C, h, hI⟩ := h
  subst hd
  refine ⟨_, heap_setCell_same _ g k _ _ _ (heap_setCell_same w g k C _ _ h), ?_⟩
  rw [Array.setIfInBounds_setIfInBounds]
  exact hI.put hk hs hv
theorem NatAt.setLen {w : World} {g v n : Nat} (h : NatAt w g v n) (n' : Nat) : NatAt (w.setCell ⟨g, 601, none⟩ (.int .i64 (n' : Int))) g v n' := by
  obtain ⟨C, h, hI⟩ := h
  exact ⟨_, heap_setCell_same w g 601 C _ _ h, hI.setLen n'⟩
theorem NatAt.keep {w w' : World} {g v n : Nat} (h : NatAt w g v n) (e : w'.heap[g]? = w.heap[g]?) : NatAt w' g v n := by
  obtain ⟨C, h, hI⟩ := h
  exact ⟨C, e.trans h, hI⟩
theorem NatAt.below {w w' : World} {g v n B : Nat} (h : NatAt w g v n) (hb : Below B w w') (hg : g < B) : NatAt w' g v n := h.keep (hb.block g hg)
theorem NatAt.alloc {w : World} {g v n : Nat} (h : NatAt w g v n) (o : Obj) : NatAt (w.alloc o) g v n := h.keep (Below.heap_alloc w o g h.lt)
theorem NatAt.grown {w w' : World} {g v n k : Nat} (h : NatAt w g v n) (hg : w.grownBy w' (some k)) (hk : g ≠ k) : NatAt w' g v n := h.keep (hg.block g h.lt (fun e => hk (Option.some.inj e)))
theorem NatAt.setOther {w : World} {g v n k i : Nat} (h : NatAt w g v n) (u : Value) (hk : g ≠ k) : NatAt (w.setCell ⟨k, i, none⟩ u) g v n := h.keep (Below.heap_setCell w ⟨k, i, none⟩ u g hk)
theorem NatAt.new (w : World) {C : Array Value} {v n : Nat} (h : IsNat C v n) : NatAt (w.alloc (.cells C 45)) w.heap.size v n := ⟨C, heap_alloc_new w _, h⟩

/-- One block may have turned, and blocks have come: the frame of a method behind a pointer. -/
theorem gset {a w : World} {g i : Nat} (h : a.grownBy w (some g)) (v : Value) : a.grownBy (w.setCell ⟨g, i, none⟩ v) (some g) :=
  ⟨h.os, h.tape, h.output, by simpa [World.setCell] using h.size, fun k hk hn => (Below.heap_setCell w ⟨g, i, none⟩ v k (fun e => hn (by rw [e]))).trans (h.block k hk hn)⟩
theorem grefl (w : World) (row : Option Nat) : w.grownBy w row := ⟨rfl, rfl, rfl, Nat.le_refl _, fun _ _ _ => rfl⟩
theorem gdrew {a w : World} {row : Option Nat} (h : a.grownBy w row) : a.grownBy w.drew row := ⟨h.os, h.tape, h.output, h.size, h.block⟩
theorem gdrewN {a w : World} {row : Option Nat} (h : a.grownBy w row) (q : Nat) : a.grownBy (w.drewN q) row := ⟨h.os, h.tape, h.output, h.size, h.block⟩
theorem NatAt.drewN {w : World} {g v n : Nat} (h : NatAt w g v n) (q : Nat) : NatAt (w.drewN q) g v n := h
theorem setCell_sizeN (w : World) (a : Addr) (v : Value) : (w.setCell a v).heap.size = w.heap.size := by simp [World.setCell]
theorem gtrans {a b c : World} {row : Option Nat} (h : a.grownBy b row) (k : b.grownBy c row) : a.grownBy c row :=
  ⟨k.os.trans h.os, k.tape.trans h.tape, k.output.trans h.output, Nat.le_trans h.size k.size, fun i hi hn => (k.block i (Nat.lt_of_lt_of_le hi h.size) hn).trans (h.block i hi hn)⟩

/-- What a method that returns nothing leaves of its receiver. -/
def Left (g v n : Nat) (w : World) (e : Ending) (w' : World) : Prop := e = .returned (.tuple #[]) ∧ NatAt w' g v n ∧ w.grownBy w' (some g) ∧ w'.heap.size = w.heap.size

theorem u8_beq (d : Nat) : (((d : Nat) : Int) == 0) = decide (d = 0) := by
  by_cases h : d = 0
  · subst h; rfl
  · rw [decide_eq_false h]; exact beq_eq_false_iff_ne.2 (by omega)

set_option maxHeartbeats 2000000 in
set_option maxRecDepth 100000 in
theorem implTrim (g v n : Nat) (w : World) (h : NatAt w g v n) (hv : v < 10 ^ n) (hn : n ≤ 601) :
    Calls Tryz.prog 57 #[.pointer (some ⟨g, 0, none⟩)] w (Left g v (len v) w) := by
  have HV := Lib.hid hv
  clear hv
  go_enter Tryz.func57, Tryz.ntmps57
  go_wp2
  go_loopg [2] n (fun k _ wr => v < 10 ^ k ∧ k ≤ n ∧ NatAt wr g v k ∧ w.grownBy wr (some g) ∧ wr.heap.size = w.heap.size)
  case atStart => exact ⟨HV.out, Nat.le_refl _, h, grefl _ _, rfl⟩
  case round =>
    obtain ⟨hv, hkn, hN, hG, hS⟩ := hrel
    have HV := Lib.hid hv
    clear hv
    obtain ⟨c1, c2, c3⟩ := hN.cells
    have f1 := c3 601
    clear c3
    cases gk with
    | zero =>
      have HL : Hid (len v = 0) := len_eq HV.out (.inl rfl)
      have c2' : wr.cell? ⟨g, 601, none⟩ = some (.int .i64 0) := c2
      clear c1 c2
      go_wp2
      go_quiet (fail)
      go_wp2
      go_end0
      exact ⟨rfl, by rw [HL.out]; exact hN.drewN _, gdrewN hG _, hS⟩
    | succ m =>
      have c2' : wr.cell? ⟨g, 601, none⟩ = some (.int .i64 ((m : Int) + 1)) := c2
      have hd : decide ((0 : Int) < (m : Int) + 1) = true := decide_eq_true (by omega)
      have c3 := c1 m (by omega)
      have hm1 : (m : Int) < 601 := by omega
      clear c1 c2
      obtain ⟨d, hd2⟩ : ∃ d, dgt v m = d := ⟨_, rfl⟩
      rw [hd2] at c3
      by_cases h0 : d = 0
      · subst h0
        have c3' : wr.cell? ⟨g, m, none⟩ = some (.int .u8 0) := c3
        clear c3
        go_wp2
        go_quiet (fail)
        go_wp2
        go_roundg m
        case measure => omega
        case rel => exact ⟨by have := HV.out; have h1 := dgt_top this; rw [hd2] at h1; rcases Nat.lt_or_ge v (10 ^ m) with h2 | h2; exact h2; exact absurd (Nat.div_pos h2 (pow_pos' m)) (by omega), by omega, (hN.drewN _).setLen m, gset (gdrewN hG _) _, (setCell_sizeN _ _ _).trans hS⟩
      · have hb : (((d : Nat) : Int) == 0) = false := beq_eq_false_iff_ne.2 (by omega)
        go_wp2
        go_quiet (fail)
        go_wp2
        have HL : Hid (len v = m + 1) := len_eq HV.out (.inr (by
          rw [Nat.add_sub_cancel]
          rcases Nat.lt_or_ge v (10 ^ m) with h2 | h2
          · exact absurd ((dgt_over h2).symm.trans hd2) (fun e => h0 e.symm)
          · exact h2))
        go_end0
        exact ⟨rfl, by rw [HL.out]; exact hN.drewN _, gdrewN hG _, hS⟩

end Go.Proofs.YthijeckcjfnbcaaGreatDoor

/- impl.naturalOf. Conditions: at most 1048576 bytes. -/
namespace Go.Proofs.YthijeckcjfnbcaaGreatDoor
set_option linter.unusedVariables false
open Go.RowKit
open Go.Lib (byteCells)

def AnsNat (v : Nat) (b : Bool) (w : World) (e : Ending) (w' : World) : Prop := ∃ C, e = .returned (.tuple #[.agg C, .bool b]) ∧ IsNat C v (len v) ∧ Below w.heap.size w w'
/-- The number that a string denotes, 0 where it is no natural. -/
def ofV (s : ByteArray) : Nat := if NatS s then nv s else 0
def okS (s : ByteArray) : Bool := decide (NatS s)

theorem low_put {l : List UInt8} (hd : Digs l) (k : Nat) : dgt (low l (k + 1)) k = digAt l k ∧ ∀ i, i ≠ k → dgt (low l (k + 1)) i = dgt (low l k) i := by
  have h1 := low_lt hd k
  have h2 := digAt_lt hd k
  have e := low_succ l k
  have e1 : low l (k + 1) = 0 * 10 ^ (k + 1) + digAt l k * 10 ^ k + low l k := by rw [Nat.zero_mul, Nat.zero_add]; exact e
  have e2 : low l k = 0 * 10 ^ (k + 1) + 0 * 10 ^ k + low l k := by simp
  refine ⟨by rw [e1]; exact dgt_at h2 h1, fun i hi => ?_⟩
  rw [e1, dgt_same h2 (by omega : 0 < 10) h1 hi, ← e2]

/-- A whole natural out of its block, and into one. -/
theorem load_nat {ops : Array Oper} {rest : List Oper} {a : Act} {w : World} {Q : Exit → Act → World → Prop} {dst : Option Tmp} {ty : TypeId} {pos : String} {after : Array Edge} {x : Operand} {C : Array Value} {v n : Nat} (g : Nat)
    (hx : a.eval x = .pointer (some ⟨g, 0, none⟩)) (hg : w.heap[g]? = some (.cells C 45 (0, 0))) (hI : IsNat C v n) (h : wpList Tryz.prog ops Q rest (a.put dst (.agg C)) w) :
    wpList Tryz.prog ops Q (⟨dst, .load 45 x, ty, pos, after, none⟩ :: rest) a w :=
  wpList_load_row rfl 45 x rfl g hx _ C _ _ hg Tryz.underlying45 rfl (by rw [hI.size]; exact Tryz.sizeNat) h
theorem store_nat {ops : Array Oper} {rest : List Oper} {a : Act} {w : World} {Q : Exit → Act → World → Prop} {dst : Option Tmp} {ty : TypeId} {pos : String} {after : Array Edge} {x y : Operand} {C O : Array Value} {v n v' n' : Nat} (g : Nat)
    (hx : a.eval x = .pointer (some ⟨g, 0, none⟩)) (hy : a.eval y = .agg C) (hg : w.heap[g]? = some (.cells O 45 (0, 0))) (hO : IsNat O v' n') (hI : IsNat C v n) (h : wpList Tryz.prog ops Q rest (a.put dst undef) (w.setRow g C)) :
    wpList Tryz.prog ops Q (⟨dst, .store 45 x y, ty, pos, after, none⟩ :: rest) a w :=
  wpList_store_row rfl 45 x y rfl g C hx hy _ O hg (by rw [hI.size]; exact Tryz.sizeNat) (by rw [hO.size, hI.size]) hI.one h

theorem results_nat {fn : Func} {p u : Tmp} (h : fn.results = #[.cell p 45, .tmp u]) (tmps : Array Value) (w : World) {g : Nat} {C : Array Value} {v n : Nat} {x : Value}
    (hp : tmps.getD p undef = .pointer (some ⟨g, 0, none⟩)) (hu : tmps.getD u undef = x) (hg : w.heap[g]? = some (.cells C 45 (0, 0))) (hI : IsNat C v n) :
    (results fn tmps).run Tryz.prog w = .ok (.tuple #[.agg C, x]) w := by
  have hl := run_loadVar_row (P := Tryz.prog) w g 45 45 C (0, 0) _ hg Tryz.underlying45 rfl (by rw [hI.size]; exact Tryz.sizeNat)
  rw [results_cell_tmp h, hp, hu]
  simp [asAddr, Result.andThen, hl]
theorem results_nat1 {fn : Func} {p : Tmp} (h : fn.results = #[.cell p 45]) (tmps : Array Value) (w : World) {g : Nat} {C : Array Value} {v n : Nat}
    (hp : tmps.getD p undef = .pointer (some ⟨g, 0, none⟩)) (hg : w.heap[g]? = some (.cells C 45 (0, 0))) (hI : IsNat C v n) :
    (results fn tmps).run Tryz.prog w = .ok (.agg C) w :=
  results_cell_row h tmps w g 45 C (0, 0) _ hp hg Tryz.underlying45 rfl (by rw [hI.size]; exact Tryz.sizeNat)
theorem below_row {B : Nat} {a w : World} (h : Below B a w) {g : Nat} (hg : B ≤ g) (C : Array Value) : Below B a (w.setRow g C) :=
  h.trans ⟨rfl, rfl, rfl, by simp, fun k hk => setRow_other w g k C (by omega)⟩

theorem beq_zero {n : Nat} (h : n ≠ 0) : ((n : Int) == 0) = false := beq_eq_false_iff_ne.2 (by omega)

set_option maxHeartbeats 2000000 in
set_option maxRecDepth 100000 in
theorem implNaturalOf (s : ByteArray) (w : World) (hs : s.size ≤ 1048576) :
    Calls Tryz.prog 55 #[.string s] w (AnsNat (ofV s) (okS s) w) := by
  have cO := fun W => implNatOk s W hs
  have hz := Tryz.zeroNat
  go_enter Tryz.func55, Tryz.ntmps55
  go_wp2_with fail
  refine (cO _).mono ?_
  intro e w1 hE
  obtain ⟨hE, B1⟩ := hE.get
  clear cO
  have N0 := (NatAt.new w zero_is).alloc (.cells zeroCells 45)
  have N1 := NatAt.new (w.alloc (.cells zeroCells 45)) zero_is
  have hsz : (w.alloc (.cells zeroCells 45)).heap.size = w.heap.size + 1 := by simp
  rw [hsz] at N1
  have M0 := N0.below B1 (by simp; omega)
  have M1 := N1.below B1 (by simp)
  clear N0 N1 hsz
  rcases hE with ⟨rfl, h1⟩ | ⟨rfl, h1⟩
  · have hdg := h1.2.1
    have hcan := h1.2.2
    have hsl := size_list s
    have HV : Hid (ofV s = nv s ∧ okS s = true) := ⟨by unfold ofV; rw [if_pos h1], decide_eq_true h1⟩
    have D1 : Below w.heap.size w w1 := (((Below.refl _ _).alloc (Nat.le_refl _) _).alloc (by simp) _).trans (B1.mono (by simp; omega))
    have HD := Lib.hid hdg
    clear B1 h1 hdg
    go_wp2
    go_loopw [12] (fun i wr => ∃ k : Nat, k ≤ s.size ∧ i = .int .i64 k ∧ NatAt wr (w.heap.size + 1) (low s.data.toList k) 0 ∧ NatAt wr w.heap.size 0 0 ∧ Below w.heap.size w wr) (fun i _ => s.size - (intOf i).toNat)
    case atStart => exact ⟨0, Nat.zero_le _, rfl, by rw [low_zero]; exact M1, M0, D1⟩
    case round =>
      clear M0 M1 D1
      obtain ⟨k, hk, rfl, N1, N0, hbel⟩ := hrel
      by_cases hlt : k < s.size
      · obtain ⟨j, hj⟩ : ∃ j : Nat, s.size - 1 - k = j := ⟨_, rfl⟩
        have hjs : j < s.size := by omega
        obtain ⟨x, hx⟩ : ∃ x, s[j] = x := ⟨_, rfl⟩
        have hdx : IsD x := HD.out x (by rw [← hx]; exact List.getElem_mem (l := s.data.toList) (by rw [hsl]; exact hjs))
        have HE : Hid (digAt s.data.toList k = x.toNat - 48) := by
          show _ = _
          unfold digAt
          rw [if_pos (by rw [hsl]; exact hlt), hsl, hj]
          simp only [List.getD, List.getElem?_eq_getElem (show j < s.data.toList.length by rw [hsl]; exact hjs), Option.getD_some]
          rw [at_list s j hjs, hx]; rfl
        have HP := Lib.hid (low_put HD.out k)
        have HB := Lib.hid (lt_top (low_lt HD.out (k + 1)) (by omega))
        unfold IsD at hdx
        have e1 : (s.size : Int) - 1 - (k : Int) = (j : Int) := by omega
        obtain ⟨d, hd⟩ : ∃ d : Nat, (x.toNat : Int) - 48 = (d : Int) := ⟨x.toNat - 48, by omega⟩
        have HX : Hid (d = x.toNat - 48) := by show _ = _; omega
        have v1 := IntWalk.u8_in (d : Int) ⟨by omega, by omega⟩
        have hk601 : (k : Int) < 601 := by omega
        obtain ⟨c1, c2, c3⟩ := N1.cells
        have ck := c1 k (by omega)
        have fk := c3 k
        clear c1 c2 c3 hj hdx
        go_wp2
        go_roundw
        case rel => exact ⟨k + 1, hlt, by go_num, N1.put (by omega) (by rw [HP.out.1, HE.out]; exact HX.out) HP.out.2 HB.out, N0.setOther _ (by omega), hbel.setCell (Nat.le_succ _) _⟩
        case measure => simp [intOf]; omega
      · have hke : k = s.size := by omega
        have HL : Hid (low s.data.toList k = nv s) := by show _ = _; rw [low_all (by rw [hsl]; omega)]; rfl
        rw [HL.out] at N1
        obtain ⟨c1, c2, c3⟩ := N1.cells
        have f2 := c3 601
        clear c1 c3
        have cT := fun W h => implTrim (w.heap.size + 1) (nv s) s.size W h (by have := val_lt HD.out; rw [hsl] at this; exact this) (by omega)
        unfold Left at cT
        go_wp2_with fail
        refine (cT _ (N1.setLen _)).mono ?_
        rintro e w3 ⟨rfl, N3, G3, S3⟩
        have M0 := (N0.setOther (k := w.heap.size + 1) (i := 601) (.int .i64 (s.size : Int)) (by omega)).grown G3 (by omega)
        have D3 := (hbel.setCell (p := ⟨w.heap.size + 1, 601, none⟩) (Nat.le_succ _) (.int .i64 (s.size : Int))).grown G3 (by have := hbel.size; rw [setCell_sizeN]; exact this) (fun k hk => by injection hk with hk; omega)
        clear cT N1 N0 G3 S3 hbel
        obtain ⟨C0, h0, I0⟩ := M0
        obtain ⟨C1, h1', I1⟩ := N3
        go_wp2_with (first | (refine load_nat (w.heap.size + 1) rfl h1' I1 ?_) | (refine store_nat w.heap.size rfl rfl h0 I0 I1 ?_))
        refine bodyPost_ret (results_nat rfl _ _ rfl rfl (setRow_heap _ _ _ _ _ _ h0) I1) rfl ?_
        exact ⟨C1, by rw [HV.out.2]; rfl, by rw [HV.out.1]; exact I1, below_row D3 (Nat.le_refl _) _⟩
  · have HV : Hid (ofV s = 0 ∧ okS s = false) := ⟨by unfold ofV; rw [if_neg h1], decide_eq_false h1⟩
    have D1 : Below w.heap.size w w1 := (((Below.refl _ _).alloc (Nat.le_refl _) _).alloc (by simp) _).trans (B1.mono (by simp; omega))
    obtain ⟨C0, h0, I0⟩ := M0
    obtain ⟨C1, h1', I1⟩ := M1
    go_wp2_with (first | (refine load_nat (w.heap.size + 1) rfl h1' I1 ?_) | (refine store_nat w.heap.size rfl rfl h0 I0 I1 ?_))
    refine bodyPost_ret (results_nat rfl _ _ rfl rfl (setRow_heap _ _ _ _ _ _ h0) I1) rfl ?_
    exact ⟨C1, by rw [HV.out.2]; rfl, by rw [HV.out.1]; exact I1, below_row D1 (Nat.le_refl _) _⟩

end Go.Proofs.YthijeckcjfnbcaaGreatDoor

/- impl.naturalsOf. Conditions: at most 1048576 bytes. -/
namespace Go.Proofs.YthijeckcjfnbcaaGreatDoor
set_option linter.unusedVariables false
open Go.RowKit
open Go.Lib (byteCells)

theorem NatAt.row {w : World} {g v n v' n' : Nat} {C : Array Value} (h : NatAt w g v' n') (hI : IsNat C v n) : NatAt (w.setRow g C) g v n := by
  obtain ⟨O, h, _⟩ := h
  exact ⟨C, setRow_heap w g O C _ _ h, hI⟩
theorem NatAt.rowOther {w : World} {g k v n : Nat} (h : NatAt w g v n) (C : Array Value) (hk : g ≠ k) : NatAt (w.setRow k C) g v n := h.keep (setRow_other w k g C hk)

theorem still_load {ops : Array Oper} {rest : List Oper} {a : Act} {w : World} {Q : Act → Prop} {dst : Option Tmp} {ty : TypeId} {pos : String} {after : Array Edge} {x : Operand} {C : Array Value} {v n : Nat} (g : Nat)
    (hx : a.eval x = .pointer (some ⟨g, 0, none⟩)) (hg : w.heap[g]? = some (.cells C 45 (0, 0))) (hI : IsNat C v n) (h : wpStill Tryz.prog ops w Q rest (a.put dst (.agg C))) :
    wpStill Tryz.prog ops w Q (⟨dst, .load 45 x, ty, pos, after, none⟩ :: rest) a := by
  refine wpStill_step fun K hK => ?_
  rw [if_pos (show Region.wanted _ _ = true from rfl)]
  unfold Oper.still execOp
  simp only [hx, Instr.loadAt, Instr.sureAddr, Sem.run_bind, Sem.run_pure, Result.andThen_ok, run_loadVar_row (P := Tryz.prog) w g 45 45 C (0, 0) _ hg Tryz.underlying45 rfl (by rw [hI.size]; exact Tryz.sizeNat)]
  rw [Oper.stillUpon_value]
  exact hK _ h

theorem results_nat3 {fn : Func} {p q u : Tmp} (h : fn.results = #[.cell p 45, .cell q 45, .tmp u]) (tmps : Array Value) (w : World) {g k : Nat} {C D : Array Value} {v n v' n' : Nat} {x : Value}
    (hp : tmps.getD p undef = .pointer (some ⟨g, 0, none⟩)) (hq : tmps.getD q undef = .pointer (some ⟨k, 0, none⟩)) (hu : tmps.getD u undef = x)
    (hg : w.heap[g]? = some (.cells C 45 (0, 0))) (hI : IsNat C v n) (hk : w.heap[k]? = some (.cells D 45 (0, 0))) (hJ : IsNat D v' n') :
    (results fn tmps).run Tryz.prog w = .ok (.tuple #[.agg C, .agg D, x]) w := by
  have hl := run_loadVar_row (P := Tryz.prog) w g 45 45 C (0, 0) _ hg Tryz.underlying45 rfl (by rw [hI.size]; exact Tryz.sizeNat)
  have hm := run_loadVar_row (P := Tryz.prog) w k 45 45 D (0, 0) _ hk Tryz.underlying45 rfl (by rw [hJ.size]; exact Tryz.sizeNat)
  have hp' : tmps[p]?.getD undef = .pointer (some ⟨g, 0, none⟩) := by simpa using hp
  have hq' : tmps[q]?.getD undef = .pointer (some ⟨k, 0, none⟩) := by simpa using hq
  have hu' : tmps[u]?.getD undef = x := by simpa using hu
  simp [results, h, hp', hq', hu', asAddr, hl, hm]

/-- In a region that draws its order: a whole natural may be taken out first. -/
theorem yields_load {ops : Array Oper} {S : World → Prop} {a : Act} {dst : Option Tmp} {ty : TypeId} {pos : String} {after : Array Edge} {x : Operand} {C : Array Value} {v n : Nat} (g : Nat)
    (hx : a.eval x = .pointer (some ⟨g, 0, none⟩)) (hS : ∀ W, S W → W.heap[g]? = some (.cells C 45 (0, 0))) (hI : IsNat C v n) :
    YieldsIf Tryz.prog ops S ⟨dst, .load 45 x, ty, pos, after, none⟩ (.agg C) a :=
  .inl ⟨rfl, fun W hW => by
    unfold execOp
    simp only [hx, Instr.loadAt, Instr.sureAddr, Sem.run_bind, Sem.run_pure, Result.andThen_ok, run_loadVar_row (P := Tryz.prog) W g 45 45 C (0, 0) _ (hS W hW) Tryz.underlying45 rfl (by rw [hI.size]; exact Tryz.sizeNat)]⟩
/-- .. and the one store that may come up is carried out. -/
theorem held_store {md : Region.Mode} {ops : Array Oper} {S : World → Prop} {Q : Exit → Act → World → Prop} {fuel : Nat} {listed : Array Bool} {a : Act} {w : World} {dst : Option Tmp} {ty : TypeId} {pos : String} {after : Array Edge} {x y : Operand} {C O : Array Value} {v n v' n' : Nat} (i g : Nat)
    (hr : Region.ready md ops listed = [i]) (ho : ops[i]? = some ⟨dst, .store 45 x y, ty, pos, after, none⟩)
    (hx : a.eval x = .pointer (some ⟨g, 0, none⟩)) (hy : a.eval y = .agg C) (hg : w.heap[g]? = some (.cells O 45 (0, 0))) (hO : IsNat O v' n') (hI : IsNat C v n) (hS : S (w.setRow g C))
    (h : wpAnyH Tryz.prog md ops Q S fuel (listed.setIfInBounds i true) (a.put dst undef) (w.setRow g C)) : wpAnyH Tryz.prog md ops Q S (fuel + 1) listed a w := by
  refine wpAnyH_all hr (by simp) fun j hj => ?_
  obtain rfl : j = i := by simpa using hj
  refine wpOp_step ho fun K hK => ?_
  rw [if_pos (show Region.wanted _ _ = true from rfl)]
  exact wp_store_row 45 x y rfl g C hx hy _ O hg (by rw [hI.size]; exact Tryz.sizeNat) (by rw [hO.size, hI.size]) hI.one (hK _ _ ⟨hS, h⟩)

theorem take_held {P : Program} {md : Region.Mode} {ops : Array Oper} {S : World → Prop} {Q : Exit → Act → World → Prop} {fuel : Nat} {listed : Array Bool} {a : Act} {w : World} {dst : Option Tmp} {op : Op} {ty : TypeId} {pos : String} {after : Array Edge} {gd : Option (Nat × Bool)} {v : Value} (i : Nat)
    (ho : ops[i]? = some ⟨dst, op, ty, pos, after, gd⟩) (hs : Region.noSelect ops = true) (hf : Region.free md ops listed i = true) (hr : (Region.ready md ops listed).contains i = true)
    (hQ : ∀ c a w, Q (.panic c) (a.put dst v) w → Q (.panic c) a w) (hy : YieldsIf P ops S ⟨dst, op, ty, pos, after, gd⟩ v a) (hS : S w)
    (h : wpAnyH P md ops Q S fuel (listed.setIfInBounds i true) (a.put dst v) w) : wpAnyH P md ops Q S (fuel + 1) listed a w :=
  wpAnyH_take ho hs hf hr hQ hy hS h

def AnsNats (s t : ByteArray) (w : World) (e : Ending) (w' : World) : Prop := ∃ C D, e = .returned (.tuple #[.agg C, .agg D, .bool (okS s && okS t)]) ∧ IsNat C (ofV s) (len (ofV s)) ∧ IsNat D (ofV t) (len (ofV t)) ∧ Below w.heap.size w w'

set_option maxHeartbeats 2000000 in
set_option maxRecDepth 100000 in
theorem implNaturalsOf (s t : ByteArray) (w : World) (hs : s.size ≤ 1048576) (ht : t.size ≤ 1048576) :
    Calls Tryz.prog 112 #[.string s, .string t] w (AnsNats s t w) := by
  have cS := fun W => implNaturalOf s W hs
  have cT := fun W => implNaturalOf t W ht
  have hz := Tryz.zeroNat
  unfold AnsNat at cS cT
  have HZ := Lib.hid hs
  clear hs ht
  unfold AnsNats
  generalize ofV s = vs at *
  generalize ofV t = vt at *
  generalize okS s = bs at *
  generalize okS t = bt at *
  go_enter Tryz.func112, Tryz.ntmps112
  go_wp2_with fail
  refine (cS _).mono ?_
  rintro e w1 ⟨C, rfl, IC, B1⟩
  clear cS
  have N0 := ((NatAt.new w zero_is).alloc (.cells zeroCells 45)).below B1 (by simp; omega)
  have N1 := NatAt.new (w.alloc (.cells zeroCells 45)) zero_is
  have hsz : (w.alloc (.cells zeroCells 45)).heap.size = w.heap.size + 1 := by simp
  rw [hsz] at N1
  have M1 := N1.below B1 (by simp)
  have D1 : Below w.heap.size w w1 := (((Below.refl _ _).alloc (Nat.le_refl _) _).alloc (by simp) _).trans (B1.mono (by simp; omega))
  have hlt1 : w.heap.size + 1 < w1.heap.size := M1.lt
  clear N1 hsz B1
  go_wp2_with (refine store_nat w1.heap.size rfl rfl (heap_alloc_new w1 _) zero_is IC ?_)
  refine (cT _).mono ?_
  rintro e w2 ⟨D, rfl, ID, B2⟩
  clear cT
  have hs3 : ((w1.alloc (.cells zeroCells 45)).setRow w1.heap.size C).heap.size = w1.heap.size + 1 := by simp
  rw [hs3] at B2
  have P0 := ((N0.alloc (.cells zeroCells 45)).rowOther C (k := w1.heap.size) (by omega)).below B2 (by omega)
  have P1 := ((M1.alloc (.cells zeroCells 45)).rowOther C (k := w1.heap.size) (by omega)).below B2 (by omega)
  have P2 := ((NatAt.new w1 zero_is).row IC).below B2 (by omega)
  have D2 : Below w.heap.size w w2 := (below_row (D1.alloc (by omega) _) (by omega) _).trans (B2.mono (by omega))
  have hlt2 : w1.heap.size < w2.heap.size := P2.lt
  clear B2 hs3 N0 M1 D1
  go_wp2_with (refine store_nat w2.heap.size rfl rfl (heap_alloc_new w2 _) zero_is ID ?_)
  have Q0 := (P0.alloc (.cells zeroCells 45)).rowOther D (k := w2.heap.size) (by omega)
  have Q1 := (P1.alloc (.cells zeroCells 45)).rowOther D (k := w2.heap.size) (by omega)
  have Q2 := (P2.alloc (.cells zeroCells 45)).rowOther D (k := w2.heap.size) (by omega)
  have Q3 := (NatAt.new w2 zero_is).row ID
  have D3 : Below w.heap.size w _ := below_row (D2.alloc (by omega) (.cells zeroCells 45)) (g := w2.heap.size) (by omega) D
  generalize (w2.alloc (.cells zeroCells 45)).setRow w2.heap.size D = w3 at *
  obtain ⟨C0, h0, I0⟩ := Q0
  obtain ⟨C1, h1, I1⟩ := Q1
  obtain ⟨C2, h2, I2⟩ := Q2
  obtain ⟨C3, h3, I3⟩ := Q3
  have n1 : w2.heap.size ≠ w.heap.size := by omega
  have n2 : w1.heap.size ≠ w.heap.size := by omega
  have n3 : w2.heap.size ≠ w.heap.size + 1 := by omega
  have n4 : w1.heap.size ≠ w.heap.size + 1 := by omega
  refine wp_region_held (S := fun W => W.heap[w1.heap.size]? = some (.cells C2 45 (0, 0)) ∧ W.heap[w2.heap.size]? = some (.cells C3 45 (0, 0))) (by kernel_rfl) (?_ : wpAnyH _ _ _ _ _ 9 #[false, false, false, false, false, false, false, false, false] _ _)
  refine take_held 0 rfl (by kernel_rfl) (by kernel_rfl) (by kernel_rfl) (fun _ _ _ h => h) (yields_load w1.heap.size rfl (fun _ h => h.1) I2) ⟨h2, h3⟩ ?_
  simp only [Act.put, List.setIfInBounds_toArray, List.set_cons_zero, List.set_cons_succ]
  refine take_held 1 rfl (by kernel_rfl) (by kernel_rfl) (by kernel_rfl) (fun _ _ _ h => h) (yields_load w2.heap.size rfl (fun _ h => h.2) I3) ⟨h2, h3⟩ ?_
  simp only [Act.put, List.setIfInBounds_toArray, List.set_cons_zero, List.set_cons_succ]
  refine take_held (v := .bool bs) 2 rfl (by kernel_rfl) (by kernel_rfl) (by kernel_rfl) (fun _ _ _ h => h) (.inl ⟨rfl, fun _ _ => rfl⟩) ⟨h2, h3⟩ ?_
  simp only [Act.put, List.setIfInBounds_toArray, List.set_cons_zero, List.set_cons_succ]
  refine take_held (v := .bool bs) 3 rfl (by kernel_rfl) (by kernel_rfl) (by kernel_rfl) (fun _ _ _ h => h) (.inl ⟨rfl, fun _ _ => rfl⟩) ⟨h2, h3⟩ ?_
  simp only [Act.put, List.setIfInBounds_toArray, List.set_cons_zero, List.set_cons_succ]
  have k1 : ∀ {V : World}, V.heap[w1.heap.size]? = some (.cells C2 45 (0, 0)) → (V.setRow w.heap.size C2).heap[w1.heap.size]? = some (.cells C2 45 (0, 0)) := fun h => (setRow_other _ _ _ _ n2).trans h
  have k2 : ∀ {V : World}, V.heap[w2.heap.size]? = some (.cells C3 45 (0, 0)) → (V.setRow w.heap.size C2).heap[w2.heap.size]? = some (.cells C3 45 (0, 0)) := fun h => (setRow_other _ _ _ _ n1).trans h
  have k3 : ∀ {V : World}, V.heap[w1.heap.size]? = some (.cells C2 45 (0, 0)) → (V.setRow (w.heap.size + 1) C3).heap[w1.heap.size]? = some (.cells C2 45 (0, 0)) := fun h => (setRow_other _ _ _ _ n4).trans h
  have k4 : ∀ {V : World}, V.heap[w2.heap.size]? = some (.cells C3 45 (0, 0)) → (V.setRow (w.heap.size + 1) C3).heap[w2.heap.size]? = some (.cells C3 45 (0, 0)) := fun h => (setRow_other _ _ _ _ n3).trans h
  have h1' : ∀ {V : World}, V.heap[w.heap.size + 1]? = some (.cells C1 45 (0, 0)) → (V.setRow w.heap.size C2).heap[w.heap.size + 1]? = some (.cells C1 45 (0, 0)) := fun h => (setRow_other _ _ _ _ (by omega)).trans h
  have hfin : ∀ {V : World}, V.heap[w.heap.size]? = some (.cells C0 45 (0, 0)) → ((V.setRow w.heap.size C2).setRow (w.heap.size + 1) C3).heap[w.heap.size]? = some (.cells C2 45 (0, 0)) := fun h => (setRow_other _ _ _ _ (by omega)).trans (setRow_heap _ _ _ _ _ _ h)
  have D4 : Below w.heap.size w ((w3.setRow w.heap.size C2).setRow (w.heap.size + 1) C3) := below_row (below_row D3 (Nat.le_refl _) _) (Nat.le_succ _) _
  cases bs
  · refine take_held (v := undef) 4 rfl (by kernel_rfl) (by kernel_rfl) (by kernel_rfl) (fun _ _ _ h => h) (.inr ⟨rfl, rfl⟩) ⟨h2, h3⟩ ?_
    simp only [Act.put, List.setIfInBounds_toArray, List.set_cons_zero, List.set_cons_succ]
    refine take_held (v := .bool false) 5 rfl (by kernel_rfl) (by kernel_rfl) (by kernel_rfl) (fun _ _ _ h => h) (.inl ⟨rfl, fun _ _ => rfl⟩) ⟨h2, h3⟩ ?_
    simp only [Act.put, List.setIfInBounds_toArray, List.set_cons_zero, List.set_cons_succ]
    refine held_store 6 w.heap.size (by kernel_rfl) rfl rfl rfl h0 I0 I2 ⟨k1 h2, k2 h3⟩ ?_
    simp only [Act.put, List.setIfInBounds_toArray, List.set_cons_zero, List.set_cons_succ]
    refine held_store 7 (w.heap.size + 1) (by kernel_rfl) rfl rfl rfl (h1' h1) I1 I3 ⟨k3 (k1 h2), k4 (k2 h3)⟩ ?_
    simp only [Act.put, List.setIfInBounds_toArray, List.set_cons_zero, List.set_cons_succ]
    refine take_held (v := .bool false) 8 rfl (by kernel_rfl) (by kernel_rfl) (by kernel_rfl) (fun _ _ _ h => h) (.inl ⟨rfl, fun _ _ => rfl⟩) ⟨k3 (k1 h2), k4 (k2 h3)⟩ ?_
    simp only [Act.put, List.setIfInBounds_toArray, List.set_cons_zero, List.set_cons_succ]
    refine wpAnyH_done (by kernel_rfl) ?_ _
    go_wp2
    refine bodyPost_ret (results_nat3 rfl _ _ rfl rfl rfl (hfin h0) I2 (setRow_heap _ _ _ _ _ _ (h1' h1)) I3) rfl ?_
    exact ⟨C2, C3, rfl, I2, I3, ⟨D4.os, D4.tape, D4.output, D4.size, D4.block⟩⟩
  · refine take_held (v := .bool bt) 4 rfl (by kernel_rfl) (by kernel_rfl) (by kernel_rfl) (fun _ _ _ h => h) (.inl ⟨rfl, fun _ _ => rfl⟩) ⟨h2, h3⟩ ?_
    simp only [Act.put, List.setIfInBounds_toArray, List.set_cons_zero, List.set_cons_succ]
    refine take_held (v := .bool bt) 5 rfl (by kernel_rfl) (by kernel_rfl) (by kernel_rfl) (fun _ _ _ h => h) (.inl ⟨rfl, fun _ _ => rfl⟩) ⟨h2, h3⟩ ?_
    simp only [Act.put, List.setIfInBounds_toArray, List.set_cons_zero, List.set_cons_succ]
    refine held_store 6 w.heap.size (by kernel_rfl) rfl rfl rfl h0 I0 I2 ⟨k1 h2, k2 h3⟩ ?_
    simp only [Act.put, List.setIfInBounds_toArray, List.set_cons_zero, List.set_cons_succ]
    refine held_store 7 (w.heap.size + 1) (by kernel_rfl) rfl rfl rfl (h1' h1) I1 I3 ⟨k3 (k1 h2), k4 (k2 h3)⟩ ?_
    simp only [Act.put, List.setIfInBounds_toArray, List.set_cons_zero, List.set_cons_succ]
    refine take_held (v := .bool bt) 8 rfl (by kernel_rfl) (by kernel_rfl) (by kernel_rfl) (fun _ _ _ h => h) (.inl ⟨rfl, fun _ _ => rfl⟩) ⟨k3 (k1 h2), k4 (k2 h3)⟩ ?_
    simp only [Act.put, List.setIfInBounds_toArray, List.set_cons_zero, List.set_cons_succ]
    refine wpAnyH_done (by kernel_rfl) ?_ _
    go_wp2
    refine bodyPost_ret (results_nat3 rfl _ _ rfl rfl rfl (hfin h0) I2 (setRow_heap _ _ _ _ _ _ (h1' h1)) I3) rfl ?_
    exact ⟨C2, C3, rfl, I2, I3, ⟨D4.os, D4.tape, D4.output, D4.size, D4.block⟩⟩

end Go.Proofs.YthijeckcjfnbcaaGreatDoor

/- cmp.Compare at int and byte; impl's compare; impl.NatCmp. Conditions: at most 1048576 bytes. -/
namespace Go.Proofs.YthijeckcjfnbcaaGreatDoor
set_option linter.unusedVariables false
open Go.RowKit
open Go.Lib (byteCells)

def sgnI (x y : Int) : Int := if x < y then -1 else if x = y then 0 else 1

set_option maxHeartbeats 1000000 in
set_option maxRecDepth 100000 in
theorem cmpInt (x y : Int) (w : World) : Calls Tryz.prog 33 #[.int .i64 x, .int .i64 y] w fun e w' => e = .returned (.int .i64 (sgnI x y)) ∧ w' = w := by
  rcases Int.lt_trichotomy x y with h | h | h
  · have HS : Hid (sgnI x y = -1) := by show _ = _; unfold sgnI; rw [if_pos h]
    go_enter Tryz.func33, Tryz.ntmps33
    go_wp2
    go_ret
    exact ⟨by rw [HS.out]; rfl, rfl⟩
  · subst h
    have HS : Hid (sgnI x x = 0) := by show _ = _; unfold sgnI; rw [if_neg (by omega), if_pos rfl]
    go_enter Tryz.func33, Tryz.ntmps33
    go_wp2
    go_ret
    exact ⟨by rw [HS.out]; rfl, rfl⟩
  · have HS : Hid (sgnI x y = 1) := by show _ = _; unfold sgnI; rw [if_neg (by omega), if_neg (by omega)]
    have h2 : ¬ x < y := by omega
    go_enter Tryz.func33, Tryz.ntmps33
    go_wp2
    go_ret
    exact ⟨by rw [HS.out]; rfl, rfl⟩
set_option maxHeartbeats 1000000 in
set_option maxRecDepth 100000 in
theorem cmpByte (x y : Int) (w : World) : Calls Tryz.prog 62 #[.int .u8 x, .int .u8 y] w fun e w' => e = .returned (.int .i64 (sgnI x y)) ∧ w' = w := by
  rcases Int.lt_trichotomy x y with h | h | h
  · have HS : Hid (sgnI x y = -1) := by show _ = _; unfold sgnI; rw [if_pos h]
    go_enter Tryz.func62, Tryz.ntmps62
    go_wp2
    go_ret
    exact ⟨by rw [HS.out]; rfl, rfl⟩
  · subst h
    have HS : Hid (sgnI x x = 0) := by show _ = _; unfold sgnI; rw [if_neg (by omega), if_pos rfl]
    go_enter Tryz.func62, Tryz.ntmps62
    go_wp2
    go_ret
    exact ⟨by rw [HS.out]; rfl, rfl⟩
  · have HS : Hid (sgnI x y = 1) := by show _ = _; unfold sgnI; rw [if_neg (by omega), if_neg (by omega)]
    have h2 : ¬ x < y := by omega
    go_enter Tryz.func62, Tryz.ntmps62
    go_wp2
    go_ret
    exact ⟨by rw [HS.out]; rfl, rfl⟩

theorem len_less {a b : Nat} (h : len a < len b) : a < b := by
  have h1 := lt_len a
  have h0 : b ≠ 0 := fun e => by subst e; rw [len_zero] at h; omega
  have h2 := le_of_len h0
  have h3 : 10 ^ len a ≤ 10 ^ (len b - 1) := Nat.pow_le_pow_right (by omega) (by omega)
  omega
theorem sgn_len {a b : Nat} (h : len a ≠ len b) : sgnI (len a : Int) (len b : Int) = cmpN a b := by
  unfold sgnI cmpN
  rcases Nat.lt_or_gt_of_ne h with h1 | h1
  · rw [if_pos (by omega), if_pos (len_less h1)]
  · have := len_less h1
    rw [if_neg (by omega), if_neg (by omega), if_neg (by omega), if_neg (by omega)]
theorem dgt_div (v p : Nat) : v / 10 ^ p = 10 * (v / 10 ^ (p + 1)) + dgt v p := by
  unfold dgt
  rw [Nat.pow_succ, ← Nat.div_div_eq_div_mul]
  omega
theorem sgn_dgt {a b p : Nat} (h : a / 10 ^ (p + 1) = b / 10 ^ (p + 1)) (hd : dgt a p ≠ dgt b p) : sgnI (dgt a p : Int) (dgt b p : Int) = cmpN a b := by
  have ha := dgt_div a p
  have hb := dgt_div b p
  have lt_of : ∀ {x y : Nat}, x / 10 ^ p < y / 10 ^ p → x < y := fun {x y} h => by
    rcases Nat.lt_or_ge x y with h1 | h1
    · exact h1
    · exact absurd (Nat.div_le_div_right (c := 10 ^ p) h1) (by omega)
  unfold sgnI cmpN
  rcases Nat.lt_or_gt_of_ne hd with h1 | h1
  · rw [if_pos (by omega), if_pos (lt_of (by omega))]
  · have := lt_of (x := b) (y := a) (by omega)
    rw [if_neg (by omega), if_neg (by omega), if_neg (by omega), if_neg (by omega)]

set_option maxHeartbeats 2000000 in
set_option maxRecDepth 100000 in
theorem implCompare (g k a b : Nat) (w : World) (hA : NatAt w g a (len a)) (hB : NatAt w k b (len b)) :
    Calls Tryz.prog 30 #[.pointer (some ⟨g, 0, none⟩), .pointer (some ⟨k, 0, none⟩)] w (AnsN (cmpN a b) w) := by
  obtain ⟨a1, a2, _⟩ := hA.cells
  obtain ⟨b1, b2, _⟩ := hB.cells
  have hla : len a ≤ 601 := by obtain ⟨C, _, hI⟩ := hA; exact len_top hI.lt
  obtain ⟨n, hn⟩ : ∃ n, len a = n := ⟨_, rfl⟩
  obtain ⟨m, hm⟩ : ∃ m, len b = m := ⟨_, rfl⟩
  rw [hn] at a2 hla
  rw [hm] at b2
  by_cases he : n = m
  · subst he
    have HP := Lib.hid (And.intro (lt_len a) (lt_len b))
    rw [hn, hm] at HP
    have HC := Lib.hid (And.intro a1 b1)
    clear a1 b1 hn hm hA hB
    go_enter Tryz.func30, Tryz.ntmps30
    go_wp2
    go_quiet (fail)
    go_wp2
    go_loopg [5] n (fun q i wr => i = .int .i64 ((q : Int) - 1) ∧ q ≤ n ∧ a / 10 ^ q = b / 10 ^ q ∧ Below w.heap.size w wr ∧ wr.heap = w.heap)
    case atStart => exact ⟨by first | rfl | go_num, Nat.le_refl _, by rw [Nat.div_eq_of_lt HP.out.1, Nat.div_eq_of_lt HP.out.2], belowDrewN (Below.refl _ _) _, rfl⟩
    case round =>
      obtain ⟨rfl, hqn, hdiv, hbel, hheap⟩ := hrel
      cases gk with
      | zero =>
        have HE : Hid (cmpN a b = 0) := by
          show _ = _
          simp only [Nat.pow_zero, Nat.div_one] at hdiv
          unfold cmpN
          rw [if_neg (by omega), if_pos hdiv]
        clear hdiv HC HP hheap
        go_wp2
        go_ret
        exact ⟨by rw [HE.out]; rfl, hbel⟩
      | succ p =>
        have HD := Lib.hid hdiv
        have kA : wr.cell? ⟨g, p, none⟩ = w.cell? ⟨g, p, none⟩ := World.cell?_of_block (by rw [hheap])
        have kB : wr.cell? ⟨k, p, none⟩ = w.cell? ⟨k, p, none⟩ := World.cell?_of_block (by rw [hheap])
        rw [HC.out.1 p (by omega)] at kA
        rw [HC.out.2 p (by omega)] at kB
        have HH := Lib.hid hheap
        have hp1 : (p : Int) < 601 := by omega
        have ee : (((p + 1 : Nat) : Int) - 1) = (p : Int) := by omega
        rw [ee]
        have h0 : (0 : Int) ≤ (p : Int) := by omega
        clear hdiv hheap a2 b2 ee
        by_cases hd : dgt a p = dgt b p
        · have HN : Hid (a / 10 ^ p = b / 10 ^ p) := by
            show _ = _
            rw [dgt_div a p, dgt_div b p, HD.out, hd]
          rw [hd] at kA
          clear hd
          generalize dgt b p = d at kA kB
          go_wp2
          go_quiet (fail)
          go_wp2
          go_roundg p
          case measure => omega
          case rel => exact ⟨by first | rfl | go_num, by omega, HN.out, belowDrewN hbel _, HH.out⟩
        · have HS := Lib.hid (sgn_dgt HD.out hd)
          obtain ⟨x, hx⟩ : ∃ x, dgt a p = x := ⟨_, rfl⟩
          obtain ⟨y, hy⟩ : ∃ y, dgt b p = y := ⟨_, rfl⟩
          rw [hx] at kA hd HS
          rw [hy] at kB hd HS
          have hb : (((x : Nat) : Int) != ((y : Nat) : Int)) = true := by simp; omega
          clear hx hy hd
          go_wp2
          go_quiet (fail)
          have kA2 : (wr.drewN nq).cell? ⟨g, p, none⟩ = _ := kA
          have kB2 : (wr.drewN nq).cell? ⟨k, p, none⟩ = _ := kB
          have hb2 := belowDrewN hbel nq
          clear kA kB hbel HH
          generalize wr.drewN nq = w5 at *
          go_wp2
          go_quiet ((go_at_call 62; refine Calls.quiet_of_same (cmpByte _ _ _)))
          go_wp2
          go_ret
          exact ⟨by rw [← HS.out]; rfl, belowDrewN hb2 _⟩
  · have HS := Lib.hid (sgn_len (a := a) (b := b) (by rw [hn, hm]; exact he))
    rw [hn, hm] at HS
    have hb : ((n : Int) != (m : Int)) = true := by simp; omega
    clear he hn hm a1 b1 hla hA hB
    go_enter Tryz.func30, Tryz.ntmps30
    go_wp2
    go_quiet (fail)
    have kA2 : (w.drewN nq).cell? ⟨g, 601, none⟩ = _ := a2
    have kB2 : (w.drewN nq).cell? ⟨k, 601, none⟩ = _ := b2
    have hb2 := belowDrewN (Below.refl w.heap.size w) nq
    clear a2 b2
    generalize w.drewN nq = w5 at *
    go_wp2
    go_quiet ((go_at_call 33; refine Calls.quiet_of_same (cmpInt _ _ _)))
    go_wp2
    go_ret
    exact ⟨by rw [← HS.out]; rfl, belowDrewN hb2 _⟩

/-- Two naturals that came by value, laid into two variables. -/
def two (w : World) (C D : Array Value) : World := (((w.alloc (.cells zeroCells 45)).alloc (.cells zeroCells 45)).setRow w.heap.size C).setRow (w.heap.size + 1) D
theorem two_first (w : World) : ((w.alloc (.cells zeroCells 45)).alloc (.cells zeroCells 45)).heap[w.heap.size]? = some (.cells zeroCells 45 (0, 0)) := heap_alloc2_old w _ _
theorem two_second (w : World) (C : Array Value) : (((w.alloc (.cells zeroCells 45)).alloc (.cells zeroCells 45)).setRow w.heap.size C).heap[w.heap.size + 1]? = some (.cells zeroCells 45 (0, 0)) :=
  (setRow_other _ _ _ _ (by omega)).trans (heap_alloc2_new w _ _)
theorem two_is {w w1 : World} {C D : Array Value} {a n b m : Nat} (B : Below w.heap.size w w1) (IC : IsNat C a n) (ID : IsNat D b m) :
    NatAt (two w1 C D) w1.heap.size a n ∧ NatAt (two w1 C D) (w1.heap.size + 1) b m ∧ Below w.heap.size w (two w1 C D) ∧ (two w1 C D).heap.size = w1.heap.size + 2 := by
  have hs := B.size
  refine ⟨⟨C, ?_, IC⟩, ⟨D, setRow_heap _ _ _ _ _ _ (two_second w1 C), ID⟩, below_row (below_row ((B.alloc hs _).alloc (by simp; omega) _) hs _) (by omega) _, by simp [two]⟩
  exact (setRow_other _ _ _ _ (by omega)).trans (setRow_heap _ _ _ _ _ _ (two_first w1))

theorem ofV_bad {s t : ByteArray} (h : (okS s && okS t) = true) : NatS s ∧ NatS t := by
  simp only [Bool.and_eq_true] at h
  exact ⟨of_decide_eq_true h.1, of_decide_eq_true h.2⟩
theorem ofV_not {s t : ByteArray} (h : (okS s && okS t) = false) : ¬ (NatS s ∧ NatS t) := fun g => by
  unfold okS at h
  rw [decide_eq_true g.1, decide_eq_true g.2] at h
  cases h
theorem ofV_eq {s : ByteArray} (h : NatS s) : ofV s = nv s := by unfold ofV; rw [if_pos h]


end Go.Proofs.YthijeckcjfnbcaaGreatDoor

/- impl's text and result of a natural. No condition but that a natural lies there. -/
namespace Go.Proofs.YthijeckcjfnbcaaGreatDoor
set_option linter.unusedVariables false
open Go.RowKit
open Go.Lib (byteCells)

theorem fill_step (L : List UInt8) (n k : Nat) (hn : L.length = n) (h : k < n) (b : UInt8) (hb : L[k]? = some b) :
    (byteCells (L.take k ++ List.replicate (n - k) 0)).set k (.int .u8 (b.toNat : Int)) = byteCells (L.take (k + 1) ++ List.replicate (n - (k + 1)) 0) := by
  unfold byteCells
  rw [show (Value.int .u8 (b.toNat : Int)) = (fun x : UInt8 => Value.int .u8 (x.toNat : Int)) b from rfl, ← List.map_set]
  congr 1
  have h1 : L.take (k + 1) = L.take k ++ [b] := by
    have hk : k < L.length := by omega
    rw [List.take_succ_eq_append_getElem hk]
    rw [List.getElem?_eq_getElem hk] at hb
    rw [Option.some.inj hb]
  have h2 : List.replicate (n - k) (0 : UInt8) = 0 :: List.replicate (n - (k + 1)) 0 := by
    rw [show n - k = n - (k + 1) + 1 by omega, List.replicate_succ]
  have h3 : (L.take k).length = k := by rw [List.length_take]; omega
  rw [h1, h2, List.set_append_right _ _ (by omega), h3, Nat.sub_self, List.set_cons_zero]
  simp

set_option maxHeartbeats 2000000 in
set_option maxRecDepth 100000 in
theorem implText (g v : Nat) (w : World) (hA : NatAt w g v (len v)) :
    Calls Tryz.prog 29 #[.pointer (some ⟨g, 0, none⟩)] w (AnsS (natOf v) w) := by
  obtain ⟨i0, hi, hz0, hz1, hz2⟩ := info_parts Tryz.infoByteN
  obtain ⟨a1, a2, _⟩ := hA.cells
  have hgl := hA.lt
  have hla : len v ≤ 601 := by obtain ⟨C, _, hI⟩ := hA; exact len_top hI.lt
  obtain ⟨n, hn⟩ : ∃ n, len v = n := ⟨_, rfl⟩
  rw [hn] at a2 hla hA
  by_cases h0 : v = 0
  · subst h0
    obtain rfl : n = 0 := by rw [← hn]; rfl
    have a2' : w.cell? ⟨g, 601, none⟩ = some (.int .i64 0) := a2
    have HE : Hid (natOf 0 = [48]) := natOf_small (by omega)
    clear a1 a2 hn hA
    go_enter Tryz.func29, Tryz.ntmps29
    go_wp2
    go_ret
    exact ⟨by rw [HE.out]; rfl, Below.refl _ _⟩
  · have hn1 : 1 ≤ n := by rw [← hn]; exact len_pos h0
    have HL : Hid ((natOf v).length = n) := by show _ = _; rw [← hn, len_nz h0]
    have HD : Hid (∀ k, k < n → (natOf v)[n - 1 - k]? = some (dig (dgt v k))) := fun k hk => by
      have := natOf_at v k (by rw [HL.out]; exact hk)
      rwa [HL.out] at this
    have HA := Lib.hid a1
    have hne : ((n : Int) == 0) = false := beq_zero (by omega)
    obtain ⟨L, hL⟩ : ∃ L, natOf v = L := ⟨_, rfl⟩
    rw [hL] at HL HD ⊢
    have HW := Lib.hid hA
    clear a1 hn hA h0 hL
    go_enter Tryz.func29, Tryz.ntmps29
    go_wp2_with (at_make; refine wpList_make_full _ rfl _ _ 22 rfl w.heap.size 5 i0 (.int .u8 0) 1 Tryz.underlying22 hi hz0 hz1 _ _ _ _ n rfl rfl rfl rfl (by rw [hz2]; omega) (by unfold maxLen; omega) (Nat.le_refl _) ?_; intro w0 hown0 hgrow0)
    have hb0 : Below w.heap.size w w0 := (Below.refl _ _).grown hgrow0 (Nat.le_refl _) (fun k h => by cases h)
    have hown0' : w0.ownsRow w.heap.size 5 1 (.slice (some ⟨w.heap.size, 0, none⟩) n n) n (byteCells (L.take 0 ++ List.replicate (n - 0) 0)) := by
      have e : (madeCells (Value.int IntKind.u8 0).cells (n * 1)).toList = byteCells (L.take 0 ++ List.replicate (n - 0) 0) := by
        rw [Nat.mul_one]
        show (madeCells #[Value.int IntKind.u8 0] n).toList = _
        rw [toList_madeCells_one]
        simp [byteCells]
      rw [← e]
      exact hown0
    clear hown0 hgrow0
    go_wp2
    go_loopw [17] (fun i wr => ∃ k : Nat, k ≤ n ∧ i = .int .i64 k ∧ wr.ownsRow w.heap.size 5 1 (.slice (some ⟨w.heap.size, 0, none⟩) n n) n (byteCells (L.take k ++ List.replicate (n - k) 0)) ∧ Below w.heap.size w wr)
      (fun i _ => n - (intOf i).toNat)
    case atStart => exact ⟨0, Nat.zero_le _, rfl, hown0', hb0⟩
    case round =>
      obtain ⟨k, hk, rfl, hown, hbel⟩ := hrel
      clear hown0' hb0 a2
      by_cases hlt : k < n
      · obtain ⟨j, hj⟩ : ∃ j, n - 1 - k = j := ⟨_, rfl⟩
        have hjn : j < n := by omega
        have hjk : n - 1 - j = k := by omega
        have hN := HW.out.below hbel hgl
        obtain ⟨c1, c2, _⟩ := hN.cells
        have cj := c1 j (by omega)
        obtain ⟨d, hd⟩ : ∃ d, dgt v j = d := ⟨_, rfl⟩
        have hd10 : d < 10 := by rw [← hd]; exact dgt_lt v j
        obtain ⟨b, hb⟩ : ∃ b, dig d = b := ⟨_, rfl⟩
        have hLk : L[k]? = some b := by
          have := HD.out j hjn
          rw [hjk, hd, hb] at this
          exact this
        have HS := Lib.hid (fill_step L n k HL.out hlt b hLk)
        rw [hd] at cj
        have hbv : (d : Int) + 48 = (b.toNat : Int) := by rw [← hb, dig_toNat hd10]; omega
        have hb1 := b.toNat_lt
        have v1 := IntWalk.u8_in (b.toNat : Int) ⟨by omega, by omega⟩
        have e1 : (n : Int) - 1 - (k : Int) = (j : Int) := by omega
        have hj6 : (j : Int) < 601 := by omega
        have hj0 : (0 : Int) ≤ (j : Int) := by omega
        have v2 := IntWalk.i64_in ((n : Int) - 1) ⟨by omega, by omega⟩
        have v3 := IntWalk.i64_in (j : Int) ⟨by omega, by omega⟩
        have hkn : (k : Int) < (n : Int) := by omega
        have hco : wr.cell? ⟨w.heap.size, k, none⟩ = some (.int .u8 0) := by
          rw [hown.cellAt k (by omega)]
          unfold byteCells
          have h3 : (L.take k).length = k := by rw [List.length_take, HL.out]; omega
          rw [List.getElem?_map, List.getElem?_append_right (by omega), h3, Nat.sub_self, List.getElem?_replicate, if_pos (by omega)]
          rfl
        have hfo : wr.frozen? ⟨w.heap.size, k, none⟩ = false := hown.frozenAt k
        have hst := (hown.stored k (.int .u8 (b.toNat : Int))).1
        clear c1 hj hjk hd hb hLk hown hN HD HA
        go_wp2
        go_still_tail 16, (by kernel_rfl)
        change wpList _ _ _ _ _ wr.drew
        have hco2 : wr.drew.cell? ⟨w.heap.size, k, none⟩ = _ := hco
        have hfo2 : wr.drew.frozen? ⟨w.heap.size, k, none⟩ = _ := hfo
        have hb2 := hbel.drew
        have hst2 : (wr.drew.setCell ⟨w.heap.size, k, none⟩ (.int .u8 (b.toNat : Int))).ownsRow w.heap.size 5 1 (.slice (some ⟨w.heap.size, 0, none⟩) n n) n _ := hst
        clear hco hfo hbel hst cj c2
        generalize wr.drew = w5 at *
        go_wp2
        go_roundw
        case rel => exact ⟨k + 1, hlt, by go_num, by rw [← HS.out]; exact hst2, hb2.setCell (Nat.le_refl _) _⟩
        case measure => simp [intOf]; omega
      · obtain rfl : k = n := by omega
        have hown' : wr.ownsRow w.heap.size 5 1 (.slice (some ⟨w.heap.size, 0, none⟩) L.length k) L.length (byteCells L) := by
          have hl := HL.out
          rw [show L.take k = L from List.take_of_length_le (by omega), Nat.sub_self, List.replicate_zero, List.append_nil] at hown
          rw [hl]; exact hown
        have hcvt := conv_own (P := Tryz.prog) (dst := 9) Tryz.underlying22 Tryz.underlying5 Tryz.underlying9 hown'
        rw [HL.out] at hcvt
        clear hown hown' HD HA
        go_wp2
        go_ret
        exact ⟨rfl, hbel⟩

set_option maxHeartbeats 1000000 in
set_option maxRecDepth 100000 in
theorem implResult (g v : Nat) (w : World) (hA : NatAt w g v (len v)) :
    Calls Tryz.prog 113 #[.pointer (some ⟨g, 0, none⟩)] w (Ans2 (fits v) w) := by
  have cT := fun W (h : NatAt W g v (len v)) => implText g v W h
  unfold AnsS at cT
  obtain ⟨a1, a2, _⟩ := hA.cells
  have HF : Hid (len v ≤ 600 → fits v = (natOf v, true)) := fun h => by
    unfold fits
    rw [if_pos]
    by_cases h0 : v = 0
    · subst h0; rw [natOf_small (by omega)]; simp
    · rw [← len_nz h0]; exact h
  have HG : Hid (¬ len v ≤ 600 → fits v = ([], false)) := fun h => by
    unfold fits
    rw [if_neg]
    by_cases h0 : v = 0
    · subst h0; exact absurd (Nat.zero_le _) h
    · rw [← len_nz h0]; exact h
  have HA := Lib.hid hA
  obtain ⟨n, hn⟩ : ∃ n, len v = n := ⟨_, rfl⟩
  have hC := cT w hA
  rw [hn] at a2 HF HG
  clear a1 hA hn cT
  by_cases h6 : n ≤ 600
  · have HE := Lib.hid (HF.out h6)
    clear HF HG
    have h6i : ¬ (600 : Int) < (n : Int) := by omega
    generalize natOf v = L at *
    generalize fits v = f at *
    go_enter Tryz.func113, Tryz.ntmps113
    go_wp2_with fail
    refine hC.mono ?_
    rintro e w2 ⟨rfl, B2⟩
    go_wp2
    go_ret2
    exact ⟨by rw [HE.out]; rfl, B2⟩
  · have HE := Lib.hid (HG.out h6)
    have h6i : (600 : Int) < (n : Int) := by omega
    clear HF HG hC
    generalize fits v = f at *
    go_enter Tryz.func113, Tryz.ntmps113
    go_wp2
    go_ret2
    exact ⟨by rw [HE.out]; rfl, Below.refl _ _⟩

end Go.Proofs.YthijeckcjfnbcaaGreatDoor
