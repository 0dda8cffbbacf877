/- The program's reader of rows with commas in memory; its small functions. Conditions: at most 4000 bytes. -/
import Derived.Test.YtjklnfcoaakkgaaDoorAppRows
import Derived.Test.YtjklnfcoaakkgaaDoorBld2
import Derived.Deep.DeepMust
namespace Go.Proofs.YtjklnfcoaakkgaaDoor
set_option linter.unusedVariables false
open Go.RowKit
open Go.Lib (byteCells)

/-- The reader lies at block p. -/
def R8 (w : World) (p : Nat) (s : ByteArray) (i : Nat) (n c : Value) (b : Nat) (v : Value) (z k : Nat) : Prop :=
  w.heap[p]? = some (.cells #[.string s, .int .i64 i, n, c, .int .i64 b, v, .int .i64 z, .int .i64 k] 48 (0, 0))
section
variable {w w1 : World} {p i b z k : Nat} {s : ByteArray} {n c v : Value}
theorem R8.cell (h : R8 w p s i n c b v z k) : w.cell? ⟨p, 0, none⟩ = some (.string s) ∧ w.cell? ⟨p, 1, none⟩ = some (.int .i64 i) ∧ w.cell? ⟨p, 2, none⟩ = some n ∧ w.cell? ⟨p, 3, none⟩ = some c ∧ w.cell? ⟨p, 4, none⟩ = some (.int .i64 b) ∧ w.cell? ⟨p, 5, none⟩ = some v ∧ w.cell? ⟨p, 6, none⟩ = some (.int .i64 z) ∧ w.cell? ⟨p, 7, none⟩ = some (.int .i64 k) := by
  unfold R8 at h
  refine ⟨?_, ?_, ?_, ?_, ?_, ?_, ?_, ?_⟩ <;> rw [cell_of_row w p _ _ _ _ h] <;> rfl
theorem R8.frozen (h : R8 w p s i n c b v z k) (j : Nat) : w.frozen? ⟨p, j, none⟩ = false := frozen_of_row w p j _ _ h
theorem R8.lt (h : R8 w p s i n c b v z k) : p < w.heap.size := (Array.getElem?_eq_some_iff.1 h).1
theorem R8.keep (h : R8 w p s i n c b v z k) {G : List Nat} (hk : Keep G w w1) (hG : p ∉ G) : R8 w1 p s i n c b v z k := (hk.block p h.lt hG).trans h
theorem R8.keep0 (h : R8 w p s i n c b v z k) (hk : Keep [] w w1) : R8 w1 p s i n c b v z k := h.keep hk (by simp)
theorem R8.set1 (h : R8 w p s i n c b v z k) (j : Nat) : R8 (w.setCell ⟨p, 1, none⟩ (.int .i64 j)) p s j n c b v z k := by unfold R8 at h ⊢; rw [heap_setCell_same w p 1 _ _ _ h]; rfl
theorem R8.set2 (h : R8 w p s i n c b v z k) (u : Value) : R8 (w.setCell ⟨p, 2, none⟩ u) p s i u c b v z k := by unfold R8 at h ⊢; rw [heap_setCell_same w p 2 _ _ _ h]; rfl
theorem R8.set3 (h : R8 w p s i n c b v z k) (u : Value) : R8 (w.setCell ⟨p, 3, none⟩ u) p s i n u b v z k := by unfold R8 at h ⊢; rw [heap_setCell_same w p 3 _ _ _ h]; rfl
theorem R8.set4 (h : R8 w p s i n c b v z k) (j : Nat) : R8 (w.setCell ⟨p, 4, none⟩ (.int .i64 j)) p s i n c j v z k := by unfold R8 at h ⊢; rw [heap_setCell_same w p 4 _ _ _ h]; rfl
theorem R8.set5 (h : R8 w p s i n c b v z k) (u : Value) : R8 (w.setCell ⟨p, 5, none⟩ u) p s i n c b u z k := by unfold R8 at h ⊢; rw [heap_setCell_same w p 5 _ _ _ h]; rfl
theorem R8.set6 (h : R8 w p s i n c b v z k) (j : Nat) : R8 (w.setCell ⟨p, 6, none⟩ (.int .i64 j)) p s i n c b v j k := by unfold R8 at h ⊢; rw [heap_setCell_same w p 6 _ _ _ h]; rfl
theorem R8.set7 (h : R8 w p s i n c b v z k) (j : Nat) : R8 (w.setCell ⟨p, 7, none⟩ (.int .i64 j)) p s i n c b v z j := by unfold R8 at h ⊢; rw [heap_setCell_same w p 7 _ _ _ h]; rfl
theorem keepSetP (w : World) (p j : Nat) (v : Value) : Keep [p] w (w.setCell ⟨p, j, none⟩ v) := (Keep.refl [p] w).setCell (.inl (by simp)) _
end

set_option maxHeartbeats 1000000 in
theorem csvFail (a q : Nat) (w : World) (p : Nat) (s : ByteArray) (i : Nat) (n c : Value) (b : Nat) (v : Value) (z k : Nat) (h : R8 w p s i n c b v z k) :
    Calls Tryd.prog 68 #[.pointer (some ⟨p, 0, none⟩), .int .i64 a, .int .i64 q] w fun e w' => e = .returned .nilFunc ∧ R8 w' p s i n c b v a q ∧ Keep [p] w w' := by
  obtain ⟨c0, c1, c2, c3, c4, c5, c6, c7⟩ := h.cell
  have f6 := h.frozen 6
  have f7 := h.frozen 7
  have HR := Lib.hid ((h.set6 a).set7 q)
  have HK := Lib.hid ((keepSetP w p 6 (.int .i64 a)).tr (keepSetP _ p 7 (.int .i64 q)))
  clear h
  go_enter Tryd.func68, Tryd.ntmps68
  go_wp2
  go_ret
  exact ⟨rfl, HR.out, HK.out⟩

set_option maxHeartbeats 1000000 in
set_option maxRecDepth 100000 in
theorem csvAhead (w : World) (p : Nat) (s : ByteArray) (i : Nat) (n c : Value) (b : Nat) (v : Value) (z k : Nat) (h : R8 w p s i n c b v z k) (hs : s.size ≤ 4000) :
    Calls Tryd.prog 69 #[.pointer (some ⟨p, 0, none⟩)] w fun e w' => e = .returned (.int .u8 (bt s i).toNat) ∧ Keep [] w w' := by
  obtain ⟨c0, c1, c2, c3, c4, c5, c6, c7⟩ := h.cell
  by_cases hlt : i < s.size
  · obtain ⟨x, hx⟩ : ∃ x, s[i] = x := ⟨_, rfl⟩
    have HX : Hid (bt s i = x) := by show _ = _; rw [← bt_in hlt]; exact hx
    have hz : (i : Int) < (s.size : Int) := by omega
    clear h c2 c3 c4 c5 c6 c7
    go_enter Tryd.func69, Tryd.ntmps69
    go_wp2
    go_quiet (fail)
    go_wp2
    go_quiet (fail)
    go_wp2
    go_ret
    exact ⟨by rw [HX.out]; rfl, ((Keep.refl [] w).drewN _).drewN _⟩
  · have HX : Hid (bt s i = 0) := bt_out hlt
    have hz : ¬ (i : Int) < (s.size : Int) := by omega
    clear h c2 c3 c4 c5 c6 c7
    go_enter Tryd.func69, Tryd.ntmps69
    go_wp2
    go_quiet (fail)
    go_wp2
    go_ret
    exact ⟨by rw [HX.out]; rfl, (Keep.refl [] w).drewN _⟩

/-- What rowEnd answers. -/
def rowEndV (s : ByteArray) (i : Nat) : Value := .tuple #[.int .i64 ((rowEndR s i).getD 0 : Nat), .bool (rowEndR s i).isSome]
theorem hasPre (r : ByteArray) (x : UInt8) (l : List UInt8) (hl : r.data.toList = x :: l) : Lib.hasPrefix r.data.toList [13, 10] = (decide (x = 13) && decide (l.head? = some 10)) := by
  rw [hl]
  unfold Lib.hasPrefix
  have a : ((13 : UInt8) == x) = decide (x = 13) := by by_cases h : x = 13 <;> simp [h]; exact fun e => h e.symm
  cases l with
  | nil =>
    show (((13 : UInt8) == x) && false) = _
    simp
  | cons y l =>
    have b : ((10 : UInt8) == y) = decide (y = 10) := by by_cases h : y = 10 <;> simp [h]; exact fun e => h e.symm
    show (((13 : UInt8) == x) && (((10 : UInt8) == y) && true)) = _
    rw [a, b]
    simp

set_option maxHeartbeats 2000000 in
set_option maxRecDepth 100000 in
theorem csvRowEnd (w : World) (p : Nat) (s : ByteArray) (i : Nat) (n c : Value) (b : Nat) (v : Value) (z k : Nat) (h : R8 w p s i n c b v z k) (hs : s.size ≤ 4000) (hi : i ≤ s.size) :
    Calls Tryd.prog 98 #[.pointer (some ⟨p, 0, none⟩)] w fun e w' => e = .returned (rowEndV s i) ∧ Keep [] w w' := by
  obtain ⟨c0, c1, c2, c3, c4, c5, c6, c7⟩ := h.cell
  have hiz : (i : Int) ≤ (s.size : Int) := by omega
  obtain ⟨r, hr⟩ : ∃ r, s.extract i s.size = r := ⟨_, rfl⟩
  have hrl : r.data.toList = s.data.toList.drop i := by rw [← hr, extract_drop s i hi]
  have hrz : r.size = s.size - i := by rw [← hr, ByteArray.size_extract]; omega
  by_cases hlt : i < s.size
  · have hne : r.toList.isEmpty = false := by rw [ByteArray.toList_eq, hrl, drop_bt hlt]; rfl
    have hr0 : 0 < r.size := by omega
    obtain ⟨x, hx⟩ : ∃ x, r[0] = x := ⟨_, rfl⟩
    have hb : bt s i = x := by
      rw [← hx, bt_in hr0]
      have h1 := list_bt hr0
      rw [hrl, drop_bt hlt] at h1
      simpa using h1
    have hxl := x.toNat_lt
    by_cases h10 : x = 10
    · have HE : Hid (rowEndV s i = .tuple #[.int .i64 1, .bool true]) := by show _ = _; unfold rowEndV; rw [rowEnd_10 hlt (by rw [hb]; exact h10)]; rfl
      subst h10
      clear h c2 c3 c4 c5 c6 c7 hrl hb
      go_enter Tryd.func98, Tryd.ntmps98
      go_wp2
      go_quiet (fail)
      go_wp2
      go_ret2
      exact ⟨by rw [HE.out] <;> rfl, (Keep.refl [] w).drewN _⟩
    · have h10z : ((x.toNat : Int) == 10) = false := by have := u8_ne 10 h10; rw [beq_eq_false_iff_ne]; omega
      have cP := fun W => Tryd.strings_HasPrefix r ⟨#[13, 10]⟩ W
      have hpre := hasPre r x _ (by rw [hrl, drop_bt hlt, hb])
      have hhd : decide ((s.data.toList.drop (i + 1)).head? = some 10) = decide (bt s (i + 1) = 10) := by
        by_cases h1 : i + 1 < s.size
        · rw [drop_bt h1]; simp
        · rw [drop_out h1, bt_out h1]; rfl
      rw [hhd] at hpre
      by_cases hcr : x = 13 ∧ bt s (i + 1) = 10
      · have HE : Hid (rowEndV s i = .tuple #[.int .i64 2, .bool true]) := by show _ = _; unfold rowEndV; rw [rowEnd_13 hlt (by rw [hb]; exact hcr.1) hcr.2]; rfl
        have e1 : Lib.hasPrefix r.data.toList (⟨#[13, 10]⟩ : ByteArray).data.toList = true := by
          show Lib.hasPrefix r.data.toList [13, 10] = true
          rw [hpre, decide_eq_true hcr.1, decide_eq_true hcr.2]; rfl
        rw [e1] at cP
        clear h c2 c3 c4 c5 c6 c7 hrl hb hpre hhd hcr e1 h10
        go_enter Tryd.func98, Tryd.ntmps98
        go_wp2
        go_quiet (fail)
        go_wp2_with (go_at_call 101; refine (cP _).mono ?_; rintro e w' ⟨rfl, hw⟩; rw [hw])
        go_ret2
        exact ⟨by rw [HE.out] <;> rfl, (Keep.refl [] w).drewN _⟩
      · have HE : Hid (rowEndV s i = .tuple #[.int .i64 0, .bool false]) := by show _ = _; unfold rowEndV; rw [rowEnd_no hlt (by rw [hb]; exact h10) (by rw [hb]; exact hcr)]; rfl
        have e1 : Lib.hasPrefix r.data.toList (⟨#[13, 10]⟩ : ByteArray).data.toList = false := by
          show Lib.hasPrefix r.data.toList [13, 10] = false
          rw [hpre]
          by_cases h13 : x = 13
          · rw [decide_eq_false (p := bt s (i + 1) = 10) (fun e => hcr ⟨h13, e⟩)]; simp
          · rw [decide_eq_false h13]; rfl
        rw [e1] at cP
        clear h c2 c3 c4 c5 c6 c7 hrl hb hpre hhd hcr e1 h10
        go_enter Tryd.func98, Tryd.ntmps98
        go_wp2
        go_quiet (fail)
        go_wp2_with (go_at_call 101; refine (cP _).mono ?_; rintro e w' ⟨rfl, hw⟩; rw [hw])
        go_ret2
        exact ⟨by rw [HE.out] <;> rfl, (Keep.refl [] w).drewN _⟩
  · have hne : r.toList.isEmpty = true := by rw [ByteArray.toList_eq, hrl, drop_out hlt]; rfl
    have HE : Hid (rowEndV s i = .tuple #[.int .i64 0, .bool true]) := by show _ = _; unfold rowEndV; rw [rowEnd_out hlt]; rfl
    clear h c2 c3 c4 c5 c6 c7 hrl
    go_enter Tryd.func98, Tryd.ntmps98
    go_wp2
    go_quiet (fail)
    go_wp2
    go_ret2
    exact ⟨by rw [HE.out] <;> rfl, (Keep.refl [] w).drewN _⟩

set_option maxHeartbeats 1000000 in
set_option maxRecDepth 100000 in
theorem csvCellEnds (w : World) (p : Nat) (s : ByteArray) (i : Nat) (n c : Value) (b : Nat) (v : Value) (z k : Nat) (h : R8 w p s i n c b v z k) (hs : s.size ≤ 4000) (hi : i ≤ s.size) :
    Calls Tryd.prog 86 #[.pointer (some ⟨p, 0, none⟩)] w fun e w' => e = .returned (.bool (cellEndB s i)) ∧ Keep [] w w' := by
  have cR := csvRowEnd w p s i n c b v z k h hs hi
  have cA : ∀ W, Keep [] w W → Calls Tryd.prog 69 #[.pointer (some ⟨p, 0, none⟩)] W _ := fun W hW => csvAhead W p s i n c b v z k (h.keep0 hW) hs
  unfold rowEndV at cR
  unfold cellEndB
  obtain ⟨x, hx⟩ : ∃ x, bt s i = x := ⟨_, rfl⟩
  rw [hx] at cA ⊢
  generalize (rowEndR s i).getD 0 = m at cR
  have hxl := x.toNat_lt
  cases hre : (rowEndR s i).isSome with
  | true =>
    rw [hre] at cR
    clear h hx hre cA
    go_enter Tryd.func86, Tryd.ntmps86
    go_wp2_with (go_at_call 98; refine cR.mono ?_; rintro e w1 ⟨rfl, k1⟩)
    go_ret
    exact ⟨by simp, k1⟩
  | false =>
    rw [hre] at cR
    by_cases h44 : x = 44
    · subst h44
      clear h hx hre
      go_enter Tryd.func86, Tryd.ntmps86
      go_wp2_with (first | (go_at_call 98; refine cR.mono ?_; rintro e w1 ⟨rfl, k1⟩) | (go_at_call 69; refine (cA _ k1).mono ?_; rintro e w2 ⟨rfl, k2⟩))
      go_ret
      exact ⟨by simp, k1.tr k2⟩
    · have h44z : ((x.toNat : Int) == 44) = false := by have := u8_ne 44 h44; rw [beq_eq_false_iff_ne]; omega
      have HD : Hid (decide (x = 44) = false) := decide_eq_false h44
      clear h hx hre h44
      go_enter Tryd.func86, Tryd.ntmps86
      go_wp2_with (first | (go_at_call 98; refine cR.mono ?_; rintro e w1 ⟨rfl, k1⟩) | (go_at_call 69; refine (cA _ k1).mono ?_; rintro e w2 ⟨rfl, k2⟩))
      go_ret
      exact ⟨by rw [HD.out]; rfl, k1.tr k2⟩

/-- Appending a string's bytes as one step of a region that draws. -/
theorem step_append_str {P : Program} {ops : Array Oper} {o : Oper} {a : Act} {w : World} {K : Act → World → Prop} {Q : Exit → Act → World → Prop} {E : Prop}
    (hg : o.guard = none) (sl x : Operand) (t u : TypeId) (hop : o.op = Op.call { callee := Callee.builtin Builtin.append, args := #[sl, x], argTypes := #[t, u] })
    (base : Nat) (e : TypeId) (i : TypeInfo) (h1 : P.underlying t = some (.slice e)) (hu : P.underlying u = some .string) (h2 : P.info? e = some i) (h3 : i.zero = some (.int .u8 0)) (h4 : i.size = 1) (h5 : i.bytes = 1)
    (v : Value) (n : Nat) (xs : List Value) (hs : a.eval sl = v) (hown : w.ownsRow base e 1 v n xs) (s : ByteArray) (hx : a.eval x = .string s)
    (b1 : n + s.size ≤ maxLen) (b2 : n + s.size ≤ 140737488355328) (b3 : base ≤ w.heap.size)
    (hK : ∀ v' w', w'.ownsRow base e 1 v' (n + s.size) (xs ++ Lib.strCells s) → w.grownBy w' v.ownBlock → K (a.put o.dst v') w') :
    if Region.wanted o (yielded ops a.tmps) = true then Oper.wp P o a w K Q else E := by
  have hw : Region.wanted o (yielded ops a.tmps) = true := by simp [Region.wanted, hg]
  rw [if_pos hw]
  obtain ⟨v', w', hrun, r1, r2, _⟩ := Lib.run_append_own_string (P := P) (w := w) base t u o.type e i h1 hu h2 h3 h4 h5 v n xs hown s b1 b2 b3
  unfold Oper.wp execOp
  simp only [hop, resolve, invoke, builtin, Sem.run_bind, Sem.run_pure, Result.andThen_ok, List.map_toArray, List.map_cons, List.map_nil, hs, hx, hrun]
  exact hK v' w' r1 r2

end Go.Proofs.YtjklnfcoaakkgaaDoor
