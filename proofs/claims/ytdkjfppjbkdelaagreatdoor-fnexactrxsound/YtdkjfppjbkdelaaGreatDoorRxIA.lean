/- The program's reader of patterns in memory; its small functions: ahead, take, symbols of digits and letters. Conditions: at most 1000 code points. -/
import Derived.Test.YtdkjfppjbkdelaaGreatDoorRxOwn
import Derived.Test.YtdkjfppjbkdelaaGreatDoorRxMathA
import Derived.Deep.DeepMust
namespace Go.Proofs.YtdkjfppjbkdelaaGreatDoor
set_option linter.unusedVariables false
open Go.RowKit

/-- The reader lies at block p: the code points s, the place i, the depth d, the nodes nv. -/
structure Rs (w : World) (p : Nat) (s : List Int) (PA : Option Addr) (pc : Nat) (i d : Nat) (nv : Value) : Prop where
  at_ : w.heap[p]? = some (.cells #[.slice PA s.length pc, .int .i64 i, .int .i64 d, nv] 143 (0, 0))
  nums : Nums .i64 w p PA s

section
variable {w w1 : World} {p : Nat} {s : List Int} {PA : Option Addr} {pc i d : Nat} {nv : Value}
theorem Rs.cell (h : Rs w p s PA pc i d nv) : w.cell? ⟨p, 0, none⟩ = some (.slice PA s.length pc) ∧ w.cell? ⟨p, 1, none⟩ = some (.int .i64 i) ∧ w.cell? ⟨p, 2, none⟩ = some (.int .i64 d) ∧ w.cell? ⟨p, 3, none⟩ = some nv := by
  refine ⟨?_, ?_, ?_, ?_⟩ <;> rw [cell_of_row w p _ _ _ _ h.at_] <;> rfl
theorem Rs.frozen (h : Rs w p s PA pc i d nv) (j : Nat) : w.frozen? ⟨p, j, none⟩ = false := frozen_of_row w p j _ _ h.at_
theorem Rs.lt (h : Rs w p s PA pc i d nv) : p < w.heap.size := (Array.getElem?_eq_some_iff.1 h.at_).1
theorem Rs.keep (h : Rs w p s PA pc i d nv) {G : List Nat} (hk : Keep G w w1) (hG : ∀ b ∈ G, p < b) : Rs w1 p s PA pc i d nv :=
  ⟨(hk.block p h.lt fun e => by have := hG p e; omega).trans h.at_, hk.nums h.nums (Nat.le_of_lt h.lt) fun b hb => Nat.le_of_lt (hG b hb)⟩
theorem Rs.keep0 (h : Rs w p s PA pc i d nv) (hk : Keep [] w w1) : Rs w1 p s PA pc i d nv := h.keep hk fun _ hb => by cases hb
theorem Rs.set1 (h : Rs w p s PA pc i d nv) (j : Nat) : Rs (w.setCell ⟨p, 1, none⟩ (.int .i64 j)) p s PA pc j d nv :=
  ⟨by rw [heap_setCell_same w p 1 _ _ _ h.at_]; rfl, ((Keep.refl [p] w).setCell (.inl (by simp)) _).nums h.nums (Nat.le_of_lt h.lt) fun b hb => by simp at hb; omega⟩
theorem Rs.set2 (h : Rs w p s PA pc i d nv) (j : Nat) : Rs (w.setCell ⟨p, 2, none⟩ (.int .i64 j)) p s PA pc i j nv :=
  ⟨by rw [heap_setCell_same w p 2 _ _ _ h.at_]; rfl, ((Keep.refl [p] w).setCell (.inl (by simp)) _).nums h.nums (Nat.le_of_lt h.lt) fun b hb => by simp at hb; omega⟩
theorem Rs.set3 (h : Rs w p s PA pc i d nv) (v : Value) : Rs (w.setCell ⟨p, 3, none⟩ v) p s PA pc i d v :=
  ⟨by rw [heap_setCell_same w p 3 _ _ _ h.at_]; rfl, ((Keep.refl [p] w).setCell (.inl (by simp)) _).nums h.nums (Nat.le_of_lt h.lt) fun b hb => by simp at hb; omega⟩
theorem Rs.keepSet (h : Rs w p s PA pc i d nv) (j : Nat) (v : Value) : Keep [p] w (w.setCell ⟨p, j, none⟩ v) := (Keep.refl [p] w).setCell (.inl (by simp)) _
end

set_option maxHeartbeats 1000000 in
set_option maxRecDepth 100000 in
theorem ahead_any (n : Nat) (w : World) (p : Nat) (s : List Int) (PA : Option Addr) (pc i d : Nat) (nv : Value) (h : Rs w p s PA pc i d nv) (hs : s.length ≤ 1000) (hi : i ≤ 1005) (hn : n ≤ 1) :
    Calls Tryz.prog 140 #[.pointer (some ⟨p, 0, none⟩), .int .i64 n] w fun e w' => e = .returned (.int .i64 (pk s (i + n))) ∧ Keep [] w w' := by
  obtain ⟨c0, c1, c2, c3⟩ := h.cell
  by_cases hlt : i + n < s.length
  · obtain ⟨b, o, rfl, hb, hc⟩ := h.nums (i + n) hlt
    have hp : Hid (pk s (i + n) = s[i + n]) := pk_lt hlt
    have hz0 : (i : Int) + (n : Int) = ((i + n : Nat) : Int) := by omega
    obtain ⟨m, hm⟩ : ∃ m, i + n = m := ⟨_, rfl⟩
    obtain ⟨x, hx⟩ : ∃ x, s[i + n] = x := ⟨_, rfl⟩
    rw [hx] at hc hp
    rw [hm] at hc hz0 hlt
    clear hx hm h
    go_enter Tryz.func140, Tryz.ntmps140
    go_wp2
    go_quiet (fail)
    go_wp2
    go_quiet (fail)
    go_wp2
    go_ret
    exact ⟨by rw [hp.out]; rfl, ((Keep.refl [] w).drewN _).drewN _⟩
  · have hp : Hid (pk s (i + n) = 0) := pk_ge (by omega)
    have hz : ¬ (i : Int) + n < s.length := by omega
    clear h
    go_enter Tryz.func140, Tryz.ntmps140
    go_wp2
    go_quiet (fail)
    go_wp2
    go_ret
    exact ⟨by rw [hp.out]; rfl, (Keep.refl [] w).drewN _⟩

theorem ahead0 (w : World) (p : Nat) (s : List Int) (PA : Option Addr) (pc i d : Nat) (nv : Value) (h : Rs w p s PA pc i d nv) (hs : s.length ≤ 1000) (hi : i ≤ 1005) :
    Calls Tryz.prog 140 #[.pointer (some ⟨p, 0, none⟩), .int .i64 0] w fun e w' => e = .returned (.int .i64 (pk s i)) ∧ Keep [] w w' ∧ Rs w' p s PA pc i d nv :=
  (ahead_any 0 w p s PA pc i d nv h hs hi (by omega)).mono fun e w' ⟨h1, h2⟩ => ⟨h1, h2, h.keep0 h2⟩
theorem ahead1 (w : World) (p : Nat) (s : List Int) (PA : Option Addr) (pc i d : Nat) (nv : Value) (h : Rs w p s PA pc i d nv) (hs : s.length ≤ 1000) (hi : i ≤ 1005) :
    Calls Tryz.prog 140 #[.pointer (some ⟨p, 0, none⟩), .int .i64 1] w fun e w' => e = .returned (.int .i64 (pk s (i + 1))) ∧ Keep [] w w' ∧ Rs w' p s PA pc i d nv :=
  (ahead_any 1 w p s PA pc i d nv h hs hi (by omega)).mono fun e w' ⟨h1, h2⟩ => ⟨h1, h2, h.keep0 h2⟩

set_option maxHeartbeats 1000000 in
theorem take_no (c : Int) (w : World) (p : Nat) (s : List Int) (PA : Option Addr) (pc i d : Nat) (nv : Value) (h : Rs w p s PA pc i d nv) (hs : s.length ≤ 1000) (hi : i ≤ 1005) (hc : pk s i ≠ c) :
    Calls Tryz.prog 171 #[.pointer (some ⟨p, 0, none⟩), .int .i64 c] w fun e w' => e = .returned (.bool false) ∧ Keep [] w w' ∧ Rs w' p s PA pc i d nv := by
  have cA := ahead0 w p s PA pc i d nv h hs hi
  obtain ⟨x, hx⟩ : ∃ x, pk s i = x := ⟨_, rfl⟩
  rw [hx] at cA hc
  clear hx h
  go_enter Tryz.func171, Tryz.ntmps171
  go_wp2_with fail
  refine cA.mono ?_
  rintro e w1 ⟨rfl, k1, r1⟩
  have R1 := Lib.hid r1
  clear r1 cA
  go_wp2
  go_ret
  exact ⟨rfl, k1, R1.out⟩

set_option maxHeartbeats 1000000 in
theorem take_yes (c : Int) (w : World) (p : Nat) (s : List Int) (PA : Option Addr) (pc i d : Nat) (nv : Value) (h : Rs w p s PA pc i d nv) (hs : s.length ≤ 1000) (hi : i ≤ 1005) (hc : pk s i = c) :
    Calls Tryz.prog 171 #[.pointer (some ⟨p, 0, none⟩), .int .i64 c] w fun e w' => e = .returned (.bool true) ∧ Keep [p] w w' ∧ Rs w' p s PA pc (i + 1) d nv := by
  have cA := ahead0 w p s PA pc i d nv h hs hi
  rw [hc] at cA
  clear hc h
  go_enter Tryz.func171, Tryz.ntmps171
  go_wp2_with fail
  refine cA.mono ?_
  rintro e w1 ⟨rfl, k1, r1⟩
  obtain ⟨c0, c1, c2, c3⟩ := r1.cell
  have f1 := r1.frozen 1
  have R1 := Lib.hid (r1.set1 (i + 1))
  have K1 := Lib.hid ((k1.nil (G := [p])).setCell (p := p) (j := 1) (.inl (by simp)) (.int .i64 ((i + 1 : Nat) : Int)))
  have hz0 : (i : Int) + 1 = ((i + 1 : Nat) : Int) := by omega
  obtain ⟨m, hm⟩ : ∃ m, i + 1 = m := ⟨_, rfl⟩
  rw [hm] at hz0 R1 K1
  have HM := Lib.hid hm
  clear r1 cA k1 hm
  go_wp2
  go_ret
  exact ⟨rfl, K1.out, by rw [HM.out]; exact R1.out⟩

set_option maxHeartbeats 400000 in
theorem isDigit_any (c : Int) (w : World) : Calls Tryz.prog 223 #[.int .i64 c] w fun e w' => e = .returned (.bool (isDig c)) ∧ w = w' := by
  unfold isDig
  by_cases h1 : 48 ≤ c
  · by_cases h2 : c ≤ 57
    · rw [decide_eq_true ⟨h1, h2⟩]
      go_enter Tryz.func223, Tryz.ntmps223
      go_wp2
      go_ret
      exact ⟨rfl, rfl⟩
    · rw [decide_eq_false (by omega)]
      go_enter Tryz.func223, Tryz.ntmps223
      go_wp2
      go_ret
      exact ⟨rfl, rfl⟩
  · rw [decide_eq_false (by omega)]
    go_enter Tryz.func223, Tryz.ntmps223
    go_wp2
    go_ret
    exact ⟨rfl, rfl⟩

set_option maxHeartbeats 400000 in
theorem isLetter_any (c : Int) (w : World) : Calls Tryz.prog 222 #[.int .i64 c] w fun e w' => e = .returned (.bool (isLet c)) ∧ w = w' := by
  unfold isLet
  by_cases h1 : 97 ≤ c
  · by_cases h2 : c ≤ 122
    · rw [decide_eq_true (.inl ⟨h1, h2⟩)]
      go_enter Tryz.func222, Tryz.ntmps222
      go_wp2
      go_ret
      exact ⟨rfl, rfl⟩
    · have h3 : 65 ≤ c := by omega
      have h4 : ¬ c ≤ 90 := by omega
      rw [decide_eq_false (by omega)]
      go_enter Tryz.func222, Tryz.ntmps222
      go_wp2
      go_ret
      exact ⟨rfl, rfl⟩
  · by_cases h3 : 65 ≤ c
    · by_cases h4 : c ≤ 90
      · rw [decide_eq_true (.inr ⟨h3, h4⟩)]
        go_enter Tryz.func222, Tryz.ntmps222
        go_wp2
        go_ret
        exact ⟨rfl, rfl⟩
      · rw [decide_eq_false (by omega)]
        go_enter Tryz.func222, Tryz.ntmps222
        go_wp2
        go_ret
        exact ⟨rfl, rfl⟩
    · rw [decide_eq_false (by omega)]
      go_enter Tryz.func222, Tryz.ntmps222
      go_wp2
      go_ret
      exact ⟨rfl, rfl⟩

end Go.Proofs.YtdkjfppjbkdelaaGreatDoor

/- The program's reader of patterns: add, joined, symbol. Conditions: at most 1000 code points, fewer than 100000 nodes. -/
namespace Go.Proofs.YtdkjfppjbkdelaaGreatDoor
set_option linter.unusedVariables false
set_option linter.unusedSimpArgs false
open Go.RowKit

/-- The reader with its nodes. -/
def Rdr (w : World) (p : Nat) (s : List Int) (PA : Option Addr) (pc i d : Nat) (out : List Nd) (F : List Nat) : Prop :=
  ∃ nv xs, Rs w p s PA pc i d nv ∧ Own6 w (p + 1) nv out xs ∧ F = foot nv xs

section
variable {w w1 : World} {p : Nat} {s : List Int} {PA : Option Addr} {pc i d : Nat} {out : List Nd} {F : List Nat}
theorem Rdr.range (h : Rdr w p s PA pc i d out F) : ∀ b ∈ F, p < b ∧ b < w.heap.size := by
  obtain ⟨nv, xs, _, h2, rfl⟩ := h
  exact h2.range
theorem Rdr.keep (h : Rdr w p s PA pc i d out F) {G : List Nat} (hk : Keep G w w1) (hG : ∀ b ∈ G, p < b ∧ b ∉ F) : Rdr w1 p s PA pc i d out F := by
  obtain ⟨nv, xs, h1, h2, rfl⟩ := h
  exact ⟨nv, xs, h1.keep hk fun b hb => (hG b hb).1, h2.keep hk fun b hb => (hG b hb).2, rfl⟩
theorem Rdr.keep0 (h : Rdr w p s PA pc i d out F) (hk : Keep [] w w1) : Rdr w1 p s PA pc i d out F := h.keep hk fun _ hb => by cases hb
theorem Rdr.lt (h : Rdr w p s PA pc i d out F) : p < w.heap.size := by obtain ⟨nv, xs, h1, _, _⟩ := h; exact h1.lt
end

theorem cell_six (w : World) (t : TypeId) (l : List Value) : ∀ j u, l[j]? = some u → (w.alloc (.cells l.toArray t)).cell? ((⟨w.heap.size, 0, none⟩ : Addr).add j) = some u := by
  intro j u hu
  rw [Addr.add_lit, Nat.zero_add, cell_of_row _ w.heap.size j _ t (0, 0) (heap_alloc_new w _), List.getElem?_toArray]
  exact hu
theorem six_one {nd : Nd} {sa ka : Option Addr} {n m sc kc : Nat} : ∀ u ∈ six nd (.slice sa n sc, .slice ka m kc), u.oneCell' = true := by
  intro u hu
  simp [six] at hu
  rcases hu with rfl | rfl | rfl | rfl | rfl | rfl <;> rfl

theorem add_after {w W w1 : World} {p : Nat} {s : List Int} {PA : Option Addr} {pc i d : Nat} {nv : Value} (hR : Rs w p s PA pc i d nv) (hW : Keep [] w W) (hnv : ∀ b, nv.ownBlock = some b → p < b) (hg : W.grownBy w1 nv.ownBlock) :
    w1.cell? ⟨p, 3, none⟩ = some nv ∧ w1.frozen? ⟨p, 3, none⟩ = false ∧ Keep nv.ownBlock.toList w w1 ∧ Rs w1 p s PA pc i d nv := by
  have hk : Keep nv.ownBlock.toList w w1 := (hW.nil).tr (Keep.ofGrown hg)
  have hr := hR.keep hk fun b hb => hnv b (by simpa using hb)
  exact ⟨hr.cell.2.2.2, hr.frozen 3, hk, hr⟩

set_option maxHeartbeats 4000000 in
set_option maxRecDepth 100000 in
theorem add_any (nd : Nd) (sv kv : Value) (w : World) (p : Nat) (s : List Int) (PA : Option Addr) (pc i d : Nat) (out : List Nd) (F : List Nat) (h : Rdr w p s PA pc i d out F) (ho : out.length ≤ 100000)
    (hS : RowI w (p + 1) sv nd.set) (hK : RowI w (p + 1) kv nd.kids) (d1 : ∀ b, sv.ownBlock = some b → b ∉ F) (d2 : ∀ b, kv.ownBlock = some b → b ∉ F) (d3 : ∀ b, sv.ownBlock = some b → kv.ownBlock ≠ some b) :
    Calls Tryz.prog 190 #[.pointer (some ⟨p, 0, none⟩), .agg #[.int .i64 nd.kind, .int .i64 nd.lo, .int .i64 nd.hi, .bool nd.neg, sv, kv]] w fun e w' => e = .returned (.int .i64 out.length) ∧
      ∃ F', Rdr w' p s PA pc i d (out ++ [nd]) F' ∧ Keep (p :: F) w w' ∧ ∀ b ∈ F', b ∈ F ∨ sv.ownBlock = some b ∨ kv.ownBlock = some b ∨ w.heap.size ≤ b := by
  obtain ⟨i0, hi, hz0, hz1, hz2⟩ := info_parts Tryz.infoNode
  obtain ⟨nv, xs, hR, hO, rfl⟩ := h
  obtain ⟨A, c, rfl⟩ := own_form hO.row
  obtain ⟨sa, sc, rfl⟩ := own_form hS
  obtain ⟨ka, kc, rfl⟩ := own_form hK
  obtain ⟨c0, c1, c2, c3⟩ := hR.cell
  have hf3 := hR.frozen 3
  have hp := hR.lt
  have HR := Lib.hid hR
  have HO := Lib.hid hO
  have HS := Lib.hid hS
  have HK := Lib.hid hK
  have HD := Lib.hid (And.intro d1 (And.intro d2 d3))
  clear hR hO hS hK d1 d2 d3
  have hW : Keep [] w (((w.alloc (.cells #[.int .i64 nd.kind, .int .i64 nd.lo, .int .i64 nd.hi, .bool nd.neg, .slice sa nd.set.length sc, .slice ka nd.kids.length kc] 47)).drew).alloc (.cells #[.int .i64 nd.kind, .int .i64 nd.lo, .int .i64 nd.hi, .bool nd.neg, .slice sa nd.set.length sc, .slice ka nd.kids.length kc] 47)) :=
    (((Keep.refl [] w).alloc _).drew).alloc _
  have hrow : (((w.alloc (.cells #[.int .i64 nd.kind, .int .i64 nd.lo, .int .i64 nd.hi, .bool nd.neg, .slice sa nd.set.length sc, .slice ka nd.kids.length kc] 47)).drew).alloc (.cells #[.int .i64 nd.kind, .int .i64 nd.lo, .int .i64 nd.hi, .bool nd.neg, .slice sa nd.set.length sc, .slice ka nd.kids.length kc] 47)).ownsRow (p + 1) 47 6 (.slice A out.length c) out.length (cells6 out xs) :=
    (HO.out.row.alloc _).drew.alloc _
  have HW := Lib.hid hW
  have HRW := Lib.hid hrow
  have hnv : Hid (∀ b, Value.ownBlock (.slice A out.length c) = some b → p < b) := fun b hb => (HO.out.row.lt b hb).1
  clear hW hrow
  go_enter Tryz.func190, Tryz.ntmps190
  go_wp2
  go_region_law (refine step_append_own rfl (.tmp 9) (.tmp 11) 25 rfl (p + 1) 47 i0 _ 6 80 Tryz.underlying25 hi hz0 hz1 hz2 rfl (by decide) (.slice A out.length c) out.length (cells6 out xs) (by simp [Act.eval, Act.put]) HRW.out ⟨w.heap.size + 1, 0, none⟩ 1 1 (six nd (.slice sa nd.set.length sc, .slice ka nd.kids.length kc)) (by simp [Act.eval, Act.put]) rfl (by have := cell_six ((w.alloc (.cells #[.int .i64 nd.kind, .int .i64 nd.lo, .int .i64 nd.hi, .bool nd.neg, .slice sa nd.set.length sc, .slice ka nd.kids.length kc] 47)).drew) 47 (six nd (.slice sa nd.set.length sc, .slice ka nd.kids.length kc)); rw [show ((w.alloc (.cells #[.int .i64 nd.kind, .int .i64 nd.lo, .int .i64 nd.hi, .bool nd.neg, .slice sa nd.set.length sc, .slice ka nd.kids.length kc] 47)).drew).heap.size = w.heap.size + 1 from alloc_size1 w _] at this; exact this) six_one (by unfold maxLen; omega) (by omega) (by simp; omega) ?_; intro v' w1 hown hgrow hblk; obtain ⟨A', c', rfl⟩ := own_form hown; obtain ⟨k3, e3, hk, hr⟩ := add_after HR.out HW.out hnv.out hgrow)
  all_goals
    have HW1 := Lib.hid hown
    have HK1 := Lib.hid hk
    have HR1 := Lib.hid hr
    have hnew : Hid (∀ b, Value.ownBlock (.slice A' (out.length + 1) c') = some b → Value.ownBlock (.slice A out.length c) = some b ∨ w.heap.size ≤ b) := fun b hb => by
      rcases hblk b hb with h | h
      · exact .inl h
      · exact .inr (Nat.le_trans HW.out.size h)
    clear hown hk hr hgrow hblk
    go_wp2
    go_ret
    obtain ⟨d1, d2, d3⟩ := HD.out
    have O1 := HO.out.snoc HK1.out HW1.out hnew.out HS.out HK.out d1 d2 d3
    have hp3 := HR1.out.keepSet 3 (.slice A' (out.length + 1) c')
    have hnp : ∀ b, b ∈ foot (.slice A' (out.length + 1) c') (xs ++ [(.slice sa nd.set.length sc, .slice ka nd.kids.length kc)]) → p < b := fun b hb => (O1.range b hb).1
    refine ⟨by go_num, _, ⟨_, _, HR1.out.set3 _, O1.keep hp3 fun b hb hm => by simp at hb; have := hnp b hm; omega, rfl⟩, ?_, fun b hb => ?_⟩
    · exact (HK1.out.mono fun b hb => List.mem_cons_of_mem _ (foot_mem.2 (.inl (by simpa using hb)))).trans hp3 fun b hb => .inl (by simp at hb; simp [hb])
    · rcases foot_mem.1 hb with hb | ⟨x, hx, hb⟩
      · rcases hnew.out b hb with h | h
        · exact .inl (foot_mem.2 (.inl h))
        · exact .inr (.inr (.inr h))
      · rcases List.mem_append.1 hx with hx | hx
        · exact .inl (foot_mem.2 (.inr ⟨x, hx, hb⟩))
        · simp at hx
          subst hx
          rcases hb with hb | hb
          · exact .inr (.inl hb)
          · exact .inr (.inr (.inl hb))

/-- What a reading function of the program answers: as r says; what it may have written: the reader and its nodes; the nodes' memory: what it was, what was handed over (X), and what is new. -/
def Post (w : World) (p : Nat) (s : List Int) (PA : Option Addr) (pc d : Nat) (F X : List Nat) (r : Rd) (e : Ending) (w' : World) : Prop :=
  match r with
  | .ok n j o => e = .returned (.int .i64 n) ∧ ∃ F', Rdr w' p s PA pc j d o F' ∧ Keep (p :: F) w w' ∧ ∀ b ∈ F', b ∈ F ∨ b ∈ X ∨ w.heap.size ≤ b
  | .err c q => e = .panicked [{ v := .iface 141 (.agg #[.int .i64 q, .int .i64 c]), recovered := false }] ∧ Keep (p :: F) w w'

theorem row_nil (w : World) (B : Nat) : RowI w B (.slice none 0 0) [] := World.ownsRow_nil _ _ _ _

theorem add_post (nd : Nd) (kv : Value) (w : World) (p : Nat) (s : List Int) (PA : Option Addr) (pc i d : Nat) (out : List Nd) (F : List Nat) (h : Rdr w p s PA pc i d out F) (ho : out.length ≤ 100000) (hset : nd.set = [])
    (hK : RowI w (p + 1) kv nd.kids) (d2 : ∀ b, kv.ownBlock = some b → b ∉ F) :
    Calls Tryz.prog 190 #[.pointer (some ⟨p, 0, none⟩), .agg #[.int .i64 nd.kind, .int .i64 nd.lo, .int .i64 nd.hi, .bool nd.neg, .slice none 0 0, kv]] w (Post w p s PA pc d F kv.ownBlock.toList (.ok out.length i (out ++ [nd]))) :=
  (add_any nd (.slice none 0 0) kv w p s PA pc i d out F h ho (by rw [hset]; exact row_nil _ _) hK (fun b hb => by cases hb) d2 (fun b hb => by cases hb)).mono fun e w' ⟨h1, F', h2, h3, h4⟩ =>
    ⟨h1, F', h2, h3, fun b hb => by
      rcases h4 b hb with h | h | h | h
      · exact .inl h
      · cases h
      · exact .inr (.inl (by simpa using h))
      · exact .inr (.inr h)⟩

theorem Rdr.rs {w : World} {p : Nat} {s : List Int} {PA : Option Addr} {pc i d : Nat} {out : List Nd} {F : List Nat} (h : Rdr w p s PA pc i d out F) : ∃ nv, Rs w p s PA pc i d nv ∧ ∀ w' i' d', Rs w' p s PA pc i' d' nv → Keep [p] w w' → Rdr w' p s PA pc i' d' out F := by
  obtain ⟨nv, xs, h1, h2, rfl⟩ := h
  exact ⟨nv, h1, fun w' i' d' hr hk => ⟨nv, xs, hr, h2.keep hk fun b hb hm => by simp at hb; have := (h2.range b hm).1; omega, rfl⟩⟩

set_option maxHeartbeats 1000000 in
set_option maxRecDepth 100000 in
theorem symbol_any (k : Int) (w : World) (p : Nat) (s : List Int) (PA : Option Addr) (pc i d : Nat) (out : List Nd) (F : List Nat) (h : Rdr w p s PA pc i d out F) (ho : out.length ≤ 100000) (hi : i ≤ 1005) :
    Calls Tryz.prog 211 #[.pointer (some ⟨p, 0, none⟩), .int .i64 k] w (Post w p s PA pc d F [] (.ok out.length (i + 1) (out ++ [plainNode k]))) := by
  obtain ⟨nv, hR, hback⟩ := h.rs
  obtain ⟨c0, c1, c2, c3⟩ := hR.cell
  have f1 := hR.frozen 1
  have K1 := Lib.hid (hR.keepSet 1 (.int .i64 ((i + 1 : Nat) : Int)))
  have R1 := Lib.hid (hback _ _ _ (hR.set1 (i + 1)) K1.out)
  have HP := Lib.hid h.range
  have hz0 : (i : Int) + 1 = ((i + 1 : Nat) : Int) := by omega
  obtain ⟨m, hm⟩ : ∃ m, i + 1 = m := ⟨_, rfl⟩
  rw [hm] at hz0 K1 R1 ⊢
  have cA := add_post (plainNode k) (.slice none 0 0) _ p s PA pc m d out F R1.out ho rfl (row_nil _ _) (fun b hb => by cases hb)
  simp only [plainNode] at cA
  clear hR hback h hm
  go_enter Tryz.func211, Tryz.ntmps211
  go_wp2_with fail
  refine cA.mono ?_
  rintro e w1 ⟨rfl, F', h2, h3, h4⟩
  have H := Lib.hid (And.intro h2 (And.intro h3 h4))
  clear h2 h3 h4 cA
  go_wp2
  go_ret
  obtain ⟨h2, h3, h4⟩ := H.out
  refine ⟨rfl, F', h2, (K1.out.mono fun b hb => by simp at hb; simp [hb]).tr h3, fun b hb => ?_⟩
  rcases h4 b hb with h | h | h
  · exact .inl h
  · cases h
  · exact .inr (.inr (by rw [setCell_size'] at h; exact h))

set_option maxHeartbeats 1000000 in
set_option maxRecDepth 100000 in
theorem joined_any (k : Int) (kids : List Int) (kv : Value) (w : World) (p : Nat) (s : List Int) (PA : Option Addr) (pc i d : Nat) (out : List Nd) (F : List Nat) (h : Rdr w p s PA pc i d out F) (ho : out.length ≤ 100000) (hkl : kids.length ≤ 100000)
    (hK : RowI w (p + 1) kv kids) (d2 : ∀ b, kv.ownBlock = some b → b ∉ F) :
    Calls Tryz.prog 172 #[.pointer (some ⟨p, 0, none⟩), .int .i64 k, kv] w (Post w p s PA pc d F kv.ownBlock.toList (joinR k kids i out)) := by
  obtain ⟨A, c, rfl⟩ := own_form hK
  by_cases h1 : kids.length = 1
  · match kids, h1 with
    | [n], _ =>
    obtain ⟨b, o, rfl, hb, hc⟩ := Nums.own hK 0 (by simp)
    simp at hc
    have H := Lib.hid h
    clear h hK d2
    go_enter Tryz.func172, Tryz.ntmps172
    go_wp2
    go_ret
    exact ⟨rfl, F, H.out, Keep.refl _ _, fun b hb => .inl hb⟩
  · have hj : joinR k kids i out = .ok out.length i (out ++ [manyNode k kids]) := by
      unfold joinR
      split
      · next n => exact absurd rfl h1
      · rfl
    have hz : ¬ (kids.length : Int) = 1 := by omega
    have cA := add_post (manyNode k kids) (.slice A kids.length c) w p s PA pc i d out F h ho rfl hK d2
    simp only [manyNode] at cA
    rw [hj]
    clear h hK d2 hj
    go_enter Tryz.func172, Tryz.ntmps172
    go_wp2_with fail
    refine cA.mono ?_
    rintro e w1 ⟨rfl, F', h2, h3, h4⟩
    have H := Lib.hid (And.intro h2 (And.intro h3 h4))
    clear h2 h3 h4 cA
    go_wp2
    go_ret
    exact ⟨rfl, F', H.out⟩

end Go.Proofs.YtdkjfppjbkdelaaGreatDoor

/- The program's reader of patterns: classEnds. No condition. -/
namespace Go.Proofs.YtdkjfppjbkdelaaGreatDoor
set_option linter.unusedVariables false
open Go.RowKit

/-- A list of ints in new memory. -/
def NewInts (l : List Int) (w : World) (e : Ending) (w' : World) : Prop := ∃ v, e = .returned v ∧ RowI w' w.heap.size v l ∧ Keep [] w w'

theorem new_ints (w : World) (l : List Int) (hl : l.length ≤ maxLen) : RowI (w.alloc (.cells (l.map (Value.int .i64)).toArray 3)) w.heap.size (.slice (some ⟨w.heap.size, 0, none⟩) l.length l.length) l :=
  ⟨by simp, .inr ⟨w.heap.size, l.length, (l.map (Value.int .i64)).toArray, rfl, Nat.le_refl _, heap_alloc_new w _, Nat.le_refl _, hl, by simp, by rw [Nat.mul_one, List.toList_toArray]; exact List.take_of_length_le (by simp)⟩⟩

set_option maxHeartbeats 1000000 in
set_option maxRecDepth 100000 in
theorem ends_alpha (w : World) : Calls Tryz.prog 232 #[.string ⟨#[97, 108, 112, 104, 97]⟩] w (NewInts [65, 90, 97, 122] w) := by
  go_enter Tryz.func232, Tryz.ntmps232
  go_wp2
  go_ret
  exact ⟨_, rfl, new_ints w [65, 90, 97, 122] (by decide), (Keep.refl [] w).alloc _⟩
set_option maxHeartbeats 1000000 in
set_option maxRecDepth 100000 in
theorem ends_digit (w : World) : Calls Tryz.prog 232 #[.string ⟨#[100, 105, 103, 105, 116]⟩] w (NewInts [48, 57] w) := by
  go_enter Tryz.func232, Tryz.ntmps232
  go_wp2
  go_ret
  exact ⟨_, rfl, new_ints w [48, 57] (by decide), (Keep.refl [] w).alloc _⟩
set_option maxHeartbeats 1000000 in
set_option maxRecDepth 100000 in
theorem ends_alnum (w : World) : Calls Tryz.prog 232 #[.string ⟨#[97, 108, 110, 117, 109]⟩] w (NewInts [48, 57, 65, 90, 97, 122] w) := by
  go_enter Tryz.func232, Tryz.ntmps232
  go_wp2
  go_ret
  exact ⟨_, rfl, new_ints w [48, 57, 65, 90, 97, 122] (by decide), (Keep.refl [] w).alloc _⟩
set_option maxHeartbeats 1000000 in
set_option maxRecDepth 100000 in
theorem ends_upper (w : World) : Calls Tryz.prog 232 #[.string ⟨#[117, 112, 112, 101, 114]⟩] w (NewInts [65, 90] w) := by
  go_enter Tryz.func232, Tryz.ntmps232
  go_wp2
  go_ret
  exact ⟨_, rfl, new_ints w [65, 90] (by decide), (Keep.refl [] w).alloc _⟩
set_option maxHeartbeats 1000000 in
set_option maxRecDepth 100000 in
theorem ends_lower (w : World) : Calls Tryz.prog 232 #[.string ⟨#[108, 111, 119, 101, 114]⟩] w (NewInts [97, 122] w) := by
  go_enter Tryz.func232, Tryz.ntmps232
  go_wp2
  go_ret
  exact ⟨_, rfl, new_ints w [97, 122] (by decide), (Keep.refl [] w).alloc _⟩
set_option maxHeartbeats 1000000 in
set_option maxRecDepth 100000 in
theorem ends_space (w : World) : Calls Tryz.prog 232 #[.string ⟨#[115, 112, 97, 99, 101]⟩] w (NewInts [9, 13, 32, 32] w) := by
  go_enter Tryz.func232, Tryz.ntmps232
  go_wp2
  go_ret
  exact ⟨_, rfl, new_ints w [9, 13, 32, 32] (by decide), (Keep.refl [] w).alloc _⟩
set_option maxHeartbeats 1000000 in
set_option maxRecDepth 100000 in
theorem ends_blank (w : World) : Calls Tryz.prog 232 #[.string ⟨#[98, 108, 97, 110, 107]⟩] w (NewInts [9, 9, 32, 32] w) := by
  go_enter Tryz.func232, Tryz.ntmps232
  go_wp2
  go_ret
  exact ⟨_, rfl, new_ints w [9, 9, 32, 32] (by decide), (Keep.refl [] w).alloc _⟩
set_option maxHeartbeats 1000000 in
set_option maxRecDepth 100000 in
theorem ends_punct (w : World) : Calls Tryz.prog 232 #[.string ⟨#[112, 117, 110, 99, 116]⟩] w (NewInts [33, 47, 58, 64, 91, 96, 123, 126] w) := by
  go_enter Tryz.func232, Tryz.ntmps232
  go_wp2
  go_ret
  exact ⟨_, rfl, new_ints w [33, 47, 58, 64, 91, 96, 123, 126] (by decide), (Keep.refl [] w).alloc _⟩
set_option maxHeartbeats 1000000 in
set_option maxRecDepth 100000 in
theorem ends_xdigit (w : World) : Calls Tryz.prog 232 #[.string ⟨#[120, 100, 105, 103, 105, 116]⟩] w (NewInts [48, 57, 65, 70, 97, 102] w) := by
  go_enter Tryz.func232, Tryz.ntmps232
  go_wp2
  go_ret
  exact ⟨_, rfl, new_ints w [48, 57, 65, 70, 97, 102] (by decide), (Keep.refl [] w).alloc _⟩

set_option maxHeartbeats 1000000 in
set_option maxRecDepth 100000 in
theorem ends_none (t : ByteArray) (w : World) (h0 : (t.toList == [97, 108, 112, 104, 97]) = false) (h1 : (t.toList == [100, 105, 103, 105, 116]) = false) (h2 : (t.toList == [97, 108, 110, 117, 109]) = false) (h3 : (t.toList == [117, 112, 112, 101, 114]) = false) (h4 : (t.toList == [108, 111, 119, 101, 114]) = false) (h5 : (t.toList == [115, 112, 97, 99, 101]) = false) (h6 : (t.toList == [98, 108, 97, 110, 107]) = false) (h7 : (t.toList == [112, 117, 110, 99, 116]) = false) (h8 : (t.toList == [120, 100, 105, 103, 105, 116]) = false) : Calls Tryz.prog 232 #[.string t] w (NewInts [] w) := by
  go_enter Tryz.func232, Tryz.ntmps232
  go_wp2
  go_ret
  exact ⟨_, rfl, row_nil _ _, Keep.refl _ _⟩

def bi (b : UInt8) : Int := b.toNat
theorem bi_inj {a b : List UInt8} (h : a.map bi = b.map bi) : a = b := by
  induction a generalizing b with
  | nil => cases b <;> simp_all
  | cons x r ih =>
    cases b with
    | nil => simp at h
    | cons y q =>
      simp only [List.map_cons, List.cons.injEq] at h
      rw [ih h.2]
      have : x.toNat = y.toNat := by have := h.1; unfold bi at this; omega
      rw [UInt8.toNat_inj.1 this]
theorem list_ba (bs : List UInt8) : (⟨bs.toArray⟩ : ByteArray).toList = bs := by rw [ByteArray.toList_eq]
theorem ba_eq {bs l : List UInt8} (h : bs = l) : (⟨bs.toArray⟩ : ByteArray) = ⟨l.toArray⟩ := by rw [h]

set_option maxRecDepth 100000 in
theorem classEnds_any (bs : List UInt8) (w : World) : Calls Tryz.prog 232 #[.string ⟨bs.toArray⟩] w (NewInts (classOf (bs.map bi)) w) := by
  have no : ∀ l : List UInt8, ¬ bs = l → ((⟨bs.toArray⟩ : ByteArray).toList == l) = false := fun l h => by rw [list_ba, beq_eq_false_iff_ne]; exact h
  by_cases h0 : bs = [97, 108, 112, 104, 97]
  · rw [h0]
    have e : classOf (([97, 108, 112, 104, 97] : List UInt8).map bi) = [65, 90, 97, 122] := by decide
    rw [e]
    exact ends_alpha w
  by_cases h1 : bs = [100, 105, 103, 105, 116]
  · rw [h1]
    have e : classOf (([100, 105, 103, 105, 116] : List UInt8).map bi) = [48, 57] := by decide
    rw [e]
    exact ends_digit w
  by_cases h2 : bs = [97, 108, 110, 117, 109]
  · rw [h2]
    have e : classOf (([97, 108, 110, 117, 109] : List UInt8).map bi) = [48, 57, 65, 90, 97, 122] := by decide
    rw [e]
    exact ends_alnum w
  by_cases h3 : bs = [117, 112, 112, 101, 114]
  · rw [h3]
    have e : classOf (([117, 112, 112, 101, 114] : List UInt8).map bi) = [65, 90] := by decide
    rw [e]
    exact ends_upper w
  by_cases h4 : bs = [108, 111, 119, 101, 114]
  · rw [h4]
    have e : classOf (([108, 111, 119, 101, 114] : List UInt8).map bi) = [97, 122] := by decide
    rw [e]
    exact ends_lower w
  by_cases h5 : bs = [115, 112, 97, 99, 101]
  · rw [h5]
    have e : classOf (([115, 112, 97, 99, 101] : List UInt8).map bi) = [9, 13, 32, 32] := by decide
    rw [e]
    exact ends_space w
  by_cases h6 : bs = [98, 108, 97, 110, 107]
  · rw [h6]
    have e : classOf (([98, 108, 97, 110, 107] : List UInt8).map bi) = [9, 9, 32, 32] := by decide
    rw [e]
    exact ends_blank w
  by_cases h7 : bs = [112, 117, 110, 99, 116]
  · rw [h7]
    have e : classOf (([112, 117, 110, 99, 116] : List UInt8).map bi) = [33, 47, 58, 64, 91, 96, 123, 126] := by decide
    rw [e]
    exact ends_punct w
  by_cases h8 : bs = [120, 100, 105, 103, 105, 116]
  · rw [h8]
    have e : classOf (([120, 100, 105, 103, 105, 116] : List UInt8).map bi) = [48, 57, 65, 70, 97, 102] := by decide
    rw [e]
    exact ends_xdigit w
  have e : classOf (bs.map bi) = [] := by
    have ne : ∀ l : List UInt8, ¬ bs = l → ¬ bs.map bi = l.map bi := fun l h e => h (bi_inj e)
    unfold classOf
    rw [if_neg (show ¬ bs.map bi = [97, 108, 112, 104, 97] from ne [97, 108, 112, 104, 97] h0)]
    rw [if_neg (show ¬ bs.map bi = [100, 105, 103, 105, 116] from ne [100, 105, 103, 105, 116] h1)]
    rw [if_neg (show ¬ bs.map bi = [97, 108, 110, 117, 109] from ne [97, 108, 110, 117, 109] h2)]
    rw [if_neg (show ¬ bs.map bi = [117, 112, 112, 101, 114] from ne [117, 112, 112, 101, 114] h3)]
    rw [if_neg (show ¬ bs.map bi = [108, 111, 119, 101, 114] from ne [108, 111, 119, 101, 114] h4)]
    rw [if_neg (show ¬ bs.map bi = [115, 112, 97, 99, 101] from ne [115, 112, 97, 99, 101] h5)]
    rw [if_neg (show ¬ bs.map bi = [98, 108, 97, 110, 107] from ne [98, 108, 97, 110, 107] h6)]
    rw [if_neg (show ¬ bs.map bi = [112, 117, 110, 99, 116] from ne [112, 117, 110, 99, 116] h7)]
    rw [if_neg (show ¬ bs.map bi = [120, 100, 105, 103, 105, 116] from ne [120, 100, 105, 103, 105, 116] h8)]
  rw [e]
  exact ends_none _ w (no _ h0) (no _ h1) (no _ h2) (no _ h3) (no _ h4) (no _ h5) (no _ h6) (no _ h7) (no _ h8)

end Go.Proofs.YtdkjfppjbkdelaaGreatDoor

/- The program's reader of patterns: times, braces, repetition. Conditions: at most 1000 code points. -/
namespace Go.Proofs.YtdkjfppjbkdelaaGreatDoor
set_option linter.unusedVariables false
open Go.RowKit

/-- Where the reader at block p stands. -/
def atOf (p : Nat) (w : World) : Nat := match w.cell? ⟨p, 1, none⟩ with | some (.int _ x) => x.toNat | _ => 0
theorem Rs.atOf {w : World} {p : Nat} {s : List Int} {PA : Option Addr} {pc i d : Nat} {nv : Value} (h : Rs w p s PA pc i d nv) : atOf p w = i := by
  unfold Go.Proofs.YtdkjfppjbkdelaaGreatDoor.atOf
  rw [h.cell.2.1]
  simp

theorem digs_big {s : List Int} : ∀ {f a : Nat} {n : Int}, 60 < n → (digs s f a n).1 = n
  | 0, a, n, h => rfl
  | f + 1, a, n, h => by
    rw [digs]
    split
    · rw [if_neg (by omega)]; exact digs_big h
    · rfl

def TimesRel (s : List Int) (i : Nat) (w : World) (p : Nat) (PA : Option Addr) (pc d : Nat) (nv : Value) (v : Value) (wr : World) : Prop :=
  ∃ (n : Int) (a f : Nat), v = .int .i64 n ∧ i ≤ a ∧ a ≤ s.length ∧ s.length < a + f ∧ digs s f a n = digs s (s.length + 1) i 0 ∧ 0 ≤ n ∧ n ≤ 609 ∧ Keep [p] w wr ∧ Rs wr p s PA pc a d nv

theorem numR_digs {s : List Int} {i : Nat} {n : Int} {a : Nat} (h : digs s (s.length + 1) i 0 = (n, a)) : numR s i = if i < a ∧ n ≤ 60 ∧ ¬ (pk s i = 48 ∧ i + 1 < a) then some (n, a) else none := by
  unfold numR
  rw [h]
theorem numR_big {s : List Int} {i : Nat} {n : Int} {f a : Nat} (h : digs s f a n = digs s (s.length + 1) i 0) (hn : 60 < n) : numR s i = none := by
  unfold numR
  rw [if_neg]
  rw [← h, digs_big hn]
  omega

/-- What reading a number of times leaves. -/
def TimesIs (w : World) (p : Nat) (s : List Int) (PA : Option Addr) (pc i d : Nat) (nv : Value) (e : Ending) (w' : World) : Prop :=
  ∃ (n' : Int) (j' : Nat), e = .returned (.tuple #[.int .i64 n', .bool (numR s i).isSome]) ∧ Keep [p] w w' ∧ Rs w' p s PA pc j' d nv ∧ j' ≤ s.length ∧ ∀ n j, numR s i = some (n, j) → n' = n ∧ j' = j

theorem tup_is {n : Int} {b c : Bool} (h : b = c) : Ending.returned (.tuple #[.int .i64 n, .bool b]) = Ending.returned (.tuple #[.int .i64 n, .bool c]) := by rw [h]

set_option maxHeartbeats 4000000 in
set_option maxRecDepth 100000 in
theorem times_any (w : World) (p : Nat) (s : List Int) (PA : Option Addr) (pc i d : Nat) (nv : Value) (h : Rs w p s PA pc i d nv) (hs : s.length ≤ 1000) (hi : i ≤ s.length) (hP : Pos s) :
    Calls Tryz.prog 224 #[.pointer (some ⟨p, 0, none⟩)] w (TimesIs w p s PA pc i d nv) := by
  obtain ⟨c0, c1, c2, c3⟩ := h.cell
  have HR := Lib.hid h
  clear h
  go_enter Tryz.func224, Tryz.ntmps224
  go_wp2
  go_loopw [5] (TimesRel s i w p PA pc d nv) (fun _ wr => s.length - atOf p wr)
  case atStart => exact ⟨0, i, s.length + 1, rfl, Nat.le_refl _, hi, by omega, rfl, by omega, by omega, Keep.refl _ _, HR.out⟩
  case round =>
    obtain ⟨n, a, f, rfl, hia, hal, hf, hd, n0, n1, hk, hr⟩ := hrel
    have HM := Lib.hid hr.atOf
    clear c0 c1 c2 c3
    obtain ⟨f, rfl⟩ : ∃ g, f = g + 1 := ⟨f - 1, by omega⟩
    rw [digs] at hd
    obtain ⟨x, hx⟩ : ∃ x, pk s a = x := ⟨_, rfl⟩
    have HX := Lib.hid hx
    have hxb := hP.bound a
    rw [hx] at hd hxb
    have x0 := hxb.1
    have x1 := hxb.2
    have HK := Lib.hid hk
    clear hx hxb hk
    have cA := ahead0 wr p s PA pc a d nv hr hs (by omega)
    rw [HX.out] at cA
    have HRr := Lib.hid hr
    have HDD := Lib.hid hd
    clear hr hd
    go_wp2_with fail
    refine cA.mono ?_
    rintro e w1 ⟨rfl, k1, r1⟩
    have K1 := Lib.hid (HK.out.tr k1.nil)
    have R1 := Lib.hid r1
    clear cA k1 r1
    go_wp2_with fail
    refine (isDigit_any x _).mono ?_
    rintro e w1' ⟨rfl, rfl⟩
    cases hdg : isDig x with
    | true =>
      have hdd := HDD.out
      rw [if_pos (by rw [hdg])] at hdd
      by_cases h60 : n ≤ 60
      · rw [if_pos h60] at hdd
        have HD := Lib.hid hdd
        have hxd : 48 ≤ x ∧ x ≤ 57 := by simpa [isDig] using hdg
        have xd0 := hxd.1
        have xd1 := hxd.2
        have hal' : a < s.length := lt_of_pk (by rw [HX.out]; omega)
        have HA := Lib.hid hal'
        clear hdd hxd hdg hal'
        have cA := ahead0 w1 p s PA pc a d nv R1.out hs (by omega)
        rw [HX.out] at cA
        go_wp2_with fail
        refine cA.mono ?_
        rintro e w2 ⟨rfl, k2, r2⟩
        obtain ⟨c0, c1, c2, c3⟩ := r2.cell
        have f1 := r2.frozen 1
        have R2 := Lib.hid (r2.set1 (a + 1))
        have K2 := Lib.hid ((K1.out.tr (k2.nil (G := [p]))).setCell (p := p) (j := 1) (.inl (by simp)) (.int .i64 ((a + 1 : Nat) : Int)))
        have hz0 : (a : Int) + 1 = ((a + 1 : Nat) : Int) := by omega
        obtain ⟨m, hm⟩ : ∃ m, a + 1 = m := ⟨_, rfl⟩
        rw [hm] at hz0 R2 K2
        rw [hm] at HD
        have HM2 := Lib.hid hm
        clear cA k2 r2 hm
        obtain ⟨y, hy⟩ : ∃ y, 10 * n + x - 48 = y := ⟨_, rfl⟩
        have hy0 : 0 ≤ y := by omega
        have hy1 : y ≤ 609 := by omega
        rw [hy] at HD
        go_wp2
        go_roundw
        case rel => exact ⟨y, m, f, by first | rfl | (congr 1), by have := HM2.out; omega, by have := HM2.out; have := HA.out; omega, by have := HM2.out; omega, HD.out, hy0, hy1, K2.out, R2.out⟩
        case measure => rw [R2.out.atOf, HM.out]; have := HM2.out; have := HA.out; omega
      · have hn := numR_big (s := s) (i := i) (f := f + 1) (a := a) (n := n) (by rw [digs, HX.out]; exact HDD.out) (by omega)
        have HN := Lib.hid hn
        obtain ⟨c0, c1, c2, c3⟩ := R1.out.cell
        have hsz : (a : Int) - i = ((a - i : Nat) : Int) := by omega
        obtain ⟨z, hz⟩ : ∃ z, a - i = z := ⟨_, rfl⟩
        rw [hz] at hsz
        have HZ := Lib.hid hz
        clear hn hdd hdg hz HDD
        by_cases hz1 : z ≤ 1
        · have hzi : ¬ (1 : Int) < z := by omega
          by_cases hz0 : z = 0
          · have hzj : ¬ (0 : Int) < z := by omega
            go_wp2
            go_ret2
            exact ⟨n, a, by rw [HN.out]; exact tup_is (by first | rfl | (simp; done) | (simp; omega) | (simp [hy48]; done) | (simp [hy48]; omega)), K1.out, R1.out, hal, fun _ _ e => by rw [HN.out] at e; cases e⟩
          · have hzj : (0 : Int) < z := by omega
            go_wp2
            go_ret2
            exact ⟨n, a, by rw [HN.out]; exact tup_is (by first | rfl | (simp; done) | (simp; omega) | (simp [hy48]; done) | (simp [hy48]; omega)), K1.out, R1.out, hal, fun _ _ e => by rw [HN.out] at e; cases e⟩
        · have hzi : (1 : Int) < z := by omega
          have hzj : (0 : Int) < z := by omega
          obtain ⟨b, o, rfl, hb, hc⟩ := R1.out.nums i (by have := HZ.out; omega)
          have hil : i < s.length := by have := HZ.out; omega
          obtain ⟨y, hy⟩ : ∃ y, s[i] = y := ⟨_, rfl⟩
          rw [hy] at hc
          clear hy
          by_cases hy48 : y = 48
          · go_wp2
            go_ret2
            exact ⟨n, a, by rw [HN.out]; exact tup_is (by first | rfl | (simp; done) | (simp; omega) | (simp [hy48]; done) | (simp [hy48]; omega)), K1.out, R1.out, hal, fun _ _ e => by rw [HN.out] at e; cases e⟩
          · go_wp2
            go_ret2
            exact ⟨n, a, by rw [HN.out]; exact tup_is (by first | rfl | (simp; done) | (simp; omega) | (simp [hy48]; done) | (simp [hy48]; omega)), K1.out, R1.out, hal, fun _ _ e => by rw [HN.out] at e; cases e⟩
    | false =>
      have hdd := HDD.out
      rw [if_neg (by rw [hdg]; simp)] at hdd
      have hn := numR_digs hdd.symm
      have HN := Lib.hid hn
      obtain ⟨c0, c1, c2, c3⟩ := R1.out.cell
      have hsz : (a : Int) - i = ((a - i : Nat) : Int) := by omega
      obtain ⟨z, hz⟩ : ∃ z, a - i = z := ⟨_, rfl⟩
      rw [hz] at hsz
      have HZ := Lib.hid hz
      clear hn hdd hdg hz HDD
      by_cases hz1 : z ≤ 1
      · have hzi : ¬ (1 : Int) < z := by omega
        by_cases hz0 : z = 0
        · have hzj : ¬ (0 : Int) < z := by omega
          have hN : numR s i = none := by rw [HN.out, if_neg (by have := HZ.out; omega)]
          have HN2 := Lib.hid hN
          clear hN
          go_wp2
          go_ret2
          exact ⟨n, a, by rw [HN2.out]; exact tup_is (by first | rfl | (simp; done) | (simp; omega) | (simp [hy48]; done) | (simp [hy48]; omega)), K1.out, R1.out, hal, fun _ _ e => by rw [HN2.out] at e; cases e⟩
        · have hzj : (0 : Int) < z := by omega
          by_cases h60 : n ≤ 60
          · have hN : numR s i = some (n, a) := by rw [HN.out, if_pos (by have := HZ.out; omega)]
            have HN2 := Lib.hid hN
            clear hN
            go_wp2
            go_ret2
            exact ⟨n, a, by rw [HN2.out]; exact tup_is (by first | rfl | (simp; done) | (simp; omega) | (simp [hy48]; done) | (simp [hy48]; omega)), K1.out, R1.out, hal, fun _ _ e => by rw [HN2.out] at e; cases e; exact ⟨rfl, rfl⟩⟩
          · have hN : numR s i = none := by rw [HN.out, if_neg (by omega)]
            have HN2 := Lib.hid hN
            clear hN
            go_wp2
            go_ret2
            exact ⟨n, a, by rw [HN2.out]; exact tup_is (by first | rfl | (simp; done) | (simp; omega) | (simp [hy48]; done) | (simp [hy48]; omega)), K1.out, R1.out, hal, fun _ _ e => by rw [HN2.out] at e; cases e⟩
      · have hzi : (1 : Int) < z := by omega
        have hzj : (0 : Int) < z := by omega
        have hil : i < s.length := by have := HZ.out; omega
        obtain ⟨b, o, rfl, hb, hc⟩ := R1.out.nums i hil
        obtain ⟨y, hy⟩ : ∃ y, s[i] = y := ⟨_, rfl⟩
        have HY : Hid (pk s i = y) := (pk_lt hil).trans hy
        rw [hy] at hc
        clear hy
        by_cases hy48 : y = 48
        · have hN : numR s i = none := by rw [HN.out, if_neg (by have := HZ.out; have := HY.out; omega)]
          have HN2 := Lib.hid hN
          clear hN
          go_wp2
          go_ret2
          exact ⟨n, a, by rw [HN2.out]; exact tup_is (by first | rfl | (simp; done) | (simp; omega) | (simp [hy48]; done) | (simp [hy48]; omega)), K1.out, R1.out, hal, fun _ _ e => by rw [HN2.out] at e; cases e⟩
        · by_cases h60 : n ≤ 60
          · have hN : numR s i = some (n, a) := by rw [HN.out, if_pos (by have := HZ.out; have := HY.out; omega)]
            have HN2 := Lib.hid hN
            clear hN
            go_wp2
            go_ret2
            exact ⟨n, a, by rw [HN2.out]; exact tup_is (by first | rfl | (simp; done) | (simp; omega) | (simp [hy48]; done) | (simp [hy48]; omega)), K1.out, R1.out, hal, fun _ _ e => by rw [HN2.out] at e; cases e; exact ⟨rfl, rfl⟩⟩
          · have hN : numR s i = none := by rw [HN.out, if_neg (by omega)]
            have HN2 := Lib.hid hN
            clear hN
            go_wp2
            go_ret2
            exact ⟨n, a, by rw [HN2.out]; exact tup_is (by first | rfl | (simp; done) | (simp; omega) | (simp [hy48]; done) | (simp [hy48]; omega)), K1.out, R1.out, hal, fun _ _ e => by rw [HN2.out] at e; cases e⟩

end Go.Proofs.YtdkjfppjbkdelaaGreatDoor

/- The program's reader of patterns: braces, repetition. Conditions: at most 1000 code points. -/
namespace Go.Proofs.YtdkjfppjbkdelaaGreatDoor
set_option linter.unusedVariables false
open Go.RowKit

def BracesIs (w : World) (p : Nat) (s : List Int) (PA : Option Addr) (pc i d : Nat) (nv : Value) (e : Ending) (w' : World) : Prop :=
  match timesR s i with
  | some (lo, hi, j) => e = .returned (.tuple #[.int .i64 lo, .int .i64 hi]) ∧ Keep [p] w w' ∧ Rs w' p s PA pc j d nv
  | none => e = .panicked [{ v := .iface 141 (.agg #[.int .i64 i, .int .i64 5]), recovered := false }] ∧ Keep [p] w w'
theorem BracesIs.no {w : World} {p : Nat} {s : List Int} {PA : Option Addr} {pc i d : Nat} {nv : Value} {w' : World} (h : timesR s i = none) (hk : Keep [p] w w') : BracesIs w p s PA pc i d nv (.panicked [{ v := .iface 141 (.agg #[.int .i64 i, .int .i64 5]), recovered := false }]) w' := by
  unfold BracesIs; rw [h]; exact ⟨rfl, hk⟩
theorem BracesIs.yes {w : World} {p : Nat} {s : List Int} {PA : Option Addr} {pc i d : Nat} {nv : Value} {w' : World} {lo hi : Int} {j : Nat} {e : Ending} (h : timesR s i = some (lo, hi, j)) (he : e = .returned (.tuple #[.int .i64 lo, .int .i64 hi])) (hk : Keep [p] w w') (hr : Rs w' p s PA pc j d nv) : BracesIs w p s PA pc i d nv e w' := by
  unfold BracesIs; rw [h]; exact ⟨he, hk, hr⟩

section
variable {s : List Int} {i j k : Nat} {lo hi : Int}
theorem tm_none (h : numR s (i + 1) = none) : timesR s i = none := by unfold timesR; rw [h]
theorem tm_open (h : numR s (i + 1) = some (lo, j)) (h1 : pk s j = 44) (h2 : pk s (j + 1) = 125) : timesR s i = some (lo, -1, j + 2) := by unfold timesR; rw [h]; simp only; rw [if_pos h1, if_pos h2]
theorem tm_none2 (h : numR s (i + 1) = some (lo, j)) (h1 : pk s j = 44) (h2 : pk s (j + 1) ≠ 125) (h3 : numR s (j + 1) = none) : timesR s i = none := by unfold timesR; rw [h]; simp only; rw [if_pos h1, if_neg h2, h3]
theorem tm_two (h : numR s (i + 1) = some (lo, j)) (h1 : pk s j = 44) (h2 : pk s (j + 1) ≠ 125) (h3 : numR s (j + 1) = some (hi, k)) : timesR s i = if lo ≤ hi ∧ pk s k = 125 then some (lo, hi, k + 1) else none := by unfold timesR; rw [h]; simp only; rw [if_pos h1, if_neg h2, h3]
theorem tm_one (h : numR s (i + 1) = some (lo, j)) (h1 : pk s j ≠ 44) : timesR s i = if pk s j = 125 then some (lo, lo, j + 1) else none := by unfold timesR; rw [h]; simp only; rw [if_neg h1]
end

set_option maxHeartbeats 4000000 in
set_option maxRecDepth 100000 in
theorem braces_any (w : World) (p : Nat) (s : List Int) (PA : Option Addr) (pc i d : Nat) (nv : Value) (h : Rs w p s PA pc i d nv) (hs : s.length ≤ 1000) (hi : i < s.length) (hP : Pos s) : Calls Tryz.prog 213 #[.pointer (some ⟨p, 0, none⟩)] w (BracesIs w p s PA pc i d nv) := by
  obtain ⟨c0, c1, c2, c3⟩ := h.cell
  have f1 := h.frozen 1
  have K0 := Lib.hid (h.keepSet 1 (.int .i64 ((i + 1 : Nat) : Int)))
  have R0 := Lib.hid (h.set1 (i + 1))
  have hz0 : (i : Int) + 1 = ((i + 1 : Nat) : Int) := by omega
  obtain ⟨m, hm⟩ : ∃ m, i + 1 = m := ⟨_, rfl⟩
  rw [hm] at hz0 K0 R0
  have HM := Lib.hid hm
  have hml : m ≤ s.length := by omega
  clear h hm
  go_enter Tryz.func213, Tryz.ntmps213
  go_wp2_with fail
  refine (times_any _ p s PA pc m d nv R0.out hs hml hP).mono ?_
  rintro e w1 ⟨lo, j, rfl, k1, r1, hj, hn⟩
  have K1 := Lib.hid (K0.out.tr k1)
  have R1 := Lib.hid r1
  clear k1 r1 c0 c1 c2 c3 f1
  cases hN : numR s m with
  | none =>
    have HT : Hid (timesR s i = none) := tm_none (by rw [HM.out]; exact hN)
    simp only [Option.isSome]
    clear hN hn
    go_wp2
    exact ⟨rfl, BracesIs.no HT.out K1.out⟩
  | some nj =>
    obtain ⟨lo', j'⟩ := nj
    obtain ⟨rfl, rfl⟩ := hn lo' j' hN
    have HN : Hid (numR s (i + 1) = some (lo, j)) := by rw [← HM.out] at hN; exact hN
    have hlo := numR_place hN
    have l0 := hlo.2.2.1
    have l1 := hlo.2.2.2
    simp only [Option.isSome]
    clear hN hn hlo
    by_cases h44 : pk s j = 44
    · go_wp2_with fail
      refine (take_yes 44 _ p s PA pc j d nv R1.out hs (by omega) h44).mono ?_
      rintro e w2 ⟨rfl, k2, r2⟩
      have K2 := Lib.hid (K1.out.tr k2)
      have R2 := Lib.hid r2
      clear k2 r2
      by_cases h125 : pk s (j + 1) = 125
      · have HT : Hid (timesR s i = some (lo, -1, j + 2)) := tm_open HN.out h44 h125
        have HJ := Lib.hid h125
        have H4 := Lib.hid h44
        clear h125 h44
        go_wp2_with fail
        refine (ahead0 _ p s PA pc (j + 1) d nv R2.out hs (by omega)).mono ?_
        rintro e w3 ⟨rfl, k3, r3⟩
        rw [HJ.out]
        have K3 := Lib.hid (K2.out.tr k3.nil)
        have R3 := Lib.hid r3
        clear k3 r3
        go_wp2_with fail
        refine (take_yes 125 _ p s PA pc (j + 1) d nv R3.out hs (by omega) HJ.out).mono ?_
        rintro e w4 ⟨rfl, k4, r4⟩
        have K4 := Lib.hid (K3.out.tr k4)
        have R4 := Lib.hid r4
        clear k4 r4
        go_wp2
        go_ret2
        exact BracesIs.yes HT.out rfl K4.out R4.out
      · have H5 := Lib.hid h125
        have H4 := Lib.hid h44
        have hjl : j + 1 ≤ s.length := lt_of_pk (s := s) (i := j) (by omega)
        obtain ⟨y, hy⟩ : ∃ y, pk s (j + 1) = y := ⟨_, rfl⟩
        have hy5 : ¬ y = 125 := by rw [← hy]; exact h125
        have HY := Lib.hid hy
        clear h125 h44 hy
        go_wp2_with fail
        refine (ahead0 _ p s PA pc (j + 1) d nv R2.out hs (by omega)).mono ?_
        rintro e w3 ⟨rfl, k3, r3⟩
        rw [HY.out]
        have K3 := Lib.hid (K2.out.tr k3.nil)
        have R3 := Lib.hid r3
        clear k3 r3
        go_wp2_with fail
        refine (times_any _ p s PA pc (j + 1) d nv R3.out hs hjl hP).mono ?_
        rintro e w4 ⟨hi2, k, rfl, k4, r4, hk, hn2⟩
        have K4 := Lib.hid (K3.out.tr k4)
        have R4 := Lib.hid r4
        clear k4 r4
        cases hN2 : numR s (j + 1) with
        | none =>
          have HT : Hid (timesR s i = none) := tm_none2 HN.out H4.out H5.out hN2
          simp only [Option.isSome]
          clear hN2 hn2
          go_wp2
          exact ⟨rfl, BracesIs.no HT.out K4.out⟩
        | some nk =>
          obtain ⟨hi', k'⟩ := nk
          obtain ⟨rfl, rfl⟩ := hn2 hi' k' hN2
          have HT := Lib.hid (tm_two HN.out H4.out H5.out hN2)
          simp only [Option.isSome]
          clear hN2 hn2
          by_cases hle : lo ≤ hi2
          · by_cases hc : pk s k = 125
            · have HT2 : Hid (timesR s i = some (lo, hi2, k + 1)) := by show timesR s i = _; rw [HT.out, if_pos ⟨hle, hc⟩]
              have HC := Lib.hid hc
              clear HT hc
              go_wp2_with fail
              refine (take_yes 125 _ p s PA pc k d nv R4.out hs (by omega) HC.out).mono ?_
              rintro e w5 ⟨rfl, k5, r5⟩
              have K5 := Lib.hid (K4.out.tr k5)
              have R5 := Lib.hid r5
              clear k5 r5
              go_wp2
              go_ret2
              exact BracesIs.yes HT2.out rfl K5.out R5.out
            · have HT2 : Hid (timesR s i = none) := by show timesR s i = _; rw [HT.out, if_neg (fun h => hc h.2)]
              have HC := Lib.hid hc
              clear HT hc
              go_wp2_with fail
              refine (take_no 125 _ p s PA pc k d nv R4.out hs (by omega) HC.out).mono ?_
              rintro e w5 ⟨rfl, k5, r5⟩
              have K5 := Lib.hid (K4.out.tr k5.nil)
              clear k5 r5
              go_wp2
              exact ⟨rfl, BracesIs.no HT2.out K5.out⟩
          · have HT2 : Hid (timesR s i = none) := by show timesR s i = _; rw [HT.out, if_neg (fun h => hle h.1)]
            clear HT
            go_wp2
            exact ⟨rfl, BracesIs.no HT2.out K4.out⟩
    · have HT := Lib.hid (tm_one HN.out h44)
      have H4 := Lib.hid h44
      clear h44
      go_wp2_with fail
      refine (take_no 44 _ p s PA pc j d nv R1.out hs (by omega) H4.out).mono ?_
      rintro e w2 ⟨rfl, k2, r2⟩
      have K2 := Lib.hid (K1.out.tr k2.nil)
      have R2 := Lib.hid r2
      clear k2 r2
      by_cases hc : pk s j = 125
      · have HT2 : Hid (timesR s i = some (lo, lo, j + 1)) := by show timesR s i = _; rw [HT.out, if_pos hc]
        have HC := Lib.hid hc
        clear HT hc
        go_wp2_with fail
        refine (take_yes 125 _ p s PA pc j d nv R2.out hs (by omega) HC.out).mono ?_
        rintro e w5 ⟨rfl, k5, r5⟩
        have K5 := Lib.hid (K2.out.tr k5)
        have R5 := Lib.hid r5
        clear k5 r5
        go_wp2
        go_ret2
        exact BracesIs.yes HT2.out rfl K5.out R5.out
      · have HT2 : Hid (timesR s i = none) := by show timesR s i = _; rw [HT.out, if_neg hc]
        have HC := Lib.hid hc
        clear HT hc
        go_wp2_with fail
        refine (take_no 125 _ p s PA pc j d nv R2.out hs (by omega) HC.out).mono ?_
        rintro e w5 ⟨rfl, k5, r5⟩
        have K5 := Lib.hid (K2.out.tr k5.nil)
        clear k5 r5
        go_wp2
        exact ⟨rfl, BracesIs.no HT2.out K5.out⟩

def RepIs (w : World) (p : Nat) (s : List Int) (PA : Option Addr) (pc i d : Nat) (nv : Value) (e : Ending) (w' : World) : Prop :=
  match repR s i with
  | .no => e = .returned (.tuple #[.int .i64 0, .int .i64 0, .bool false]) ∧ Keep [p] w w' ∧ Rs w' p s PA pc i d nv
  | .bad => e = .panicked [{ v := .iface 141 (.agg #[.int .i64 i, .int .i64 5]), recovered := false }] ∧ Keep [p] w w'
  | .yes lo hi j => e = .returned (.tuple #[.int .i64 lo, .int .i64 hi, .bool true]) ∧ Keep [p] w w' ∧ Rs w' p s PA pc j d nv
section
variable {w w' : World} {p : Nat} {s : List Int} {PA : Option Addr} {pc i d j : Nat} {nv : Value} {lo hi : Int} {e : Ending}
theorem RepIs.no (h : repR s i = .no) (he : e = .returned (.tuple #[.int .i64 0, .int .i64 0, .bool false])) (hk : Keep [p] w w') (hr : Rs w' p s PA pc i d nv) : RepIs w p s PA pc i d nv e w' := by unfold RepIs; rw [h]; exact ⟨he, hk, hr⟩
theorem RepIs.bad (h : repR s i = .bad) (hk : Keep [p] w w') : RepIs w p s PA pc i d nv (.panicked [{ v := .iface 141 (.agg #[.int .i64 i, .int .i64 5]), recovered := false }]) w' := by unfold RepIs; rw [h]; exact ⟨rfl, hk⟩
theorem RepIs.yes (h : repR s i = .yes lo hi j) (he : e = .returned (.tuple #[.int .i64 lo, .int .i64 hi, .bool true])) (hk : Keep [p] w w') (hr : Rs w' p s PA pc j d nv) : RepIs w p s PA pc i d nv e w' := by unfold RepIs; rw [h]; exact ⟨he, hk, hr⟩
end

theorem results_tmp3 {fn : Func} {a b c : Tmp} (h : fn.results = #[.tmp a, .tmp b, .tmp c]) (tmps : Array Value) (P : Program) (w : World) :
    (results fn tmps).run P w = .ok (.tuple #[tmps.getD a undef, tmps.getD b undef, tmps.getD c undef]) w := by
  simp [results, h]

set_option maxHeartbeats 4000000 in
set_option maxRecDepth 100000 in
theorem repetition_any (w : World) (p : Nat) (s : List Int) (PA : Option Addr) (pc i d : Nat) (nv : Value) (h : Rs w p s PA pc i d nv) (hs : s.length ≤ 1000) (hi : i ≤ s.length) (hP : Pos s) : Calls Tryz.prog 201 #[.pointer (some ⟨p, 0, none⟩)] w (RepIs w p s PA pc i d nv) := by
  have HR := Lib.hid h
  clear h
  go_enter Tryz.func201, Tryz.ntmps201
  by_cases h1 : pk s i = 42
  · have HT : Hid (repR s i = .yes 0 (-1) (i + 1)) := by show repR s i = _; unfold repR; rw [if_pos h1]
    go_wp2_with fail
    refine (take_yes 42 _ p s PA pc i d nv HR.out hs (by omega) h1).mono ?_
    rintro e w1 ⟨rfl, k1, r1⟩
    have H := Lib.hid (And.intro k1 r1)
    clear k1 r1 h1
    go_wp2
    refine bodyPost_ret (results_tmp3 Tryz.results201 _ _ _) rfl ?_
    exact RepIs.yes HT.out rfl H.out.1 H.out.2
  go_wp2_with fail
  refine (take_no 42 _ p s PA pc i d nv HR.out hs (by omega) h1).mono ?_
  rintro e w1 ⟨rfl, k1, r1⟩
  have K1 := Lib.hid (k1.nil (G := [p]))
  have R1 := Lib.hid r1
  have H1 := Lib.hid h1
  clear k1 r1 h1 HR
  by_cases h1 : pk s i = 43
  · have HT : Hid (repR s i = .yes 1 (-1) (i + 1)) := by show repR s i = _; unfold repR; rw [if_neg H1.out, if_pos h1]
    go_wp2_with fail
    refine (take_yes 43 _ p s PA pc i d nv R1.out hs (by omega) h1).mono ?_
    rintro e w1 ⟨rfl, k1, r1⟩
    have H := Lib.hid (And.intro (K1.out.tr k1) r1)
    clear k1 r1 h1
    go_wp2
    refine bodyPost_ret (results_tmp3 Tryz.results201 _ _ _) rfl ?_
    exact RepIs.yes HT.out rfl H.out.1 H.out.2
  go_wp2_with fail
  refine (take_no 43 _ p s PA pc i d nv R1.out hs (by omega) h1).mono ?_
  rintro e w2 ⟨rfl, k2, r2⟩
  have K2 := Lib.hid (K1.out.tr k2.nil)
  have R2 := Lib.hid r2
  have H2 := Lib.hid h1
  clear k2 r2 h1 R1 K1
  by_cases h1 : pk s i = 63
  · have HT : Hid (repR s i = .yes 0 1 (i + 1)) := by show repR s i = _; unfold repR; rw [if_neg H1.out, if_neg H2.out, if_pos h1]
    go_wp2_with fail
    refine (take_yes 63 _ p s PA pc i d nv R2.out hs (by omega) h1).mono ?_
    rintro e w1 ⟨rfl, k1, r1⟩
    have H := Lib.hid (And.intro (K2.out.tr k1) r1)
    clear k1 r1 h1
    go_wp2
    refine bodyPost_ret (results_tmp3 Tryz.results201 _ _ _) rfl ?_
    exact RepIs.yes HT.out rfl H.out.1 H.out.2
  go_wp2_with fail
  refine (take_no 63 _ p s PA pc i d nv R2.out hs (by omega) h1).mono ?_
  rintro e w3 ⟨rfl, k3, r3⟩
  have K3 := Lib.hid (K2.out.tr k3.nil)
  have R3 := Lib.hid r3
  have H3 := Lib.hid h1
  clear k3 r3 h1 R2 K2
  go_wp2_with fail
  refine (ahead0 _ p s PA pc i d nv R3.out hs (by omega)).mono ?_
  rintro e w4 ⟨rfl, k4, r4⟩
  have K4 := Lib.hid (K3.out.tr k4.nil)
  have R4 := Lib.hid r4
  clear k4 r4 R3 K3
  by_cases h1 : pk s i = 123
  · have hil : i < s.length := lt_of_pk (by omega)
    have HB := Lib.hid (braces_any w4 p s PA pc i d nv R4.out hs hil hP)
    have HE : Hid (repR s i = match timesR s i with | some (lo, hi, j) => .yes lo hi j | none => .bad) := by show repR s i = _; unfold repR; rw [if_neg H1.out, if_neg H2.out, if_neg H3.out, if_pos h1]; cases timesR s i <;> rfl
    rw [h1]
    clear h1
    go_wp2_with fail
    refine HB.out.mono ?_
    intro e w5 hb
    unfold BracesIs at hb
    cases hT : timesR s i with
    | none =>
      rw [hT] at hb
      obtain ⟨rfl, k5⟩ := hb
      have HT : Hid (repR s i = .bad) := by show repR s i = _; rw [HE.out, hT]
      have K5 := Lib.hid (K4.out.tr k5)
      clear k5 hT HB
      go_wp2
      exact ⟨rfl, RepIs.bad HT.out K5.out⟩
    | some x =>
      obtain ⟨lo, hi2, j⟩ := x
      rw [hT] at hb
      obtain ⟨rfl, k5, r5⟩ := hb
      have HT : Hid (repR s i = .yes lo hi2 j) := by show repR s i = _; rw [HE.out, hT]
      have H := Lib.hid (And.intro (K4.out.tr k5) r5)
      clear k5 r5 hT HB
      go_wp2
      refine bodyPost_ret (results_tmp3 Tryz.results201 _ _ _) rfl ?_
      exact RepIs.yes HT.out rfl H.out.1 H.out.2
  · have HT : Hid (repR s i = .no) := by show repR s i = _; unfold repR; rw [if_neg H1.out, if_neg H2.out, if_neg H3.out, if_neg h1]
    obtain ⟨x, hx⟩ : ∃ x, pk s i = x := ⟨_, rfl⟩
    rw [hx] at h1 ⊢
    clear hx
    go_wp2
    refine bodyPost_ret (results_tmp3 Tryz.results201 _ _ _) rfl ?_
    exact RepIs.no HT.out rfl K4.out R4.out

end Go.Proofs.YtdkjfppjbkdelaaGreatDoor
