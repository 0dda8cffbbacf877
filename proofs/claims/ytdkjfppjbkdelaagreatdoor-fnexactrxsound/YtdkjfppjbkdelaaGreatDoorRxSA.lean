/- The specification's reader of patterns in memory; its small functions: fail, peek, put. Conditions: at most 1000 code points. -/
import Derived.Test.YtdkjfppjbkdelaaGreatDoorRxOwn
import Derived.Test.YtdkjfppjbkdelaaGreatDoorRxMathA
import Derived.Deep.DeepMust
namespace Go.Proofs.YtdkjfppjbkdelaaGreatDoor
set_option linter.unusedVariables false
set_option linter.unusedSimpArgs false
open Go.RowKit

/-- The specification's reader lies at block p: the code points s, the place i, an error's code and place, the depth d, the nodes nv. -/
structure Ss (w : World) (p : Nat) (s : List Int) (PA : Option Addr) (pc i : Nat) (code : Int) (bad d : Nat) (nv : Value) : Prop where
  at_ : w.heap[p]? = some (.cells #[.slice PA s.length pc, .int .i64 i, .int .i64 code, .int .i64 bad, .int .i64 d, nv] 146 (0, 0))
  nums : Nums .i64 w p PA s

section
variable {w w1 : World} {p : Nat} {s : List Int} {PA : Option Addr} {pc i : Nat} {code : Int} {bad d : Nat} {nv : Value}
theorem Ss.cell (h : Ss w p s PA pc i code bad d nv) : w.cell? ⟨p, 0, none⟩ = some (.slice PA s.length pc) ∧ w.cell? ⟨p, 1, none⟩ = some (.int .i64 i) ∧ w.cell? ⟨p, 2, none⟩ = some (.int .i64 code) ∧ w.cell? ⟨p, 3, none⟩ = some (.int .i64 bad) ∧ w.cell? ⟨p, 4, none⟩ = some (.int .i64 d) ∧ w.cell? ⟨p, 5, none⟩ = some nv := by
  refine ⟨?_, ?_, ?_, ?_, ?_, ?_⟩ <;> rw [cell_of_row w p _ _ _ _ h.at_] <;> rfl
theorem Ss.frozen (h : Ss w p s PA pc i code bad d nv) (j : Nat) : w.frozen? ⟨p, j, none⟩ = false := frozen_of_row w p j _ _ h.at_
theorem Ss.lt (h : Ss w p s PA pc i code bad d nv) : p < w.heap.size := (Array.getElem?_eq_some_iff.1 h.at_).1
theorem Ss.keep (h : Ss w p s PA pc i code bad d nv) {G : List Nat} (hk : Keep G w w1) (hG : ∀ b ∈ G, p < b) : Ss w1 p s PA pc i code bad d nv :=
  ⟨(hk.block p h.lt fun e => by have := hG p e; omega).trans h.at_, hk.nums h.nums (Nat.le_of_lt h.lt) fun b hb => Nat.le_of_lt (hG b hb)⟩
theorem Ss.keep0 (h : Ss w p s PA pc i code bad d nv) (hk : Keep [] w w1) : Ss w1 p s PA pc i code bad d nv := h.keep hk fun _ hb => by cases hb
theorem Ss.set1 (h : Ss w p s PA pc i code bad d nv) (j : Nat) : Ss (w.setCell ⟨p, 1, none⟩ (.int .i64 j)) p s PA pc j code bad d nv :=
  ⟨by rw [heap_setCell_same w p 1 _ _ _ h.at_]; rfl, ((Keep.refl [p] w).setCell (.inl (by simp)) _).nums h.nums (Nat.le_of_lt h.lt) fun b hb => by simp at hb; omega⟩
theorem Ss.set2 (h : Ss w p s PA pc i code bad d nv) (c : Int) : Ss (w.setCell ⟨p, 2, none⟩ (.int .i64 c)) p s PA pc i c bad d nv :=
  ⟨by rw [heap_setCell_same w p 2 _ _ _ h.at_]; rfl, ((Keep.refl [p] w).setCell (.inl (by simp)) _).nums h.nums (Nat.le_of_lt h.lt) fun b hb => by simp at hb; omega⟩
theorem Ss.set3 (h : Ss w p s PA pc i code bad d nv) (b : Nat) : Ss (w.setCell ⟨p, 3, none⟩ (.int .i64 b)) p s PA pc i code b d nv :=
  ⟨by rw [heap_setCell_same w p 3 _ _ _ h.at_]; rfl, ((Keep.refl [p] w).setCell (.inl (by simp)) _).nums h.nums (Nat.le_of_lt h.lt) fun b hb => by simp at hb; omega⟩
theorem Ss.set4 (h : Ss w p s PA pc i code bad d nv) (e : Nat) : Ss (w.setCell ⟨p, 4, none⟩ (.int .i64 e)) p s PA pc i code bad e nv :=
  ⟨by rw [heap_setCell_same w p 4 _ _ _ h.at_]; rfl, ((Keep.refl [p] w).setCell (.inl (by simp)) _).nums h.nums (Nat.le_of_lt h.lt) fun b hb => by simp at hb; omega⟩
theorem Ss.set5 (h : Ss w p s PA pc i code bad d nv) (v : Value) : Ss (w.setCell ⟨p, 5, none⟩ (v)) p s PA pc i code bad d v :=
  ⟨by rw [heap_setCell_same w p 5 _ _ _ h.at_]; rfl, ((Keep.refl [p] w).setCell (.inl (by simp)) _).nums h.nums (Nat.le_of_lt h.lt) fun b hb => by simp at hb; omega⟩
theorem Ss.keepSet (h : Ss w p s PA pc i code bad d nv) (j : Nat) (v : Value) : Keep [p] w (w.setCell ⟨p, j, none⟩ v) := (Keep.refl [p] w).setCell (.inl (by simp)) _
theorem Ss.drew (h : Ss w p s PA pc i code bad d nv) : Ss w.drew p s PA pc i code bad d nv := h.keep0 (Keep.refl [] w).drew
end

set_option maxHeartbeats 1000000 in
set_option maxRecDepth 100000 in
theorem peek_any (w : World) (p : Nat) (s : List Int) (PA : Option Addr) (pc i : Nat) (code : Int) (bad d : Nat) (nv : Value) (h : Ss w p s PA pc i code bad d nv) (hs : s.length ≤ 1000) (hi : i ≤ 1005) :
    Calls Tryz.prog 142 #[.pointer (some ⟨p, 0, none⟩)] w fun e w' => e = .returned (.int .i64 (pk s i)) ∧ Keep [] w w' ∧ Ss w' p s PA pc i code bad d nv := by
  obtain ⟨c0, c1, c2, c3, c4, c5⟩ := h.cell
  have HS := Lib.hid h
  by_cases hlt : i < s.length
  · obtain ⟨b, o, rfl, hb, hc⟩ := h.nums i hlt
    have hp : Hid (pk s i = s[i]) := pk_lt hlt
    obtain ⟨x, hx⟩ : ∃ x, s[i] = x := ⟨_, rfl⟩
    rw [hx] at hc hp
    clear hx h
    go_enter Tryz.func142, Tryz.ntmps142
    go_wp2
    go_quiet (fail)
    go_wp2
    go_quiet (fail)
    go_wp2
    go_ret
    refine ⟨by rw [hp.out]; rfl, ?_, HS.out.keep0 ?_⟩ <;> exact ((Keep.refl [] w).drewN _).drewN _
  · have hp : Hid (pk s i = 0) := pk_ge (by omega)
    clear h
    go_enter Tryz.func142, Tryz.ntmps142
    go_wp2
    go_quiet (fail)
    go_wp2
    go_ret
    refine ⟨by rw [hp.out]; rfl, ?_, HS.out.keep0 ?_⟩ <;> exact (Keep.refl [] w).drewN _

set_option maxHeartbeats 1000000 in
theorem fail_any (c : Int) (q : Nat) (w : World) (p : Nat) (s : List Int) (PA : Option Addr) (pc i : Nat) (code : Int) (bad d : Nat) (nv : Value) (h : Ss w p s PA pc i code bad d nv) (hs : s.length ≤ 1000) (h0 : code = 0) :
    Calls Tryz.prog 103 #[.pointer (some ⟨p, 0, none⟩), .int .i64 c, .int .i64 q] w fun e w' => e = .returned (.int .i64 0) ∧ Keep [p] w w' ∧ Ss w' p s PA pc i c q d nv := by
  subst h0
  obtain ⟨c0, c1, c2, c3, c4, c5⟩ := h.cell
  have f2 := h.frozen 2
  have f3 := h.frozen 3
  have R := Lib.hid ((h.set2 c).set3 q)
  have K := Lib.hid ((h.keepSet 2 (.int .i64 c)).tr ((h.set2 c).keepSet 3 (.int .i64 (q : Int))))
  clear h
  go_enter Tryz.func103, Tryz.ntmps103
  go_wp2
  go_ret
  exact ⟨rfl, K.out, R.out⟩

def SRd (w : World) (p : Nat) (s : List Int) (PA : Option Addr) (pc i : Nat) (code : Int) (bad d : Nat) (out : List Nd) (F : List Nat) : Prop :=
  ∃ nv xs, Ss w p s PA pc i code bad d nv ∧ Own6 w (p + 1) nv out xs ∧ F = foot nv xs
section
variable {w w1 : World} {p : Nat} {s : List Int} {PA : Option Addr} {pc i : Nat} {code : Int} {bad d : Nat} {out : List Nd} {F : List Nat}
theorem SRd.range (h : SRd w p s PA pc i code bad d out F) : ∀ b ∈ F, p < b ∧ b < w.heap.size := by
  obtain ⟨nv, xs, _, h2, rfl⟩ := h
  exact h2.range
theorem SRd.keep (h : SRd w p s PA pc i code bad d out F) {G : List Nat} (hk : Keep G w w1) (hG : ∀ b ∈ G, p < b ∧ b ∉ F) : SRd w1 p s PA pc i code bad d out F := by
  obtain ⟨nv, xs, h1, h2, rfl⟩ := h
  exact ⟨nv, xs, h1.keep hk fun b hb => (hG b hb).1, h2.keep hk fun b hb => (hG b hb).2, rfl⟩
theorem SRd.keep0 (h : SRd w p s PA pc i code bad d out F) (hk : Keep [] w w1) : SRd w1 p s PA pc i code bad d out F := h.keep hk fun _ hb => by cases hb
theorem SRd.lt (h : SRd w p s PA pc i code bad d out F) : p < w.heap.size := by obtain ⟨nv, xs, h1, _, _⟩ := h; exact h1.lt
theorem SRd.rs (h : SRd w p s PA pc i code bad d out F) : ∃ nv, Ss w p s PA pc i code bad d nv ∧ ∀ w' i' code' bad' d', Ss w' p s PA pc i' code' bad' d' nv → Keep [p] w w' → SRd w' p s PA pc i' code' bad' d' out F := by
  obtain ⟨nv, xs, h1, h2, rfl⟩ := h
  exact ⟨nv, h1, fun w' i' code' bad' d' hr hk => ⟨nv, xs, hr, h2.keep hk fun b hb hm => by simp at hb; have := (h2.range b hm).1; omega, rfl⟩⟩
end

theorem cell_sixS (w : World) (t : TypeId) (l : List Value) : ∀ j u, l[j]? = some u → (w.alloc (.cells l.toArray t)).cell? ((⟨w.heap.size, 0, none⟩ : Addr).add j) = some u := by
  intro j u hu
  rw [Addr.add_lit, Nat.zero_add, cell_of_row _ w.heap.size j _ t (0, 0) (heap_alloc_new w _), List.getElem?_toArray]
  exact hu
theorem six_oneS {nd : Nd} {sa ka : Option Addr} {n m sc kc : Nat} : ∀ u ∈ six nd (.slice sa n sc, .slice ka m kc), u.oneCell' = true := by
  intro u hu
  simp [six] at hu
  rcases hu with rfl | rfl | rfl | rfl | rfl | rfl <;> rfl
theorem put_after {w W w1 : World} {p : Nat} {s : List Int} {PA : Option Addr} {pc i : Nat} {code : Int} {bad d : Nat} {nv : Value} (hR : Ss w p s PA pc i code bad d nv) (hW : Keep [] w W) (hnv : ∀ b, nv.ownBlock = some b → p < b) (hg : W.grownBy w1 nv.ownBlock) :
    w1.cell? ⟨p, 5, none⟩ = some nv ∧ w1.frozen? ⟨p, 5, none⟩ = false ∧ Keep nv.ownBlock.toList w w1 ∧ Ss w1 p s PA pc i code bad d nv := by
  have hk : Keep nv.ownBlock.toList w w1 := (hW.nil).tr (Keep.ofGrown hg)
  have hr := hR.keep hk fun b hb => hnv b (by simpa using hb)
  exact ⟨hr.cell.2.2.2.2.2, hr.frozen 5, hk, hr⟩

set_option maxHeartbeats 4000000 in
set_option maxRecDepth 100000 in
theorem put_any (nd : Nd) (sv kv : Value) (w : World) (p : Nat) (s : List Int) (PA : Option Addr) (pc i : Nat) (code : Int) (bad d : Nat) (out : List Nd) (F : List Nat) (h : SRd w p s PA pc i code bad d out F) (ho : out.length ≤ 100000)
    (hS : RowI w (p + 1) sv nd.set) (hK : RowI w (p + 1) kv nd.kids) (d1 : ∀ b, sv.ownBlock = some b → b ∉ F) (d2 : ∀ b, kv.ownBlock = some b → b ∉ F) (d3 : ∀ b, sv.ownBlock = some b → kv.ownBlock ≠ some b) :
    Calls Tryz.prog 143 #[.pointer (some ⟨p, 0, none⟩), .agg #[.int .i64 nd.kind, .int .i64 nd.lo, .int .i64 nd.hi, .bool nd.neg, sv, kv]] w fun e w' => e = .returned (.int .i64 out.length) ∧
      ∃ F', SRd w' p s PA pc i code bad d (out ++ [nd]) F' ∧ Keep (p :: F) w w' ∧ ∀ b ∈ F', b ∈ F ∨ sv.ownBlock = some b ∨ kv.ownBlock = some b ∨ w.heap.size ≤ b := by
  obtain ⟨i0, hi, hz0, hz1, hz2⟩ := info_parts Tryz.infoNode
  obtain ⟨nv, xs, hR, hO, rfl⟩ := h
  obtain ⟨A, c, rfl⟩ := own_form hO.row
  obtain ⟨sa, sc, rfl⟩ := own_form hS
  obtain ⟨ka, kc, rfl⟩ := own_form hK
  obtain ⟨c0, c1, c2, c3, c4, c5⟩ := hR.cell
  have hf3 := hR.frozen 5
  have hp := hR.lt
  have HR := Lib.hid hR
  have HO := Lib.hid hO
  have HS := Lib.hid hS
  have HK := Lib.hid hK
  have HD := Lib.hid (And.intro d1 (And.intro d2 d3))
  clear hR hO hS hK d1 d2 d3
  have hW : Keep [] w (((w.alloc (.cells #[.int .i64 nd.kind, .int .i64 nd.lo, .int .i64 nd.hi, .bool nd.neg, .slice sa nd.set.length sc, .slice ka nd.kids.length kc] 47)).drew).alloc (.cells #[.int .i64 nd.kind, .int .i64 nd.lo, .int .i64 nd.hi, .bool nd.neg, .slice sa nd.set.length sc, .slice ka nd.kids.length kc] 47)) :=
    (((Keep.refl [] w).alloc _).drew).alloc _
  have hrow : (((w.alloc (.cells #[.int .i64 nd.kind, .int .i64 nd.lo, .int .i64 nd.hi, .bool nd.neg, .slice sa nd.set.length sc, .slice ka nd.kids.length kc] 47)).drew).alloc (.cells #[.int .i64 nd.kind, .int .i64 nd.lo, .int .i64 nd.hi, .bool nd.neg, .slice sa nd.set.length sc, .slice ka nd.kids.length kc] 47)).ownsRow (p + 1) 47 6 (.slice A out.length c) out.length (cells6 out xs) :=
    (HO.out.row.alloc _).drew.alloc _
  have HW := Lib.hid hW
  have HRW := Lib.hid hrow
  have hnv : Hid (∀ b, Value.ownBlock (.slice A out.length c) = some b → p < b) := fun b hb => (HO.out.row.lt b hb).1
  clear hW hrow
  go_enter Tryz.func143, Tryz.ntmps143
  go_wp2
  go_region_law (refine step_append_own rfl (.tmp 9) (.tmp 11) 25 rfl (p + 1) 47 i0 _ 6 80 Tryz.underlying25 hi hz0 hz1 hz2 rfl (by decide) (.slice A out.length c) out.length (cells6 out xs) (by simp [Act.eval, Act.put]) HRW.out ⟨w.heap.size + 1, 0, none⟩ 1 1 (six nd (.slice sa nd.set.length sc, .slice ka nd.kids.length kc)) (by simp [Act.eval, Act.put]) rfl (by have := cell_sixS ((w.alloc (.cells #[.int .i64 nd.kind, .int .i64 nd.lo, .int .i64 nd.hi, .bool nd.neg, .slice sa nd.set.length sc, .slice ka nd.kids.length kc] 47)).drew) 47 (six nd (.slice sa nd.set.length sc, .slice ka nd.kids.length kc)); rw [show ((w.alloc (.cells #[.int .i64 nd.kind, .int .i64 nd.lo, .int .i64 nd.hi, .bool nd.neg, .slice sa nd.set.length sc, .slice ka nd.kids.length kc] 47)).drew).heap.size = w.heap.size + 1 from alloc_size1 w _] at this; exact this) six_oneS (by unfold maxLen; omega) (by omega) (by simp; omega) ?_; intro v' w1 hown hgrow hblk; obtain ⟨A', c', rfl⟩ := own_form hown; obtain ⟨k3, e3, hk, hr⟩ := put_after HR.out HW.out hnv.out hgrow)
  all_goals
    have HW1 := Lib.hid hown
    have HK1 := Lib.hid hk
    have HR1 := Lib.hid hr
    have hnew : Hid (∀ b, Value.ownBlock (.slice A' (out.length + 1) c') = some b → Value.ownBlock (.slice A out.length c) = some b ∨ w.heap.size ≤ b) := fun b hb => by
      rcases hblk b hb with h | h
      · exact .inl h
      · exact .inr (Nat.le_trans HW.out.size h)
    clear hown hk hr hgrow hblk
    go_wp2
    go_ret
    obtain ⟨d1, d2, d3⟩ := HD.out
    have O1 := HO.out.snoc HK1.out HW1.out hnew.out HS.out HK.out d1 d2 d3
    have hp3 := HR1.out.keepSet 5 (.slice A' (out.length + 1) c')
    have hnp : ∀ b, b ∈ foot (.slice A' (out.length + 1) c') (xs ++ [(.slice sa nd.set.length sc, .slice ka nd.kids.length kc)]) → p < b := fun b hb => (O1.range b hb).1
    refine ⟨by go_num, _, ⟨_, _, HR1.out.set5 _, O1.keep hp3 fun b hb hm => by simp at hb; have := hnp b hm; omega, rfl⟩, ?_, fun b hb => ?_⟩
    · exact (HK1.out.mono fun b hb => List.mem_cons_of_mem _ (foot_mem.2 (.inl (by simpa using hb)))).trans hp3 fun b hb => .inl (by simp at hb; simp [hb])
    · rcases foot_mem.1 hb with hb | ⟨x, hx, hb⟩
      · rcases hnew.out b hb with h | h
        · exact .inl (foot_mem.2 (.inl h))
        · exact .inr (.inr (.inr h))
      · rcases List.mem_append.1 hx with hx | hx
        · exact .inl (foot_mem.2 (.inr ⟨x, hx, hb⟩))
        · simp at hx
          subst hx
          rcases hb with hb | hb
          · exact .inr (.inl hb)
          · exact .inr (.inr (.inl hb))


theorem row_nilS (w : World) (B : Nat) : RowI w B (.slice none 0 0) [] := World.ownsRow_nil _ _ _ _

end Go.Proofs.YtdkjfppjbkdelaaGreatDoor

/- The specification's reader of patterns: escape, one. Conditions: at most 1000 code points. -/
namespace Go.Proofs.YtdkjfppjbkdelaaGreatDoor
set_option linter.unusedVariables false
set_option linter.unusedSimpArgs false
open Go.RowKit

def letDig (c : Int) : Bool := isLet c || isDig c

set_option maxHeartbeats 1000000 in
theorem letter_any (c : Int) (w : World) : Calls Tryz.prog 216 #[.int .i64 c] w fun e w' => e = .returned (.bool (letDig c)) ∧ w = w' := by
  by_cases h1 : 97 ≤ c
  · by_cases h2 : c ≤ 122
    · skip
      rw [show letDig c = true by unfold letDig isLet isDig; simp; omega]
      go_enter Tryz.func216, Tryz.ntmps216
      go_wp2
      go_ret
      exact ⟨rfl, rfl⟩
    · have h3 : 65 ≤ c := by omega
      have h4 : ¬ c ≤ 90 := by omega
      have h5 : 48 ≤ c := by omega
      have h6 : ¬ c ≤ 57 := by omega
      rw [show letDig c = false by unfold letDig isLet isDig; simp; omega]
      go_enter Tryz.func216, Tryz.ntmps216
      go_wp2
      go_ret
      exact ⟨rfl, rfl⟩
  · by_cases h3 : 65 ≤ c
    · by_cases h4 : c ≤ 90
      · skip
        rw [show letDig c = true by unfold letDig isLet isDig; simp; omega]
        go_enter Tryz.func216, Tryz.ntmps216
        go_wp2
        go_ret
        exact ⟨rfl, rfl⟩
      · have h5 : 48 ≤ c := by omega
        have h6 : ¬ c ≤ 57 := by omega
        rw [show letDig c = false by unfold letDig isLet isDig; simp; omega]
        go_enter Tryz.func216, Tryz.ntmps216
        go_wp2
        go_ret
        exact ⟨rfl, rfl⟩
    · by_cases h5 : 48 ≤ c
      · by_cases h6 : c ≤ 57
        · skip
          rw [show letDig c = true by unfold letDig isLet isDig; simp; omega]
          go_enter Tryz.func216, Tryz.ntmps216
          go_wp2
          go_ret
          exact ⟨rfl, rfl⟩
        · skip
          rw [show letDig c = false by unfold letDig isLet isDig; simp; omega]
          go_enter Tryz.func216, Tryz.ntmps216
          go_wp2
          go_ret
          exact ⟨rfl, rfl⟩
      · skip
        rw [show letDig c = false by unfold letDig isLet isDig; simp; omega]
        go_enter Tryz.func216, Tryz.ntmps216
        go_wp2
        go_ret
        exact ⟨rfl, rfl⟩
set_option maxHeartbeats 2000000 in
set_option maxRecDepth 100000 in
theorem esc_n (y : Int) (w : World) (p : Nat) (s : List Int) (PA : Option Addr) (pc i d : Nat) (nv : Value) (h : Ss w p s PA pc i 0 0 d nv) (hs : s.length ≤ 1000) (hi : i < s.length) (hy : pk s (i + 1) = y) (h1 : y = 110) :
    Calls Tryz.prog 204 #[.pointer (some ⟨p, 0, none⟩)] w fun e w' => e = .returned (.int .i64 10) ∧ Keep [p] w w' ∧ Ss w' p s PA pc (i + 2) 0 0 d nv := by
  obtain ⟨c0, c1, c2, c3, c4, c5⟩ := h.cell
  have f1 := h.frozen 1
  have R1 := Lib.hid (h.set1 (i + 1))
  have K1 := Lib.hid (h.keepSet 1 (.int .i64 ((i + 1 : Nat) : Int)))
  have hz0 : (i : Int) + 1 = ((i + 1 : Nat) : Int) := by omega
  obtain ⟨m, hm⟩ : ∃ m, i + 1 = m := ⟨_, rfl⟩
  rw [hm] at hz0 R1 K1 hy
  have HM := Lib.hid hm
  have HY := Lib.hid hy
  clear h hm hy
  go_enter Tryz.func204, Tryz.ntmps204
  go_wp2_with fail
  refine (peek_any _ p s PA pc m 0 0 d nv R1.out hs (by omega)).mono ?_
  rintro e w1 ⟨rfl, k1, r1⟩
  rw [HY.out]
  obtain ⟨d0, d1, d2, d3, d4, d5⟩ := r1.cell
  have g1 := r1.frozen 1
  have R2 := Lib.hid (r1.set1 (m + 1))
  have K2 := Lib.hid ((K1.out.tr k1.nil).tr (r1.keepSet 1 (.int .i64 ((m + 1 : Nat) : Int))))
  have hz1 : (m : Int) + 1 = ((m + 1 : Nat) : Int) := by omega
  obtain ⟨m2, hm2⟩ : ∃ m2, m + 1 = m2 := ⟨_, rfl⟩
  rw [hm2] at hz1 R2 K2
  have HM2 := Lib.hid hm2
  clear r1 k1 hm2 c0 c1 c2 c3 c4 c5 f1 R1 K1
  subst h1
  go_wp2
  go_ret
  exact ⟨rfl, K2.out, by rw [show i + 2 = m2 by have := HM.out; have := HM2.out; omega]; exact R2.out⟩

set_option maxHeartbeats 2000000 in
set_option maxRecDepth 100000 in
theorem esc_t (y : Int) (w : World) (p : Nat) (s : List Int) (PA : Option Addr) (pc i d : Nat) (nv : Value) (h : Ss w p s PA pc i 0 0 d nv) (hs : s.length ≤ 1000) (hi : i < s.length) (hy : pk s (i + 1) = y) (h1 : y = 116) :
    Calls Tryz.prog 204 #[.pointer (some ⟨p, 0, none⟩)] w fun e w' => e = .returned (.int .i64 9) ∧ Keep [p] w w' ∧ Ss w' p s PA pc (i + 2) 0 0 d nv := by
  obtain ⟨c0, c1, c2, c3, c4, c5⟩ := h.cell
  have f1 := h.frozen 1
  have R1 := Lib.hid (h.set1 (i + 1))
  have K1 := Lib.hid (h.keepSet 1 (.int .i64 ((i + 1 : Nat) : Int)))
  have hz0 : (i : Int) + 1 = ((i + 1 : Nat) : Int) := by omega
  obtain ⟨m, hm⟩ : ∃ m, i + 1 = m := ⟨_, rfl⟩
  rw [hm] at hz0 R1 K1 hy
  have HM := Lib.hid hm
  have HY := Lib.hid hy
  clear h hm hy
  go_enter Tryz.func204, Tryz.ntmps204
  go_wp2_with fail
  refine (peek_any _ p s PA pc m 0 0 d nv R1.out hs (by omega)).mono ?_
  rintro e w1 ⟨rfl, k1, r1⟩
  rw [HY.out]
  obtain ⟨d0, d1, d2, d3, d4, d5⟩ := r1.cell
  have g1 := r1.frozen 1
  have R2 := Lib.hid (r1.set1 (m + 1))
  have K2 := Lib.hid ((K1.out.tr k1.nil).tr (r1.keepSet 1 (.int .i64 ((m + 1 : Nat) : Int))))
  have hz1 : (m : Int) + 1 = ((m + 1 : Nat) : Int) := by omega
  obtain ⟨m2, hm2⟩ : ∃ m2, m + 1 = m2 := ⟨_, rfl⟩
  rw [hm2] at hz1 R2 K2
  have HM2 := Lib.hid hm2
  clear r1 k1 hm2 c0 c1 c2 c3 c4 c5 f1 R1 K1
  subst h1
  go_wp2
  go_ret
  exact ⟨rfl, K2.out, by rw [show i + 2 = m2 by have := HM.out; have := HM2.out; omega]; exact R2.out⟩

set_option maxHeartbeats 2000000 in
set_option maxRecDepth 100000 in
theorem esc_r (y : Int) (w : World) (p : Nat) (s : List Int) (PA : Option Addr) (pc i d : Nat) (nv : Value) (h : Ss w p s PA pc i 0 0 d nv) (hs : s.length ≤ 1000) (hi : i < s.length) (hy : pk s (i + 1) = y) (h1 : y = 114) :
    Calls Tryz.prog 204 #[.pointer (some ⟨p, 0, none⟩)] w fun e w' => e = .returned (.int .i64 13) ∧ Keep [p] w w' ∧ Ss w' p s PA pc (i + 2) 0 0 d nv := by
  obtain ⟨c0, c1, c2, c3, c4, c5⟩ := h.cell
  have f1 := h.frozen 1
  have R1 := Lib.hid (h.set1 (i + 1))
  have K1 := Lib.hid (h.keepSet 1 (.int .i64 ((i + 1 : Nat) : Int)))
  have hz0 : (i : Int) + 1 = ((i + 1 : Nat) : Int) := by omega
  obtain ⟨m, hm⟩ : ∃ m, i + 1 = m := ⟨_, rfl⟩
  rw [hm] at hz0 R1 K1 hy
  have HM := Lib.hid hm
  have HY := Lib.hid hy
  clear h hm hy
  go_enter Tryz.func204, Tryz.ntmps204
  go_wp2_with fail
  refine (peek_any _ p s PA pc m 0 0 d nv R1.out hs (by omega)).mono ?_
  rintro e w1 ⟨rfl, k1, r1⟩
  rw [HY.out]
  obtain ⟨d0, d1, d2, d3, d4, d5⟩ := r1.cell
  have g1 := r1.frozen 1
  have R2 := Lib.hid (r1.set1 (m + 1))
  have K2 := Lib.hid ((K1.out.tr k1.nil).tr (r1.keepSet 1 (.int .i64 ((m + 1 : Nat) : Int))))
  have hz1 : (m : Int) + 1 = ((m + 1 : Nat) : Int) := by omega
  obtain ⟨m2, hm2⟩ : ∃ m2, m + 1 = m2 := ⟨_, rfl⟩
  rw [hm2] at hz1 R2 K2
  have HM2 := Lib.hid hm2
  clear r1 k1 hm2 c0 c1 c2 c3 c4 c5 f1 R1 K1
  subst h1
  go_wp2
  go_ret
  exact ⟨rfl, K2.out, by rw [show i + 2 = m2 by have := HM.out; have := HM2.out; omega]; exact R2.out⟩

set_option maxHeartbeats 2000000 in
set_option maxRecDepth 100000 in
theorem esc_end (y : Int) (w : World) (p : Nat) (s : List Int) (PA : Option Addr) (pc i d : Nat) (nv : Value) (h : Ss w p s PA pc i 0 0 d nv) (hs : s.length ≤ 1000) (hi : i < s.length) (hy : pk s (i + 1) = y) (n1 : ¬ y = 110) (n2 : ¬ y = 116) (n3 : ¬ y = 114) (hq : s.length < i + 2) :
    Calls Tryz.prog 204 #[.pointer (some ⟨p, 0, none⟩)] w fun e w' => e = .returned (.int .i64 0) ∧ Keep [p] w w' ∧ Ss w' p s PA pc (i + 2) 6 i d nv := by
  obtain ⟨c0, c1, c2, c3, c4, c5⟩ := h.cell
  have f1 := h.frozen 1
  have R1 := Lib.hid (h.set1 (i + 1))
  have K1 := Lib.hid (h.keepSet 1 (.int .i64 ((i + 1 : Nat) : Int)))
  have hz0 : (i : Int) + 1 = ((i + 1 : Nat) : Int) := by omega
  obtain ⟨m, hm⟩ : ∃ m, i + 1 = m := ⟨_, rfl⟩
  rw [hm] at hz0 R1 K1 hy
  have HM := Lib.hid hm
  have HY := Lib.hid hy
  clear h hm hy
  go_enter Tryz.func204, Tryz.ntmps204
  go_wp2_with fail
  refine (peek_any _ p s PA pc m 0 0 d nv R1.out hs (by omega)).mono ?_
  rintro e w1 ⟨rfl, k1, r1⟩
  rw [HY.out]
  obtain ⟨d0, d1, d2, d3, d4, d5⟩ := r1.cell
  have g1 := r1.frozen 1
  have R2 := Lib.hid (r1.set1 (m + 1))
  have K2 := Lib.hid ((K1.out.tr k1.nil).tr (r1.keepSet 1 (.int .i64 ((m + 1 : Nat) : Int))))
  have hz1 : (m : Int) + 1 = ((m + 1 : Nat) : Int) := by omega
  obtain ⟨m2, hm2⟩ : ∃ m2, m + 1 = m2 := ⟨_, rfl⟩
  rw [hm2] at hz1 R2 K2
  have HM2 := Lib.hid hm2
  clear r1 k1 hm2 c0 c1 c2 c3 c4 c5 f1 R1 K1
  have hq2 : (s.length : Int) < m2 := by have := HM.out; have := HM2.out; omega
  go_wp2
  obtain ⟨e0, e1, e2, e3, e4, e5⟩ := R2.out.cell
  go_quiet (fail)
  have RQ := Lib.hid (R2.out.keep0 ((Keep.refl [] _).drewN nq))
  have KQ := Lib.hid (K2.out.drewN nq)
  go_wp2_with fail
  refine (fail_any 6 i _ p s PA pc m2 0 0 d nv RQ.out hs rfl).mono ?_
  rintro e w4 ⟨rfl, k4, r4⟩
  have K4 := Lib.hid (KQ.out.tr k4)
  have R4 := Lib.hid r4
  clear k4 r4
  go_wp2
  go_ret
  exact ⟨rfl, K4.out, by rw [show i + 2 = m2 by have := HM.out; have := HM2.out; omega]; exact R4.out⟩

set_option maxHeartbeats 2000000 in
set_option maxRecDepth 100000 in
theorem esc_let (y : Int) (w : World) (p : Nat) (s : List Int) (PA : Option Addr) (pc i d : Nat) (nv : Value) (h : Ss w p s PA pc i 0 0 d nv) (hs : s.length ≤ 1000) (hi : i < s.length) (hy : pk s (i + 1) = y) (n1 : ¬ y = 110) (n2 : ¬ y = 116) (n3 : ¬ y = 114) (hq : ¬ s.length < i + 2) (hl : letDig y = true) :
    Calls Tryz.prog 204 #[.pointer (some ⟨p, 0, none⟩)] w fun e w' => e = .returned (.int .i64 0) ∧ Keep [p] w w' ∧ Ss w' p s PA pc (i + 2) 6 i d nv := by
  obtain ⟨c0, c1, c2, c3, c4, c5⟩ := h.cell
  have f1 := h.frozen 1
  have R1 := Lib.hid (h.set1 (i + 1))
  have K1 := Lib.hid (h.keepSet 1 (.int .i64 ((i + 1 : Nat) : Int)))
  have hz0 : (i : Int) + 1 = ((i + 1 : Nat) : Int) := by omega
  obtain ⟨m, hm⟩ : ∃ m, i + 1 = m := ⟨_, rfl⟩
  rw [hm] at hz0 R1 K1 hy
  have HM := Lib.hid hm
  have HY := Lib.hid hy
  clear h hm hy
  go_enter Tryz.func204, Tryz.ntmps204
  go_wp2_with fail
  refine (peek_any _ p s PA pc m 0 0 d nv R1.out hs (by omega)).mono ?_
  rintro e w1 ⟨rfl, k1, r1⟩
  rw [HY.out]
  obtain ⟨d0, d1, d2, d3, d4, d5⟩ := r1.cell
  have g1 := r1.frozen 1
  have R2 := Lib.hid (r1.set1 (m + 1))
  have K2 := Lib.hid ((K1.out.tr k1.nil).tr (r1.keepSet 1 (.int .i64 ((m + 1 : Nat) : Int))))
  have hz1 : (m : Int) + 1 = ((m + 1 : Nat) : Int) := by omega
  obtain ⟨m2, hm2⟩ : ∃ m2, m + 1 = m2 := ⟨_, rfl⟩
  rw [hm2] at hz1 R2 K2
  have HM2 := Lib.hid hm2
  clear r1 k1 hm2 c0 c1 c2 c3 c4 c5 f1 R1 K1
  have hq2 : ¬ s.length < m2 := by have := HM.out; have := HM2.out; omega
  have hq3 : decide (s.length < m2) = false := decide_eq_false hq2
  go_wp2
  obtain ⟨e0, e1, e2, e3, e4, e5⟩ := R2.out.cell
  go_quiet ((go_at_call 216; refine Calls.quiet_of_same ((letter_any _ _).mono fun _ _ h => ⟨h.1, h.2.symm⟩)))
  have RQ := Lib.hid (R2.out.keep0 ((Keep.refl [] _).drewN nq))
  have KQ := Lib.hid (K2.out.drewN nq)
  go_wp2_with fail
  refine (fail_any 6 i _ p s PA pc m2 0 0 d nv RQ.out hs rfl).mono ?_
  rintro e w4 ⟨rfl, k4, r4⟩
  have K4 := Lib.hid (KQ.out.tr k4)
  have R4 := Lib.hid r4
  clear k4 r4
  go_wp2
  go_ret
  exact ⟨rfl, K4.out, by rw [show i + 2 = m2 by have := HM.out; have := HM2.out; omega]; exact R4.out⟩

set_option maxHeartbeats 2000000 in
set_option maxRecDepth 100000 in
theorem esc_self (y : Int) (w : World) (p : Nat) (s : List Int) (PA : Option Addr) (pc i d : Nat) (nv : Value) (h : Ss w p s PA pc i 0 0 d nv) (hs : s.length ≤ 1000) (hi : i < s.length) (hy : pk s (i + 1) = y) (n1 : ¬ y = 110) (n2 : ¬ y = 116) (n3 : ¬ y = 114) (hq : ¬ s.length < i + 2) (hl : letDig y = false) :
    Calls Tryz.prog 204 #[.pointer (some ⟨p, 0, none⟩)] w fun e w' => e = .returned (.int .i64 y) ∧ Keep [p] w w' ∧ Ss w' p s PA pc (i + 2) 0 0 d nv := by
  obtain ⟨c0, c1, c2, c3, c4, c5⟩ := h.cell
  have f1 := h.frozen 1
  have R1 := Lib.hid (h.set1 (i + 1))
  have K1 := Lib.hid (h.keepSet 1 (.int .i64 ((i + 1 : Nat) : Int)))
  have hz0 : (i : Int) + 1 = ((i + 1 : Nat) : Int) := by omega
  obtain ⟨m, hm⟩ : ∃ m, i + 1 = m := ⟨_, rfl⟩
  rw [hm] at hz0 R1 K1 hy
  have HM := Lib.hid hm
  have HY := Lib.hid hy
  clear h hm hy
  go_enter Tryz.func204, Tryz.ntmps204
  go_wp2_with fail
  refine (peek_any _ p s PA pc m 0 0 d nv R1.out hs (by omega)).mono ?_
  rintro e w1 ⟨rfl, k1, r1⟩
  rw [HY.out]
  obtain ⟨d0, d1, d2, d3, d4, d5⟩ := r1.cell
  have g1 := r1.frozen 1
  have R2 := Lib.hid (r1.set1 (m + 1))
  have K2 := Lib.hid ((K1.out.tr k1.nil).tr (r1.keepSet 1 (.int .i64 ((m + 1 : Nat) : Int))))
  have hz1 : (m : Int) + 1 = ((m + 1 : Nat) : Int) := by omega
  obtain ⟨m2, hm2⟩ : ∃ m2, m + 1 = m2 := ⟨_, rfl⟩
  rw [hm2] at hz1 R2 K2
  have HM2 := Lib.hid hm2
  clear r1 k1 hm2 c0 c1 c2 c3 c4 c5 f1 R1 K1
  have hq2 : ¬ s.length < m2 := by have := HM.out; have := HM2.out; omega
  have hq3 : decide (s.length < m2) = false := decide_eq_false hq2
  go_wp2
  obtain ⟨e0, e1, e2, e3, e4, e5⟩ := R2.out.cell
  go_quiet ((go_at_call 216; refine Calls.quiet_of_same ((letter_any _ _).mono fun _ _ h => ⟨h.1, h.2.symm⟩)))
  have RQ := Lib.hid (R2.out.keep0 ((Keep.refl [] _).drewN nq))
  have KQ := Lib.hid (K2.out.drewN nq)
  go_wp2
  go_ret
  exact ⟨rfl, KQ.out, by rw [show i + 2 = m2 by have := HM.out; have := HM2.out; omega]; exact RQ.out⟩

end Go.Proofs.YtdkjfppjbkdelaaGreatDoor
