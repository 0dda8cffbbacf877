/- The program's reader of patterns: add, joined, symbol. Conditions: at most 1000 code points, fewer than 100000 nodes. -/
import Derived.Test.YtimmbllhjmponaaDoorRxI1
import Derived.Deep.DeepMust
namespace Go.Proofs.YtimmbllhjmponaaDoor
set_option linter.unusedVariables false
set_option linter.unusedSimpArgs false
open Go.RowKit

/-- The reader with its nodes. -/
def Rdr (w : World) (p : Nat) (s : List Int) (PA : Option Addr) (pc i d : Nat) (out : List Nd) (F : List Nat) : Prop :=
  ∃ nv xs, Rs w p s PA pc i d nv ∧ Own6 w (p + 1) nv out xs ∧ F = foot nv xs

section
variable {w w1 : World} {p : Nat} {s : List Int} {PA : Option Addr} {pc i d : Nat} {out : List Nd} {F : List Nat}
theorem Rdr.range (h : Rdr w p s PA pc i d out F) : ∀ b ∈ F, p < b ∧ b < w.heap.size := by
  obtain ⟨nv, xs, _, h2, rfl⟩ := h
  exact h2.range
theorem Rdr.keep (h : Rdr w p s PA pc i d out F) {G : List Nat} (hk : Keep G w w1) (hG : ∀ b ∈ G, p < b ∧ b ∉ F) : Rdr w1 p s PA pc i d out F := by
  obtain ⟨nv, xs, h1, h2, rfl⟩ := h
  exact ⟨nv, xs, h1.keep hk fun b hb => (hG b hb).1, h2.keep hk fun b hb => (hG b hb).2, rfl⟩
theorem Rdr.keep0 (h : Rdr w p s PA pc i d out F) (hk : Keep [] w w1) : Rdr w1 p s PA pc i d out F := h.keep hk fun _ hb => by cases hb
theorem Rdr.lt (h : Rdr w p s PA pc i d out F) : p < w.heap.size := by obtain ⟨nv, xs, h1, _, _⟩ := h; exact h1.lt
end

theorem cell_six (w : World) (t : TypeId) (l : List Value) : ∀ j u, l[j]? = some u → (w.alloc (.cells l.toArray t)).cell? ((⟨w.heap.size, 0, none⟩ : Addr).add j) = some u := by
  intro j u hu
  rw [Addr.add_lit, Nat.zero_add, cell_of_row _ w.heap.size j _ t (0, 0) (heap_alloc_new w _), List.getElem?_toArray]
  exact hu
theorem six_one {nd : Nd} {sa ka : Option Addr} {n m sc kc : Nat} : ∀ u ∈ six nd (.slice sa n sc, .slice ka m kc), u.oneCell' = true := by
  intro u hu
  simp [six] at hu
  rcases hu with rfl | rfl | rfl | rfl | rfl | rfl <;> rfl

theorem add_after {w W w1 : World} {p : Nat} {s : List Int} {PA : Option Addr} {pc i d : Nat} {nv : Value} (hR : Rs w p s PA pc i d nv) (hW : Keep [] w W) (hnv : ∀ b, nv.ownBlock = some b → p < b) (hg : W.grownBy w1 nv.ownBlock) :
    w1.cell? ⟨p, 3, none⟩ = some nv ∧ w1.frozen? ⟨p, 3, none⟩ = false ∧ Keep nv.ownBlock.toList w w1 ∧ Rs w1 p s PA pc i d nv := by
  have hk : Keep nv.ownBlock.toList w w1 := (hW.nil).tr (Keep.ofGrown hg)
  have hr := hR.keep hk fun b hb => hnv b (by simpa using hb)
  exact ⟨hr.cell.2.2.2, hr.frozen 3, hk, hr⟩

set_option maxHeartbeats 4000000 in
set_option maxRecDepth 100000 in
theorem add_any (nd : Nd) (sv kv : Value) (w : World) (p : Nat) (s : List Int) (PA : Option Addr) (pc i d : Nat) (out : List Nd) (F : List Nat) (h : Rdr w p s PA pc i d out F) (ho : out.length ≤ 100000)
    (hS : RowI w (p + 1) sv nd.set) (hK : RowI w (p + 1) kv nd.kids) (d1 : ∀ b, sv.ownBlock = some b → b ∉ F) (d2 : ∀ b, kv.ownBlock = some b → b ∉ F) (d3 : ∀ b, sv.ownBlock = some b → kv.ownBlock ≠ some b) :
    Calls Tryd.prog 50 #[.pointer (some ⟨p, 0, none⟩), .agg #[.int .i64 nd.kind, .int .i64 nd.lo, .int .i64 nd.hi, .bool nd.neg, sv, kv]] w fun e w' => e = .returned (.int .i64 out.length) ∧
      ∃ F', Rdr w' p s PA pc i d (out ++ [nd]) F' ∧ Keep (p :: F) w w' ∧ ∀ b ∈ F', b ∈ F ∨ sv.ownBlock = some b ∨ kv.ownBlock = some b ∨ w.heap.size ≤ b := by
  obtain ⟨i0, hi, hz0, hz1, hz2⟩ := info_parts Tryd.infoNode
  obtain ⟨nv, xs, hR, hO, rfl⟩ := h
  obtain ⟨A, c, rfl⟩ := own_form hO.row
  obtain ⟨sa, sc, rfl⟩ := own_form hS
  obtain ⟨ka, kc, rfl⟩ := own_form hK
  obtain ⟨c0, c1, c2, c3⟩ := hR.cell
  have hf3 := hR.frozen 3
  have hp := hR.lt
  have HR := Lib.hid hR
  have HO := Lib.hid hO
  have HS := Lib.hid hS
  have HK := Lib.hid hK
  have HD := Lib.hid (And.intro d1 (And.intro d2 d3))
  clear hR hO hS hK d1 d2 d3
  have hW : Keep [] w (((w.alloc (.cells #[.int .i64 nd.kind, .int .i64 nd.lo, .int .i64 nd.hi, .bool nd.neg, .slice sa nd.set.length sc, .slice ka nd.kids.length kc] 49)).drew).alloc (.cells #[.int .i64 nd.kind, .int .i64 nd.lo, .int .i64 nd.hi, .bool nd.neg, .slice sa nd.set.length sc, .slice ka nd.kids.length kc] 49)) :=
    (((Keep.refl [] w).alloc _).drew).alloc _
  have hrow : (((w.alloc (.cells #[.int .i64 nd.kind, .int .i64 nd.lo, .int .i64 nd.hi, .bool nd.neg, .slice sa nd.set.length sc, .slice ka nd.kids.length kc] 49)).drew).alloc (.cells #[.int .i64 nd.kind, .int .i64 nd.lo, .int .i64 nd.hi, .bool nd.neg, .slice sa nd.set.length sc, .slice ka nd.kids.length kc] 49)).ownsRow (p + 1) 49 6 (.slice A out.length c) out.length (cells6 out xs) :=
    (HO.out.row.alloc _).drew.alloc _
  have HW := Lib.hid hW
  have HRW := Lib.hid hrow
  have hnv : Hid (∀ b, Value.ownBlock (.slice A out.length c) = some b → p < b) := fun b hb => (HO.out.row.lt b hb).1
  clear hW hrow
  go_enter Tryd.func50, Tryd.ntmps50
  go_wp2
  go_region_law (refine step_append_own rfl (.tmp 9) (.tmp 11) 22 rfl (p + 1) 49 i0 _ 6 80 Tryd.underlying22 hi hz0 hz1 hz2 rfl (by decide) (.slice A out.length c) out.length (cells6 out xs) (by simp [Act.eval, Act.put]) HRW.out ⟨w.heap.size + 1, 0, none⟩ 1 1 (six nd (.slice sa nd.set.length sc, .slice ka nd.kids.length kc)) (by simp [Act.eval, Act.put]) rfl (by have := cell_six ((w.alloc (.cells #[.int .i64 nd.kind, .int .i64 nd.lo, .int .i64 nd.hi, .bool nd.neg, .slice sa nd.set.length sc, .slice ka nd.kids.length kc] 49)).drew) 49 (six nd (.slice sa nd.set.length sc, .slice ka nd.kids.length kc)); rw [show ((w.alloc (.cells #[.int .i64 nd.kind, .int .i64 nd.lo, .int .i64 nd.hi, .bool nd.neg, .slice sa nd.set.length sc, .slice ka nd.kids.length kc] 49)).drew).heap.size = w.heap.size + 1 from alloc_size1 w _] at this; exact this) six_one (by unfold maxLen; omega) (by omega) (by simp; omega) ?_; intro v' w1 hown hgrow hblk; obtain ⟨A', c', rfl⟩ := own_form hown; obtain ⟨k3, e3, hk, hr⟩ := add_after HR.out HW.out hnv.out hgrow)
  all_goals
    have HW1 := Lib.hid hown
    have HK1 := Lib.hid hk
    have HR1 := Lib.hid hr
    have hnew : Hid (∀ b, Value.ownBlock (.slice A' (out.length + 1) c') = some b → Value.ownBlock (.slice A out.length c) = some b ∨ w.heap.size ≤ b) := fun b hb => by
      rcases hblk b hb with h | h
      · exact .inl h
      · exact .inr (Nat.le_trans HW.out.size h)
    clear hown hk hr hgrow hblk
    go_wp2
    go_ret
    obtain ⟨d1, d2, d3⟩ := HD.out
    have O1 := HO.out.snoc HK1.out HW1.out hnew.out HS.out HK.out d1 d2 d3
    have hp3 := HR1.out.keepSet 3 (.slice A' (out.length + 1) c')
    have hnp : ∀ b, b ∈ foot (.slice A' (out.length + 1) c') (xs ++ [(.slice sa nd.set.length sc, .slice ka nd.kids.length kc)]) → p < b := fun b hb => (O1.range b hb).1
    refine ⟨by go_num, _, ⟨_, _, HR1.out.set3 _, O1.keep hp3 fun b hb hm => by simp at hb; have := hnp b hm; omega, rfl⟩, ?_, fun b hb => ?_⟩
    · exact (HK1.out.mono fun b hb => List.mem_cons_of_mem _ (foot_mem.2 (.inl (by simpa using hb)))).trans hp3 fun b hb => .inl (by simp at hb; simp [hb])
    · rcases foot_mem.1 hb with hb | ⟨x, hx, hb⟩
      · rcases hnew.out b hb with h | h
        · exact .inl (foot_mem.2 (.inl h))
        · exact .inr (.inr (.inr h))
      · rcases List.mem_append.1 hx with hx | hx
        · exact .inl (foot_mem.2 (.inr ⟨x, hx, hb⟩))
        · simp at hx
          subst hx
          rcases hb with hb | hb
          · exact .inr (.inl hb)
          · exact .inr (.inr (.inl hb))

/-- What a reading function of the program answers: as r says; what it may have written: the reader and its nodes; the nodes' memory: what it was, what was handed over (X), and what is new. -/
def Post (w : World) (p : Nat) (s : List Int) (PA : Option Addr) (pc d : Nat) (F X : List Nat) (r : Rd) (e : Ending) (w' : World) : Prop :=
  match r with
  | .ok n j o => e = .returned (.int .i64 n) ∧ ∃ F', Rdr w' p s PA pc j d o F' ∧ Keep (p :: F) w w' ∧ ∀ b ∈ F', b ∈ F ∨ b ∈ X ∨ w.heap.size ≤ b
  | .err c q => e = .panicked [{ v := .iface 44 (.agg #[.int .i64 q, .int .i64 c]), recovered := false }] ∧ Keep (p :: F) w w'

theorem row_nil (w : World) (B : Nat) : RowI w B (.slice none 0 0) [] := World.ownsRow_nil _ _ _ _

theorem add_post (nd : Nd) (kv : Value) (w : World) (p : Nat) (s : List Int) (PA : Option Addr) (pc i d : Nat) (out : List Nd) (F : List Nat) (h : Rdr w p s PA pc i d out F) (ho : out.length ≤ 100000) (hset : nd.set = [])
    (hK : RowI w (p + 1) kv nd.kids) (d2 : ∀ b, kv.ownBlock = some b → b ∉ F) :
    Calls Tryd.prog 50 #[.pointer (some ⟨p, 0, none⟩), .agg #[.int .i64 nd.kind, .int .i64 nd.lo, .int .i64 nd.hi, .bool nd.neg, .slice none 0 0, kv]] w (Post w p s PA pc d F kv.ownBlock.toList (.ok out.length i (out ++ [nd]))) :=
  (add_any nd (.slice none 0 0) kv w p s PA pc i d out F h ho (by rw [hset]; exact row_nil _ _) hK (fun b hb => by cases hb) d2 (fun b hb => by cases hb)).mono fun e w' ⟨h1, F', h2, h3, h4⟩ =>
    ⟨h1, F', h2, h3, fun b hb => by
      rcases h4 b hb with h | h | h | h
      · exact .inl h
      · cases h
      · exact .inr (.inl (by simpa using h))
      · exact .inr (.inr h)⟩

theorem Rdr.rs {w : World} {p : Nat} {s : List Int} {PA : Option Addr} {pc i d : Nat} {out : List Nd} {F : List Nat} (h : Rdr w p s PA pc i d out F) : ∃ nv, Rs w p s PA pc i d nv ∧ ∀ w' i' d', Rs w' p s PA pc i' d' nv → Keep [p] w w' → Rdr w' p s PA pc i' d' out F := by
  obtain ⟨nv, xs, h1, h2, rfl⟩ := h
  exact ⟨nv, h1, fun w' i' d' hr hk => ⟨nv, xs, hr, h2.keep hk fun b hb hm => by simp at hb; have := (h2.range b hm).1; omega, rfl⟩⟩

set_option maxHeartbeats 1000000 in
set_option maxRecDepth 100000 in
theorem symbol_any (k : Int) (w : World) (p : Nat) (s : List Int) (PA : Option Addr) (pc i d : Nat) (out : List Nd) (F : List Nat) (h : Rdr w p s PA pc i d out F) (ho : out.length ≤ 100000) (hi : i ≤ 1005) :
    Calls Tryd.prog 63 #[.pointer (some ⟨p, 0, none⟩), .int .i64 k] w (Post w p s PA pc d F [] (.ok out.length (i + 1) (out ++ [plainNode k]))) := by
  obtain ⟨nv, hR, hback⟩ := h.rs
  obtain ⟨c0, c1, c2, c3⟩ := hR.cell
  have f1 := hR.frozen 1
  have K1 := Lib.hid (hR.keepSet 1 (.int .i64 ((i + 1 : Nat) : Int)))
  have R1 := Lib.hid (hback _ _ _ (hR.set1 (i + 1)) K1.out)
  have HP := Lib.hid h.range
  have hz0 : (i : Int) + 1 = ((i + 1 : Nat) : Int) := by omega
  obtain ⟨m, hm⟩ : ∃ m, i + 1 = m := ⟨_, rfl⟩
  rw [hm] at hz0 K1 R1 ⊢
  have cA := add_post (plainNode k) (.slice none 0 0) _ p s PA pc m d out F R1.out ho rfl (row_nil _ _) (fun b hb => by cases hb)
  simp only [plainNode] at cA
  clear hR hback h hm
  go_enter Tryd.func63, Tryd.ntmps63
  go_wp2_with fail
  refine cA.mono ?_
  rintro e w1 ⟨rfl, F', h2, h3, h4⟩
  have H := Lib.hid (And.intro h2 (And.intro h3 h4))
  clear h2 h3 h4 cA
  go_wp2
  go_ret
  obtain ⟨h2, h3, h4⟩ := H.out
  refine ⟨rfl, F', h2, (K1.out.mono fun b hb => by simp at hb; simp [hb]).tr h3, fun b hb => ?_⟩
  rcases h4 b hb with h | h | h
  · exact .inl h
  · cases h
  · exact .inr (.inr (by rw [setCell_size'] at h; exact h))

set_option maxHeartbeats 1000000 in
set_option maxRecDepth 100000 in
theorem joined_any (k : Int) (kids : List Int) (kv : Value) (w : World) (p : Nat) (s : List Int) (PA : Option Addr) (pc i d : Nat) (out : List Nd) (F : List Nat) (h : Rdr w p s PA pc i d out F) (ho : out.length ≤ 100000) (hkl : kids.length ≤ 100000)
    (hK : RowI w (p + 1) kv kids) (d2 : ∀ b, kv.ownBlock = some b → b ∉ F) :
    Calls Tryd.prog 43 #[.pointer (some ⟨p, 0, none⟩), .int .i64 k, kv] w (Post w p s PA pc d F kv.ownBlock.toList (joinR k kids i out)) := by
  obtain ⟨A, c, rfl⟩ := own_form hK
  by_cases h1 : kids.length = 1
  · match kids, h1 with
    | [n], _ =>
    obtain ⟨b, o, rfl, hb, hc⟩ := Nums.own hK 0 (by simp)
    simp at hc
    have H := Lib.hid h
    clear h hK d2
    go_enter Tryd.func43, Tryd.ntmps43
    go_wp2
    go_ret
    exact ⟨rfl, F, H.out, Keep.refl _ _, fun b hb => .inl hb⟩
  · have hj : joinR k kids i out = .ok out.length i (out ++ [manyNode k kids]) := by
      unfold joinR
      split
      · next n => exact absurd rfl h1
      · rfl
    have hz : ¬ (kids.length : Int) = 1 := by omega
    have cA := add_post (manyNode k kids) (.slice A kids.length c) w p s PA pc i d out F h ho rfl hK d2
    simp only [manyNode] at cA
    rw [hj]
    clear h hK d2 hj
    go_enter Tryd.func43, Tryd.ntmps43
    go_wp2_with fail
    refine cA.mono ?_
    rintro e w1 ⟨rfl, F', h2, h3, h4⟩
    have H := Lib.hid (And.intro h2 (And.intro h3 h4))
    clear h2 h3 h4 cA
    go_wp2
    go_ret
    exact ⟨rfl, F', H.out⟩

end Go.Proofs.YtimmbllhjmponaaDoor
