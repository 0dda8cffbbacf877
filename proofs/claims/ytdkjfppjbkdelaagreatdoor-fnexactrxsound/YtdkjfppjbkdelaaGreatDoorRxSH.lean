/- The specification's reader of patterns: bracket's loop, its state; the last append of a round. Conditions: at most 1000 code points. -/
import Derived.Test.YtdkjfppjbkdelaaGreatDoorRxS6
import Derived.Test.YtdkjfppjbkdelaaGreatDoorRxIC
import Derived.Deep.DeepCutAuto
import Derived.Deep.QuietTactic
namespace Go.Proofs.YtdkjfppjbkdelaaGreatDoor
set_option linter.unusedVariables false
open Go.RowKit

set_option maxHeartbeats 1000000 in
set_option maxRecDepth 100000 in
/-- peek only draws. -/
theorem peekQ (w : World) (p : Nat) (s : List Int) (PA : Option Addr) (pc i : Nat) (code : Int) (bad d : Nat) (nv : Value) (h : Ss w p s PA pc i code bad d nv) (hs : s.length ≤ 1000) (hi : i ≤ 1005) :
    Calls Tryz.prog 142 #[.pointer (some ⟨p, 0, none⟩)] w fun e w' => e = .returned (.int .i64 (pk s i)) ∧ ∃ m, w' = w.drewN m := by
  obtain ⟨c0, c1, c2, c3, c4, c5⟩ := h.cell
  by_cases hlt : i < s.length
  · obtain ⟨b, o, rfl, hb, hc⟩ := h.nums i hlt
    have hp : Hid (pk s i = s[i]) := pk_lt hlt
    obtain ⟨x, hx⟩ : ∃ x, s[i] = x := ⟨_, rfl⟩
    rw [hx] at hc hp
    clear hx h
    go_enter Tryz.func142, Tryz.ntmps142
    go_wp2
    go_quiet (fail)
    go_wp2
    go_quiet (fail)
    go_wp2
    go_ret
    refine ⟨by rw [hp.out]; rfl, ?_⟩
    rw [World.drewN_drewN]
    exact ⟨_, rfl⟩
  · have hp : Hid (pk s i = 0) := pk_ge (by omega)
    clear h
    go_enter Tryz.func142, Tryz.ntmps142
    go_wp2
    go_quiet (fail)
    go_wp2
    go_ret
    exact ⟨by rw [hp.out]; rfl, _, rfl⟩

theorem SPost.pre0 {M : Nat} {w w1 : World} {p : Nat} {s : List Int} {PA : Option Addr} {pc d : Nat} {F : List Nat} {r : Rd} {e : Ending} {w' : World} (hk : Keep [p] w w1) (h : SPost M w1 p s PA pc d F [] r e w') : SPost M w p s PA pc d F [] r e w' := by
  have hk' : Keep (p :: F) w w1 := hk.mono fun b hb => by simp at hb; simp [hb]
  have up : ∀ b, b ∈ F ∨ b ∈ ([] : List Nat) ∨ w1.heap.size ≤ b → b ∈ F ∨ b ∈ ([] : List Nat) ∨ w.heap.size ≤ b := fun b hb => by
    rcases hb with h | h | h
    · exact .inl h
    · cases h
    · exact .inr (.inr (Nat.le_trans hk.size h))
  cases r with
  | ok n j o =>
    obtain ⟨h1, F', h2, h3, h4⟩ := h
    exact ⟨h1, F', h2, hk'.tr h3, fun b hb => up b (h4 b hb)⟩
  | err c q =>
    obtain ⟨h1, h2, j, o, F', h3, h4, h5, h6⟩ := h
    exact ⟨h1, h2, j, o, F', h3, h4, hk'.tr h5, fun b hb => up b (h6 b hb)⟩

theorem Six.set3 {w : World} {p : Nat} {t : TypeId} {v0 v1 v2 v3 v4 v5 : Value} (h : Six w p t v0 v1 v2 v3 v4 v5) (u : Value) : Six (w.setCell ⟨p, 3, none⟩ u) p t v0 v1 v2 u v4 v5 := by
  unfold Six at h ⊢; rw [heap_setCell_same w p 3 _ _ _ h]; rfl

/-- The state of the loop: the node in block q, its set, the reader. -/
structure BrSt (w : World) (p q : Nat) (s : List Int) (PA : Option Addr) (pc d : Nat) (nv : Value) (neg : Bool) (a : Nat) (set : List Int) (v : Value) (wr : World) : Prop where
  six : Six wr q 47 (.int .i64 4) (.int .i64 0) (.int .i64 0) (.bool neg) v (.slice none 0 0)
  row : RowI wr (p + 1) v set
  own : ∀ b, v.ownBlock = some b → w.heap.size ≤ b ∧ b ≠ q
  keep : Keep [p] w wr
  ss : Ss wr p s PA pc a 0 0 d nv
theorem BrSt.go {w : World} {p q : Nat} {s : List Int} {PA : Option Addr} {pc d : Nat} {nv : Value} {neg : Bool} {a : Nat} {set : List Int} {v : Value} {wr w2 : World} (h : BrSt w p q s PA pc d nv neg a set v wr) (hk : Keep [] wr w2) : BrSt w p q s PA pc d nv neg a set v w2 :=
  ⟨h.six.keep hk (by simp), hk.row h.row fun b hb => by simp, h.own, h.keep.tr hk.nil, h.ss.keep0 hk⟩
/-- .. the reader gone on. -/
theorem BrSt.at {w : World} {p q : Nat} {s : List Int} {PA : Option Addr} {pc d : Nat} {nv : Value} {neg : Bool} {a j : Nat} {set : List Int} {v : Value} {wr w2 : World} (hp : p < w.heap.size) (hq : w.heap.size ≤ q) (h : BrSt w p q s PA pc d nv neg a set v wr) (hk : Keep [p] wr w2) (hr : Ss w2 p s PA pc j 0 0 d nv) : BrSt w p q s PA pc d nv neg j set v w2 :=
  ⟨h.six.keep hk (by simp; omega), hk.row h.row fun b hb => by have := (World.ownsRow.lt h.row b hb).1; simp; omega, h.own, h.keep.tr hk, hr⟩
/-- What a round leaves. -/
def BrOut (s : List Int) (T : It) (neg : Bool) (w : World) (p q : Nat) (PA : Option Addr) (pc d : Nat) (nv : Value) (f a : Nat) (wr : World) : Prop :=
  ∃ (j : Nat) (set : List Int) (v : Value), BrSt w p q s PA pc d nv neg j set v wr ∧ T = itemsR s f j false set ∧ a < j ∧ j ≤ s.length ∧ set.length ≤ 8 * j

/-- Behind an append to the set. -/
theorem br_app {w w3 W w4 : World} {p q : Nat} {s : List Int} {PA : Option Addr} {pc j d : Nat} {nv v v4 : Value} {neg : Bool} {set l : List Int} (hp : p < w.heap.size) (hq : w.heap.size ≤ q) (h : BrSt w p q s PA pc d nv neg j set v w3) (hW : Keep [] w3 W)
    (hown : w4.ownsRow (p + 1) 3 1 v4 (set.length + l.length) (set.map (Value.int .i64) ++ l.map (Value.int .i64))) (hg : W.grownBy w4 v.ownBlock) (hb : ∀ b, v4.ownBlock = some b → v.ownBlock = some b ∨ W.heap.size ≤ b) :
    w4.cell? ⟨q, 4, none⟩ = some v ∧ w4.frozen? ⟨q, 4, none⟩ = false ∧ w4.frozen? ⟨p, 1, none⟩ = false ∧ BrSt w p q s PA pc d nv neg j (set ++ l) v4 (w4.setCell ⟨q, 4, none⟩ v4) := by
  have k4 : Keep v.ownBlock.toList w3 w4 := hW.nil.tr (Keep.ofGrown hg)
  have hvq : ∀ b ∈ v.ownBlock.toList, w.heap.size ≤ b ∧ b ≠ q := fun b hb => h.own b (by simpa using hb)
  have S4 := h.six.keep k4 (fun h => (hvq q h).2 rfl)
  have R4 := h.ss.keep k4 (fun b hb => by have := (hvq b hb).1; omega)
  have hset : Keep [q] w4 (w4.setCell ⟨q, 4, none⟩ v4) := (Keep.refl [q] w4).setCell (.inl (by simp)) _
  have hnew : ∀ b, v4.ownBlock = some b → w.heap.size ≤ b ∧ b ≠ q := fun b hb' => by
    rcases hb b hb' with h' | h'
    · exact h.own b h'
    · have h1 := h.keep.size; have h2 := h.six.lt; have h3 := hW.size; omega
  refine ⟨S4.cells.2.2.2.2.1, S4.frozen 4, R4.frozen 1, S4.set4 v4, ?_, hnew, ?_, R4.keep hset (fun b hb => by simp at hb; omega)⟩
  · unfold RowI
    rw [List.length_append, List.map_append]
    exact hset.row hown (fun b hb => by have := (hnew b hb).2; simp; exact this)
  · exact (h.keep.trans k4 (fun b hb => .inr (hvq b hb).1)).setCell (p := q) (j := 4) (.inr hq) v4

theorem new_two_int (w : World) (x y : Int) (e : TypeId) : ∀ j u, (([x, y] : List Int).map (Value.int .i64))[j]? = some u → (w.alloc (.cells #[.int .i64 x, .int .i64 y] e)).cell? ((⟨w.heap.size, 0, none⟩ : Addr).add j) = some u := by
  intro j u hu
  rw [Addr.add_lit, Nat.zero_add, cell_of_row _ w.heap.size j _ e (0, 0) (heap_alloc_new w _)]
  rw [show (#[.int .i64 x, .int .i64 y] : Array Value) = (([x, y] : List Int).map (Value.int .i64)).toArray from rfl, List.getElem?_toArray]
  exact hu

/-! ### The body of the loop, from a region on -/
def startsAt (n : Nat) : Code → Bool
  | .region id _ _ => id == n
  | .seq a _ => startsAt n a
  | _ => false
def codeAt (n : Nat) : Code → Option Code
  | .region id o d => if id == n then some (.region id o d) else none
  | .seq a b => if startsAt n a then some (.seq a b) else match codeAt n a with | some c => some c | none => codeAt n b
  | .cond _ a b => match codeAt n a with | some c => some c | none => codeAt n b
  | .block _ c => codeAt n c
  | .loop c => codeAt n c
  | .scope c => codeAt n c
  | _ => none
noncomputable def brCode (n : Nat) : Code := ((Tryz.f202.body.bind (codeAt n)).getD .skip)

/-- A mark at which a walk stops. -/
def Stop (h : Prop) : Prop := h
theorem stopAt (n : Nat) {P : Program} {ops : Array Oper} {d : Bool} {y : Code} {Q : Exit → Act → World → Prop} {a : Act} {w : World} (h : Stop (Code.wp P (.seq (.region n ops d) y) Q a w)) : Code.wp P (.seq (.region n ops d) y) Q a w := h
theorem stopAt2 (n : Nat) {P : Program} {ops : Array Oper} {d : Bool} {y z : Code} {Q : Exit → Act → World → Prop} {a : Act} {w : World} (h : Stop (Code.wp P (.seq (.seq (.region n ops d) z) y) Q a w)) : Code.wp P (.seq (.seq (.region n ops d) z) y) Q a w := h

set_option maxHeartbeats 4000000 in
set_option maxRecDepth 1000000 in
theorem br32 {w : World} {p q : Nat} {s : List Int} {PA : Option Addr} {pc d i : Nat} {nv : Value} {neg : Bool} {T : It} (hp : p < w.heap.size) (hqw : w.heap.size ≤ q) (hs : s.length ≤ 1000) {w0 : World} {lo hi2 : Int} {f a j : Nat} {set : List Int} {v : Value} {c1 c2 c5 c6 c7 c8 c11 c12 c13 c14 c15 c16 c17 c18 c19 c20 c21 c22 c23 c24 c25 c26 c27 c28 c29 c30 c31 c32 c33 c34 c35 c36 c37 c38 c39 c40 c41 c42 c43 c44 c45 c46 c47 c48 c49 c50 c51 c52 c53 c54 c55 c56 c57 c58 c59 c60 c61 c62 c63 c64 c65 c66 c67 c68 c69 c70 c71 c72 c73 c74 c75 c76 c77 c78 c79 c80 c81 c82 c83 c84 c85 c86 c87 c88 c89 c90 c91 c92 c93 c94 c95 c96 c97 c98 c99 c100 c101 c102 c103 c104 c105 c106 c107 c108 c109 c110 c111 c112 c113 c114 c115 c116 c117 c118 c119 c120 c121 c122 c123 c124 c125 c126 c127 c128 c129 c130 c131 c132 c133 c134 c135 c136 c137 c138 c139 c140 c141 c142 c143 c144 c145 c146 c147 c148 c149 c150 c151 c152 c153 c154 c155 c156 c157 c158 c159 c160 c161 c162 c163 c164 c165 c166 c167 c168 c169 c170 c171 c172 c173 c174 c175 c176 c177 c178 c179 c180 c181 c182 c183 c184 c185 c186 c187 c188 c189 c190 c191 c192 c193 c194 c195 c196 c197 c198 c199 c200 c201 c202 c203 c204 c205 c206 c207 c208 c209 c210 c211 c212 c213 c214 c215 c216 c217 c218 c219 c220 c221 c222 c223 c224 c225 c226 c227 c228 c229 c230 c231 c232 c233 c234 c235 c236 c237 c238 c239 c240 c241 c242 c243 c244 c245 c246 c247 c248 c249 c250 c251 c252 c253 c254 : Value} {Q0 : Exit → Act → World → Prop} (hst : BrSt w p q s PA pc d nv neg j set v w0) (hT : Hid (T = itemsR s f j false (set ++ [lo, hi2]))) (haj : a < j) (hjl : j ≤ s.length) (hsl : set.length ≤ 8 * a) (hgo : Hid (∀ (u238 u239 u240 u241 u242 u243 u244 : Value) (w9 : World), BrOut s T neg w p q PA pc d nv f a w9 → Q0 .normal ⟨#[.pointer (some ⟨p, 0, none⟩), c1, c2, .int .i64 (i : Int), .pointer (some ⟨q, 0, none⟩), c5, c6, c7, c8, .int .i64 lo, .int .i64 hi2, c11, c12, c13, c14, c15, c16, c17, c18, c19, c20, c21, c22, c23, c24, c25, c26, c27, c28, c29, c30, c31, c32, c33, c34, c35, c36, c37, c38, c39, c40, c41, c42, c43, c44, c45, c46, c47, c48, c49, c50, c51, c52, c53, c54, c55, c56, c57, c58, c59, c60, c61, c62, c63, c64, c65, c66, c67, c68, c69, c70, c71, c72, c73, c74, c75, c76, c77, c78, c79, c80, c81, c82, c83, c84, c85, c86, c87, c88, c89, c90, c91, c92, c93, c94, c95, c96, c97, c98, c99, c100, c101, c102, c103, c104, c105, c106, c107, c108, c109, c110, c111, c112, c113, c114, c115, c116, c117, c118, c119, c120, c121, c122, c123, c124, c125, c126, c127, c128, c129, c130, c131, c132, c133, c134, c135, c136, c137, c138, c139, c140, c141, c142, c143, c144, c145, c146, c147, c148, c149, c150, c151, c152, c153, c154, c155, c156, c157, c158, c159, c160, c161, c162, c163, c164, c165, c166, c167, c168, c169, c170, c171, c172, c173, c174, c175, c176, c177, c178, c179, c180, c181, c182, c183, c184, c185, c186, c187, c188, c189, c190, c191, c192, c193, c194, c195, c196, c197, c198, c199, c200, c201, c202, c203, c204, c205, c206, c207, c208, c209, c210, c211, c212, c213, c214, c215, c216, c217, c218, c219, c220, c221, c222, c223, c224, c225, c226, c227, c228, c229, c230, c231, c232, c233, c234, c235, c236, c237, u238, u239, u240, u241, u242, u243, u244, c245, c246, c247, c248, c249, c250, c251, c252, c253, c254], []⟩ w9)) :
    Code.wp Tryz.prog (brCode 32) Q0 ⟨#[.pointer (some ⟨p, 0, none⟩), c1, c2, .int .i64 (i : Int), .pointer (some ⟨q, 0, none⟩), c5, c6, c7, c8, .int .i64 lo, .int .i64 hi2, c11, c12, c13, c14, c15, c16, c17, c18, c19, c20, c21, c22, c23, c24, c25, c26, c27, c28, c29, c30, c31, c32, c33, c34, c35, c36, c37, c38, c39, c40, c41, c42, c43, c44, c45, c46, c47, c48, c49, c50, c51, c52, c53, c54, c55, c56, c57, c58, c59, c60, c61, c62, c63, c64, c65, c66, c67, c68, c69, c70, c71, c72, c73, c74, c75, c76, c77, c78, c79, c80, c81, c82, c83, c84, c85, c86, c87, c88, c89, c90, c91, c92, c93, c94, c95, c96, c97, c98, c99, c100, c101, c102, c103, c104, c105, c106, c107, c108, c109, c110, c111, c112, c113, c114, c115, c116, c117, c118, c119, c120, c121, c122, c123, c124, c125, c126, c127, c128, c129, c130, c131, c132, c133, c134, c135, c136, c137, c138, c139, c140, c141, c142, c143, c144, c145, c146, c147, c148, c149, c150, c151, c152, c153, c154, c155, c156, c157, c158, c159, c160, c161, c162, c163, c164, c165, c166, c167, c168, c169, c170, c171, c172, c173, c174, c175, c176, c177, c178, c179, c180, c181, c182, c183, c184, c185, c186, c187, c188, c189, c190, c191, c192, c193, c194, c195, c196, c197, c198, c199, c200, c201, c202, c203, c204, c205, c206, c207, c208, c209, c210, c211, c212, c213, c214, c215, c216, c217, c218, c219, c220, c221, c222, c223, c224, c225, c226, c227, c228, c229, c230, c231, c232, c233, c234, c235, c236, c237, c238, c239, c240, c241, c242, c243, c244, c245, c246, c247, c248, c249, c250, c251, c252, c253, c254], []⟩ w0 := by
  conv => arg 2; whnf
  try dsimp only
  obtain ⟨i0, hi0, hz0, hz1, hz2⟩ := info_parts Tryz.infoInt
  have hrow := hst.row
  obtain ⟨A, c, rfl⟩ := own_form hrow
  have HST := Lib.hid hst
  obtain ⟨d0, d1, d2, d3, d4, d5⟩ := hst.six.cells
  have kA : Keep [] w0 (w0.alloc (.cells #[.int .i64 lo, .int .i64 hi2] 3)) := (Keep.refl [] w0).alloc _
  have KA := Lib.hid kA
  have WR := Lib.hid (hrow.alloc (.cells #[.int .i64 lo, .int .i64 hi2] 3))
  have z3 : p + 1 ≤ w0.heap.size := by have := hst.ss.lt; omega
  clear hst hrow kA
  go_wp2_with (at_builtin; refine list_append_own rfl _ _ 45 rfl (p + 1) 3 i0 (.int .i64 0) 1 8 Tryz.underlying45 hi0 hz0 hz1 hz2 rfl (by decide) (.slice A set.length c) set.length (set.map (Value.int .i64)) rfl WR.out ⟨w0.heap.size, 0, none⟩ 2 2 (([lo, hi2] : List Int).map (Value.int .i64)) rfl rfl (new_two_int w0 lo hi2 3) one_ints (by unfold maxLen; omega) (by omega) (by rw [alloc_size1]; omega) ?_; intro v4 w4 hown4 hgrow4 hblk4; obtain ⟨A4, c4, rfl⟩ := own_form hown4; have H4 := Lib.hid (br_app (l := [lo, hi2]) hp hqw HST.out KA.out hown4 hgrow4 hblk4); have g4 := H4.out.1; have g5 := H4.out.2.1; clear hown4 hgrow4 hblk4)
  refine hgo.out _ _ _ _ _ _ _ _ ⟨j, set ++ [lo, hi2], _, H4.out.2.2.2, hT.out, haj, hjl, by simp; omega⟩


end Go.Proofs.YtdkjfppjbkdelaaGreatDoor

/- The specification's reader of patterns: bracket: the end of an item. Conditions: at most 1000 code points. -/
namespace Go.Proofs.YtdkjfppjbkdelaaGreatDoor
set_option linter.unusedVariables false
open Go.RowKit

set_option maxHeartbeats 4000000 in
set_option maxRecDepth 1000000 in
theorem br28 {w : World} {p q : Nat} {s : List Int} {PA : Option Addr} {pc d i : Nat} {nv : Value} {neg : Bool} {T : It} (hp : p < w.heap.size) (hqw : w.heap.size ≤ q) (hs : s.length ≤ 1000) {M : Nat} {out : List Nd} {F : List Nat} (hi : i < s.length) (hP : Pos s) (hM : out.length ≤ M) (HB : Hid (∀ w' i' code' bad' d', Ss w' p s PA pc i' code' bad' d' nv → Keep [p] w w' → SRd w' p s PA pc i' code' bad' d' out F)) {r : Rd} (er : Hid (r = brPost out i neg T)) {w0 : World} {lo hi2 : Int} {f a j : Nat} {set : List Int} {v : Value} {c1 c2 c5 c6 c7 c8 c11 c12 c13 c14 c15 c16 c17 c18 c19 c20 c21 c22 c23 c24 c25 c26 c27 c28 c29 c30 c31 c32 c33 c34 c35 c36 c37 c38 c39 c40 c41 c42 c43 c44 c45 c46 c47 c48 c49 c50 c51 c52 c53 c54 c55 c56 c57 c58 c59 c60 c61 c62 c63 c64 c65 c66 c67 c68 c69 c70 c71 c72 c73 c74 c75 c76 c77 c78 c79 c80 c81 c82 c83 c84 c85 c86 c87 c88 c89 c90 c91 c92 c93 c94 c95 c96 c97 c98 c99 c100 c101 c102 c103 c104 c105 c106 c107 c108 c109 c110 c111 c112 c113 c114 c115 c116 c117 c118 c119 c120 c121 c122 c123 c124 c125 c126 c127 c128 c129 c130 c131 c132 c133 c134 c135 c136 c137 c138 c139 c140 c141 c142 c143 c144 c145 c146 c147 c148 c149 c150 c151 c152 c153 c154 c155 c156 c157 c158 c159 c160 c161 c162 c163 c164 c165 c166 c167 c168 c169 c170 c171 c172 c173 c174 c175 c176 c177 c178 c179 c180 c181 c182 c183 c184 c185 c186 c187 c188 c189 c190 c191 c192 c193 c194 c195 c196 c197 c198 c199 c200 c201 c202 c203 c204 c205 c206 c207 c208 c209 c210 c211 c212 c213 c214 c215 c216 c217 c218 c219 c220 c221 c222 c223 c224 c225 c226 c227 c228 c229 c230 c231 c232 c233 c234 c235 c236 c237 c238 c239 c240 c241 c242 c243 c244 c245 c246 c247 c248 c249 c250 c251 c252 c253 c254 : Value} {Q0 : Exit → Act → World → Prop} (hst : BrSt w p q s PA pc d nv neg j set v w0) (hT : Hid (lo ≤ hi2 → T = itemsR s f j false (set ++ [lo, hi2]))) (hB : Hid (hi2 < lo → T = .bad)) (haj : a < j) (hjl : j ≤ s.length) (hsl : set.length ≤ 8 * a) (hgo : Hid (∀ (u2 u227 u228 u229 u230 u231 u232 u233 u234 u235 u236 u237 u238 u239 u240 u241 u242 u243 u244 : Value) (w9 : World), BrOut s T neg w p q PA pc d nv f a w9 → Q0 .normal ⟨#[.pointer (some ⟨p, 0, none⟩), c1, u2, .int .i64 (i : Int), .pointer (some ⟨q, 0, none⟩), c5, c6, c7, c8, .int .i64 lo, .int .i64 hi2, c11, c12, c13, c14, c15, c16, c17, c18, c19, c20, c21, c22, c23, c24, c25, c26, c27, c28, c29, c30, c31, c32, c33, c34, c35, c36, c37, c38, c39, c40, c41, c42, c43, c44, c45, c46, c47, c48, c49, c50, c51, c52, c53, c54, c55, c56, c57, c58, c59, c60, c61, c62, c63, c64, c65, c66, c67, c68, c69, c70, c71, c72, c73, c74, c75, c76, c77, c78, c79, c80, c81, c82, c83, c84, c85, c86, c87, c88, c89, c90, c91, c92, c93, c94, c95, c96, c97, c98, c99, c100, c101, c102, c103, c104, c105, c106, c107, c108, c109, c110, c111, c112, c113, c114, c115, c116, c117, c118, c119, c120, c121, c122, c123, c124, c125, c126, c127, c128, c129, c130, c131, c132, c133, c134, c135, c136, c137, c138, c139, c140, c141, c142, c143, c144, c145, c146, c147, c148, c149, c150, c151, c152, c153, c154, c155, c156, c157, c158, c159, c160, c161, c162, c163, c164, c165, c166, c167, c168, c169, c170, c171, c172, c173, c174, c175, c176, c177, c178, c179, c180, c181, c182, c183, c184, c185, c186, c187, c188, c189, c190, c191, c192, c193, c194, c195, c196, c197, c198, c199, c200, c201, c202, c203, c204, c205, c206, c207, c208, c209, c210, c211, c212, c213, c214, c215, c216, c217, c218, c219, c220, c221, c222, c223, c224, c225, c226, u227, u228, u229, u230, u231, u232, u233, u234, u235, u236, u237, u238, u239, u240, u241, u242, u243, u244, c245, c246, c247, c248, c249, c250, c251, c252, c253, c254], []⟩ w9)) (hret : Hid (∀ (u2 u227 u228 u229 u230 u231 u232 u233 u234 u235 u236 u237 u238 u239 u240 u241 u242 u243 u244 : Value) (w9 : World), SPost M w p s PA pc d F [] r (.returned u2) w9 → Q0 .ret ⟨#[.pointer (some ⟨p, 0, none⟩), c1, u2, .int .i64 (i : Int), .pointer (some ⟨q, 0, none⟩), c5, c6, c7, c8, .int .i64 lo, .int .i64 hi2, c11, c12, c13, c14, c15, c16, c17, c18, c19, c20, c21, c22, c23, c24, c25, c26, c27, c28, c29, c30, c31, c32, c33, c34, c35, c36, c37, c38, c39, c40, c41, c42, c43, c44, c45, c46, c47, c48, c49, c50, c51, c52, c53, c54, c55, c56, c57, c58, c59, c60, c61, c62, c63, c64, c65, c66, c67, c68, c69, c70, c71, c72, c73, c74, c75, c76, c77, c78, c79, c80, c81, c82, c83, c84, c85, c86, c87, c88, c89, c90, c91, c92, c93, c94, c95, c96, c97, c98, c99, c100, c101, c102, c103, c104, c105, c106, c107, c108, c109, c110, c111, c112, c113, c114, c115, c116, c117, c118, c119, c120, c121, c122, c123, c124, c125, c126, c127, c128, c129, c130, c131, c132, c133, c134, c135, c136, c137, c138, c139, c140, c141, c142, c143, c144, c145, c146, c147, c148, c149, c150, c151, c152, c153, c154, c155, c156, c157, c158, c159, c160, c161, c162, c163, c164, c165, c166, c167, c168, c169, c170, c171, c172, c173, c174, c175, c176, c177, c178, c179, c180, c181, c182, c183, c184, c185, c186, c187, c188, c189, c190, c191, c192, c193, c194, c195, c196, c197, c198, c199, c200, c201, c202, c203, c204, c205, c206, c207, c208, c209, c210, c211, c212, c213, c214, c215, c216, c217, c218, c219, c220, c221, c222, c223, c224, c225, c226, u227, u228, u229, u230, u231, u232, u233, u234, u235, u236, u237, u238, u239, u240, u241, u242, u243, u244, c245, c246, c247, c248, c249, c250, c251, c252, c253, c254], []⟩ w9)) :
    Code.wp Tryz.prog (brCode 28) Q0 ⟨#[.pointer (some ⟨p, 0, none⟩), c1, c2, .int .i64 (i : Int), .pointer (some ⟨q, 0, none⟩), c5, c6, c7, c8, .int .i64 lo, .int .i64 hi2, c11, c12, c13, c14, c15, c16, c17, c18, c19, c20, c21, c22, c23, c24, c25, c26, c27, c28, c29, c30, c31, c32, c33, c34, c35, c36, c37, c38, c39, c40, c41, c42, c43, c44, c45, c46, c47, c48, c49, c50, c51, c52, c53, c54, c55, c56, c57, c58, c59, c60, c61, c62, c63, c64, c65, c66, c67, c68, c69, c70, c71, c72, c73, c74, c75, c76, c77, c78, c79, c80, c81, c82, c83, c84, c85, c86, c87, c88, c89, c90, c91, c92, c93, c94, c95, c96, c97, c98, c99, c100, c101, c102, c103, c104, c105, c106, c107, c108, c109, c110, c111, c112, c113, c114, c115, c116, c117, c118, c119, c120, c121, c122, c123, c124, c125, c126, c127, c128, c129, c130, c131, c132, c133, c134, c135, c136, c137, c138, c139, c140, c141, c142, c143, c144, c145, c146, c147, c148, c149, c150, c151, c152, c153, c154, c155, c156, c157, c158, c159, c160, c161, c162, c163, c164, c165, c166, c167, c168, c169, c170, c171, c172, c173, c174, c175, c176, c177, c178, c179, c180, c181, c182, c183, c184, c185, c186, c187, c188, c189, c190, c191, c192, c193, c194, c195, c196, c197, c198, c199, c200, c201, c202, c203, c204, c205, c206, c207, c208, c209, c210, c211, c212, c213, c214, c215, c216, c217, c218, c219, c220, c221, c222, c223, c224, c225, c226, c227, c228, c229, c230, c231, c232, c233, c234, c235, c236, c237, c238, c239, c240, c241, c242, c243, c244, c245, c246, c247, c248, c249, c250, c251, c252, c253, c254], []⟩ w0 := by
  conv => arg 2; whnf
  try dsimp only
  have HST := Lib.hid hst
  obtain ⟨d0, d1, d2, d3, d4, d5⟩ := hst.ss.cell
  clear hst
  by_cases hle : hi2 < lo
  · have HT2 : Hid (T = .bad) := hB.out hle
    have cF := fail_post M 4 i _ p s _ pc _ d out F [] (HB.out _ _ _ _ _ HST.out.ss HST.out.keep) hs (by omega) hM
    go_wp2_with fail
    refine cF.mono ?_
    rintro e5 w9 ⟨rfl, q5⟩
    have Q5 := Lib.hid (SPost.pre0 HST.out.keep q5)
    clear q5 cF
    go_wp2
    refine hret.out _ _ _ _ _ _ _ _ _ _ _ _ _ _ _ _ _ _ _ _ ?_
    rw [er.out, HT2.out]
    exact Q5.out
  · have HT2 : Hid (T = itemsR s f j false (set ++ [lo, hi2])) := hT.out (by omega)
    go_upto_region 32 with fail
    refine br32 hp hqw hs HST.out HT2 haj hjl hsl ?_
    exact Lib.hid (fun _ _ _ _ _ _ _ w9 h9 => hgo.out _ _ _ _ _ _ _ _ _ _ _ _ _ _ _ _ _ _ _ w9 h9)


end Go.Proofs.YtdkjfppjbkdelaaGreatDoor

/- The specification's reader of patterns: bracket: an item. Conditions: at most 1000 code points. -/
namespace Go.Proofs.YtdkjfppjbkdelaaGreatDoor
set_option linter.unusedVariables false
open Go.RowKit

set_option maxHeartbeats 4000000 in
set_option maxRecDepth 1000000 in
theorem br25 {w : World} {p q : Nat} {s : List Int} {PA : Option Addr} {pc d i : Nat} {nv : Value} {neg : Bool} {T : It} (hp : p < w.heap.size) (hqw : w.heap.size ≤ q) (hs : s.length ≤ 1000) {M : Nat} {out : List Nd} {F : List Nat} (hi : i < s.length) (hP : Pos s) (hM : out.length ≤ M) (HB : Hid (∀ w' i' code' bad' d', Ss w' p s PA pc i' code' bad' d' nv → Keep [p] w w' → SRd w' p s PA pc i' code' bad' d' out F)) {r : Rd} (er : Hid (r = brPost out i neg T)) {w0 : World} {lo : Int} {f a j : Nat} {set : List Int} {v : Value} {c1 c2 c5 c6 c7 c8 c11 c12 c13 c14 c15 c16 c17 c18 c19 c20 c21 c22 c23 c24 c25 c26 c27 c28 c29 c30 c31 c32 c33 c34 c35 c36 c37 c38 c39 c40 c41 c42 c43 c44 c45 c46 c47 c48 c49 c50 c51 c52 c53 c54 c55 c56 c57 c58 c59 c60 c61 c62 c63 c64 c65 c66 c67 c68 c69 c70 c71 c72 c73 c74 c75 c76 c77 c78 c79 c80 c81 c82 c83 c84 c85 c86 c87 c88 c89 c90 c91 c92 c93 c94 c95 c96 c97 c98 c99 c100 c101 c102 c103 c104 c105 c106 c107 c108 c109 c110 c111 c112 c113 c114 c115 c116 c117 c118 c119 c120 c121 c122 c123 c124 c125 c126 c127 c128 c129 c130 c131 c132 c133 c134 c135 c136 c137 c138 c139 c140 c141 c142 c143 c144 c145 c146 c147 c148 c149 c150 c151 c152 c153 c154 c155 c156 c157 c158 c159 c160 c161 c162 c163 c164 c165 c166 c167 c168 c169 c170 c171 c172 c173 c174 c175 c176 c177 c178 c179 c180 c181 c182 c183 c184 c185 c186 c187 c188 c189 c190 c191 c192 c193 c194 c195 c196 c197 c198 c199 c200 c201 c202 c203 c204 c205 c206 c207 c208 c209 c210 c211 c212 c213 c214 c215 c216 c217 c218 c219 c220 c221 c222 c223 c224 c225 c226 c227 c228 c229 c230 c231 c232 c233 c234 c235 c236 c237 c238 c239 c240 c241 c242 c243 c244 c245 c246 c247 c248 c249 c250 c251 c252 c253 c254 : Value} {Q0 : Exit → Act → World → Prop} (hst : BrSt w p q s PA pc d nv neg j set v w0) (HI : Hid (T = match itemR s a with | .ok e j => itemsR s f j false (set ++ e) | r => r)) (H0 : Hid (pk s a ≠ 0)) (HN : Hid (¬ (pk s a = 91 ∧ pk s (a + 1) = 58))) (HP1 : Hid (pointR s a = some (lo, j))) (haj : a < j) (hjl : j ≤ s.length) (hsl : set.length ≤ 8 * a) (hgo : Hid (∀ (u2 u10 u181 u182 u183 u184 u185 u186 u187 u188 u189 u190 u191 u192 u193 u194 u195 u196 u197 u198 u199 u200 u201 u202 u203 u204 u205 u206 u207 u208 u209 u210 u211 u212 u213 u214 u215 u216 u217 u218 u219 u220 u221 u222 u223 u224 u225 u226 u227 u228 u229 u230 u231 u232 u233 u234 u235 u236 u237 u238 u239 u240 u241 u242 u243 u244 : Value) (w9 : World), BrOut s T neg w p q PA pc d nv f a w9 → Q0 .normal ⟨#[.pointer (some ⟨p, 0, none⟩), c1, u2, .int .i64 (i : Int), .pointer (some ⟨q, 0, none⟩), c5, c6, c7, c8, .int .i64 lo, u10, c11, c12, c13, c14, c15, c16, c17, c18, c19, c20, c21, c22, c23, c24, c25, c26, c27, c28, c29, c30, c31, c32, c33, c34, c35, c36, c37, c38, c39, c40, c41, c42, c43, c44, c45, c46, c47, c48, c49, c50, c51, c52, c53, c54, c55, c56, c57, c58, c59, c60, c61, c62, c63, c64, c65, c66, c67, c68, c69, c70, c71, c72, c73, c74, c75, c76, c77, c78, c79, c80, c81, c82, c83, c84, c85, c86, c87, c88, c89, c90, c91, c92, c93, c94, c95, c96, c97, c98, c99, c100, c101, c102, c103, c104, c105, c106, c107, c108, c109, c110, c111, c112, c113, c114, c115, c116, c117, c118, c119, c120, c121, c122, c123, c124, c125, c126, c127, c128, c129, c130, c131, c132, c133, c134, c135, c136, c137, c138, c139, c140, c141, c142, c143, c144, c145, c146, c147, c148, c149, c150, c151, c152, c153, c154, c155, c156, c157, c158, c159, c160, c161, c162, c163, c164, c165, c166, c167, c168, c169, c170, c171, c172, c173, c174, c175, c176, c177, c178, c179, c180, u181, u182, u183, u184, u185, u186, u187, u188, u189, u190, u191, u192, u193, u194, u195, u196, u197, u198, u199, u200, u201, u202, u203, u204, u205, u206, u207, u208, u209, u210, u211, u212, u213, u214, u215, u216, u217, u218, u219, u220, u221, u222, u223, u224, u225, u226, u227, u228, u229, u230, u231, u232, u233, u234, u235, u236, u237, u238, u239, u240, u241, u242, u243, u244, c245, c246, c247, c248, c249, c250, c251, c252, c253, c254], []⟩ w9)) (hret : Hid (∀ (u2 u10 u181 u182 u183 u184 u185 u186 u187 u188 u189 u190 u191 u192 u193 u194 u195 u196 u197 u198 u199 u200 u201 u202 u203 u204 u205 u206 u207 u208 u209 u210 u211 u212 u213 u214 u215 u216 u217 u218 u219 u220 u221 u222 u223 u224 u225 u226 u227 u228 u229 u230 u231 u232 u233 u234 u235 u236 u237 u238 u239 u240 u241 u242 u243 u244 : Value) (w9 : World), SPost M w p s PA pc d F [] r (.returned u2) w9 → Q0 .ret ⟨#[.pointer (some ⟨p, 0, none⟩), c1, u2, .int .i64 (i : Int), .pointer (some ⟨q, 0, none⟩), c5, c6, c7, c8, .int .i64 lo, u10, c11, c12, c13, c14, c15, c16, c17, c18, c19, c20, c21, c22, c23, c24, c25, c26, c27, c28, c29, c30, c31, c32, c33, c34, c35, c36, c37, c38, c39, c40, c41, c42, c43, c44, c45, c46, c47, c48, c49, c50, c51, c52, c53, c54, c55, c56, c57, c58, c59, c60, c61, c62, c63, c64, c65, c66, c67, c68, c69, c70, c71, c72, c73, c74, c75, c76, c77, c78, c79, c80, c81, c82, c83, c84, c85, c86, c87, c88, c89, c90, c91, c92, c93, c94, c95, c96, c97, c98, c99, c100, c101, c102, c103, c104, c105, c106, c107, c108, c109, c110, c111, c112, c113, c114, c115, c116, c117, c118, c119, c120, c121, c122, c123, c124, c125, c126, c127, c128, c129, c130, c131, c132, c133, c134, c135, c136, c137, c138, c139, c140, c141, c142, c143, c144, c145, c146, c147, c148, c149, c150, c151, c152, c153, c154, c155, c156, c157, c158, c159, c160, c161, c162, c163, c164, c165, c166, c167, c168, c169, c170, c171, c172, c173, c174, c175, c176, c177, c178, c179, c180, u181, u182, u183, u184, u185, u186, u187, u188, u189, u190, u191, u192, u193, u194, u195, u196, u197, u198, u199, u200, u201, u202, u203, u204, u205, u206, u207, u208, u209, u210, u211, u212, u213, u214, u215, u216, u217, u218, u219, u220, u221, u222, u223, u224, u225, u226, u227, u228, u229, u230, u231, u232, u233, u234, u235, u236, u237, u238, u239, u240, u241, u242, u243, u244, c245, c246, c247, c248, c249, c250, c251, c252, c253, c254], []⟩ w9)) :
    Code.wp Tryz.prog (brCode 25) Q0 ⟨#[.pointer (some ⟨p, 0, none⟩), c1, c2, .int .i64 (i : Int), .pointer (some ⟨q, 0, none⟩), c5, c6, c7, c8, .int .i64 lo, .int .i64 lo, c11, c12, c13, c14, c15, c16, c17, c18, c19, c20, c21, c22, c23, c24, c25, c26, c27, c28, c29, c30, c31, c32, c33, c34, c35, c36, c37, c38, c39, c40, c41, c42, c43, c44, c45, c46, c47, c48, c49, c50, c51, c52, c53, c54, c55, c56, c57, c58, c59, c60, c61, c62, c63, c64, c65, c66, c67, c68, c69, c70, c71, c72, c73, c74, c75, c76, c77, c78, c79, c80, c81, c82, c83, c84, c85, c86, c87, c88, c89, c90, c91, c92, c93, c94, c95, c96, c97, c98, c99, c100, c101, c102, c103, c104, c105, c106, c107, c108, c109, c110, c111, c112, c113, c114, c115, c116, c117, c118, c119, c120, c121, c122, c123, c124, c125, c126, c127, c128, c129, c130, c131, c132, c133, c134, c135, c136, c137, c138, c139, c140, c141, c142, c143, c144, c145, c146, c147, c148, c149, c150, c151, c152, c153, c154, c155, c156, c157, c158, c159, c160, c161, c162, c163, c164, c165, c166, c167, c168, c169, c170, c171, c172, c173, c174, c175, c176, c177, c178, c179, c180, c181, c182, c183, c184, c185, c186, c187, c188, c189, c190, c191, c192, c193, c194, c195, c196, c197, c198, c199, c200, c201, c202, c203, c204, c205, c206, c207, c208, c209, c210, c211, c212, c213, c214, c215, c216, c217, c218, c219, c220, c221, c222, c223, c224, c225, c226, c227, c228, c229, c230, c231, c232, c233, c234, c235, c236, c237, c238, c239, c240, c241, c242, c243, c244, c245, c246, c247, c248, c249, c250, c251, c252, c253, c254], []⟩ w0 := by
  conv => arg 2; whnf
  try dsimp only
  have HST := Lib.hid hst
  obtain ⟨d0, d1, d2, d3, d4, d5⟩ := hst.ss.cell
  have hc0 := d2
  obtain ⟨mj, hmj⟩ : ∃ mj, j + 1 = mj := ⟨_, rfl⟩
  have hzj : (j : Int) + 1 = (mj : Int) := by omega
  obtain ⟨y, hy⟩ : ∃ y, pk s j = y := ⟨_, rfl⟩
  obtain ⟨z, hz⟩ : ∃ z, pk s mj = z := ⟨_, rfl⟩
  have HY := Lib.hid hy
  have HZ := Lib.hid hz
  have HMJ := Lib.hid hmj
  have hz0 := hP.zero (i := mj)
  rw [hz] at hz0
  have HZ0 := Lib.hid hz0
  have hlo := pointR_range hP (lt_of_pk H0.out) HP1.out
  have lo0 := hlo.1
  have lo1 := hlo.2
  obtain ⟨G, hG⟩ : ∃ G, decide (y = 45 ∧ z ≠ 93 ∧ z ≠ 0) = G := ⟨_, rfl⟩
  have HG := Lib.hid hG
  clear hst hy hz hmj hG hz0 hlo hc0
  have HPK : Hid (∀ n, Calls Tryz.prog 142 #[.pointer (some ⟨p, 0, none⟩)] (w0.drewN n) fun e w' => e = .returned (.int .i64 y) ∧ ∃ k, w' = (w0.drewN n).drewN k) := fun n => by
    have := peekQ (w0.drewN n) p s PA pc j 0 0 d nv (HST.out.ss.keep0 ((Keep.refl [] _).drewN n)) hs (by omega)
    rw [HY.out] at this
    exact this
  go_upto_region 25 with fail
  go_cut [217] from 181 to 216 (fun v wx => v = .bool G ∧ Keep [] w0 wx)
  case first =>
    by_cases h91 : y = 45
    · have h91b : (y == 45) = true := by simp [h91]
      by_cases hml : mj < s.length
      · have hmz : (mj : Int) < (s.length : Int) := by omega
        have hmb : decide (mj < s.length) = true := decide_eq_true hml
        have hm0 : (0 : Int) ≤ (mj : Int) := by omega
        have hzz : z ≠ 0 := fun e => by have := HZ0.out.1 e; omega
        obtain ⟨b, o, rfl, hb, hc⟩ := HST.out.ss.nums mj hml
        rw [← pk_lt hml, HZ.out] at hc
        by_cases h58 : z = 93
        · have HE : Hid (G = false) := by show G = false; rw [← HG.out]; simp [h91, h58]
          have h58b : (z == 93) = true := by simp [h58]
          have h58c : (z != 93) = false := by simp [h58]
          clear hzz
          go_quiet ((go_at_call 142; exact Calls.quiet_of (HPK.out _)))
          go_wp2_with fail
          go_meet
          case rel => exact ⟨by rw [HE.out], (Keep.refl [] w0).drewN _⟩
        · have HE : Hid (G = true) := by show G = true; rw [← HG.out]; simp [h91, h58, hzz]
          have h58b : (z == 93) = false := by simp [h58]
          have h58c : (z != 93) = true := by simp [h58]
          clear hzz
          go_quiet ((go_at_call 142; exact Calls.quiet_of (HPK.out _)))
          go_wp2_with fail
          go_meet
          case rel => exact ⟨by rw [HE.out], (Keep.refl [] w0).drewN _⟩
      · have hmb : decide (mj < s.length) = false := decide_eq_false hml
        have HE : Hid (G = false) := by
          show G = false; rw [← HG.out]
          have := HZ0.out.2 (by omega)
          simp [this]
        go_quiet ((go_at_call 142; exact Calls.quiet_of (HPK.out _)))
        go_wp2_with fail
        go_meet
        case rel => exact ⟨by rw [HE.out], (Keep.refl [] w0).drewN _⟩
    · have h91b : (y == 45) = false := by simp [h91]
      have HE : Hid (G = false) := by show G = false; rw [← HG.out]; simp [h91]
      go_quiet ((go_at_call 142; exact Calls.quiet_of (HPK.out _)))
      go_wp2_with fail
      go_meet
      case rel => exact ⟨by rw [HE.out], (Keep.refl [] w0).drewN _⟩
  case rest =>
    obtain ⟨rfl, hk6⟩ := hcut
    have KW := Lib.hid hk6
    have S1 := Lib.hid (HST.out.go hk6)
    clear hk6 d0 d1 d2 d3 d4 d5 HPK
    obtain ⟨d0, d1, d2, d3, d4, d5⟩ := S1.out.ss.cell
    cases G with
    | true =>
      have hb : Hid (pk s j = 45 ∧ pk s (j + 1) ≠ 93 ∧ pk s (j + 1) ≠ 0) := by
        show _ ∧ _
        rw [HY.out, HMJ.out, HZ.out]
        exact of_decide_eq_true HG.out
      have hml : mj < s.length := by have := lt_of_pk hb.out.2.2; have := HMJ.out; omega
      have f1 := S1.out.ss.frozen 1
      have S2 := Lib.hid (S1.out.at hp hqw (S1.out.ss.keepSet 1 (.int .i64 (mj : Int))) (S1.out.ss.set1 mj))
      cases hp2 : pointR s mj with
      | none =>
        have HT2 : Hid (T = .esc mj) := by
          show T = _
          rw [HI.out, it_esc2 H0.out HN.out HP1.out hb.out (by rw [HMJ.out]; exact hp2), HMJ.out]
        go_wp2_with fail
        refine (one_any _ p s PA pc mj d nv S2.out.ss hs hml hP).mono ?_
        intro e w6 hpt
        unfold PtIs at hpt
        rw [hp2] at hpt
        obtain ⟨rfl, k6, r6⟩ := hpt
        have K6 := Lib.hid (S2.out.keep.tr k6)
        have R6 := Lib.hid r6
        obtain ⟨b0, b1, b2, b3, b4, b5⟩ := r6.cell
        clear k6 r6 hp2 d0 d1 d2 d3 d4 d5 f1
        go_wp2
        refine hret.out _ _ _ _ _ _ _ _ _ _ _ _ _ _ _ _ _ _ _ _ _ _ _ _ _ _ _ _ _ _ _ _ _ _ _ _ _ _ _ _ _ _ _ _ _ _ _ _ _ _ _ _ _ _ _ _ _ _ _ _ _ _ _ _ _ _ _ ?_
        rw [er.out, HT2.out]
        exact ⟨by omega, ⟨_, rfl⟩, _, out, F, hM, HB.out _ _ _ _ _ R6.out K6.out, K6.out.mono fun b hb => by simp at hb; simp [hb], fun b hb => .inl hb⟩
      | some hj =>
        obtain ⟨hi2, k⟩ := hj
        have hmk := pointR_place hml hp2
        have HT3 := Lib.hid (it_two H0.out HN.out HP1.out hb.out (by rw [HMJ.out]; exact hp2))
        have hT : Hid (lo ≤ hi2 → T = itemsR s f k false (set ++ [lo, hi2])) := fun h => by rw [HI.out, HT3.out, if_pos h]
        have hB : Hid (hi2 < lo → T = .bad) := fun h => by rw [HI.out, HT3.out, if_neg (by omega)]
        go_wp2_with fail
        refine (one_any _ p s PA pc mj d nv S2.out.ss hs hml hP).mono ?_
        intro e w6 hpt
        unfold PtIs at hpt
        rw [hp2] at hpt
        obtain ⟨rfl, k6, r6⟩ := hpt
        have S6 := S2.out.at hp hqw k6 r6
        clear k6 r6 hp2 d0 d1 d2 d3 d4 d5 f1
        go_upto_region 999 with (first | with_reducible refine stopAt 28 ?_ | with_reducible refine stopAt2 28 ?_)
        change Code.wp _ _ _ _ _
        refine br28 hp hqw hs hi hP hM HB er (a := a) S6 hT hB (by omega) hmk.2 hsl ?_ ?_
        ·
          exact Lib.hid (fun _ _ _ _ _ _ _ _ _ _ _ _ _ _ _ _ _ _ _ w9 h9 => hgo.out _ _ _ _ _ _ _ _ _ _ _ _ _ _ _ _ _ _ _ _ _ _ _ _ _ _ _ _ _ _ _ _ _ _ _ _ _ _ _ _ _ _ _ _ _ _ _ _ _ _ _ _ _ _ _ _ _ _ _ _ _ _ _ _ _ _ w9 h9)
        ·
          exact Lib.hid (fun _ _ _ _ _ _ _ _ _ _ _ _ _ _ _ _ _ _ _ w9 h9 => hret.out _ _ _ _ _ _ _ _ _ _ _ _ _ _ _ _ _ _ _ _ _ _ _ _ _ _ _ _ _ _ _ _ _ _ _ _ _ _ _ _ _ _ _ _ _ _ _ _ _ _ _ _ _ _ _ _ _ _ _ _ _ _ _ _ _ _ w9 h9)
    | false =>
      have hb : Hid (¬ (pk s j = 45 ∧ pk s (j + 1) ≠ 93 ∧ pk s (j + 1) ≠ 0)) := by
        show ¬ (_ ∧ _)
        rw [HY.out, HMJ.out, HZ.out]
        exact of_decide_eq_false HG.out
      have HT3 := Lib.hid (it_one H0.out HN.out HP1.out hb.out)
      have hT : Hid (lo ≤ lo → T = itemsR s f j false (set ++ [lo, lo])) := fun _ => by rw [HI.out, HT3.out]
      have hB : Hid (lo < lo → T = .bad) := fun h => by omega
      go_upto_region 999 with (first | with_reducible refine stopAt 28 ?_ | with_reducible refine stopAt2 28 ?_)
      change Code.wp _ _ _ _ _
      refine br28 hp hqw hs hi hP hM HB er (a := a) S1.out hT hB haj hjl hsl ?_ ?_
      ·
        exact Lib.hid (fun _ _ _ _ _ _ _ _ _ _ _ _ _ _ _ _ _ _ _ w9 h9 => hgo.out _ _ _ _ _ _ _ _ _ _ _ _ _ _ _ _ _ _ _ _ _ _ _ _ _ _ _ _ _ _ _ _ _ _ _ _ _ _ _ _ _ _ _ _ _ _ _ _ _ _ _ _ _ _ _ _ _ _ _ _ _ _ _ _ _ _ w9 h9)
      ·
        exact Lib.hid (fun _ _ _ _ _ _ _ _ _ _ _ _ _ _ _ _ _ _ _ w9 h9 => hret.out _ _ _ _ _ _ _ _ _ _ _ _ _ _ _ _ _ _ _ _ _ _ _ _ _ _ _ _ _ _ _ _ _ _ _ _ _ _ _ _ _ _ _ _ _ _ _ _ _ _ _ _ _ _ _ _ _ _ _ _ _ _ _ _ _ _ w9 h9)

set_option maxHeartbeats 4000000 in
set_option maxRecDepth 1000000 in
theorem br23 {w : World} {p q : Nat} {s : List Int} {PA : Option Addr} {pc d i : Nat} {nv : Value} {neg : Bool} {T : It} (hp : p < w.heap.size) (hqw : w.heap.size ≤ q) (hs : s.length ≤ 1000) {M : Nat} {out : List Nd} {F : List Nat} (hi : i < s.length) (hP : Pos s) (hM : out.length ≤ M) (HB : Hid (∀ w' i' code' bad' d', Ss w' p s PA pc i' code' bad' d' nv → Keep [p] w w' → SRd w' p s PA pc i' code' bad' d' out F)) {r : Rd} (er : Hid (r = brPost out i neg T)) {w0 : World} {f a : Nat} {set : List Int} {v : Value} {c1 c2 c5 c6 c7 c8 c9 c10 c11 c12 c13 c14 c15 c16 c17 c18 c19 c20 c21 c22 c23 c24 c25 c26 c27 c28 c29 c30 c31 c32 c33 c34 c35 c36 c37 c38 c39 c40 c41 c42 c43 c44 c45 c46 c47 c48 c49 c50 c51 c52 c53 c54 c55 c56 c57 c58 c59 c60 c61 c62 c63 c64 c65 c66 c67 c68 c69 c70 c71 c72 c73 c74 c75 c76 c77 c78 c79 c80 c81 c82 c83 c84 c85 c86 c87 c88 c89 c90 c91 c92 c93 c94 c95 c96 c97 c98 c99 c100 c101 c102 c103 c104 c105 c106 c107 c108 c109 c110 c111 c112 c113 c114 c115 c116 c117 c118 c119 c120 c121 c122 c123 c124 c125 c126 c127 c128 c129 c130 c131 c132 c133 c134 c135 c136 c137 c138 c139 c140 c141 c142 c143 c144 c145 c146 c147 c148 c149 c150 c151 c152 c153 c154 c155 c156 c157 c158 c159 c160 c161 c162 c163 c164 c165 c166 c167 c168 c169 c170 c171 c172 c173 c174 c175 c176 c177 c178 c179 c180 c181 c182 c183 c184 c185 c186 c187 c188 c189 c190 c191 c192 c193 c194 c195 c196 c197 c198 c199 c200 c201 c202 c203 c204 c205 c206 c207 c208 c209 c210 c211 c212 c213 c214 c215 c216 c217 c218 c219 c220 c221 c222 c223 c224 c225 c226 c227 c228 c229 c230 c231 c232 c233 c234 c235 c236 c237 c238 c239 c240 c241 c242 c243 c244 c245 c246 c247 c248 c249 c250 c251 c252 c253 c254 : Value} {Q0 : Exit → Act → World → Prop} (hst : BrSt w p q s PA pc d nv neg a set v w0) (HI : Hid (T = match itemR s a with | .ok e j => itemsR s f j false (set ++ e) | r => r)) (H0 : Hid (pk s a ≠ 0)) (HN : Hid (¬ (pk s a = 91 ∧ pk s (a + 1) = 58))) (hal : a < s.length) (hsl : set.length ≤ 8 * a) (hgo : Hid (∀ (u2 u9 u10 u178 u179 u180 u181 u182 u183 u184 u185 u186 u187 u188 u189 u190 u191 u192 u193 u194 u195 u196 u197 u198 u199 u200 u201 u202 u203 u204 u205 u206 u207 u208 u209 u210 u211 u212 u213 u214 u215 u216 u217 u218 u219 u220 u221 u222 u223 u224 u225 u226 u227 u228 u229 u230 u231 u232 u233 u234 u235 u236 u237 u238 u239 u240 u241 u242 u243 u244 : Value) (w9 : World), BrOut s T neg w p q PA pc d nv f a w9 → Q0 .normal ⟨#[.pointer (some ⟨p, 0, none⟩), c1, u2, .int .i64 (i : Int), .pointer (some ⟨q, 0, none⟩), c5, c6, c7, c8, u9, u10, c11, c12, c13, c14, c15, c16, c17, c18, c19, c20, c21, c22, c23, c24, c25, c26, c27, c28, c29, c30, c31, c32, c33, c34, c35, c36, c37, c38, c39, c40, c41, c42, c43, c44, c45, c46, c47, c48, c49, c50, c51, c52, c53, c54, c55, c56, c57, c58, c59, c60, c61, c62, c63, c64, c65, c66, c67, c68, c69, c70, c71, c72, c73, c74, c75, c76, c77, c78, c79, c80, c81, c82, c83, c84, c85, c86, c87, c88, c89, c90, c91, c92, c93, c94, c95, c96, c97, c98, c99, c100, c101, c102, c103, c104, c105, c106, c107, c108, c109, c110, c111, c112, c113, c114, c115, c116, c117, c118, c119, c120, c121, c122, c123, c124, c125, c126, c127, c128, c129, c130, c131, c132, c133, c134, c135, c136, c137, c138, c139, c140, c141, c142, c143, c144, c145, c146, c147, c148, c149, c150, c151, c152, c153, c154, c155, c156, c157, c158, c159, c160, c161, c162, c163, c164, c165, c166, c167, c168, c169, c170, c171, c172, c173, c174, c175, c176, c177, u178, u179, u180, u181, u182, u183, u184, u185, u186, u187, u188, u189, u190, u191, u192, u193, u194, u195, u196, u197, u198, u199, u200, u201, u202, u203, u204, u205, u206, u207, u208, u209, u210, u211, u212, u213, u214, u215, u216, u217, u218, u219, u220, u221, u222, u223, u224, u225, u226, u227, u228, u229, u230, u231, u232, u233, u234, u235, u236, u237, u238, u239, u240, u241, u242, u243, u244, c245, c246, c247, c248, c249, c250, c251, c252, c253, c254], []⟩ w9)) (hret : Hid (∀ (u2 u9 u10 u178 u179 u180 u181 u182 u183 u184 u185 u186 u187 u188 u189 u190 u191 u192 u193 u194 u195 u196 u197 u198 u199 u200 u201 u202 u203 u204 u205 u206 u207 u208 u209 u210 u211 u212 u213 u214 u215 u216 u217 u218 u219 u220 u221 u222 u223 u224 u225 u226 u227 u228 u229 u230 u231 u232 u233 u234 u235 u236 u237 u238 u239 u240 u241 u242 u243 u244 : Value) (w9 : World), SPost M w p s PA pc d F [] r (.returned u2) w9 → Q0 .ret ⟨#[.pointer (some ⟨p, 0, none⟩), c1, u2, .int .i64 (i : Int), .pointer (some ⟨q, 0, none⟩), c5, c6, c7, c8, u9, u10, c11, c12, c13, c14, c15, c16, c17, c18, c19, c20, c21, c22, c23, c24, c25, c26, c27, c28, c29, c30, c31, c32, c33, c34, c35, c36, c37, c38, c39, c40, c41, c42, c43, c44, c45, c46, c47, c48, c49, c50, c51, c52, c53, c54, c55, c56, c57, c58, c59, c60, c61, c62, c63, c64, c65, c66, c67, c68, c69, c70, c71, c72, c73, c74, c75, c76, c77, c78, c79, c80, c81, c82, c83, c84, c85, c86, c87, c88, c89, c90, c91, c92, c93, c94, c95, c96, c97, c98, c99, c100, c101, c102, c103, c104, c105, c106, c107, c108, c109, c110, c111, c112, c113, c114, c115, c116, c117, c118, c119, c120, c121, c122, c123, c124, c125, c126, c127, c128, c129, c130, c131, c132, c133, c134, c135, c136, c137, c138, c139, c140, c141, c142, c143, c144, c145, c146, c147, c148, c149, c150, c151, c152, c153, c154, c155, c156, c157, c158, c159, c160, c161, c162, c163, c164, c165, c166, c167, c168, c169, c170, c171, c172, c173, c174, c175, c176, c177, u178, u179, u180, u181, u182, u183, u184, u185, u186, u187, u188, u189, u190, u191, u192, u193, u194, u195, u196, u197, u198, u199, u200, u201, u202, u203, u204, u205, u206, u207, u208, u209, u210, u211, u212, u213, u214, u215, u216, u217, u218, u219, u220, u221, u222, u223, u224, u225, u226, u227, u228, u229, u230, u231, u232, u233, u234, u235, u236, u237, u238, u239, u240, u241, u242, u243, u244, c245, c246, c247, c248, c249, c250, c251, c252, c253, c254], []⟩ w9)) :
    Code.wp Tryz.prog (brCode 23) Q0 ⟨#[.pointer (some ⟨p, 0, none⟩), c1, c2, .int .i64 (i : Int), .pointer (some ⟨q, 0, none⟩), c5, c6, c7, c8, c9, c10, c11, c12, c13, c14, c15, c16, c17, c18, c19, c20, c21, c22, c23, c24, c25, c26, c27, c28, c29, c30, c31, c32, c33, c34, c35, c36, c37, c38, c39, c40, c41, c42, c43, c44, c45, c46, c47, c48, c49, c50, c51, c52, c53, c54, c55, c56, c57, c58, c59, c60, c61, c62, c63, c64, c65, c66, c67, c68, c69, c70, c71, c72, c73, c74, c75, c76, c77, c78, c79, c80, c81, c82, c83, c84, c85, c86, c87, c88, c89, c90, c91, c92, c93, c94, c95, c96, c97, c98, c99, c100, c101, c102, c103, c104, c105, c106, c107, c108, c109, c110, c111, c112, c113, c114, c115, c116, c117, c118, c119, c120, c121, c122, c123, c124, c125, c126, c127, c128, c129, c130, c131, c132, c133, c134, c135, c136, c137, c138, c139, c140, c141, c142, c143, c144, c145, c146, c147, c148, c149, c150, c151, c152, c153, c154, c155, c156, c157, c158, c159, c160, c161, c162, c163, c164, c165, c166, c167, c168, c169, c170, c171, c172, c173, c174, c175, c176, c177, c178, c179, c180, c181, c182, c183, c184, c185, c186, c187, c188, c189, c190, c191, c192, c193, c194, c195, c196, c197, c198, c199, c200, c201, c202, c203, c204, c205, c206, c207, c208, c209, c210, c211, c212, c213, c214, c215, c216, c217, c218, c219, c220, c221, c222, c223, c224, c225, c226, c227, c228, c229, c230, c231, c232, c233, c234, c235, c236, c237, c238, c239, c240, c241, c242, c243, c244, c245, c246, c247, c248, c249, c250, c251, c252, c253, c254], []⟩ w0 := by
  conv => arg 2; whnf
  try dsimp only
  have HST := Lib.hid hst
  clear hst
  cases hp1 : pointR s a with
  | none =>
    have HT2 : Hid (T = .esc a) := by
      show T = _
      rw [HI.out, it_esc H0.out HN.out hp1]
    go_wp2_with fail
    refine (one_any _ p s PA pc a d nv HST.out.ss hs hal hP).mono ?_
    intro e w6 hpt
    unfold PtIs at hpt
    rw [hp1] at hpt
    obtain ⟨rfl, k6, r6⟩ := hpt
    have K6 := Lib.hid (HST.out.keep.tr k6)
    have R6 := Lib.hid r6
    obtain ⟨b0, b1, b2, b3, b4, b5⟩ := r6.cell
    clear k6 r6 hp1
    go_wp2
    go_quiet (fail)
    go_wp2
    have K7 := Lib.hid (K6.out.drewN nq)
    have R7 := Lib.hid (R6.out.keep0 ((Keep.refl [] _).drewN nq))
    refine hret.out _ _ _ _ _ _ _ _ _ _ _ _ _ _ _ _ _ _ _ _ _ _ _ _ _ _ _ _ _ _ _ _ _ _ _ _ _ _ _ _ _ _ _ _ _ _ _ _ _ _ _ _ _ _ _ _ _ _ _ _ _ _ _ _ _ _ _ _ _ _ _ ?_
    rw [er.out, HT2.out]
    exact ⟨by omega, ⟨_, rfl⟩, _, out, F, hM, HB.out _ _ _ _ _ R7.out K7.out, K7.out.mono fun b hb => by simp at hb; simp [hb], fun b hb => .inl hb⟩
  | some lj =>
    obtain ⟨lo, j⟩ := lj
    have hja := pointR_place hal hp1
    go_wp2_with fail
    refine (one_any _ p s PA pc a d nv HST.out.ss hs hal hP).mono ?_
    intro e w6 hpt
    unfold PtIs at hpt
    rw [hp1] at hpt
    obtain ⟨rfl, k6, r6⟩ := hpt
    have S6 := HST.out.at hp hqw k6 r6
    clear k6 r6
    go_upto_region 999 with (first | with_reducible refine stopAt 25 ?_ | with_reducible refine stopAt2 25 ?_)
    change Code.wp _ _ _ _ _
    refine br25 hp hqw hs hi hP hM HB er S6 HI H0 HN hp1 hja.1 hja.2 hsl ?_ ?_
    ·
      exact Lib.hid (fun _ _ _ _ _ _ _ _ _ _ _ _ _ _ _ _ _ _ _ _ _ _ _ _ _ _ _ _ _ _ _ _ _ _ _ _ _ _ _ _ _ _ _ _ _ _ _ _ _ _ _ _ _ _ _ _ _ _ _ _ _ _ _ _ _ _ w9 h9 => hgo.out _ _ _ _ _ _ _ _ _ _ _ _ _ _ _ _ _ _ _ _ _ _ _ _ _ _ _ _ _ _ _ _ _ _ _ _ _ _ _ _ _ _ _ _ _ _ _ _ _ _ _ _ _ _ _ _ _ _ _ _ _ _ _ _ _ _ _ _ _ _ w9 h9)
    ·
      exact Lib.hid (fun _ _ _ _ _ _ _ _ _ _ _ _ _ _ _ _ _ _ _ _ _ _ _ _ _ _ _ _ _ _ _ _ _ _ _ _ _ _ _ _ _ _ _ _ _ _ _ _ _ _ _ _ _ _ _ _ _ _ _ _ _ _ _ _ _ _ w9 h9 => hret.out _ _ _ _ _ _ _ _ _ _ _ _ _ _ _ _ _ _ _ _ _ _ _ _ _ _ _ _ _ _ _ _ _ _ _ _ _ _ _ _ _ _ _ _ _ _ _ _ _ _ _ _ _ _ _ _ _ _ _ _ _ _ _ _ _ _ _ _ _ _ w9 h9)


end Go.Proofs.YtdkjfppjbkdelaaGreatDoor

/- The specification's reader of patterns: bracket: a named class. Conditions: at most 1000 code points. -/
namespace Go.Proofs.YtdkjfppjbkdelaaGreatDoor
set_option linter.unusedVariables false
open Go.RowKit

set_option maxHeartbeats 4000000 in
set_option maxRecDepth 1000000 in
theorem br18 {w : World} {p q : Nat} {s : List Int} {PA : Option Addr} {pc d i : Nat} {nv : Value} {neg : Bool} {T : It} (hp : p < w.heap.size) (hqw : w.heap.size ≤ q) (hs : s.length ≤ 1000) {M : Nat} {out : List Nd} {F : List Nat} (hi : i < s.length) (hP : Pos s) (hM : out.length ≤ M) (HB : Hid (∀ w' i' code' bad' d', Ss w' p s PA pc i' code' bad' d' nv → Keep [p] w w' → SRd w' p s PA pc i' code' bad' d' out F)) {r : Rd} (er : Hid (r = brPost out i neg T)) {w0 : World} {f a k : Nat} {bs : List UInt8} {set : List Int} {v : Value} {c1 c2 c5 c8 c9 c10 c11 c12 c13 c14 c15 c16 c17 c18 c19 c20 c21 c22 c23 c24 c25 c26 c27 c28 c29 c30 c31 c32 c33 c34 c35 c36 c37 c38 c39 c40 c41 c42 c43 c44 c45 c46 c47 c48 c49 c50 c51 c52 c53 c54 c55 c56 c57 c58 c59 c60 c61 c62 c63 c64 c65 c66 c67 c68 c69 c70 c71 c72 c73 c74 c75 c76 c77 c78 c79 c80 c81 c82 c83 c84 c85 c86 c87 c88 c89 c90 c91 c92 c93 c94 c95 c96 c97 c98 c99 c100 c101 c102 c103 c104 c105 c106 c107 c108 c109 c110 c111 c112 c113 c114 c115 c116 c117 c118 c119 c120 c121 c122 c123 c124 c125 c126 c127 c128 c129 c130 c131 c132 c133 c134 c135 c136 c137 c138 c139 c140 c141 c142 c143 c144 c145 c146 c147 c148 c149 c150 c151 c152 c153 c154 c155 c156 c157 c158 c159 c160 c161 c162 c163 c164 c165 c166 c167 c168 c169 c170 c171 c172 c173 c174 c175 c176 c177 c178 c179 c180 c181 c182 c183 c184 c185 c186 c187 c188 c189 c190 c191 c192 c193 c194 c195 c196 c197 c198 c199 c200 c201 c202 c203 c204 c205 c206 c207 c208 c209 c210 c211 c212 c213 c214 c215 c216 c217 c218 c219 c220 c221 c222 c223 c224 c225 c226 c227 c228 c229 c230 c231 c232 c233 c234 c235 c236 c237 c238 c239 c240 c241 c242 c243 c244 c245 c246 c247 c248 c249 c250 c251 c252 c253 c254 : Value} {Q0 : Exit → Act → World → Prop} (hst : BrSt w p q s PA pc d nv neg a set v w0) (HI : Hid (T = match classR s a with | some (e, j) => itemsR s f j false (set ++ e) | none => .bad)) (HC : Hid (classR s a = if classOf (bs.map bi) ≠ [] ∧ pk s k = 58 ∧ pk s (k + 1) = 93 then some (classOf (bs.map bi), k + 2) else none)) (hak : a + 2 ≤ k) (hkl : k ≤ s.length) (hsl : set.length ≤ 8 * a) (hgo : Hid (∀ (u2 u8 u129 u130 u131 u132 u133 u134 u135 u136 u137 u138 u139 u140 u141 u142 u143 u144 u145 u146 u147 u148 u149 u150 u151 u152 u153 u154 u155 u156 u157 u158 u159 u160 u161 u162 u163 u164 u165 u166 u167 u168 u169 u170 u171 u172 u173 u174 u175 u176 u177 : Value) (w9 : World), BrOut s T neg w p q PA pc d nv f a w9 → Q0 (.exit 1) ⟨#[.pointer (some ⟨p, 0, none⟩), c1, u2, .int .i64 (i : Int), .pointer (some ⟨q, 0, none⟩), c5, .string ⟨bs.toArray⟩, .int .i64 (k : Int), u8, c9, c10, c11, c12, c13, c14, c15, c16, c17, c18, c19, c20, c21, c22, c23, c24, c25, c26, c27, c28, c29, c30, c31, c32, c33, c34, c35, c36, c37, c38, c39, c40, c41, c42, c43, c44, c45, c46, c47, c48, c49, c50, c51, c52, c53, c54, c55, c56, c57, c58, c59, c60, c61, c62, c63, c64, c65, c66, c67, c68, c69, c70, c71, c72, c73, c74, c75, c76, c77, c78, c79, c80, c81, c82, c83, c84, c85, c86, c87, c88, c89, c90, c91, c92, c93, c94, c95, c96, c97, c98, c99, c100, c101, c102, c103, c104, c105, c106, c107, c108, c109, c110, c111, c112, c113, c114, c115, c116, c117, c118, c119, c120, c121, c122, c123, c124, c125, c126, c127, c128, u129, u130, u131, u132, u133, u134, u135, u136, u137, u138, u139, u140, u141, u142, u143, u144, u145, u146, u147, u148, u149, u150, u151, u152, u153, u154, u155, u156, u157, u158, u159, u160, u161, u162, u163, u164, u165, u166, u167, u168, u169, u170, u171, u172, u173, u174, u175, u176, u177, c178, c179, c180, c181, c182, c183, c184, c185, c186, c187, c188, c189, c190, c191, c192, c193, c194, c195, c196, c197, c198, c199, c200, c201, c202, c203, c204, c205, c206, c207, c208, c209, c210, c211, c212, c213, c214, c215, c216, c217, c218, c219, c220, c221, c222, c223, c224, c225, c226, c227, c228, c229, c230, c231, c232, c233, c234, c235, c236, c237, c238, c239, c240, c241, c242, c243, c244, c245, c246, c247, c248, c249, c250, c251, c252, c253, c254], []⟩ w9)) (hret : Hid (∀ (u2 u8 u129 u130 u131 u132 u133 u134 u135 u136 u137 u138 u139 u140 u141 u142 u143 u144 u145 u146 u147 u148 u149 u150 u151 u152 u153 u154 u155 u156 u157 u158 u159 u160 u161 u162 u163 u164 u165 u166 u167 u168 u169 u170 u171 u172 u173 u174 u175 u176 u177 : Value) (w9 : World), SPost M w p s PA pc d F [] r (.returned u2) w9 → Q0 .ret ⟨#[.pointer (some ⟨p, 0, none⟩), c1, u2, .int .i64 (i : Int), .pointer (some ⟨q, 0, none⟩), c5, .string ⟨bs.toArray⟩, .int .i64 (k : Int), u8, c9, c10, c11, c12, c13, c14, c15, c16, c17, c18, c19, c20, c21, c22, c23, c24, c25, c26, c27, c28, c29, c30, c31, c32, c33, c34, c35, c36, c37, c38, c39, c40, c41, c42, c43, c44, c45, c46, c47, c48, c49, c50, c51, c52, c53, c54, c55, c56, c57, c58, c59, c60, c61, c62, c63, c64, c65, c66, c67, c68, c69, c70, c71, c72, c73, c74, c75, c76, c77, c78, c79, c80, c81, c82, c83, c84, c85, c86, c87, c88, c89, c90, c91, c92, c93, c94, c95, c96, c97, c98, c99, c100, c101, c102, c103, c104, c105, c106, c107, c108, c109, c110, c111, c112, c113, c114, c115, c116, c117, c118, c119, c120, c121, c122, c123, c124, c125, c126, c127, c128, u129, u130, u131, u132, u133, u134, u135, u136, u137, u138, u139, u140, u141, u142, u143, u144, u145, u146, u147, u148, u149, u150, u151, u152, u153, u154, u155, u156, u157, u158, u159, u160, u161, u162, u163, u164, u165, u166, u167, u168, u169, u170, u171, u172, u173, u174, u175, u176, u177, c178, c179, c180, c181, c182, c183, c184, c185, c186, c187, c188, c189, c190, c191, c192, c193, c194, c195, c196, c197, c198, c199, c200, c201, c202, c203, c204, c205, c206, c207, c208, c209, c210, c211, c212, c213, c214, c215, c216, c217, c218, c219, c220, c221, c222, c223, c224, c225, c226, c227, c228, c229, c230, c231, c232, c233, c234, c235, c236, c237, c238, c239, c240, c241, c242, c243, c244, c245, c246, c247, c248, c249, c250, c251, c252, c253, c254], []⟩ w9)) :
    Code.wp Tryz.prog (brCode 18) Q0 ⟨#[.pointer (some ⟨p, 0, none⟩), c1, c2, .int .i64 (i : Int), .pointer (some ⟨q, 0, none⟩), c5, .string ⟨bs.toArray⟩, .int .i64 (k : Int), c8, c9, c10, c11, c12, c13, c14, c15, c16, c17, c18, c19, c20, c21, c22, c23, c24, c25, c26, c27, c28, c29, c30, c31, c32, c33, c34, c35, c36, c37, c38, c39, c40, c41, c42, c43, c44, c45, c46, c47, c48, c49, c50, c51, c52, c53, c54, c55, c56, c57, c58, c59, c60, c61, c62, c63, c64, c65, c66, c67, c68, c69, c70, c71, c72, c73, c74, c75, c76, c77, c78, c79, c80, c81, c82, c83, c84, c85, c86, c87, c88, c89, c90, c91, c92, c93, c94, c95, c96, c97, c98, c99, c100, c101, c102, c103, c104, c105, c106, c107, c108, c109, c110, c111, c112, c113, c114, c115, c116, c117, c118, c119, c120, c121, c122, c123, c124, c125, c126, c127, c128, c129, c130, c131, c132, c133, c134, c135, c136, c137, c138, c139, c140, c141, c142, c143, c144, c145, c146, c147, c148, c149, c150, c151, c152, c153, c154, c155, c156, c157, c158, c159, c160, c161, c162, c163, c164, c165, c166, c167, c168, c169, c170, c171, c172, c173, c174, c175, c176, c177, c178, c179, c180, c181, c182, c183, c184, c185, c186, c187, c188, c189, c190, c191, c192, c193, c194, c195, c196, c197, c198, c199, c200, c201, c202, c203, c204, c205, c206, c207, c208, c209, c210, c211, c212, c213, c214, c215, c216, c217, c218, c219, c220, c221, c222, c223, c224, c225, c226, c227, c228, c229, c230, c231, c232, c233, c234, c235, c236, c237, c238, c239, c240, c241, c242, c243, c244, c245, c246, c247, c248, c249, c250, c251, c252, c253, c254], []⟩ w0 := by
  conv => arg 2; whnf
  try dsimp only
  obtain ⟨i0, hi0, hz0, hz1, hz2⟩ := info_parts Tryz.infoInt
  have HST := Lib.hid hst
  obtain ⟨d0, d1, d2, d3, d4, d5⟩ := hst.ss.cell
  obtain ⟨C, hC⟩ : ∃ C, classOf (bs.map bi) = C := ⟨_, rfl⟩
  have hCl : C.length ≤ 8 := by rw [← hC]; exact classOf_len _
  have HC2 := Lib.hid hC
  rw [hC] at HC
  clear hst hC
  go_wp2_with fail
  refine (sclass_any bs _).mono ?_
  rintro e w1 ⟨v1, rfl, hrow, k2⟩
  rw [HC2.out] at hrow
  have S1 := Lib.hid (HST.out.go k2)
  clear k2 d0 d1 d2 d3 d4 d5
  obtain ⟨d0, d1, d2, d3, d4, d5⟩ := S1.out.ss.cell
  by_cases hC0 : C = []
  · have HT2 : Hid (T = .bad) := by show T = _; rw [HI.out, HC.out, if_neg (fun h => h.1 hC0)]
    subst hC0
    obtain ⟨A2, c2, rfl⟩ := own_form hrow
    clear hrow HC
    have cF := fail_post M 4 i _ p s _ pc _ d out F [] (HB.out _ _ _ _ _ S1.out.ss S1.out.keep) hs (by omega) hM
    go_wp2_with fail
    refine cF.mono ?_
    rintro e5 w9 ⟨rfl, q5⟩
    have Q5 := Lib.hid (SPost.pre0 S1.out.keep q5)
    clear q5 cF
    go_wp2
    refine hret.out _ _ _ _ _ _ _ _ _ _ _ _ _ _ _ _ _ _ _ _ _ _ _ _ _ _ _ _ _ _ _ _ _ _ _ _ _ _ _ _ _ _ _ _ _ _ _ _ _ _ _ _ ?_
    rw [er.out, HT2.out]
    exact Q5.out
  obtain ⟨g3, c3, rfl, hcells⟩ := row_some hrow hC0
  have hg3 : g3 < w1.heap.size := (hrow.lt g3 rfl).2
  have HCs := Lib.hid hcells
  have hCp : 0 < C.length := List.length_pos_iff.2 hC0
  have hq1 : ((C.length : Int) == 0) = false := beq_eq_false_iff_ne.2 (by omega)
  have hq2 : ¬ (C.length : Int) = 0 := by omega
  have hq3 : (C.length == 0) = false := beq_eq_false_iff_ne.2 (by omega)
  clear hcells hrow
  obtain ⟨m1, hm1⟩ : ∃ m1, k + 1 = m1 := ⟨_, rfl⟩
  have hzk : (k : Int) + 1 = (m1 : Int) := by omega
  have HM1 := Lib.hid hm1
  clear hm1
  by_cases hml : m1 < s.length
  · have hmb : ¬ (s.length : Int) ≤ (m1 : Int) := by omega
    have hm0 : (0 : Int) ≤ (m1 : Int) := by omega
    have hkl2 : k < s.length := by have := HM1.out; omega
    obtain ⟨b, o, rfl, hb, hc⟩ := S1.out.ss.nums m1 hml
    obtain ⟨b', o', hPA, hb', hc'⟩ := S1.out.ss.nums k hkl2
    cases hPA
    obtain ⟨x, hx⟩ : ∃ x, pk s k = x := ⟨_, rfl⟩
    obtain ⟨y, hy⟩ : ∃ y, pk s m1 = y := ⟨_, rfl⟩
    rw [← pk_lt hml, hy] at hc
    rw [← pk_lt hkl2, hx] at hc'
    have HX := Lib.hid hx
    have HY : Hid (pk s (k + 1) = y) := by show pk s (k + 1) = y; rw [HM1.out]; exact hy
    clear hx hy
    by_cases h58 : x = 58
    · by_cases h93 : y = 93
      · have HT2 : Hid (T = itemsR s f (k + 2) false (set ++ C)) := by show T = _; rw [HI.out, HC.out, if_pos ⟨hC0, by rw [HX.out]; exact h58, by rw [HY.out]; exact h93⟩]
        subst h58
        subst h93
        have hrow := S1.out.row
        obtain ⟨A, c, rfl⟩ := own_form hrow
        have WR := Lib.hid hrow
        obtain ⟨e0, e1, e2, e3, e4, e5⟩ := S1.out.six.cells
        have z3 : p + 1 ≤ w1.heap.size := by have := S1.out.ss.lt; omega
        obtain ⟨m2, hm2⟩ : ∃ m2, k + 2 = m2 := ⟨_, rfl⟩
        have hzk2 : (k : Int) + 2 = (m2 : Int) := by omega
        rw [hm2] at HT2
        have hm2l : m2 ≤ s.length := by have := HM1.out; omega
        have ham : a < m2 := by omega
        clear hrow hm2 HC hC0
        go_wp2_with (at_builtin; refine list_append_own rfl _ _ 45 rfl (p + 1) 3 i0 (.int .i64 0) 1 8 Tryz.underlying45 hi0 hz0 hz1 hz2 rfl (by decide) (.slice A set.length c) set.length (set.map (Value.int .i64)) rfl WR.out ⟨g3, 0, none⟩ C.length c3 (C.map (Value.int .i64)) rfl (by simp) HCs.out one_ints (by unfold maxLen; omega) (by omega) z3 ?_; intro v4 w4 hown4 hgrow4 hblk4; obtain ⟨A4, c4, rfl⟩ := own_form hown4; have H4 := Lib.hid (br_app (l := C) hp hqw S1.out (Keep.refl [] _) hown4 hgrow4 hblk4); have g4 := H4.out.1; have g5 := H4.out.2.1; obtain ⟨b0, b1, b2, b3, b4, b5⟩ := H4.out.2.2.2.ss.cell; have f1 := H4.out.2.2.2.ss.frozen 1; clear hown4 hgrow4 hblk4)
        have S5 := H4.out.2.2.2.at hp hqw (H4.out.2.2.2.ss.keepSet 1 (.int .i64 (m2 : Int))) (H4.out.2.2.2.ss.set1 m2)
        refine hgo.out _ _ _ _ _ _ _ _ _ _ _ _ _ _ _ _ _ _ _ _ _ _ _ _ _ _ _ _ _ _ _ _ _ _ _ _ _ _ _ _ _ _ _ _ _ _ _ _ _ _ _ _ ⟨m2, set ++ C, _, S5, HT2.out, ham, hm2l, by simp; omega⟩
      · have HT2 : Hid (T = .bad) := by show T = _; rw [HI.out, HC.out, if_neg (fun h => h93 (by rw [← HY.out]; exact h.2.2))]
        have h93b : (y == 93) = false := beq_eq_false_iff_ne.2 h93
        have h93c : (y != 93) = true := by simp [h93]
        clear HC hC0
        have cF := fail_post M 4 i _ p s _ pc _ d out F [] (HB.out _ _ _ _ _ S1.out.ss S1.out.keep) hs (by omega) hM
        go_wp2_with fail
        refine cF.mono ?_
        rintro e5 w9 ⟨rfl, q5⟩
        have Q5 := Lib.hid (SPost.pre0 S1.out.keep q5)
        clear q5 cF
        go_wp2
        refine hret.out _ _ _ _ _ _ _ _ _ _ _ _ _ _ _ _ _ _ _ _ _ _ _ _ _ _ _ _ _ _ _ _ _ _ _ _ _ _ _ _ _ _ _ _ _ _ _ _ _ _ _ _ ?_
        rw [er.out, HT2.out]
        exact Q5.out
    · have HT2 : Hid (T = .bad) := by show T = _; rw [HI.out, HC.out, if_neg (fun h => h58 (by rw [← HX.out]; exact h.2.1))]
      have h58b : (x == 58) = false := beq_eq_false_iff_ne.2 h58
      have h58c : (x != 58) = true := by simp [h58]
      clear HC hC0
      have cF := fail_post M 4 i _ p s _ pc _ d out F [] (HB.out _ _ _ _ _ S1.out.ss S1.out.keep) hs (by omega) hM
      go_wp2_with fail
      refine cF.mono ?_
      rintro e5 w9 ⟨rfl, q5⟩
      have Q5 := Lib.hid (SPost.pre0 S1.out.keep q5)
      clear q5 cF
      go_wp2
      refine hret.out _ _ _ _ _ _ _ _ _ _ _ _ _ _ _ _ _ _ _ _ _ _ _ _ _ _ _ _ _ _ _ _ _ _ _ _ _ _ _ _ _ _ _ _ _ _ _ _ _ _ _ _ ?_
      rw [er.out, HT2.out]
      exact Q5.out
  · have HT2 : Hid (T = .bad) := by
      show T = _
      rw [HI.out, HC.out, if_neg (fun h => by have := lt_of_pk (s := s) (i := k + 1) (by omega); have := HM1.out; omega)]
    have hmb : (s.length : Int) ≤ (m1 : Int) := by omega
    clear HC hC0
    have cF := fail_post M 4 i _ p s _ pc _ d out F [] (HB.out _ _ _ _ _ S1.out.ss S1.out.keep) hs (by omega) hM
    go_wp2_with fail
    refine cF.mono ?_
    rintro e5 w9 ⟨rfl, q5⟩
    have Q5 := Lib.hid (SPost.pre0 S1.out.keep q5)
    clear q5 cF
    go_wp2
    refine hret.out _ _ _ _ _ _ _ _ _ _ _ _ _ _ _ _ _ _ _ _ _ _ _ _ _ _ _ _ _ _ _ _ _ _ _ _ _ _ _ _ _ _ _ _ _ _ _ _ _ _ _ _ ?_
    rw [er.out, HT2.out]
    exact Q5.out


end Go.Proofs.YtdkjfppjbkdelaaGreatDoor

/- The specification's reader of patterns: bracket: the name of a class. Conditions: at most 1000 code points. -/
namespace Go.Proofs.YtdkjfppjbkdelaaGreatDoor
set_option linter.unusedVariables false
open Go.RowKit

/-- The name of a class while it is read. -/
def NameRel (s : List Int) (a : Nat) (wE : World) (v6 v7 : Value) (wr : World) : Prop :=
  ∃ (bs : List UInt8) (k f : Nat), v6 = .string ⟨bs.toArray⟩ ∧ v7 = .int .i64 k ∧ bs.map bi ++ scanN s f k = scanN s (s.length + 1) (a + 2) ∧ k = a + 2 + bs.length ∧ s.length < k + f ∧ k ≤ s.length ∧ Keep [] wE wr
theorem asc_byte {x : Int} (h0 : 0 ≤ x) (h1 : x < 128) : bi (UInt8.ofNat x.toNat) = x := by
  unfold bi
  rw [UInt8.toNat_ofNat']
  omega
theorem ba_app (a b : List UInt8) : (⟨(a ++ b).toArray⟩ : ByteArray) = ⟨a.toArray⟩ ++ ⟨b.toArray⟩ := by
  apply ByteArray.ext
  simp [ByteArray.data_append]

set_option maxHeartbeats 4000000 in
set_option maxRecDepth 1000000 in
theorem br13 {w : World} {p q : Nat} {s : List Int} {PA : Option Addr} {pc d i : Nat} {nv : Value} {neg : Bool} {T : It} (hp : p < w.heap.size) (hqw : w.heap.size ≤ q) (hs : s.length ≤ 1000) {M : Nat} {out : List Nd} {F : List Nat} (hi : i < s.length) (hP : Pos s) (hM : out.length ≤ M) (HB : Hid (∀ w' i' code' bad' d', Ss w' p s PA pc i' code' bad' d' nv → Keep [p] w w' → SRd w' p s PA pc i' code' bad' d' out F)) {r : Rd} (er : Hid (r = brPost out i neg T)) {w0 : World} {f a : Nat} {set : List Int} {v : Value} {c1 c2 c5 c6 c7 c8 c9 c10 c11 c12 c13 c14 c15 c16 c17 c18 c19 c20 c21 c22 c23 c24 c25 c26 c27 c28 c29 c30 c31 c32 c33 c34 c35 c36 c37 c38 c39 c40 c41 c42 c43 c44 c45 c46 c47 c48 c49 c50 c51 c52 c53 c54 c55 c56 c57 c58 c59 c60 c61 c62 c63 c64 c65 c66 c67 c68 c69 c70 c71 c72 c73 c74 c75 c76 c77 c78 c79 c80 c81 c82 c83 c84 c85 c86 c87 c88 c89 c90 c91 c92 c93 c94 c95 c96 c97 c98 c99 c100 c101 c102 c103 c104 c105 c106 c107 c108 c109 c110 c111 c112 c113 c114 c115 c116 c117 c118 c119 c120 c121 c122 c123 c124 c125 c126 c127 c128 c129 c130 c131 c132 c133 c134 c135 c136 c137 c138 c139 c140 c141 c142 c143 c144 c145 c146 c147 c148 c149 c150 c151 c152 c153 c154 c155 c156 c157 c158 c159 c160 c161 c162 c163 c164 c165 c166 c167 c168 c169 c170 c171 c172 c173 c174 c175 c176 c177 c178 c179 c180 c181 c182 c183 c184 c185 c186 c187 c188 c189 c190 c191 c192 c193 c194 c195 c196 c197 c198 c199 c200 c201 c202 c203 c204 c205 c206 c207 c208 c209 c210 c211 c212 c213 c214 c215 c216 c217 c218 c219 c220 c221 c222 c223 c224 c225 c226 c227 c228 c229 c230 c231 c232 c233 c234 c235 c236 c237 c238 c239 c240 c241 c242 c243 c244 c245 c246 c247 c248 c249 c250 c251 c252 c253 c254 : Value} {Q0 : Exit → Act → World → Prop} (hst : BrSt w p q s PA pc d nv neg a set v w0) (HI : Hid (T = match classR s a with | some (e, j) => itemsR s f j false (set ++ e) | none => .bad)) (hal2 : a + 2 ≤ s.length) (hsl : set.length ≤ 8 * a) (hgo : Hid (∀ (u2 u6 u7 u8 u83 u84 u85 u86 u87 u88 u89 u90 u91 u92 u93 u94 u95 u96 u97 u98 u99 u100 u101 u102 u103 u104 u105 u106 u107 u108 u109 u110 u111 u112 u113 u114 u115 u116 u117 u118 u119 u120 u121 u122 u123 u124 u125 u126 u127 u128 u129 u130 u131 u132 u133 u134 u135 u136 u137 u138 u139 u140 u141 u142 u143 u144 u145 u146 u147 u148 u149 u150 u151 u152 u153 u154 u155 u156 u157 u158 u159 u160 u161 u162 u163 u164 u165 u166 u167 u168 u169 u170 u171 u172 u173 u174 u175 u176 u177 : Value) (w9 : World), BrOut s T neg w p q PA pc d nv f a w9 → Q0 (.exit 1) ⟨#[.pointer (some ⟨p, 0, none⟩), c1, u2, .int .i64 (i : Int), .pointer (some ⟨q, 0, none⟩), c5, u6, u7, u8, c9, c10, c11, c12, c13, c14, c15, c16, c17, c18, c19, c20, c21, c22, c23, c24, c25, c26, c27, c28, c29, c30, c31, c32, c33, c34, c35, c36, c37, c38, c39, c40, c41, c42, c43, c44, c45, c46, c47, c48, c49, c50, c51, c52, c53, c54, c55, c56, c57, c58, c59, c60, c61, c62, c63, c64, c65, c66, c67, c68, c69, c70, c71, c72, c73, c74, c75, c76, c77, c78, c79, c80, c81, c82, u83, u84, u85, u86, u87, u88, u89, u90, u91, u92, u93, u94, u95, u96, u97, u98, u99, u100, u101, u102, u103, u104, u105, u106, u107, u108, u109, u110, u111, u112, u113, u114, u115, u116, u117, u118, u119, u120, u121, u122, u123, u124, u125, u126, u127, u128, u129, u130, u131, u132, u133, u134, u135, u136, u137, u138, u139, u140, u141, u142, u143, u144, u145, u146, u147, u148, u149, u150, u151, u152, u153, u154, u155, u156, u157, u158, u159, u160, u161, u162, u163, u164, u165, u166, u167, u168, u169, u170, u171, u172, u173, u174, u175, u176, u177, c178, c179, c180, c181, c182, c183, c184, c185, c186, c187, c188, c189, c190, c191, c192, c193, c194, c195, c196, c197, c198, c199, c200, c201, c202, c203, c204, c205, c206, c207, c208, c209, c210, c211, c212, c213, c214, c215, c216, c217, c218, c219, c220, c221, c222, c223, c224, c225, c226, c227, c228, c229, c230, c231, c232, c233, c234, c235, c236, c237, c238, c239, c240, c241, c242, c243, c244, c245, c246, c247, c248, c249, c250, c251, c252, c253, c254], []⟩ w9)) (hret : Hid (∀ (u2 u6 u7 u8 u83 u84 u85 u86 u87 u88 u89 u90 u91 u92 u93 u94 u95 u96 u97 u98 u99 u100 u101 u102 u103 u104 u105 u106 u107 u108 u109 u110 u111 u112 u113 u114 u115 u116 u117 u118 u119 u120 u121 u122 u123 u124 u125 u126 u127 u128 u129 u130 u131 u132 u133 u134 u135 u136 u137 u138 u139 u140 u141 u142 u143 u144 u145 u146 u147 u148 u149 u150 u151 u152 u153 u154 u155 u156 u157 u158 u159 u160 u161 u162 u163 u164 u165 u166 u167 u168 u169 u170 u171 u172 u173 u174 u175 u176 u177 : Value) (w9 : World), SPost M w p s PA pc d F [] r (.returned u2) w9 → Q0 .ret ⟨#[.pointer (some ⟨p, 0, none⟩), c1, u2, .int .i64 (i : Int), .pointer (some ⟨q, 0, none⟩), c5, u6, u7, u8, c9, c10, c11, c12, c13, c14, c15, c16, c17, c18, c19, c20, c21, c22, c23, c24, c25, c26, c27, c28, c29, c30, c31, c32, c33, c34, c35, c36, c37, c38, c39, c40, c41, c42, c43, c44, c45, c46, c47, c48, c49, c50, c51, c52, c53, c54, c55, c56, c57, c58, c59, c60, c61, c62, c63, c64, c65, c66, c67, c68, c69, c70, c71, c72, c73, c74, c75, c76, c77, c78, c79, c80, c81, c82, u83, u84, u85, u86, u87, u88, u89, u90, u91, u92, u93, u94, u95, u96, u97, u98, u99, u100, u101, u102, u103, u104, u105, u106, u107, u108, u109, u110, u111, u112, u113, u114, u115, u116, u117, u118, u119, u120, u121, u122, u123, u124, u125, u126, u127, u128, u129, u130, u131, u132, u133, u134, u135, u136, u137, u138, u139, u140, u141, u142, u143, u144, u145, u146, u147, u148, u149, u150, u151, u152, u153, u154, u155, u156, u157, u158, u159, u160, u161, u162, u163, u164, u165, u166, u167, u168, u169, u170, u171, u172, u173, u174, u175, u176, u177, c178, c179, c180, c181, c182, c183, c184, c185, c186, c187, c188, c189, c190, c191, c192, c193, c194, c195, c196, c197, c198, c199, c200, c201, c202, c203, c204, c205, c206, c207, c208, c209, c210, c211, c212, c213, c214, c215, c216, c217, c218, c219, c220, c221, c222, c223, c224, c225, c226, c227, c228, c229, c230, c231, c232, c233, c234, c235, c236, c237, c238, c239, c240, c241, c242, c243, c244, c245, c246, c247, c248, c249, c250, c251, c252, c253, c254], []⟩ w9)) :
    Code.wp Tryz.prog (brCode 13) Q0 ⟨#[.pointer (some ⟨p, 0, none⟩), c1, c2, .int .i64 (i : Int), .pointer (some ⟨q, 0, none⟩), c5, c6, c7, c8, c9, c10, c11, c12, c13, c14, c15, c16, c17, c18, c19, c20, c21, c22, c23, c24, c25, c26, c27, c28, c29, c30, c31, c32, c33, c34, c35, c36, c37, c38, c39, c40, c41, c42, c43, c44, c45, c46, c47, c48, c49, c50, c51, c52, c53, c54, c55, c56, c57, c58, c59, c60, c61, c62, c63, c64, c65, c66, c67, c68, c69, c70, c71, c72, c73, c74, c75, c76, c77, c78, c79, c80, c81, c82, c83, c84, c85, c86, c87, c88, c89, c90, c91, c92, c93, c94, c95, c96, c97, c98, c99, c100, c101, c102, c103, c104, c105, c106, c107, c108, c109, c110, c111, c112, c113, c114, c115, c116, c117, c118, c119, c120, c121, c122, c123, c124, c125, c126, c127, c128, c129, c130, c131, c132, c133, c134, c135, c136, c137, c138, c139, c140, c141, c142, c143, c144, c145, c146, c147, c148, c149, c150, c151, c152, c153, c154, c155, c156, c157, c158, c159, c160, c161, c162, c163, c164, c165, c166, c167, c168, c169, c170, c171, c172, c173, c174, c175, c176, c177, c178, c179, c180, c181, c182, c183, c184, c185, c186, c187, c188, c189, c190, c191, c192, c193, c194, c195, c196, c197, c198, c199, c200, c201, c202, c203, c204, c205, c206, c207, c208, c209, c210, c211, c212, c213, c214, c215, c216, c217, c218, c219, c220, c221, c222, c223, c224, c225, c226, c227, c228, c229, c230, c231, c232, c233, c234, c235, c236, c237, c238, c239, c240, c241, c242, c243, c244, c245, c246, c247, c248, c249, c250, c251, c252, c253, c254], []⟩ w0 := by
  conv => arg 2; whnf
  try dsimp only
  have HST := Lib.hid hst
  obtain ⟨d0, d1, d2, d3, d4, d5⟩ := hst.ss.cell
  obtain ⟨k0, hk0⟩ : ∃ k0, a + 2 = k0 := ⟨_, rfl⟩
  have hzk : (a : Int) + 2 = (k0 : Int) := by omega
  have HK0 := Lib.hid hk0
  clear hst hk0
  go_wp2
  go_loopw [6, 7] (NameRel s a w0) (fun _ v _ => s.length - (intOf v).toNat)
  case atStart => exact ⟨[], k0, s.length + 1, rfl, rfl, by rw [HK0.out]; rfl, by rw [← HK0.out]; rfl, by omega, by rw [← HK0.out]; omega, Keep.refl _ _⟩
  case round =>
    obtain ⟨bs, k, f', rfl, rfl, hsc, hkb, hkf, hkl, hkw⟩ := hrel
    obtain ⟨f', rfl⟩ : ∃ g, f' = g + 1 := ⟨f' - 1, by omega⟩
    clear d0 d1 d2 d3 d4 d5
    have S1 := Lib.hid (HST.out.go hkw)
    have KW := Lib.hid hkw
    obtain ⟨d0, d1, d2, d3, d4, d5⟩ := S1.out.ss.cell
    have HSC := Lib.hid hsc
    have HKB := Lib.hid hkb
    have hak : a + 2 ≤ k := by omega
    clear hsc hkb hkw
    have fin : Hid (scanN s (f' + 1) k = [] → classR s a = if classOf (bs.map bi) ≠ [] ∧ pk s k = 58 ∧ pk s (k + 1) = 93 then some (classOf (bs.map bi), k + 2) else none) := fun h => by
      have e := HSC.out
      rw [h, List.append_nil] at e
      rw [class_scan (by omega), ← e, List.length_map, show a + 2 + bs.length = k from HKB.out.symm, show a + 3 + bs.length = k + 1 by have := HKB.out; omega, show a + 4 + bs.length = k + 2 by have := HKB.out; omega]
    by_cases hin : k < s.length
    · have hinz : (k : Int) < (s.length : Int) := by omega
      have hk00 : (0 : Int) ≤ (k : Int) := by omega
      obtain ⟨b, o, rfl, hb, hc⟩ := S1.out.ss.nums k hin
      obtain ⟨x, hx⟩ : ∃ x, pk s k = x := ⟨_, rfl⟩
      have hxb := hP.bound k
      rw [← pk_lt hin, hx] at hc
      rw [hx] at hxb
      have x0 := hxb.1
      have x1 := hxb.2
      have HX := Lib.hid hx
      clear hx hxb
      by_cases h58 : x = 58
      · have HC : Hid (classR s a = _) := fin.out (by rw [scanN, if_neg (by rw [HX.out]; omega)])
        have h58b : (x == 58) = true := by simp [h58]
        have h58c : (x != 58) = false := by simp [h58]
        go_upto_region 999 with (first | with_reducible refine stopAt 18 ?_ | with_reducible refine stopAt2 18 ?_)
        change Code.wp _ _ _ _ _
        refine br18 hp hqw hs hi hP hM HB er S1.out HI HC hak hkl hsl ?_ ?_
        ·
          exact Lib.hid (fun _ _ _ _ _ _ _ _ _ _ _ _ _ _ _ _ _ _ _ _ _ _ _ _ _ _ _ _ _ _ _ _ _ _ _ _ _ _ _ _ _ _ _ _ _ _ _ _ _ _ _ w9 h9 => hgo.out _ _ _ _ _ _ _ _ _ _ _ _ _ _ _ _ _ _ _ _ _ _ _ _ _ _ _ _ _ _ _ _ _ _ _ _ _ _ _ _ _ _ _ _ _ _ _ _ _ _ _ _ _ _ _ _ _ _ _ _ _ _ _ _ _ _ _ _ _ _ _ _ _ _ _ _ _ _ _ _ _ _ _ _ _ _ _ _ _ _ _ _ _ _ _ _ _ _ _ w9 h9)
        ·
          exact Lib.hid (fun _ _ _ _ _ _ _ _ _ _ _ _ _ _ _ _ _ _ _ _ _ _ _ _ _ _ _ _ _ _ _ _ _ _ _ _ _ _ _ _ _ _ _ _ _ _ _ _ _ _ _ w9 h9 => hret.out _ _ _ _ _ _ _ _ _ _ _ _ _ _ _ _ _ _ _ _ _ _ _ _ _ _ _ _ _ _ _ _ _ _ _ _ _ _ _ _ _ _ _ _ _ _ _ _ _ _ _ _ _ _ _ _ _ _ _ _ _ _ _ _ _ _ _ _ _ _ _ _ _ _ _ _ _ _ _ _ _ _ _ _ _ _ _ _ _ _ _ _ _ _ _ _ _ _ _ w9 h9)
      · have h58b : (x == 58) = false := beq_eq_false_iff_ne.2 h58
        have h58c : (x != 58) = true := by simp [h58]
        by_cases h128 : x < 128
        · obtain ⟨m1, hm1⟩ : ∃ m1, k + 1 = m1 := ⟨_, rfl⟩
          have hzk1 : (k : Int) + 1 = (m1 : Int) := by omega
          obtain ⟨y, hy⟩ : ∃ y, UInt8.ofNat x.toNat = y := ⟨_, rfl⟩
          have hbx : bi y = x := by rw [← hy]; exact asc_byte x0 h128
          have hconv : x % 256 = x := by omega
          have hcv : (convert 22 9 (.slice (some ⟨wr.heap.size, 0, none⟩) 1 1)).run Tryz.prog (wr.alloc (.cells #[.int .u8 x] 5)) = .ok (.string ⟨[y].toArray⟩) (wr.alloc (.cells #[.int .u8 x] 5)) := by
            refine run_convert_bytes_back _ 22 9 5 ⟨wr.heap.size, 0, none⟩ 1 [y] Tryz.underlying22 Tryz.underlying5 Tryz.underlying9 fun j hj => ?_
            have h0 : j = 0 := by simp at hj; omega
            subst h0
            have := new_byte wr x 5 0 (.int .u8 x) rfl
            rw [this]
            show some (Value.int .u8 x) = some (Value.int .u8 (y.toNat : Int))
            unfold bi at hbx
            rw [hbx]
          have HN : Hid ((bs ++ [y]).map bi ++ scanN s f' m1 = scanN s (s.length + 1) (a + 2)) := by
            show _ = _
            have e := HSC.out
            rw [scanN, if_pos (by rw [HX.out]; omega), HX.out, hm1] at e
            rw [← e, List.map_append, List.append_assoc]
            simp [hbx]
          have HM1 := Lib.hid hm1
          have HBX := Lib.hid hbx
          have hm1l : m1 ≤ s.length := by omega
          have hm1f : s.length < m1 + f' := by omega
          have hm1k : m1 = k + 1 := by omega
          have HMK := Lib.hid hm1k
          have hbl : bs.length ≤ 1000 := by have := HKB.out; omega
          clear hm1 hy hbx hm1k fin
          go_wp2
          go_roundw
          case rel => exact ⟨bs ++ [y], m1, f', by rw [ba_app], rfl, HN.out, by have := HMK.out; have := HKB.out; simp; omega, hm1f, hm1l, KW.out.tr ((Keep.refl [] _).alloc _)⟩
          case measure => simp [intOf]; have := HMK.out; omega
        · have HC : Hid (classR s a = _) := fin.out (by rw [scanN, if_neg (by rw [HX.out]; omega)])
          have h128b : decide (x < 128) = false := decide_eq_false h128
          go_upto_region 999 with (first | with_reducible refine stopAt 18 ?_ | with_reducible refine stopAt2 18 ?_)
          change Code.wp _ _ _ _ _
          refine br18 hp hqw hs hi hP hM HB er S1.out HI HC hak hkl hsl ?_ ?_
          ·
            exact Lib.hid (fun _ _ _ _ _ _ _ _ _ _ _ _ _ _ _ _ _ _ _ _ _ _ _ _ _ _ _ _ _ _ _ _ _ _ _ _ _ _ _ _ _ _ _ _ _ _ _ _ _ _ _ w9 h9 => hgo.out _ _ _ _ _ _ _ _ _ _ _ _ _ _ _ _ _ _ _ _ _ _ _ _ _ _ _ _ _ _ _ _ _ _ _ _ _ _ _ _ _ _ _ _ _ _ _ _ _ _ _ _ _ _ _ _ _ _ _ _ _ _ _ _ _ _ _ _ _ _ _ _ _ _ _ _ _ _ _ _ _ _ _ _ _ _ _ _ _ _ _ _ _ _ _ _ _ _ _ w9 h9)
          ·
            exact Lib.hid (fun _ _ _ _ _ _ _ _ _ _ _ _ _ _ _ _ _ _ _ _ _ _ _ _ _ _ _ _ _ _ _ _ _ _ _ _ _ _ _ _ _ _ _ _ _ _ _ _ _ _ _ w9 h9 => hret.out _ _ _ _ _ _ _ _ _ _ _ _ _ _ _ _ _ _ _ _ _ _ _ _ _ _ _ _ _ _ _ _ _ _ _ _ _ _ _ _ _ _ _ _ _ _ _ _ _ _ _ _ _ _ _ _ _ _ _ _ _ _ _ _ _ _ _ _ _ _ _ _ _ _ _ _ _ _ _ _ _ _ _ _ _ _ _ _ _ _ _ _ _ _ _ _ _ _ _ w9 h9)
    · have HC : Hid (classR s a = _) := fin.out (by rw [scanN, if_neg (by omega)])
      have hinb : decide (k < s.length) = false := decide_eq_false hin
      go_upto_region 999 with (first | with_reducible refine stopAt 18 ?_ | with_reducible refine stopAt2 18 ?_)
      change Code.wp _ _ _ _ _
      refine br18 hp hqw hs hi hP hM HB er S1.out HI HC hak hkl hsl ?_ ?_
      ·
        exact Lib.hid (fun _ _ _ _ _ _ _ _ _ _ _ _ _ _ _ _ _ _ _ _ _ _ _ _ _ _ _ _ _ _ _ _ _ _ _ _ _ _ _ _ _ _ _ _ _ _ _ _ _ _ _ w9 h9 => hgo.out _ _ _ _ _ _ _ _ _ _ _ _ _ _ _ _ _ _ _ _ _ _ _ _ _ _ _ _ _ _ _ _ _ _ _ _ _ _ _ _ _ _ _ _ _ _ _ _ _ _ _ _ _ _ _ _ _ _ _ _ _ _ _ _ _ _ _ _ _ _ _ _ _ _ _ _ _ _ _ _ _ _ _ _ _ _ _ _ _ _ _ _ _ _ _ _ _ _ _ w9 h9)
      ·
        exact Lib.hid (fun _ _ _ _ _ _ _ _ _ _ _ _ _ _ _ _ _ _ _ _ _ _ _ _ _ _ _ _ _ _ _ _ _ _ _ _ _ _ _ _ _ _ _ _ _ _ _ _ _ _ _ w9 h9 => hret.out _ _ _ _ _ _ _ _ _ _ _ _ _ _ _ _ _ _ _ _ _ _ _ _ _ _ _ _ _ _ _ _ _ _ _ _ _ _ _ _ _ _ _ _ _ _ _ _ _ _ _ _ _ _ _ _ _ _ _ _ _ _ _ _ _ _ _ _ _ _ _ _ _ _ _ _ _ _ _ _ _ _ _ _ _ _ _ _ _ _ _ _ _ _ _ _ _ _ _ w9 h9)


end Go.Proofs.YtdkjfppjbkdelaaGreatDoor
