/- The specification's reader of patterns: bracket: a named class. Conditions: at most 1000 code points. -/
import Derived.Test.YtimmbllhjmponaaDoorRxSC
namespace Go.Proofs.YtimmbllhjmponaaDoor
set_option linter.unusedVariables false
open Go.RowKit

set_option maxHeartbeats 4000000 in
set_option maxRecDepth 1000000 in
theorem br18 {w : World} {p q : Nat} {s : List Int} {PA : Option Addr} {pc d i : Nat} {nv : Value} {neg : Bool} {T : It} (hp : p < w.heap.size) (hqw : w.heap.size ≤ q) (hs : s.length ≤ 1000) {M : Nat} {out : List Nd} {F : List Nat} (hi : i < s.length) (hP : Pos s) (hM : out.length ≤ M) (HB : Hid (∀ w' i' code' bad' d', Ss w' p s PA pc i' code' bad' d' nv → Keep [p] w w' → SRd w' p s PA pc i' code' bad' d' out F)) {r : Rd} (er : Hid (r = brPost out i neg T)) {w0 : World} {f a k : Nat} {bs : List UInt8} {set : List Int} {v : Value} {c1 c2 c5 c8 c9 c10 c11 c12 c13 c14 c15 c16 c17 c18 c19 c20 c21 c22 c23 c24 c25 c26 c27 c28 c29 c30 c31 c32 c33 c34 c35 c36 c37 c38 c39 c40 c41 c42 c43 c44 c45 c46 c47 c48 c49 c50 c51 c52 c53 c54 c55 c56 c57 c58 c59 c60 c61 c62 c63 c64 c65 c66 c67 c68 c69 c70 c71 c72 c73 c74 c75 c76 c77 c78 c79 c80 c81 c82 c83 c84 c85 c86 c87 c88 c89 c90 c91 c92 c93 c94 c95 c96 c97 c98 c99 c100 c101 c102 c103 c104 c105 c106 c107 c108 c109 c110 c111 c112 c113 c114 c115 c116 c117 c118 c119 c120 c121 c122 c123 c124 c125 c126 c127 c128 c129 c130 c131 c132 c133 c134 c135 c136 c137 c138 c139 c140 c141 c142 c143 c144 c145 c146 c147 c148 c149 c150 c151 c152 c153 c154 c155 c156 c157 c158 c159 c160 c161 c162 c163 c164 c165 c166 c167 c168 c169 c170 c171 c172 c173 c174 c175 c176 c177 c178 c179 c180 c181 c182 c183 c184 c185 c186 c187 c188 c189 c190 c191 c192 c193 c194 c195 c196 c197 c198 c199 c200 c201 c202 c203 c204 c205 c206 c207 c208 c209 c210 c211 c212 c213 c214 c215 c216 c217 c218 c219 c220 c221 c222 c223 c224 c225 c226 c227 c228 c229 c230 c231 c232 c233 c234 c235 c236 c237 c238 c239 c240 c241 c242 c243 c244 c245 c246 c247 c248 c249 c250 c251 c252 c253 c254 : Value} {Q0 : Exit → Act → World → Prop} (hst : BrSt w p q s PA pc d nv neg a set v w0) (HI : Hid (T = match classR s a with | some (e, j) => itemsR s f j false (set ++ e) | none => .bad)) (HC : Hid (classR s a = if classOf (bs.map bi) ≠ [] ∧ pk s k = 58 ∧ pk s (k + 1) = 93 then some (classOf (bs.map bi), k + 2) else none)) (hak : a + 2 ≤ k) (hkl : k ≤ s.length) (hsl : set.length ≤ 8 * a) (hgo : Hid (∀ (u2 u8 u129 u130 u131 u132 u133 u134 u135 u136 u137 u138 u139 u140 u141 u142 u143 u144 u145 u146 u147 u148 u149 u150 u151 u152 u153 u154 u155 u156 u157 u158 u159 u160 u161 u162 u163 u164 u165 u166 u167 u168 u169 u170 u171 u172 u173 u174 u175 u176 u177 : Value) (w9 : World), BrOut s T neg w p q PA pc d nv f a w9 → Q0 (.exit 1) ⟨#[.pointer (some ⟨p, 0, none⟩), c1, u2, .int .i64 (i : Int), .pointer (some ⟨q, 0, none⟩), c5, .string ⟨bs.toArray⟩, .int .i64 (k : Int), u8, c9, c10, c11, c12, c13, c14, c15, c16, c17, c18, c19, c20, c21, c22, c23, c24, c25, c26, c27, c28, c29, c30, c31, c32, c33, c34, c35, c36, c37, c38, c39, c40, c41, c42, c43, c44, c45, c46, c47, c48, c49, c50, c51, c52, c53, c54, c55, c56, c57, c58, c59, c60, c61, c62, c63, c64, c65, c66, c67, c68, c69, c70, c71, c72, c73, c74, c75, c76, c77, c78, c79, c80, c81, c82, c83, c84, c85, c86, c87, c88, c89, c90, c91, c92, c93, c94, c95, c96, c97, c98, c99, c100, c101, c102, c103, c104, c105, c106, c107, c108, c109, c110, c111, c112, c113, c114, c115, c116, c117, c118, c119, c120, c121, c122, c123, c124, c125, c126, c127, c128, u129, u130, u131, u132, u133, u134, u135, u136, u137, u138, u139, u140, u141, u142, u143, u144, u145, u146, u147, u148, u149, u150, u151, u152, u153, u154, u155, u156, u157, u158, u159, u160, u161, u162, u163, u164, u165, u166, u167, u168, u169, u170, u171, u172, u173, u174, u175, u176, u177, c178, c179, c180, c181, c182, c183, c184, c185, c186, c187, c188, c189, c190, c191, c192, c193, c194, c195, c196, c197, c198, c199, c200, c201, c202, c203, c204, c205, c206, c207, c208, c209, c210, c211, c212, c213, c214, c215, c216, c217, c218, c219, c220, c221, c222, c223, c224, c225, c226, c227, c228, c229, c230, c231, c232, c233, c234, c235, c236, c237, c238, c239, c240, c241, c242, c243, c244, c245, c246, c247, c248, c249, c250, c251, c252, c253, c254], []⟩ w9)) (hret : Hid (∀ (u2 u8 u129 u130 u131 u132 u133 u134 u135 u136 u137 u138 u139 u140 u141 u142 u143 u144 u145 u146 u147 u148 u149 u150 u151 u152 u153 u154 u155 u156 u157 u158 u159 u160 u161 u162 u163 u164 u165 u166 u167 u168 u169 u170 u171 u172 u173 u174 u175 u176 u177 : Value) (w9 : World), SPost M w p s PA pc d F [] r (.returned u2) w9 → Q0 .ret ⟨#[.pointer (some ⟨p, 0, none⟩), c1, u2, .int .i64 (i : Int), .pointer (some ⟨q, 0, none⟩), c5, .string ⟨bs.toArray⟩, .int .i64 (k : Int), u8, c9, c10, c11, c12, c13, c14, c15, c16, c17, c18, c19, c20, c21, c22, c23, c24, c25, c26, c27, c28, c29, c30, c31, c32, c33, c34, c35, c36, c37, c38, c39, c40, c41, c42, c43, c44, c45, c46, c47, c48, c49, c50, c51, c52, c53, c54, c55, c56, c57, c58, c59, c60, c61, c62, c63, c64, c65, c66, c67, c68, c69, c70, c71, c72, c73, c74, c75, c76, c77, c78, c79, c80, c81, c82, c83, c84, c85, c86, c87, c88, c89, c90, c91, c92, c93, c94, c95, c96, c97, c98, c99, c100, c101, c102, c103, c104, c105, c106, c107, c108, c109, c110, c111, c112, c113, c114, c115, c116, c117, c118, c119, c120, c121, c122, c123, c124, c125, c126, c127, c128, u129, u130, u131, u132, u133, u134, u135, u136, u137, u138, u139, u140, u141, u142, u143, u144, u145, u146, u147, u148, u149, u150, u151, u152, u153, u154, u155, u156, u157, u158, u159, u160, u161, u162, u163, u164, u165, u166, u167, u168, u169, u170, u171, u172, u173, u174, u175, u176, u177, c178, c179, c180, c181, c182, c183, c184, c185, c186, c187, c188, c189, c190, c191, c192, c193, c194, c195, c196, c197, c198, c199, c200, c201, c202, c203, c204, c205, c206, c207, c208, c209, c210, c211, c212, c213, c214, c215, c216, c217, c218, c219, c220, c221, c222, c223, c224, c225, c226, c227, c228, c229, c230, c231, c232, c233, c234, c235, c236, c237, c238, c239, c240, c241, c242, c243, c244, c245, c246, c247, c248, c249, c250, c251, c252, c253, c254], []⟩ w9)) :
    Code.wp Tryd.prog (brCode 18) Q0 ⟨#[.pointer (some ⟨p, 0, none⟩), c1, c2, .int .i64 (i : Int), .pointer (some ⟨q, 0, none⟩), c5, .string ⟨bs.toArray⟩, .int .i64 (k : Int), c8, c9, c10, c11, c12, c13, c14, c15, c16, c17, c18, c19, c20, c21, c22, c23, c24, c25, c26, c27, c28, c29, c30, c31, c32, c33, c34, c35, c36, c37, c38, c39, c40, c41, c42, c43, c44, c45, c46, c47, c48, c49, c50, c51, c52, c53, c54, c55, c56, c57, c58, c59, c60, c61, c62, c63, c64, c65, c66, c67, c68, c69, c70, c71, c72, c73, c74, c75, c76, c77, c78, c79, c80, c81, c82, c83, c84, c85, c86, c87, c88, c89, c90, c91, c92, c93, c94, c95, c96, c97, c98, c99, c100, c101, c102, c103, c104, c105, c106, c107, c108, c109, c110, c111, c112, c113, c114, c115, c116, c117, c118, c119, c120, c121, c122, c123, c124, c125, c126, c127, c128, c129, c130, c131, c132, c133, c134, c135, c136, c137, c138, c139, c140, c141, c142, c143, c144, c145, c146, c147, c148, c149, c150, c151, c152, c153, c154, c155, c156, c157, c158, c159, c160, c161, c162, c163, c164, c165, c166, c167, c168, c169, c170, c171, c172, c173, c174, c175, c176, c177, c178, c179, c180, c181, c182, c183, c184, c185, c186, c187, c188, c189, c190, c191, c192, c193, c194, c195, c196, c197, c198, c199, c200, c201, c202, c203, c204, c205, c206, c207, c208, c209, c210, c211, c212, c213, c214, c215, c216, c217, c218, c219, c220, c221, c222, c223, c224, c225, c226, c227, c228, c229, c230, c231, c232, c233, c234, c235, c236, c237, c238, c239, c240, c241, c242, c243, c244, c245, c246, c247, c248, c249, c250, c251, c252, c253, c254], []⟩ w0 := by
  conv => arg 2; whnf
  try dsimp only
  obtain ⟨i0, hi0, hz0, hz1, hz2⟩ := info_parts Tryd.infoInt
  have HST := Lib.hid hst
  obtain ⟨d0, d1, d2, d3, d4, d5⟩ := hst.ss.cell
  obtain ⟨C, hC⟩ : ∃ C, classOf (bs.map bi) = C := ⟨_, rfl⟩
  have hCl : C.length ≤ 8 := by rw [← hC]; exact classOf_len _
  have HC2 := Lib.hid hC
  rw [hC] at HC
  clear hst hC
  go_wp2_with fail
  refine (sclass_any bs _).mono ?_
  rintro e w1 ⟨v1, rfl, hrow, k2⟩
  rw [HC2.out] at hrow
  have S1 := Lib.hid (HST.out.go k2)
  clear k2 d0 d1 d2 d3 d4 d5
  obtain ⟨d0, d1, d2, d3, d4, d5⟩ := S1.out.ss.cell
  by_cases hC0 : C = []
  · have HT2 : Hid (T = .bad) := by show T = _; rw [HI.out, HC.out, if_neg (fun h => h.1 hC0)]
    subst hC0
    obtain ⟨A2, c2, rfl⟩ := own_form hrow
    clear hrow HC
    have cF := fail_post M 4 i _ p s _ pc _ d out F [] (HB.out _ _ _ _ _ S1.out.ss S1.out.keep) hs (by omega) hM
    go_wp2_with fail
    refine cF.mono ?_
    rintro e5 w9 ⟨rfl, q5⟩
    have Q5 := Lib.hid (SPost.pre0 S1.out.keep q5)
    clear q5 cF
    go_wp2
    refine hret.out _ _ _ _ _ _ _ _ _ _ _ _ _ _ _ _ _ _ _ _ _ _ _ _ _ _ _ _ _ _ _ _ _ _ _ _ _ _ _ _ _ _ _ _ _ _ _ _ _ _ _ _ ?_
    rw [er.out, HT2.out]
    exact Q5.out
  obtain ⟨g3, c3, rfl, hcells⟩ := row_some hrow hC0
  have hg3 : g3 < w1.heap.size := (hrow.lt g3 rfl).2
  have HCs := Lib.hid hcells
  have hCp : 0 < C.length := List.length_pos_iff.2 hC0
  have hq1 : ((C.length : Int) == 0) = false := beq_eq_false_iff_ne.2 (by omega)
  have hq2 : ¬ (C.length : Int) = 0 := by omega
  have hq3 : (C.length == 0) = false := beq_eq_false_iff_ne.2 (by omega)
  clear hcells hrow
  obtain ⟨m1, hm1⟩ : ∃ m1, k + 1 = m1 := ⟨_, rfl⟩
  have hzk : (k : Int) + 1 = (m1 : Int) := by omega
  have HM1 := Lib.hid hm1
  clear hm1
  by_cases hml : m1 < s.length
  · have hmb : ¬ (s.length : Int) ≤ (m1 : Int) := by omega
    have hm0 : (0 : Int) ≤ (m1 : Int) := by omega
    have hkl2 : k < s.length := by have := HM1.out; omega
    obtain ⟨b, o, rfl, hb, hc⟩ := S1.out.ss.nums m1 hml
    obtain ⟨b', o', hPA, hb', hc'⟩ := S1.out.ss.nums k hkl2
    cases hPA
    obtain ⟨x, hx⟩ : ∃ x, pk s k = x := ⟨_, rfl⟩
    obtain ⟨y, hy⟩ : ∃ y, pk s m1 = y := ⟨_, rfl⟩
    rw [← pk_lt hml, hy] at hc
    rw [← pk_lt hkl2, hx] at hc'
    have HX := Lib.hid hx
    have HY : Hid (pk s (k + 1) = y) := by show pk s (k + 1) = y; rw [HM1.out]; exact hy
    clear hx hy
    by_cases h58 : x = 58
    · by_cases h93 : y = 93
      · have HT2 : Hid (T = itemsR s f (k + 2) false (set ++ C)) := by show T = _; rw [HI.out, HC.out, if_pos ⟨hC0, by rw [HX.out]; exact h58, by rw [HY.out]; exact h93⟩]
        subst h58
        subst h93
        have hrow := S1.out.row
        obtain ⟨A, c, rfl⟩ := own_form hrow
        have WR := Lib.hid hrow
        obtain ⟨e0, e1, e2, e3, e4, e5⟩ := S1.out.six.cells
        have z3 : p + 1 ≤ w1.heap.size := by have := S1.out.ss.lt; omega
        obtain ⟨m2, hm2⟩ : ∃ m2, k + 2 = m2 := ⟨_, rfl⟩
        have hzk2 : (k : Int) + 2 = (m2 : Int) := by omega
        rw [hm2] at HT2
        have hm2l : m2 ≤ s.length := by have := HM1.out; omega
        have ham : a < m2 := by omega
        clear hrow hm2 HC hC0
        go_wp2_with (at_builtin; refine list_append_own rfl _ _ 31 rfl (p + 1) 3 i0 (.int .i64 0) 1 8 Tryd.underlying31 hi0 hz0 hz1 hz2 rfl (by decide) (.slice A set.length c) set.length (set.map (Value.int .i64)) rfl WR.out ⟨g3, 0, none⟩ C.length c3 (C.map (Value.int .i64)) rfl (by simp) HCs.out one_ints (by unfold maxLen; omega) (by omega) z3 ?_; intro v4 w4 hown4 hgrow4 hblk4; obtain ⟨A4, c4, rfl⟩ := own_form hown4; have H4 := Lib.hid (br_app (l := C) hp hqw S1.out (Keep.refl [] _) hown4 hgrow4 hblk4); have g4 := H4.out.1; have g5 := H4.out.2.1; obtain ⟨b0, b1, b2, b3, b4, b5⟩ := H4.out.2.2.2.ss.cell; have f1 := H4.out.2.2.2.ss.frozen 1; clear hown4 hgrow4 hblk4)
        have S5 := H4.out.2.2.2.at hp hqw (H4.out.2.2.2.ss.keepSet 1 (.int .i64 (m2 : Int))) (H4.out.2.2.2.ss.set1 m2)
        refine hgo.out _ _ _ _ _ _ _ _ _ _ _ _ _ _ _ _ _ _ _ _ _ _ _ _ _ _ _ _ _ _ _ _ _ _ _ _ _ _ _ _ _ _ _ _ _ _ _ _ _ _ _ _ ⟨m2, set ++ C, _, S5, HT2.out, ham, hm2l, by simp; omega⟩
      · have HT2 : Hid (T = .bad) := by show T = _; rw [HI.out, HC.out, if_neg (fun h => h93 (by rw [← HY.out]; exact h.2.2))]
        have h93b : (y == 93) = false := beq_eq_false_iff_ne.2 h93
        have h93c : (y != 93) = true := by simp [h93]
        clear HC hC0
        have cF := fail_post M 4 i _ p s _ pc _ d out F [] (HB.out _ _ _ _ _ S1.out.ss S1.out.keep) hs (by omega) hM
        go_wp2_with fail
        refine cF.mono ?_
        rintro e5 w9 ⟨rfl, q5⟩
        have Q5 := Lib.hid (SPost.pre0 S1.out.keep q5)
        clear q5 cF
        go_wp2
        refine hret.out _ _ _ _ _ _ _ _ _ _ _ _ _ _ _ _ _ _ _ _ _ _ _ _ _ _ _ _ _ _ _ _ _ _ _ _ _ _ _ _ _ _ _ _ _ _ _ _ _ _ _ _ ?_
        rw [er.out, HT2.out]
        exact Q5.out
    · have HT2 : Hid (T = .bad) := by show T = _; rw [HI.out, HC.out, if_neg (fun h => h58 (by rw [← HX.out]; exact h.2.1))]
      have h58b : (x == 58) = false := beq_eq_false_iff_ne.2 h58
      have h58c : (x != 58) = true := by simp [h58]
      clear HC hC0
      have cF := fail_post M 4 i _ p s _ pc _ d out F [] (HB.out _ _ _ _ _ S1.out.ss S1.out.keep) hs (by omega) hM
      go_wp2_with fail
      refine cF.mono ?_
      rintro e5 w9 ⟨rfl, q5⟩
      have Q5 := Lib.hid (SPost.pre0 S1.out.keep q5)
      clear q5 cF
      go_wp2
      refine hret.out _ _ _ _ _ _ _ _ _ _ _ _ _ _ _ _ _ _ _ _ _ _ _ _ _ _ _ _ _ _ _ _ _ _ _ _ _ _ _ _ _ _ _ _ _ _ _ _ _ _ _ _ ?_
      rw [er.out, HT2.out]
      exact Q5.out
  · have HT2 : Hid (T = .bad) := by
      show T = _
      rw [HI.out, HC.out, if_neg (fun h => by have := lt_of_pk (s := s) (i := k + 1) (by omega); have := HM1.out; omega)]
    have hmb : (s.length : Int) ≤ (m1 : Int) := by omega
    clear HC hC0
    have cF := fail_post M 4 i _ p s _ pc _ d out F [] (HB.out _ _ _ _ _ S1.out.ss S1.out.keep) hs (by omega) hM
    go_wp2_with fail
    refine cF.mono ?_
    rintro e5 w9 ⟨rfl, q5⟩
    have Q5 := Lib.hid (SPost.pre0 S1.out.keep q5)
    clear q5 cF
    go_wp2
    refine hret.out _ _ _ _ _ _ _ _ _ _ _ _ _ _ _ _ _ _ _ _ _ _ _ _ _ _ _ _ _ _ _ _ _ _ _ _ _ _ _ _ _ _ _ _ _ _ _ _ _ _ _ _ ?_
    rw [er.out, HT2.out]
    exact Q5.out


end Go.Proofs.YtimmbllhjmponaaDoor

/- The specification's reader of patterns: bracket: the name of a class. Conditions: at most 1000 code points. -/
namespace Go.Proofs.YtimmbllhjmponaaDoor
set_option linter.unusedVariables false
open Go.RowKit

/-- The name of a class while it is read. -/
def NameRel (s : List Int) (a : Nat) (wE : World) (v6 v7 : Value) (wr : World) : Prop :=
  ∃ (bs : List UInt8) (k f : Nat), v6 = .string ⟨bs.toArray⟩ ∧ v7 = .int .i64 k ∧ bs.map bi ++ scanN s f k = scanN s (s.length + 1) (a + 2) ∧ k = a + 2 + bs.length ∧ s.length < k + f ∧ k ≤ s.length ∧ Keep [] wE wr
theorem asc_byte {x : Int} (h0 : 0 ≤ x) (h1 : x < 128) : bi (UInt8.ofNat x.toNat) = x := by
  unfold bi
  rw [UInt8.toNat_ofNat']
  omega
theorem ba_app (a b : List UInt8) : (⟨(a ++ b).toArray⟩ : ByteArray) = ⟨a.toArray⟩ ++ ⟨b.toArray⟩ := by
  apply ByteArray.ext
  simp [ByteArray.data_append]

set_option maxHeartbeats 4000000 in
set_option maxRecDepth 1000000 in
theorem br13 {w : World} {p q : Nat} {s : List Int} {PA : Option Addr} {pc d i : Nat} {nv : Value} {neg : Bool} {T : It} (hp : p < w.heap.size) (hqw : w.heap.size ≤ q) (hs : s.length ≤ 1000) {M : Nat} {out : List Nd} {F : List Nat} (hi : i < s.length) (hP : Pos s) (hM : out.length ≤ M) (HB : Hid (∀ w' i' code' bad' d', Ss w' p s PA pc i' code' bad' d' nv → Keep [p] w w' → SRd w' p s PA pc i' code' bad' d' out F)) {r : Rd} (er : Hid (r = brPost out i neg T)) {w0 : World} {f a : Nat} {set : List Int} {v : Value} {c1 c2 c5 c6 c7 c8 c9 c10 c11 c12 c13 c14 c15 c16 c17 c18 c19 c20 c21 c22 c23 c24 c25 c26 c27 c28 c29 c30 c31 c32 c33 c34 c35 c36 c37 c38 c39 c40 c41 c42 c43 c44 c45 c46 c47 c48 c49 c50 c51 c52 c53 c54 c55 c56 c57 c58 c59 c60 c61 c62 c63 c64 c65 c66 c67 c68 c69 c70 c71 c72 c73 c74 c75 c76 c77 c78 c79 c80 c81 c82 c83 c84 c85 c86 c87 c88 c89 c90 c91 c92 c93 c94 c95 c96 c97 c98 c99 c100 c101 c102 c103 c104 c105 c106 c107 c108 c109 c110 c111 c112 c113 c114 c115 c116 c117 c118 c119 c120 c121 c122 c123 c124 c125 c126 c127 c128 c129 c130 c131 c132 c133 c134 c135 c136 c137 c138 c139 c140 c141 c142 c143 c144 c145 c146 c147 c148 c149 c150 c151 c152 c153 c154 c155 c156 c157 c158 c159 c160 c161 c162 c163 c164 c165 c166 c167 c168 c169 c170 c171 c172 c173 c174 c175 c176 c177 c178 c179 c180 c181 c182 c183 c184 c185 c186 c187 c188 c189 c190 c191 c192 c193 c194 c195 c196 c197 c198 c199 c200 c201 c202 c203 c204 c205 c206 c207 c208 c209 c210 c211 c212 c213 c214 c215 c216 c217 c218 c219 c220 c221 c222 c223 c224 c225 c226 c227 c228 c229 c230 c231 c232 c233 c234 c235 c236 c237 c238 c239 c240 c241 c242 c243 c244 c245 c246 c247 c248 c249 c250 c251 c252 c253 c254 : Value} {Q0 : Exit → Act → World → Prop} (hst : BrSt w p q s PA pc d nv neg a set v w0) (HI : Hid (T = match classR s a with | some (e, j) => itemsR s f j false (set ++ e) | none => .bad)) (hal2 : a + 2 ≤ s.length) (hsl : set.length ≤ 8 * a) (hgo : Hid (∀ (u2 u6 u7 u8 u83 u84 u85 u86 u87 u88 u89 u90 u91 u92 u93 u94 u95 u96 u97 u98 u99 u100 u101 u102 u103 u104 u105 u106 u107 u108 u109 u110 u111 u112 u113 u114 u115 u116 u117 u118 u119 u120 u121 u122 u123 u124 u125 u126 u127 u128 u129 u130 u131 u132 u133 u134 u135 u136 u137 u138 u139 u140 u141 u142 u143 u144 u145 u146 u147 u148 u149 u150 u151 u152 u153 u154 u155 u156 u157 u158 u159 u160 u161 u162 u163 u164 u165 u166 u167 u168 u169 u170 u171 u172 u173 u174 u175 u176 u177 : Value) (w9 : World), BrOut s T neg w p q PA pc d nv f a w9 → Q0 (.exit 1) ⟨#[.pointer (some ⟨p, 0, none⟩), c1, u2, .int .i64 (i : Int), .pointer (some ⟨q, 0, none⟩), c5, u6, u7, u8, c9, c10, c11, c12, c13, c14, c15, c16, c17, c18, c19, c20, c21, c22, c23, c24, c25, c26, c27, c28, c29, c30, c31, c32, c33, c34, c35, c36, c37, c38, c39, c40, c41, c42, c43, c44, c45, c46, c47, c48, c49, c50, c51, c52, c53, c54, c55, c56, c57, c58, c59, c60, c61, c62, c63, c64, c65, c66, c67, c68, c69, c70, c71, c72, c73, c74, c75, c76, c77, c78, c79, c80, c81, c82, u83, u84, u85, u86, u87, u88, u89, u90, u91, u92, u93, u94, u95, u96, u97, u98, u99, u100, u101, u102, u103, u104, u105, u106, u107, u108, u109, u110, u111, u112, u113, u114, u115, u116, u117, u118, u119, u120, u121, u122, u123, u124, u125, u126, u127, u128, u129, u130, u131, u132, u133, u134, u135, u136, u137, u138, u139, u140, u141, u142, u143, u144, u145, u146, u147, u148, u149, u150, u151, u152, u153, u154, u155, u156, u157, u158, u159, u160, u161, u162, u163, u164, u165, u166, u167, u168, u169, u170, u171, u172, u173, u174, u175, u176, u177, c178, c179, c180, c181, c182, c183, c184, c185, c186, c187, c188, c189, c190, c191, c192, c193, c194, c195, c196, c197, c198, c199, c200, c201, c202, c203, c204, c205, c206, c207, c208, c209, c210, c211, c212, c213, c214, c215, c216, c217, c218, c219, c220, c221, c222, c223, c224, c225, c226, c227, c228, c229, c230, c231, c232, c233, c234, c235, c236, c237, c238, c239, c240, c241, c242, c243, c244, c245, c246, c247, c248, c249, c250, c251, c252, c253, c254], []⟩ w9)) (hret : Hid (∀ (u2 u6 u7 u8 u83 u84 u85 u86 u87 u88 u89 u90 u91 u92 u93 u94 u95 u96 u97 u98 u99 u100 u101 u102 u103 u104 u105 u106 u107 u108 u109 u110 u111 u112 u113 u114 u115 u116 u117 u118 u119 u120 u121 u122 u123 u124 u125 u126 u127 u128 u129 u130 u131 u132 u133 u134 u135 u136 u137 u138 u139 u140 u141 u142 u143 u144 u145 u146 u147 u148 u149 u150 u151 u152 u153 u154 u155 u156 u157 u158 u159 u160 u161 u162 u163 u164 u165 u166 u167 u168 u169 u170 u171 u172 u173 u174 u175 u176 u177 : Value) (w9 : World), SPost M w p s PA pc d F [] r (.returned u2) w9 → Q0 .ret ⟨#[.pointer (some ⟨p, 0, none⟩), c1, u2, .int .i64 (i : Int), .pointer (some ⟨q, 0, none⟩), c5, u6, u7, u8, c9, c10, c11, c12, c13, c14, c15, c16, c17, c18, c19, c20, c21, c22, c23, c24, c25, c26, c27, c28, c29, c30, c31, c32, c33, c34, c35, c36, c37, c38, c39, c40, c41, c42, c43, c44, c45, c46, c47, c48, c49, c50, c51, c52, c53, c54, c55, c56, c57, c58, c59, c60, c61, c62, c63, c64, c65, c66, c67, c68, c69, c70, c71, c72, c73, c74, c75, c76, c77, c78, c79, c80, c81, c82, u83, u84, u85, u86, u87, u88, u89, u90, u91, u92, u93, u94, u95, u96, u97, u98, u99, u100, u101, u102, u103, u104, u105, u106, u107, u108, u109, u110, u111, u112, u113, u114, u115, u116, u117, u118, u119, u120, u121, u122, u123, u124, u125, u126, u127, u128, u129, u130, u131, u132, u133, u134, u135, u136, u137, u138, u139, u140, u141, u142, u143, u144, u145, u146, u147, u148, u149, u150, u151, u152, u153, u154, u155, u156, u157, u158, u159, u160, u161, u162, u163, u164, u165, u166, u167, u168, u169, u170, u171, u172, u173, u174, u175, u176, u177, c178, c179, c180, c181, c182, c183, c184, c185, c186, c187, c188, c189, c190, c191, c192, c193, c194, c195, c196, c197, c198, c199, c200, c201, c202, c203, c204, c205, c206, c207, c208, c209, c210, c211, c212, c213, c214, c215, c216, c217, c218, c219, c220, c221, c222, c223, c224, c225, c226, c227, c228, c229, c230, c231, c232, c233, c234, c235, c236, c237, c238, c239, c240, c241, c242, c243, c244, c245, c246, c247, c248, c249, c250, c251, c252, c253, c254], []⟩ w9)) :
    Code.wp Tryd.prog (brCode 13) Q0 ⟨#[.pointer (some ⟨p, 0, none⟩), c1, c2, .int .i64 (i : Int), .pointer (some ⟨q, 0, none⟩), c5, c6, c7, c8, c9, c10, c11, c12, c13, c14, c15, c16, c17, c18, c19, c20, c21, c22, c23, c24, c25, c26, c27, c28, c29, c30, c31, c32, c33, c34, c35, c36, c37, c38, c39, c40, c41, c42, c43, c44, c45, c46, c47, c48, c49, c50, c51, c52, c53, c54, c55, c56, c57, c58, c59, c60, c61, c62, c63, c64, c65, c66, c67, c68, c69, c70, c71, c72, c73, c74, c75, c76, c77, c78, c79, c80, c81, c82, c83, c84, c85, c86, c87, c88, c89, c90, c91, c92, c93, c94, c95, c96, c97, c98, c99, c100, c101, c102, c103, c104, c105, c106, c107, c108, c109, c110, c111, c112, c113, c114, c115, c116, c117, c118, c119, c120, c121, c122, c123, c124, c125, c126, c127, c128, c129, c130, c131, c132, c133, c134, c135, c136, c137, c138, c139, c140, c141, c142, c143, c144, c145, c146, c147, c148, c149, c150, c151, c152, c153, c154, c155, c156, c157, c158, c159, c160, c161, c162, c163, c164, c165, c166, c167, c168, c169, c170, c171, c172, c173, c174, c175, c176, c177, c178, c179, c180, c181, c182, c183, c184, c185, c186, c187, c188, c189, c190, c191, c192, c193, c194, c195, c196, c197, c198, c199, c200, c201, c202, c203, c204, c205, c206, c207, c208, c209, c210, c211, c212, c213, c214, c215, c216, c217, c218, c219, c220, c221, c222, c223, c224, c225, c226, c227, c228, c229, c230, c231, c232, c233, c234, c235, c236, c237, c238, c239, c240, c241, c242, c243, c244, c245, c246, c247, c248, c249, c250, c251, c252, c253, c254], []⟩ w0 := by
  conv => arg 2; whnf
  try dsimp only
  have HST := Lib.hid hst
  obtain ⟨d0, d1, d2, d3, d4, d5⟩ := hst.ss.cell
  obtain ⟨k0, hk0⟩ : ∃ k0, a + 2 = k0 := ⟨_, rfl⟩
  have hzk : (a : Int) + 2 = (k0 : Int) := by omega
  have HK0 := Lib.hid hk0
  clear hst hk0
  go_wp2
  go_loopw [6, 7] (NameRel s a w0) (fun _ v _ => s.length - (intOf v).toNat)
  case atStart => exact ⟨[], k0, s.length + 1, rfl, rfl, by rw [HK0.out]; rfl, by rw [← HK0.out]; rfl, by omega, by rw [← HK0.out]; omega, Keep.refl _ _⟩
  case round =>
    obtain ⟨bs, k, f', rfl, rfl, hsc, hkb, hkf, hkl, hkw⟩ := hrel
    obtain ⟨f', rfl⟩ : ∃ g, f' = g + 1 := ⟨f' - 1, by omega⟩
    clear d0 d1 d2 d3 d4 d5
    have S1 := Lib.hid (HST.out.go hkw)
    have KW := Lib.hid hkw
    obtain ⟨d0, d1, d2, d3, d4, d5⟩ := S1.out.ss.cell
    have HSC := Lib.hid hsc
    have HKB := Lib.hid hkb
    have hak : a + 2 ≤ k := by omega
    clear hsc hkb hkw
    have fin : Hid (scanN s (f' + 1) k = [] → classR s a = if classOf (bs.map bi) ≠ [] ∧ pk s k = 58 ∧ pk s (k + 1) = 93 then some (classOf (bs.map bi), k + 2) else none) := fun h => by
      have e := HSC.out
      rw [h, List.append_nil] at e
      rw [class_scan (by omega), ← e, List.length_map, show a + 2 + bs.length = k from HKB.out.symm, show a + 3 + bs.length = k + 1 by have := HKB.out; omega, show a + 4 + bs.length = k + 2 by have := HKB.out; omega]
    by_cases hin : k < s.length
    · have hinz : (k : Int) < (s.length : Int) := by omega
      have hk00 : (0 : Int) ≤ (k : Int) := by omega
      obtain ⟨b, o, rfl, hb, hc⟩ := S1.out.ss.nums k hin
      obtain ⟨x, hx⟩ : ∃ x, pk s k = x := ⟨_, rfl⟩
      have hxb := hP.bound k
      rw [← pk_lt hin, hx] at hc
      rw [hx] at hxb
      have x0 := hxb.1
      have x1 := hxb.2
      have HX := Lib.hid hx
      clear hx hxb
      by_cases h58 : x = 58
      · have HC : Hid (classR s a = _) := fin.out (by rw [scanN, if_neg (by rw [HX.out]; omega)])
        have h58b : (x == 58) = true := by simp [h58]
        have h58c : (x != 58) = false := by simp [h58]
        go_upto_region 999 with (first | with_reducible refine stopAt 18 ?_ | with_reducible refine stopAt2 18 ?_)
        change Code.wp _ _ _ _ _
        refine br18 hp hqw hs hi hP hM HB er S1.out HI HC hak hkl hsl ?_ ?_
        ·
          exact Lib.hid (fun _ _ _ _ _ _ _ _ _ _ _ _ _ _ _ _ _ _ _ _ _ _ _ _ _ _ _ _ _ _ _ _ _ _ _ _ _ _ _ _ _ _ _ _ _ _ _ _ _ _ _ w9 h9 => hgo.out _ _ _ _ _ _ _ _ _ _ _ _ _ _ _ _ _ _ _ _ _ _ _ _ _ _ _ _ _ _ _ _ _ _ _ _ _ _ _ _ _ _ _ _ _ _ _ _ _ _ _ _ _ _ _ _ _ _ _ _ _ _ _ _ _ _ _ _ _ _ _ _ _ _ _ _ _ _ _ _ _ _ _ _ _ _ _ _ _ _ _ _ _ _ _ _ _ _ _ w9 h9)
        ·
          exact Lib.hid (fun _ _ _ _ _ _ _ _ _ _ _ _ _ _ _ _ _ _ _ _ _ _ _ _ _ _ _ _ _ _ _ _ _ _ _ _ _ _ _ _ _ _ _ _ _ _ _ _ _ _ _ w9 h9 => hret.out _ _ _ _ _ _ _ _ _ _ _ _ _ _ _ _ _ _ _ _ _ _ _ _ _ _ _ _ _ _ _ _ _ _ _ _ _ _ _ _ _ _ _ _ _ _ _ _ _ _ _ _ _ _ _ _ _ _ _ _ _ _ _ _ _ _ _ _ _ _ _ _ _ _ _ _ _ _ _ _ _ _ _ _ _ _ _ _ _ _ _ _ _ _ _ _ _ _ _ w9 h9)
      · have h58b : (x == 58) = false := beq_eq_false_iff_ne.2 h58
        have h58c : (x != 58) = true := by simp [h58]
        by_cases h128 : x < 128
        · obtain ⟨m1, hm1⟩ : ∃ m1, k + 1 = m1 := ⟨_, rfl⟩
          have hzk1 : (k : Int) + 1 = (m1 : Int) := by omega
          obtain ⟨y, hy⟩ : ∃ y, UInt8.ofNat x.toNat = y := ⟨_, rfl⟩
          have hbx : bi y = x := by rw [← hy]; exact asc_byte x0 h128
          have hconv : x % 256 = x := by omega
          have hcv : (convert 60 9 (.slice (some ⟨wr.heap.size, 0, none⟩) 1 1)).run Tryd.prog (wr.alloc (.cells #[.int .u8 x] 5)) = .ok (.string ⟨[y].toArray⟩) (wr.alloc (.cells #[.int .u8 x] 5)) := by
            refine run_convert_bytes_back _ 60 9 5 ⟨wr.heap.size, 0, none⟩ 1 [y] Tryd.underlying60 Tryd.underlying5 Tryd.underlying9 fun j hj => ?_
            have h0 : j = 0 := by simp at hj; omega
            subst h0
            have := new_byte wr x 5 0 (.int .u8 x) rfl
            rw [this]
            show some (Value.int .u8 x) = some (Value.int .u8 (y.toNat : Int))
            unfold bi at hbx
            rw [hbx]
          have HN : Hid ((bs ++ [y]).map bi ++ scanN s f' m1 = scanN s (s.length + 1) (a + 2)) := by
            show _ = _
            have e := HSC.out
            rw [scanN, if_pos (by rw [HX.out]; omega), HX.out, hm1] at e
            rw [← e, List.map_append, List.append_assoc]
            simp [hbx]
          have HM1 := Lib.hid hm1
          have HBX := Lib.hid hbx
          have hm1l : m1 ≤ s.length := by omega
          have hm1f : s.length < m1 + f' := by omega
          have hm1k : m1 = k + 1 := by omega
          have HMK := Lib.hid hm1k
          have hbl : bs.length ≤ 1000 := by have := HKB.out; omega
          clear hm1 hy hbx hm1k fin
          go_wp2
          go_roundw
          case rel => exact ⟨bs ++ [y], m1, f', by rw [ba_app], rfl, HN.out, by have := HMK.out; have := HKB.out; simp; omega, hm1f, hm1l, KW.out.tr ((Keep.refl [] _).alloc _)⟩
          case measure => simp [intOf]; have := HMK.out; omega
        · have HC : Hid (classR s a = _) := fin.out (by rw [scanN, if_neg (by rw [HX.out]; omega)])
          have h128b : decide (x < 128) = false := decide_eq_false h128
          go_upto_region 999 with (first | with_reducible refine stopAt 18 ?_ | with_reducible refine stopAt2 18 ?_)
          change Code.wp _ _ _ _ _
          refine br18 hp hqw hs hi hP hM HB er S1.out HI HC hak hkl hsl ?_ ?_
          ·
            exact Lib.hid (fun _ _ _ _ _ _ _ _ _ _ _ _ _ _ _ _ _ _ _ _ _ _ _ _ _ _ _ _ _ _ _ _ _ _ _ _ _ _ _ _ _ _ _ _ _ _ _ _ _ _ _ w9 h9 => hgo.out _ _ _ _ _ _ _ _ _ _ _ _ _ _ _ _ _ _ _ _ _ _ _ _ _ _ _ _ _ _ _ _ _ _ _ _ _ _ _ _ _ _ _ _ _ _ _ _ _ _ _ _ _ _ _ _ _ _ _ _ _ _ _ _ _ _ _ _ _ _ _ _ _ _ _ _ _ _ _ _ _ _ _ _ _ _ _ _ _ _ _ _ _ _ _ _ _ _ _ w9 h9)
          ·
            exact Lib.hid (fun _ _ _ _ _ _ _ _ _ _ _ _ _ _ _ _ _ _ _ _ _ _ _ _ _ _ _ _ _ _ _ _ _ _ _ _ _ _ _ _ _ _ _ _ _ _ _ _ _ _ _ w9 h9 => hret.out _ _ _ _ _ _ _ _ _ _ _ _ _ _ _ _ _ _ _ _ _ _ _ _ _ _ _ _ _ _ _ _ _ _ _ _ _ _ _ _ _ _ _ _ _ _ _ _ _ _ _ _ _ _ _ _ _ _ _ _ _ _ _ _ _ _ _ _ _ _ _ _ _ _ _ _ _ _ _ _ _ _ _ _ _ _ _ _ _ _ _ _ _ _ _ _ _ _ _ w9 h9)
    · have HC : Hid (classR s a = _) := fin.out (by rw [scanN, if_neg (by omega)])
      have hinb : decide (k < s.length) = false := decide_eq_false hin
      go_upto_region 999 with (first | with_reducible refine stopAt 18 ?_ | with_reducible refine stopAt2 18 ?_)
      change Code.wp _ _ _ _ _
      refine br18 hp hqw hs hi hP hM HB er S1.out HI HC hak hkl hsl ?_ ?_
      ·
        exact Lib.hid (fun _ _ _ _ _ _ _ _ _ _ _ _ _ _ _ _ _ _ _ _ _ _ _ _ _ _ _ _ _ _ _ _ _ _ _ _ _ _ _ _ _ _ _ _ _ _ _ _ _ _ _ w9 h9 => hgo.out _ _ _ _ _ _ _ _ _ _ _ _ _ _ _ _ _ _ _ _ _ _ _ _ _ _ _ _ _ _ _ _ _ _ _ _ _ _ _ _ _ _ _ _ _ _ _ _ _ _ _ _ _ _ _ _ _ _ _ _ _ _ _ _ _ _ _ _ _ _ _ _ _ _ _ _ _ _ _ _ _ _ _ _ _ _ _ _ _ _ _ _ _ _ _ _ _ _ _ w9 h9)
      ·
        exact Lib.hid (fun _ _ _ _ _ _ _ _ _ _ _ _ _ _ _ _ _ _ _ _ _ _ _ _ _ _ _ _ _ _ _ _ _ _ _ _ _ _ _ _ _ _ _ _ _ _ _ _ _ _ _ w9 h9 => hret.out _ _ _ _ _ _ _ _ _ _ _ _ _ _ _ _ _ _ _ _ _ _ _ _ _ _ _ _ _ _ _ _ _ _ _ _ _ _ _ _ _ _ _ _ _ _ _ _ _ _ _ _ _ _ _ _ _ _ _ _ _ _ _ _ _ _ _ _ _ _ _ _ _ _ _ _ _ _ _ _ _ _ _ _ _ _ _ _ _ _ _ _ _ _ _ _ _ _ _ w9 h9)


end Go.Proofs.YtimmbllhjmponaaDoor
