/- The specification's reader of patterns: bracket: a round of its loop. Conditions: at most 1000 code points. -/
import Derived.Test.YtdkjfppjbkdelaaGreatDoorRxSH
namespace Go.Proofs.YtdkjfppjbkdelaaGreatDoor
set_option linter.unusedVariables false
open Go.RowKit

set_option maxHeartbeats 4000000 in
set_option maxRecDepth 1000000 in
theorem br10 {w : World} {p q : Nat} {s : List Int} {PA : Option Addr} {pc d i : Nat} {nv : Value} {neg : Bool} {T : It} (hp : p < w.heap.size) (hqw : w.heap.size ≤ q) (hs : s.length ≤ 1000) {M : Nat} {out : List Nd} {F : List Nat} (hi : i < s.length) (hP : Pos s) (hM : out.length ≤ M) (HB : Hid (∀ w' i' code' bad' d', Ss w' p s PA pc i' code' bad' d' nv → Keep [p] w w' → SRd w' p s PA pc i' code' bad' d' out F)) {r : Rd} (er : Hid (r = brPost out i neg T)) {w0 : World} {f a : Nat} {set : List Int} {v : Value} {c1 c2 c5 c6 c7 c8 c9 c10 c11 c12 c13 c14 c15 c16 c17 c18 c19 c20 c21 c22 c23 c24 c25 c26 c27 c28 c29 c30 c31 c32 c33 c34 c35 c36 c37 c38 c39 c40 c41 c42 c43 c44 c45 c46 c47 c48 c49 c50 c51 c52 c53 c54 c55 c56 c57 c58 c59 c60 c61 c62 c63 c64 c65 c66 c67 c68 c69 c70 c71 c72 c73 c74 c75 c76 c77 c78 c79 c80 c81 c82 c83 c84 c85 c86 c87 c88 c89 c90 c91 c92 c93 c94 c95 c96 c97 c98 c99 c100 c101 c102 c103 c104 c105 c106 c107 c108 c109 c110 c111 c112 c113 c114 c115 c116 c117 c118 c119 c120 c121 c122 c123 c124 c125 c126 c127 c128 c129 c130 c131 c132 c133 c134 c135 c136 c137 c138 c139 c140 c141 c142 c143 c144 c145 c146 c147 c148 c149 c150 c151 c152 c153 c154 c155 c156 c157 c158 c159 c160 c161 c162 c163 c164 c165 c166 c167 c168 c169 c170 c171 c172 c173 c174 c175 c176 c177 c178 c179 c180 c181 c182 c183 c184 c185 c186 c187 c188 c189 c190 c191 c192 c193 c194 c195 c196 c197 c198 c199 c200 c201 c202 c203 c204 c205 c206 c207 c208 c209 c210 c211 c212 c213 c214 c215 c216 c217 c218 c219 c220 c221 c222 c223 c224 c225 c226 c227 c228 c229 c230 c231 c232 c233 c234 c235 c236 c237 c238 c239 c240 c241 c242 c243 c244 c245 c246 c247 c248 c249 c250 c251 c252 c253 c254 : Value} {Q0 : Exit → Act → World → Prop} (hst : BrSt w p q s PA pc d nv neg a set v w0) (HI : Hid (T = match itemR s a with | .ok e j => itemsR s f j false (set ++ e) | r => r)) (hal : a ≤ s.length) (hsl : set.length ≤ 8 * a) (hgo : Hid (∀ (u2 u6 u7 u8 u9 u10 u40 u41 u42 u43 u44 u45 u46 u47 u48 u49 u50 u51 u52 u53 u54 u55 u56 u57 u58 u59 u60 u61 u62 u63 u64 u65 u66 u67 u68 u69 u70 u71 u72 u73 u74 u75 u76 u77 u78 u79 u80 u81 u82 u83 u84 u85 u86 u87 u88 u89 u90 u91 u92 u93 u94 u95 u96 u97 u98 u99 u100 u101 u102 u103 u104 u105 u106 u107 u108 u109 u110 u111 u112 u113 u114 u115 u116 u117 u118 u119 u120 u121 u122 u123 u124 u125 u126 u127 u128 u129 u130 u131 u132 u133 u134 u135 u136 u137 u138 u139 u140 u141 u142 u143 u144 u145 u146 u147 u148 u149 u150 u151 u152 u153 u154 u155 u156 u157 u158 u159 u160 u161 u162 u163 u164 u165 u166 u167 u168 u169 u170 u171 u172 u173 u174 u175 u176 u177 u178 u179 u180 u181 u182 u183 u184 u185 u186 u187 u188 u189 u190 u191 u192 u193 u194 u195 u196 u197 u198 u199 u200 u201 u202 u203 u204 u205 u206 u207 u208 u209 u210 u211 u212 u213 u214 u215 u216 u217 u218 u219 u220 u221 u222 u223 u224 u225 u226 u227 u228 u229 u230 u231 u232 u233 u234 u235 u236 u237 u238 u239 u240 u241 u242 u243 u244 : Value) (w9 : World), BrOut s T neg w p q PA pc d nv f a w9 → Q0 .normal ⟨#[.pointer (some ⟨p, 0, none⟩), c1, u2, .int .i64 (i : Int), .pointer (some ⟨q, 0, none⟩), c5, u6, u7, u8, u9, u10, c11, c12, c13, c14, c15, c16, c17, c18, c19, c20, c21, c22, c23, c24, c25, c26, c27, c28, c29, c30, c31, c32, c33, c34, c35, c36, c37, c38, c39, u40, u41, u42, u43, u44, u45, u46, u47, u48, u49, u50, u51, u52, u53, u54, u55, u56, u57, u58, u59, u60, u61, u62, u63, u64, u65, u66, u67, u68, u69, u70, u71, u72, u73, u74, u75, u76, u77, u78, u79, u80, u81, u82, u83, u84, u85, u86, u87, u88, u89, u90, u91, u92, u93, u94, u95, u96, u97, u98, u99, u100, u101, u102, u103, u104, u105, u106, u107, u108, u109, u110, u111, u112, u113, u114, u115, u116, u117, u118, u119, u120, u121, u122, u123, u124, u125, u126, u127, u128, u129, u130, u131, u132, u133, u134, u135, u136, u137, u138, u139, u140, u141, u142, u143, u144, u145, u146, u147, u148, u149, u150, u151, u152, u153, u154, u155, u156, u157, u158, u159, u160, u161, u162, u163, u164, u165, u166, u167, u168, u169, u170, u171, u172, u173, u174, u175, u176, u177, u178, u179, u180, u181, u182, u183, u184, u185, u186, u187, u188, u189, u190, u191, u192, u193, u194, u195, u196, u197, u198, u199, u200, u201, u202, u203, u204, u205, u206, u207, u208, u209, u210, u211, u212, u213, u214, u215, u216, u217, u218, u219, u220, u221, u222, u223, u224, u225, u226, u227, u228, u229, u230, u231, u232, u233, u234, u235, u236, u237, u238, u239, u240, u241, u242, u243, u244, c245, c246, c247, c248, c249, c250, c251, c252, c253, c254], []⟩ w9)) (hgo1 : Hid (∀ (u2 u6 u7 u8 u9 u10 u40 u41 u42 u43 u44 u45 u46 u47 u48 u49 u50 u51 u52 u53 u54 u55 u56 u57 u58 u59 u60 u61 u62 u63 u64 u65 u66 u67 u68 u69 u70 u71 u72 u73 u74 u75 u76 u77 u78 u79 u80 u81 u82 u83 u84 u85 u86 u87 u88 u89 u90 u91 u92 u93 u94 u95 u96 u97 u98 u99 u100 u101 u102 u103 u104 u105 u106 u107 u108 u109 u110 u111 u112 u113 u114 u115 u116 u117 u118 u119 u120 u121 u122 u123 u124 u125 u126 u127 u128 u129 u130 u131 u132 u133 u134 u135 u136 u137 u138 u139 u140 u141 u142 u143 u144 u145 u146 u147 u148 u149 u150 u151 u152 u153 u154 u155 u156 u157 u158 u159 u160 u161 u162 u163 u164 u165 u166 u167 u168 u169 u170 u171 u172 u173 u174 u175 u176 u177 u178 u179 u180 u181 u182 u183 u184 u185 u186 u187 u188 u189 u190 u191 u192 u193 u194 u195 u196 u197 u198 u199 u200 u201 u202 u203 u204 u205 u206 u207 u208 u209 u210 u211 u212 u213 u214 u215 u216 u217 u218 u219 u220 u221 u222 u223 u224 u225 u226 u227 u228 u229 u230 u231 u232 u233 u234 u235 u236 u237 u238 u239 u240 u241 u242 u243 u244 : Value) (w9 : World), BrOut s T neg w p q PA pc d nv f a w9 → Q0 (.exit 1) ⟨#[.pointer (some ⟨p, 0, none⟩), c1, u2, .int .i64 (i : Int), .pointer (some ⟨q, 0, none⟩), c5, u6, u7, u8, u9, u10, c11, c12, c13, c14, c15, c16, c17, c18, c19, c20, c21, c22, c23, c24, c25, c26, c27, c28, c29, c30, c31, c32, c33, c34, c35, c36, c37, c38, c39, u40, u41, u42, u43, u44, u45, u46, u47, u48, u49, u50, u51, u52, u53, u54, u55, u56, u57, u58, u59, u60, u61, u62, u63, u64, u65, u66, u67, u68, u69, u70, u71, u72, u73, u74, u75, u76, u77, u78, u79, u80, u81, u82, u83, u84, u85, u86, u87, u88, u89, u90, u91, u92, u93, u94, u95, u96, u97, u98, u99, u100, u101, u102, u103, u104, u105, u106, u107, u108, u109, u110, u111, u112, u113, u114, u115, u116, u117, u118, u119, u120, u121, u122, u123, u124, u125, u126, u127, u128, u129, u130, u131, u132, u133, u134, u135, u136, u137, u138, u139, u140, u141, u142, u143, u144, u145, u146, u147, u148, u149, u150, u151, u152, u153, u154, u155, u156, u157, u158, u159, u160, u161, u162, u163, u164, u165, u166, u167, u168, u169, u170, u171, u172, u173, u174, u175, u176, u177, u178, u179, u180, u181, u182, u183, u184, u185, u186, u187, u188, u189, u190, u191, u192, u193, u194, u195, u196, u197, u198, u199, u200, u201, u202, u203, u204, u205, u206, u207, u208, u209, u210, u211, u212, u213, u214, u215, u216, u217, u218, u219, u220, u221, u222, u223, u224, u225, u226, u227, u228, u229, u230, u231, u232, u233, u234, u235, u236, u237, u238, u239, u240, u241, u242, u243, u244, c245, c246, c247, c248, c249, c250, c251, c252, c253, c254], []⟩ w9)) (hret : Hid (∀ (u2 u6 u7 u8 u9 u10 u40 u41 u42 u43 u44 u45 u46 u47 u48 u49 u50 u51 u52 u53 u54 u55 u56 u57 u58 u59 u60 u61 u62 u63 u64 u65 u66 u67 u68 u69 u70 u71 u72 u73 u74 u75 u76 u77 u78 u79 u80 u81 u82 u83 u84 u85 u86 u87 u88 u89 u90 u91 u92 u93 u94 u95 u96 u97 u98 u99 u100 u101 u102 u103 u104 u105 u106 u107 u108 u109 u110 u111 u112 u113 u114 u115 u116 u117 u118 u119 u120 u121 u122 u123 u124 u125 u126 u127 u128 u129 u130 u131 u132 u133 u134 u135 u136 u137 u138 u139 u140 u141 u142 u143 u144 u145 u146 u147 u148 u149 u150 u151 u152 u153 u154 u155 u156 u157 u158 u159 u160 u161 u162 u163 u164 u165 u166 u167 u168 u169 u170 u171 u172 u173 u174 u175 u176 u177 u178 u179 u180 u181 u182 u183 u184 u185 u186 u187 u188 u189 u190 u191 u192 u193 u194 u195 u196 u197 u198 u199 u200 u201 u202 u203 u204 u205 u206 u207 u208 u209 u210 u211 u212 u213 u214 u215 u216 u217 u218 u219 u220 u221 u222 u223 u224 u225 u226 u227 u228 u229 u230 u231 u232 u233 u234 u235 u236 u237 u238 u239 u240 u241 u242 u243 u244 : Value) (w9 : World), SPost M w p s PA pc d F [] r (.returned u2) w9 → Q0 .ret ⟨#[.pointer (some ⟨p, 0, none⟩), c1, u2, .int .i64 (i : Int), .pointer (some ⟨q, 0, none⟩), c5, u6, u7, u8, u9, u10, c11, c12, c13, c14, c15, c16, c17, c18, c19, c20, c21, c22, c23, c24, c25, c26, c27, c28, c29, c30, c31, c32, c33, c34, c35, c36, c37, c38, c39, u40, u41, u42, u43, u44, u45, u46, u47, u48, u49, u50, u51, u52, u53, u54, u55, u56, u57, u58, u59, u60, u61, u62, u63, u64, u65, u66, u67, u68, u69, u70, u71, u72, u73, u74, u75, u76, u77, u78, u79, u80, u81, u82, u83, u84, u85, u86, u87, u88, u89, u90, u91, u92, u93, u94, u95, u96, u97, u98, u99, u100, u101, u102, u103, u104, u105, u106, u107, u108, u109, u110, u111, u112, u113, u114, u115, u116, u117, u118, u119, u120, u121, u122, u123, u124, u125, u126, u127, u128, u129, u130, u131, u132, u133, u134, u135, u136, u137, u138, u139, u140, u141, u142, u143, u144, u145, u146, u147, u148, u149, u150, u151, u152, u153, u154, u155, u156, u157, u158, u159, u160, u161, u162, u163, u164, u165, u166, u167, u168, u169, u170, u171, u172, u173, u174, u175, u176, u177, u178, u179, u180, u181, u182, u183, u184, u185, u186, u187, u188, u189, u190, u191, u192, u193, u194, u195, u196, u197, u198, u199, u200, u201, u202, u203, u204, u205, u206, u207, u208, u209, u210, u211, u212, u213, u214, u215, u216, u217, u218, u219, u220, u221, u222, u223, u224, u225, u226, u227, u228, u229, u230, u231, u232, u233, u234, u235, u236, u237, u238, u239, u240, u241, u242, u243, u244, c245, c246, c247, c248, c249, c250, c251, c252, c253, c254], []⟩ w9)) :
    Code.wp Tryz.prog (brCode 10) Q0 ⟨#[.pointer (some ⟨p, 0, none⟩), c1, c2, .int .i64 (i : Int), .pointer (some ⟨q, 0, none⟩), c5, c6, c7, c8, c9, c10, c11, c12, c13, c14, c15, c16, c17, c18, c19, c20, c21, c22, c23, c24, c25, c26, c27, c28, c29, c30, c31, c32, c33, c34, c35, c36, c37, c38, c39, c40, c41, c42, c43, c44, c45, c46, c47, c48, c49, c50, c51, c52, c53, c54, c55, c56, c57, c58, c59, c60, c61, c62, c63, c64, c65, c66, c67, c68, c69, c70, c71, c72, c73, c74, c75, c76, c77, c78, c79, c80, c81, c82, c83, c84, c85, c86, c87, c88, c89, c90, c91, c92, c93, c94, c95, c96, c97, c98, c99, c100, c101, c102, c103, c104, c105, c106, c107, c108, c109, c110, c111, c112, c113, c114, c115, c116, c117, c118, c119, c120, c121, c122, c123, c124, c125, c126, c127, c128, c129, c130, c131, c132, c133, c134, c135, c136, c137, c138, c139, c140, c141, c142, c143, c144, c145, c146, c147, c148, c149, c150, c151, c152, c153, c154, c155, c156, c157, c158, c159, c160, c161, c162, c163, c164, c165, c166, c167, c168, c169, c170, c171, c172, c173, c174, c175, c176, c177, c178, c179, c180, c181, c182, c183, c184, c185, c186, c187, c188, c189, c190, c191, c192, c193, c194, c195, c196, c197, c198, c199, c200, c201, c202, c203, c204, c205, c206, c207, c208, c209, c210, c211, c212, c213, c214, c215, c216, c217, c218, c219, c220, c221, c222, c223, c224, c225, c226, c227, c228, c229, c230, c231, c232, c233, c234, c235, c236, c237, c238, c239, c240, c241, c242, c243, c244, c245, c246, c247, c248, c249, c250, c251, c252, c253, c254], []⟩ w0 := by
  conv => arg 2; whnf
  try dsimp only
  have HST := Lib.hid hst
  obtain ⟨d0, d1, d2, d3, d4, d5⟩ := hst.ss.cell
  clear hst
  obtain ⟨y, hy⟩ : ∃ y, pk s a = y := ⟨_, rfl⟩
  have HY := Lib.hid hy
  clear hy
  by_cases hae : a < s.length
  · have hge : ¬ (s.length : Int) ≤ (a : Int) := by omega
    have H0 : Hid (pk s a ≠ 0) := by show pk s a ≠ 0; have := hP.zero (s := s) (i := a); omega
    go_upto_region 10 with fail
    go_quiet (fail)
    have S1 := Lib.hid (HST.out.go ((Keep.refl [] _).drewN nq))
    clear HST d0 d1 d2 d3 d4 d5
    generalize w0.drewN nq = w5 at *
    obtain ⟨d0, d1, d2, d3, d4, d5⟩ := S1.out.ss.cell
    obtain ⟨ma, hma⟩ : ∃ ma, a + 1 = ma := ⟨_, rfl⟩
    have hza : (a : Int) + 1 = (ma : Int) := by omega
    obtain ⟨z, hz⟩ : ∃ z, pk s ma = z := ⟨_, rfl⟩
    have HZ := Lib.hid hz
    have HMA := Lib.hid hma
    obtain ⟨G, hG⟩ : ∃ G, decide (y = 91 ∧ z = 58) = G := ⟨_, rfl⟩
    have HG := Lib.hid hG
    clear hz hma hG
    have HPK : Hid (∀ n, Calls Tryz.prog 142 #[.pointer (some ⟨p, 0, none⟩)] (w5.drewN n) fun e w' => e = .returned (.int .i64 y) ∧ ∃ k, w' = (w5.drewN n).drewN k) := fun n => by
      have := peekQ (w5.drewN n) p s PA pc a 0 0 d nv (S1.out.ss.keep0 ((Keep.refl [] _).drewN n)) hs (by omega)
      rw [HY.out] at this
      exact this
    go_upto_region 12 with fail
    go_cut [82] from 53 to 81 (fun v wx => v = .bool G ∧ Keep [] w5 wx)
    case first =>
      by_cases h91 : y = 91
      · have h91b : (y == 91) = true := by simp [h91]
        by_cases hml : ma < s.length
        · have hmz : (ma : Int) < (s.length : Int) := by omega
          have hmb : decide (ma < s.length) = true := decide_eq_true hml
          have hm0 : (0 : Int) ≤ (ma : Int) := by omega
          obtain ⟨b, o, rfl, hb, hc⟩ := S1.out.ss.nums ma hml
          rw [← pk_lt hml, HZ.out] at hc
          by_cases h58 : z = 58
          · have HE : Hid (G = true) := by show G = true; rw [← HG.out]; simp [h91, h58]
            have h58b : (z == 58) = true := by simp [h58]
            go_quiet ((go_at_call 142; exact Calls.quiet_of (HPK.out _)))
            go_wp2_with fail
            go_meet
            case rel => exact ⟨by rw [HE.out], (Keep.refl [] w5).drewN _⟩
          · have HE : Hid (G = false) := by show G = false; rw [← HG.out]; simp [h91, h58]
            have h58b : (z == 58) = false := by simp [h58]
            go_quiet ((go_at_call 142; exact Calls.quiet_of (HPK.out _)))
            go_wp2_with fail
            go_meet
            case rel => exact ⟨by rw [HE.out], (Keep.refl [] w5).drewN _⟩
        · have hmb : decide (ma < s.length) = false := decide_eq_false hml
          have HE : Hid (G = false) := by
            show G = false; rw [← HG.out]
            have := pk_ge (s := s) (i := ma) (by omega)
            rw [HZ.out] at this
            simp [this]
          go_quiet ((go_at_call 142; exact Calls.quiet_of (HPK.out _)))
          go_wp2_with fail
          go_meet
          case rel => exact ⟨by rw [HE.out], (Keep.refl [] w5).drewN _⟩
      · have h91b : (y == 91) = false := by simp [h91]
        have HE : Hid (G = false) := by show G = false; rw [← HG.out]; simp [h91]
        go_quiet ((go_at_call 142; exact Calls.quiet_of (HPK.out _)))
        go_wp2_with fail
        go_meet
        case rel => exact ⟨by rw [HE.out], (Keep.refl [] w5).drewN _⟩
    case rest =>
      obtain ⟨rfl, hk6⟩ := hcut
      have S2 := Lib.hid (S1.out.go hk6)
      clear hk6 d0 d1 d2 d3 d4 d5 S1 HPK
      cases G with
      | true =>
        have hg : y = 91 ∧ z = 58 := of_decide_eq_true HG.out
        have HI2 : Hid (T = match classR s a with | some (e, j) => itemsR s f j false (set ++ e) | none => .bad) := by
          show T = _
          rw [HI.out, it_class (by rw [HY.out]; exact hg.1) (by rw [HMA.out, HZ.out]; exact hg.2)]
          cases classR s a <;> rfl
        have hal2 : a + 2 ≤ s.length := by have := lt_of_pk (s := s) (i := ma) (by rw [HZ.out]; omega); have := HMA.out; omega
        clear hg
        go_upto_region 999 with (first | with_reducible refine stopAt 13 ?_ | with_reducible refine stopAt2 13 ?_)
        change Code.wp _ _ _ _ _
        refine br13 hp hqw hs hi hP hM HB er S2.out HI2 hal2 hsl ?_ ?_
        ·
          exact Lib.hid (fun _ _ _ _ _ _ _ _ _ _ _ _ _ _ _ _ _ _ _ _ _ _ _ _ _ _ _ _ _ _ _ _ _ _ _ _ _ _ _ _ _ _ _ _ _ _ _ _ _ _ _ _ _ _ _ _ _ _ _ _ _ _ _ _ _ _ _ _ _ _ _ _ _ _ _ _ _ _ _ _ _ _ _ _ _ _ _ _ _ _ _ _ _ _ _ _ _ _ _ w9 h9 => hgo1.out _ _ _ _ _ _ _ _ _ _ _ _ _ _ _ _ _ _ _ _ _ _ _ _ _ _ _ _ _ _ _ _ _ _ _ _ _ _ _ _ _ _ _ _ _ _ _ _ _ _ _ _ _ _ _ _ _ _ _ _ _ _ _ _ _ _ _ _ _ _ _ _ _ _ _ _ _ _ _ _ _ _ _ _ _ _ _ _ _ _ _ _ _ _ _ _ _ _ _ _ _ _ _ _ _ _ _ _ _ _ _ _ _ _ _ _ _ _ _ _ _ _ _ _ _ _ _ _ _ _ _ _ _ _ _ _ _ _ _ _ _ _ _ _ _ _ _ _ _ _ _ _ _ _ _ _ _ _ _ _ _ _ _ _ _ _ _ _ _ _ _ _ _ _ _ _ _ _ _ _ _ _ _ _ _ _ _ _ _ _ _ _ _ _ _ _ _ _ _ _ _ _ _ _ _ _ _ _ _ _ _ w9 h9)
        ·
          exact Lib.hid (fun _ _ _ _ _ _ _ _ _ _ _ _ _ _ _ _ _ _ _ _ _ _ _ _ _ _ _ _ _ _ _ _ _ _ _ _ _ _ _ _ _ _ _ _ _ _ _ _ _ _ _ _ _ _ _ _ _ _ _ _ _ _ _ _ _ _ _ _ _ _ _ _ _ _ _ _ _ _ _ _ _ _ _ _ _ _ _ _ _ _ _ _ _ _ _ _ _ _ _ w9 h9 => hret.out _ _ _ _ _ _ _ _ _ _ _ _ _ _ _ _ _ _ _ _ _ _ _ _ _ _ _ _ _ _ _ _ _ _ _ _ _ _ _ _ _ _ _ _ _ _ _ _ _ _ _ _ _ _ _ _ _ _ _ _ _ _ _ _ _ _ _ _ _ _ _ _ _ _ _ _ _ _ _ _ _ _ _ _ _ _ _ _ _ _ _ _ _ _ _ _ _ _ _ _ _ _ _ _ _ _ _ _ _ _ _ _ _ _ _ _ _ _ _ _ _ _ _ _ _ _ _ _ _ _ _ _ _ _ _ _ _ _ _ _ _ _ _ _ _ _ _ _ _ _ _ _ _ _ _ _ _ _ _ _ _ _ _ _ _ _ _ _ _ _ _ _ _ _ _ _ _ _ _ _ _ _ _ _ _ _ _ _ _ _ _ _ _ _ _ _ _ _ _ _ _ _ _ _ _ _ _ _ _ _ _ w9 h9)
      | false =>
        have HN : Hid (¬ (pk s a = 91 ∧ pk s (a + 1) = 58)) := by
          show ¬ (_ ∧ _)
          rw [HY.out, HMA.out, HZ.out]
          exact of_decide_eq_false HG.out
        go_upto_region 999 with (first | with_reducible refine stopAt 23 ?_ | with_reducible refine stopAt2 23 ?_)
        change Code.wp _ _ _ _ _
        refine br23 hp hqw hs hi hP hM HB er S2.out HI H0 HN hae hsl ?_ ?_
        ·
          exact Lib.hid (fun _ _ _ _ _ _ _ _ _ _ _ _ _ _ _ _ _ _ _ _ _ _ _ _ _ _ _ _ _ _ _ _ _ _ _ _ _ _ _ _ _ _ _ _ _ _ _ _ _ _ _ _ _ _ _ _ _ _ _ _ _ _ _ _ _ _ _ _ _ _ w9 h9 => hgo.out _ _ _ _ _ _ _ _ _ _ _ _ _ _ _ _ _ _ _ _ _ _ _ _ _ _ _ _ _ _ _ _ _ _ _ _ _ _ _ _ _ _ _ _ _ _ _ _ _ _ _ _ _ _ _ _ _ _ _ _ _ _ _ _ _ _ _ _ _ _ _ _ _ _ _ _ _ _ _ _ _ _ _ _ _ _ _ _ _ _ _ _ _ _ _ _ _ _ _ _ _ _ _ _ _ _ _ _ _ _ _ _ _ _ _ _ _ _ _ _ _ _ _ _ _ _ _ _ _ _ _ _ _ _ _ _ _ _ _ _ _ _ _ _ _ _ _ _ _ _ _ _ _ _ _ _ _ _ _ _ _ _ _ _ _ _ _ _ _ _ _ _ _ _ _ _ _ _ _ _ _ _ _ _ _ _ _ _ _ _ _ _ _ _ _ _ _ _ _ _ _ _ _ _ _ _ _ _ _ _ _ w9 h9)
        ·
          exact Lib.hid (fun _ _ _ _ _ _ _ _ _ _ _ _ _ _ _ _ _ _ _ _ _ _ _ _ _ _ _ _ _ _ _ _ _ _ _ _ _ _ _ _ _ _ _ _ _ _ _ _ _ _ _ _ _ _ _ _ _ _ _ _ _ _ _ _ _ _ _ _ _ _ w9 h9 => hret.out _ _ _ _ _ _ _ _ _ _ _ _ _ _ _ _ _ _ _ _ _ _ _ _ _ _ _ _ _ _ _ _ _ _ _ _ _ _ _ _ _ _ _ _ _ _ _ _ _ _ _ _ _ _ _ _ _ _ _ _ _ _ _ _ _ _ _ _ _ _ _ _ _ _ _ _ _ _ _ _ _ _ _ _ _ _ _ _ _ _ _ _ _ _ _ _ _ _ _ _ _ _ _ _ _ _ _ _ _ _ _ _ _ _ _ _ _ _ _ _ _ _ _ _ _ _ _ _ _ _ _ _ _ _ _ _ _ _ _ _ _ _ _ _ _ _ _ _ _ _ _ _ _ _ _ _ _ _ _ _ _ _ _ _ _ _ _ _ _ _ _ _ _ _ _ _ _ _ _ _ _ _ _ _ _ _ _ _ _ _ _ _ _ _ _ _ _ _ _ _ _ _ _ _ _ _ _ _ _ _ _ w9 h9)
  · have hge : (s.length : Int) ≤ (a : Int) := by omega
    have HT2 : Hid (T = .bad) := by
      show T = _
      rw [HI.out]
      unfold itemR
      rw [if_pos (pk_ge (by omega))]
    go_upto_region 10 with fail
    go_quiet (fail)
    have S1 := Lib.hid (HST.out.go ((Keep.refl [] _).drewN nq))
    have cF := fail_post M 4 i _ p s _ pc _ d out F [] (HB.out _ _ _ _ _ S1.out.ss S1.out.keep) hs (by omega) hM
    go_wp2_with fail
    refine cF.mono ?_
    rintro e5 w9 ⟨rfl, q5⟩
    have Q5 := Lib.hid (SPost.pre0 S1.out.keep q5)
    clear q5 cF
    go_wp2
    refine hret.out _ _ _ _ _ _ _ _ _ _ _ _ _ _ _ _ _ _ _ _ _ _ _ _ _ _ _ _ _ _ _ _ _ _ _ _ _ _ _ _ _ _ _ _ _ _ _ _ _ _ _ _ _ _ _ _ _ _ _ _ _ _ _ _ _ _ _ _ _ _ _ _ _ _ _ _ _ _ _ _ _ _ _ _ _ _ _ _ _ _ _ _ _ _ _ _ _ _ _ _ _ _ _ _ _ _ _ _ _ _ _ _ _ _ _ _ _ _ _ _ _ _ _ _ _ _ _ _ _ _ _ _ _ _ _ _ _ _ _ _ _ _ _ _ _ _ _ _ _ _ _ _ _ _ _ _ _ _ _ _ _ _ _ _ _ _ _ _ _ _ _ _ _ _ _ _ _ _ _ _ _ _ _ _ _ _ _ _ _ _ _ _ _ _ _ _ _ _ _ _ _ _ _ _ _ _ _ _ _ _ _ _ ?_
    rw [er.out, HT2.out]
    exact Q5.out


end Go.Proofs.YtdkjfppjbkdelaaGreatDoor

/- The specification's reader of patterns: bracket. Conditions: at most 1000 code points. -/
namespace Go.Proofs.YtdkjfppjbkdelaaGreatDoor
set_option linter.unusedVariables false
open Go.RowKit

def SBrRel (s : List Int) (T : It) (neg : Bool) (q : Nat) (w : World) (p : Nat) (PA : Option Addr) (pc d : Nat) (nv : Value) (v5 : Value) (wr : World) : Prop :=
  ∃ (first : Bool) (a f : Nat) (set : List Int) (v : Value), v5 = .bool first ∧ BrSt w p q s PA pc d nv neg a set v wr ∧ itemsR s f a first set = T ∧ s.length < a + f ∧ a ≤ s.length ∧ set.length ≤ 8 * a

set_option maxHeartbeats 8000000 in
set_option maxRecDepth 100000 in
theorem sbracket_any (M : Nat) (w : World) (p : Nat) (s : List Int) (PA : Option Addr) (pc i d : Nat) (out : List Nd) (F : List Nat) (h : SRd w p s PA pc i 0 0 d out F) (hs : s.length ≤ 1000) (ho : out.length ≤ 10000) (hM : out.length ≤ M) (hi : i < s.length) (hP : Pos s) (r : Rd) (hr : Hid (bracketR s i out = r)) :
    Calls Tryz.prog 202 #[.pointer (some ⟨p, 0, none⟩)] w (SPost M w p s PA pc d F [] r) := by
  obtain ⟨i0, hi0, hz0, hz1, hz2⟩ := info_parts Tryz.infoInt
  obtain ⟨nv, hR, hback⟩ := h.rs
  have HF := Lib.hid h.range
  have HB := Lib.hid hback
  obtain ⟨c0, c1, c2, c3, c4, c5⟩ := hR.cell
  have f1 := hR.frozen 1
  have hp := hR.lt
  obtain ⟨m, hm⟩ : ∃ m, i + 1 = m := ⟨_, rfl⟩
  have hzi : (i : Int) + 1 = (m : Int) := by omega
  have hml : m ≤ s.length := by omega
  have hsz : (w.setCell ⟨p, 1, none⟩ (.int .i64 (m : Int))).heap.size = w.heap.size := setCell_size' _ _ _
  have hA : Keep [] (w.setCell ⟨p, 1, none⟩ (.int .i64 (m : Int))) ((w.setCell ⟨p, 1, none⟩ (.int .i64 (m : Int))).alloc (.cells #[.int .i64 4, .int .i64 0, .int .i64 0, .bool false, .slice none 0 0, .slice none 0 0] 47)) := (Keep.refl [] _).alloc _
  have K1 := Lib.hid ((hR.keepSet 1 (.int .i64 (m : Int))).tr hA.nil)
  have R1 := Lib.hid ((hR.set1 m).keep0 hA)
  have S1 : Hid (Six ((w.setCell ⟨p, 1, none⟩ (.int .i64 (m : Int))).alloc (.cells #[.int .i64 4, .int .i64 0, .int .i64 0, .bool false, .slice none 0 0, .slice none 0 0] 47)) w.heap.size 47 (.int .i64 4) (.int .i64 0) (.int .i64 0) (.bool false) (.slice none 0 0) (.slice none 0 0)) := by rw [← hsz]; exact heap_alloc_new _ _
  obtain ⟨T, hT⟩ : ∃ T, itemsR s (s.length + 1) (if pk s m = 94 then i + 2 else m) true [] = T := ⟨_, rfl⟩
  have er : Hid (r = brPost out i (decide (pk s m = 94)) T) := by
    show r = _
    rw [← hr.out, ← hT]
    unfold bracketR
    rw [hm]
    cases itemsR s (s.length + 1) (if pk s m = 94 then i + 2 else m) true [] <;> rfl
  have HM := Lib.hid hm
  have HT0 := Lib.hid hT
  clear hR hback h hA hm hT
  go_enter Tryz.func202, Tryz.ntmps202
  go_wp2_with fail
  refine (peek_any _ p s PA pc m 0 0 d nv R1.out hs (by omega)).mono ?_
  rintro e w2 ⟨rfl, k2, r2⟩
  have K2 := Lib.hid (K1.out.tr k2.nil)
  have R2 := Lib.hid r2
  have S2 := Lib.hid (S1.out.keep k2 (by simp))
  obtain ⟨q, hq⟩ : ∃ q, w.heap.size = q := ⟨_, rfl⟩
  have hqw : w.heap.size ≤ q := by omega
  have hpq : p < q := by omega
  rw [hq] at S2 ⊢
  obtain ⟨x, hx⟩ : ∃ x, pk s m = x := ⟨_, rfl⟩
  rw [hx] at er HT0 ⊢
  have HX := Lib.hid hx
  have Q0 := Lib.hid hq
  clear k2 r2 c0 c1 c2 c3 c4 c5 f1 K1 R1 S1 hsz hq hx
  go_upto_if 25 with fail
  go_cut [] (fun wx => Keep [p] w wx ∧ Six wx q 47 (.int .i64 4) (.int .i64 0) (.int .i64 0) (.bool (decide (x = 94))) (.slice none 0 0) (.slice none 0 0) ∧ Ss wx p s PA pc (if x = 94 then i + 2 else m) 0 0 d nv)
  case first =>
    by_cases h94 : x = 94
    · obtain ⟨c0, c1, c2, c3, c4, c5⟩ := R2.out.cell
      have f1 := R2.out.frozen 1
      have g3 := S2.out.frozen 3
      obtain ⟨u0, u1, u2, u3, u4, u5⟩ := S2.out.cells
      obtain ⟨m2, hm2⟩ : ∃ m2, m + 1 = m2 := ⟨_, rfl⟩
      have hzm : (m : Int) + 1 = (m2 : Int) := by omega
      have hm3 : i + 2 = m2 := by have := HM.out; omega
      have kq : Keep [q] w2 (w2.setCell ⟨q, 3, none⟩ (.bool true)) := (Keep.refl [q] w2).setCell (.inl (by simp)) _
      have R3 := R2.out.keep kq (fun b hb => by simp at hb; omega)
      have kS := R3.keepSet 1 (.int .i64 (m2 : Int))
      have H : Hid (Keep [p] w ((w2.setCell ⟨q, 3, none⟩ (.bool true)).setCell ⟨p, 1, none⟩ (.int .i64 (m2 : Int))) ∧ Six ((w2.setCell ⟨q, 3, none⟩ (.bool true)).setCell ⟨p, 1, none⟩ (.int .i64 (m2 : Int))) q 47 (.int .i64 4) (.int .i64 0) (.int .i64 0) (.bool true) (.slice none 0 0) (.slice none 0 0) ∧ Ss ((w2.setCell ⟨q, 3, none⟩ (.bool true)).setCell ⟨p, 1, none⟩ (.int .i64 (m2 : Int))) p s PA pc m2 0 0 d nv) :=
        ⟨(K2.out.trans kq (fun b hb => by simp at hb; exact .inr (by omega))).tr kS, (S2.out.set3 _).keep kS (by simp; omega), R3.set1 m2⟩
      have HM3 := Lib.hid hm3
      clear hm2 hm3 kq R3 kS
      subst h94
      go_wp2_with fail
      go_meet
      case rel =>
        refine ⟨H.out.1, H.out.2.1, ?_⟩
        rw [if_pos rfl, HM3.out]
        exact H.out.2.2
    · go_wp2_with fail
      go_meet
      case rel =>
        refine ⟨K2.out, ?_, ?_⟩
        · rw [decide_eq_false h94]; exact S2.out
        · rw [if_neg h94]; exact R2.out
  case rest =>
    obtain ⟨k3, s3, r3⟩ := hcut
    obtain ⟨neg, hneg⟩ : ∃ neg, decide (x = 94) = neg := ⟨_, rfl⟩
    obtain ⟨a0, ha0⟩ : ∃ a0, (if x = 94 then i + 2 else m) = a0 := ⟨_, rfl⟩
    rw [hneg] at er s3
    rw [ha0] at HT0 r3
    have hal0 : a0 ≤ s.length := by
      rw [← ha0]
      split
      · have := lt_of_pk (s := s) (i := m) (by have := HX.out; omega); have := HM.out; omega
      · exact hml
    have K3 := Lib.hid k3
    have S3 := Lib.hid s3
    have R3 := Lib.hid r3
    clear k3 s3 r3 hneg ha0 K2 S2 R2 HX
    go_wp2
    go_loopw [5] (SBrRel s T neg q w p PA pc d nv) (fun _ wr => s.length + 1 - atOfS p wr)
    case atStart => exact ⟨true, a0, s.length + 1, [], _, rfl, ⟨S3.out, row_nilS _ _, (fun b hb => by cases hb), K3.out, R3.out⟩, HT0.out, by omega, hal0, by simp⟩
    case round =>
      obtain ⟨first, a, f, set, v, rfl, hst, hit, hf, hal, hsl⟩ := hrel
      obtain ⟨f, rfl⟩ : ∃ g, f = g + 1 := ⟨f - 1, by omega⟩
      have HA := Lib.hid hst.ss.atOf
      have ST := Lib.hid hst
      have HT := Lib.hid hit
      clear S3 K3 R3 hst hit
      cases first with
      | true =>
        have HNE : Hid (¬ (true = false ∧ pk s a = 93)) := by show ¬ (_ ∧ _); simp
        have hi8 := items_on (s := s) (f := f) (a := a) (b := true) (set := set) HNE.out
        rw [HT.out] at hi8
        have HI := Lib.hid hi8
        clear hi8
        go_upto_region 999 with (first | with_reducible refine stopAt 10 ?_ | with_reducible refine stopAt2 10 ?_)
        change Code.wp _ _ _ _ _
        refine br10 hp hqw hs hi hP hM HB er ST.out HI hal hsl ?_ ?_ ?_
        · refine Lib.hid (fun _ _ _ _ _ _ _ _ _ _ _ _ _ _ _ _ _ _ _ _ _ _ _ _ _ _ _ _ _ _ _ _ _ _ _ _ _ _ _ _ _ _ _ _ _ _ _ _ _ _ _ _ _ _ _ _ _ _ _ _ _ _ _ _ _ _ _ _ _ _ _ _ _ _ _ _ _ _ _ _ _ _ _ _ _ _ _ _ _ _ _ _ _ _ _ _ _ _ _ _ _ _ _ _ _ _ _ _ _ _ _ _ _ _ _ _ _ _ _ _ _ _ _ _ _ _ _ _ _ _ _ _ _ _ _ _ _ _ _ _ _ _ _ _ _ _ _ _ _ _ _ _ _ _ _ _ _ _ _ _ _ _ _ _ _ _ _ _ _ _ _ _ _ _ _ _ _ _ _ _ _ _ _ _ _ _ _ _ _ _ _ _ _ _ _ _ _ _ _ _ _ _ _ _ _ _ _ _ _ _ _ w9 h9 => ?_)
          obtain ⟨j, set', v', st, hT', haj, hjl, hsl'⟩ := h9
          have HS := Lib.hid st
          have HT9 := Lib.hid hT'
          clear st hT'
          try dsimp only
          go_wp2
          go_roundw
          case rel => exact ⟨false, j, f, set', v', rfl, HS.out, HT9.out.symm, by omega, hjl, hsl'⟩
          case measure => rw [HS.out.ss.atOf, HA.out]; omega
        · refine Lib.hid (fun _ _ _ _ _ _ _ _ _ _ _ _ _ _ _ _ _ _ _ _ _ _ _ _ _ _ _ _ _ _ _ _ _ _ _ _ _ _ _ _ _ _ _ _ _ _ _ _ _ _ _ _ _ _ _ _ _ _ _ _ _ _ _ _ _ _ _ _ _ _ _ _ _ _ _ _ _ _ _ _ _ _ _ _ _ _ _ _ _ _ _ _ _ _ _ _ _ _ _ _ _ _ _ _ _ _ _ _ _ _ _ _ _ _ _ _ _ _ _ _ _ _ _ _ _ _ _ _ _ _ _ _ _ _ _ _ _ _ _ _ _ _ _ _ _ _ _ _ _ _ _ _ _ _ _ _ _ _ _ _ _ _ _ _ _ _ _ _ _ _ _ _ _ _ _ _ _ _ _ _ _ _ _ _ _ _ _ _ _ _ _ _ _ _ _ _ _ _ _ _ _ _ _ _ _ _ _ _ _ _ _ w9 h9 => ?_)
          obtain ⟨j, set', v', st, hT', haj, hjl, hsl'⟩ := h9
          have HS := Lib.hid st
          have HT9 := Lib.hid hT'
          clear st hT'
          try dsimp only
          go_wp2
          go_roundw
          case rel => exact ⟨false, j, f, set', v', rfl, HS.out, HT9.out.symm, by omega, hjl, hsl'⟩
          case measure => rw [HS.out.ss.atOf, HA.out]; omega
        · refine Lib.hid (fun _ _ _ _ _ _ _ _ _ _ _ _ _ _ _ _ _ _ _ _ _ _ _ _ _ _ _ _ _ _ _ _ _ _ _ _ _ _ _ _ _ _ _ _ _ _ _ _ _ _ _ _ _ _ _ _ _ _ _ _ _ _ _ _ _ _ _ _ _ _ _ _ _ _ _ _ _ _ _ _ _ _ _ _ _ _ _ _ _ _ _ _ _ _ _ _ _ _ _ _ _ _ _ _ _ _ _ _ _ _ _ _ _ _ _ _ _ _ _ _ _ _ _ _ _ _ _ _ _ _ _ _ _ _ _ _ _ _ _ _ _ _ _ _ _ _ _ _ _ _ _ _ _ _ _ _ _ _ _ _ _ _ _ _ _ _ _ _ _ _ _ _ _ _ _ _ _ _ _ _ _ _ _ _ _ _ _ _ _ _ _ _ _ _ _ _ _ _ _ _ _ _ _ _ _ _ _ _ _ _ _ w9 h9 => ?_)
          try dsimp only
          go_wp2
          go_ret
          exact h9
      | false =>
        obtain ⟨y, hy⟩ : ∃ y, pk s a = y := ⟨_, rfl⟩
        have HY := Lib.hid hy
        clear hy
        go_wp2_with fail
        refine (peek_any _ p s PA pc a 0 0 d nv ST.out.ss hs (by omega)).mono ?_
        rintro e w2b ⟨rfl, k2, r2⟩
        rw [HY.out]
        have SB := Lib.hid (ST.out.go k2)
        clear k2 r2
        by_cases h93 : y = 93
        · subst h93
          have HTE : Hid (T = .ok set (a + 1)) := by show T = _; rw [← HT.out]; exact items_end HY.out
          obtain ⟨m2, hm2⟩ : ∃ m2, a + 1 = m2 := ⟨_, rfl⟩
          rw [hm2] at HTE
          have hzm : (a : Int) + 1 = (m2 : Int) := by omega
          obtain ⟨A, c, rfl⟩ := own_form SB.out.row
          obtain ⟨c0, c1, c2, c3, c4, c5⟩ := SB.out.ss.cell
          have f1 := SB.out.ss.frozen 1
          have H := Lib.hid (SB.out.at hp hqw (SB.out.ss.keepSet 1 (.int .i64 (m2 : Int))) (SB.out.ss.set1 m2))
          obtain ⟨e0, e1, e2, e3, e4, e5⟩ := H.out.six.cells
          have cA := put_any (setNode neg set) (.slice A set.length c) (.slice none 0 0) _ p s PA pc m2 0 0 d out F (HB.out _ _ _ _ _ H.out.ss H.out.keep) (by omega) H.out.row (row_nilS _ _) (fun b hb hm => by have := (H.out.own b hb).1; have := (HF.out b hm).2; omega) (fun b hb => by cases hb) (fun b hb => by simp [Value.ownBlock])
          simp only [setNode] at cA
          clear hm2
          go_wp2_with fail
          refine cA.mono ?_
          rintro e w4 ⟨rfl, F', g2, g3, g4⟩
          have G := Lib.hid (And.intro g2 (And.intro g3 g4))
          clear g2 g3 g4 cA c0 c1 c2 c3 c4 c5 e0 e1 e2 e3 e4 e5 f1
          go_wp2
          go_ret
          obtain ⟨g2, g3, g4⟩ := G.out
          rw [er.out, HTE.out]
          refine ⟨rfl, F', g2, (H.out.keep.mono fun b hb => by simp at hb; simp [hb]).tr g3, fun b hb => ?_⟩
          rcases g4 b hb with g | g | g | g
          · exact .inl g
          · exact .inr (.inr (H.out.own b g).1)
          · cases g
          · exact .inr (.inr (Nat.le_trans H.out.keep.size g))
        · have HNE : Hid (¬ (false = false ∧ pk s a = 93)) := by show ¬ (_ ∧ _); rw [HY.out]; exact fun h => h93 h.2
          have hi8 := items_on (s := s) (f := f) (a := a) (b := false) (set := set) HNE.out
          rw [HT.out] at hi8
          have HI := Lib.hid hi8
          clear hi8
          go_upto_region 999 with (first | with_reducible refine stopAt 10 ?_ | with_reducible refine stopAt2 10 ?_)
          change Code.wp _ _ _ _ _
          refine br10 hp hqw hs hi hP hM HB er SB.out HI hal hsl ?_ ?_ ?_
          · refine Lib.hid (fun _ _ _ _ _ _ _ _ _ _ _ _ _ _ _ _ _ _ _ _ _ _ _ _ _ _ _ _ _ _ _ _ _ _ _ _ _ _ _ _ _ _ _ _ _ _ _ _ _ _ _ _ _ _ _ _ _ _ _ _ _ _ _ _ _ _ _ _ _ _ _ _ _ _ _ _ _ _ _ _ _ _ _ _ _ _ _ _ _ _ _ _ _ _ _ _ _ _ _ _ _ _ _ _ _ _ _ _ _ _ _ _ _ _ _ _ _ _ _ _ _ _ _ _ _ _ _ _ _ _ _ _ _ _ _ _ _ _ _ _ _ _ _ _ _ _ _ _ _ _ _ _ _ _ _ _ _ _ _ _ _ _ _ _ _ _ _ _ _ _ _ _ _ _ _ _ _ _ _ _ _ _ _ _ _ _ _ _ _ _ _ _ _ _ _ _ _ _ _ _ _ _ _ _ _ _ _ _ _ _ _ w9 h9 => ?_)
            obtain ⟨j, set', v', st, hT', haj, hjl, hsl'⟩ := h9
            have HS := Lib.hid st
            have HT9 := Lib.hid hT'
            clear st hT'
            try dsimp only
            go_wp2
            go_roundw
            case rel => exact ⟨false, j, f, set', v', rfl, HS.out, HT9.out.symm, by omega, hjl, hsl'⟩
            case measure => rw [HS.out.ss.atOf, HA.out]; omega
          · refine Lib.hid (fun _ _ _ _ _ _ _ _ _ _ _ _ _ _ _ _ _ _ _ _ _ _ _ _ _ _ _ _ _ _ _ _ _ _ _ _ _ _ _ _ _ _ _ _ _ _ _ _ _ _ _ _ _ _ _ _ _ _ _ _ _ _ _ _ _ _ _ _ _ _ _ _ _ _ _ _ _ _ _ _ _ _ _ _ _ _ _ _ _ _ _ _ _ _ _ _ _ _ _ _ _ _ _ _ _ _ _ _ _ _ _ _ _ _ _ _ _ _ _ _ _ _ _ _ _ _ _ _ _ _ _ _ _ _ _ _ _ _ _ _ _ _ _ _ _ _ _ _ _ _ _ _ _ _ _ _ _ _ _ _ _ _ _ _ _ _ _ _ _ _ _ _ _ _ _ _ _ _ _ _ _ _ _ _ _ _ _ _ _ _ _ _ _ _ _ _ _ _ _ _ _ _ _ _ _ _ _ _ _ _ _ w9 h9 => ?_)
            obtain ⟨j, set', v', st, hT', haj, hjl, hsl'⟩ := h9
            have HS := Lib.hid st
            have HT9 := Lib.hid hT'
            clear st hT'
            try dsimp only
            go_wp2
            go_roundw
            case rel => exact ⟨false, j, f, set', v', rfl, HS.out, HT9.out.symm, by omega, hjl, hsl'⟩
            case measure => rw [HS.out.ss.atOf, HA.out]; omega
          · refine Lib.hid (fun _ _ _ _ _ _ _ _ _ _ _ _ _ _ _ _ _ _ _ _ _ _ _ _ _ _ _ _ _ _ _ _ _ _ _ _ _ _ _ _ _ _ _ _ _ _ _ _ _ _ _ _ _ _ _ _ _ _ _ _ _ _ _ _ _ _ _ _ _ _ _ _ _ _ _ _ _ _ _ _ _ _ _ _ _ _ _ _ _ _ _ _ _ _ _ _ _ _ _ _ _ _ _ _ _ _ _ _ _ _ _ _ _ _ _ _ _ _ _ _ _ _ _ _ _ _ _ _ _ _ _ _ _ _ _ _ _ _ _ _ _ _ _ _ _ _ _ _ _ _ _ _ _ _ _ _ _ _ _ _ _ _ _ _ _ _ _ _ _ _ _ _ _ _ _ _ _ _ _ _ _ _ _ _ _ _ _ _ _ _ _ _ _ _ _ _ _ _ _ _ _ _ _ _ _ _ _ _ _ _ _ w9 h9 => ?_)
            try dsimp only
            go_wp2
            go_ret
            exact h9

end Go.Proofs.YtdkjfppjbkdelaaGreatDoor
