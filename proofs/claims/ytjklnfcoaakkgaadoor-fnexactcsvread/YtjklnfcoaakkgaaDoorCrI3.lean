/- The program's reader of rows with commas: its states that do not append. Conditions: at most 4000 bytes. -/
import Derived.Test.YtjklnfcoaakkgaaDoorCrI2
import Derived.Test.YtjklnfcoaakkgaaDoorSpecCsvR
namespace Go.Proofs.YtjklnfcoaakkgaaDoor
set_option linter.unusedVariables false
open Go.RowKit
open Go.Lib (byteCells)

/-- A state: a method of the reader at block p. -/
def stV (k p : Nat) : Value := .func (.func k) #[.pointer (some ⟨p, 0, none⟩)] #[]
inductive Cfg (s : ByteArray) (R : RowsRes) (p : Nat) (w : World) : Value → Nat → Prop
  | begins (i f : Nat) (rs : List (List ByteArray)) (xs : List Value) (nv uf : Value) (b : Nat) (v : Value) (acc : List UInt8) (h : Rdr w p s i nv rs xs (.slice none 0 0) [] uf b v acc 0 0) (hi : i ≤ s.size) (hf : i < s.size → s.size < i + f) (hl : rs.length + f ≤ s.size + 1)
      (hR : csvB s f i rs = R) : Cfg s R p w (stV 29 p) (8 * (s.size - i) + (if i < s.size then 7 else 1))
  | cell (i f : Nat) (rs : List (List ByteArray)) (xs : List Value) (nv u : Value) (cs : List ByteArray) (b : Nat) (v : Value) (acc : List UInt8) (h : Rdr w p s i nv rs xs u cs u b v acc 0 0) (hi : i ≤ s.size) (hf : s.size < i + f) (hl : rs.length + f ≤ s.size + 1) (hc : cs.length ≤ 100)
      (hR : csvC s f i rs cs = R) : Cfg s R p w (stV 55 p) (8 * (s.size - i) + 6)
  | plain (i f : Nat) (rs : List (List ByteArray)) (xs : List Value) (nv u : Value) (cs : List ByteArray) (v : Value) (h : Rdr w p s i nv rs xs u cs u i v [] 0 0) (hi : i ≤ s.size) (hf : s.size ≤ i + f) (hl : rs.length + f ≤ s.size) (hc : cs.length ≤ 99)
      (hR : contC s f i rs cs (plainR s i) = R) : Cfg s R p w (stV 70 p) (8 * (s.size - i) + 5)
  | quoted (i f b : Nat) (rs : List (List ByteArray)) (xs : List Value) (nv u : Value) (cs : List ByteArray) (v : Value) (acc : List UInt8) (h : Rdr w p s i nv rs xs u cs u b v acc 0 0) (hi : i ≤ s.size) (hb : b < i) (ha : acc.length ≤ i) (hf : s.size ≤ b + f) (hl : rs.length + f ≤ s.size) (hc : cs.length ≤ 99)
      (hR : contC s f b rs cs (quotedCell s i acc) = R) : Cfg s R p w (stV 71 p) (8 * (s.size - i) + 5)
  | closed (i f b : Nat) (rs : List (List ByteArray)) (xs : List Value) (nv u : Value) (cs : List ByteArray) (v : Value) (acc : List UInt8) (h : Rdr w p s i nv rs xs u cs u b v acc 0 0) (hi : i ≤ s.size) (hb : b < i) (ha : acc.length ≤ i) (hf : s.size ≤ b + f) (hl : rs.length + f ≤ s.size) (hc : cs.length ≤ 99)
      (hR : contC s f b rs cs (closedR s acc i) = R) : Cfg s R p w (stV 88 p) (8 * (s.size - i) + 4)
  | complete (i f b : Nat) (rs : List (List ByteArray)) (xs : List Value) (nv u : Value) (cs : List ByteArray) (v : Value) (acc : List UInt8) (h : Rdr w p s i nv rs xs u cs u b v acc 0 0) (hi : i ≤ s.size) (hb : b ≤ i) (ha : acc.length ≤ i) (hf : s.size ≤ b + f) (hl : rs.length + f ≤ s.size) (hc : cs.length ≤ 99) (he : cellEndB s i = true)
      (hR : contC s f b rs cs (.ok (⟨acc.toArray⟩, i)) = R) : Cfg s R p w (stV 87 p) (8 * (s.size - i) + 3)
  | done (i : Nat) (rs : List (List ByteArray)) (xs : List Value) (nv uf : Value) (b : Nat) (v : Value) (z k : Nat) (h : R8 w p s i nv uf b v z k) (ho : OwnR w (p + 1) nv rs xs) (hR : (rs, z, k) = R) : Cfg s R p w .nilFunc 0
def StepIs (s : ByteArray) (R : RowsRes) (p M : Nat) (w : World) (e : Ending) (w' : World) : Prop := ∃ sv M', e = .returned sv ∧ Cfg s R p w' sv M' ∧ M' < M ∧ Below p w w'

section
variable {w : World} {p i b : Nat} {s : ByteArray} {nv u v : Value} {rs : List (List ByteArray)} {xs : List Value} {cs : List ByteArray} {acc : List UInt8} {R : RowsRes}
/-- An error ends the reading. -/
theorem failStep {a q M : Nat} {uf : Value} (h : Rdr w p s i nv rs xs u cs uf b v acc 0 0) (hR : (rs, a, q) = R) (hM : 0 < M) :
    Calls Tryd.prog 68 #[.pointer (some ⟨p, 0, none⟩), .int .i64 a, .int .i64 q] w (StepIs s R p M w) := by
  refine (csvFail a q w p s i nv uf b v 0 0 h.r8).mono ?_
  rintro e w' ⟨rfl, r1, k1⟩
  exact ⟨_, 0, rfl, .done i rs xs nv uf b v a q r1 (h.inP k1).1.own hR, hM, k1.below (Nat.le_of_lt h.lt) fun q hq => by rw [List.mem_singleton.1 hq]; exact Nat.le_refl _⟩
end

set_option maxHeartbeats 1000000 in
set_option maxRecDepth 100000 in
theorem stepBegins (s : ByteArray) (R : RowsRes) (p : Nat) (w : World) (i f : Nat) (rs : List (List ByteArray)) (xs : List Value) (nv uf : Value) (b : Nat) (v : Value) (acc : List UInt8) (h : Rdr w p s i nv rs xs (.slice none 0 0) [] uf b v acc 0 0) (hs : s.size ≤ 4000) (hi : i ≤ s.size) (hf : i < s.size → s.size < i + f) (hl : rs.length + f ≤ s.size + 1)
    (hR : csvB s f i rs = R) : Calls Tryd.prog 29 #[.pointer (some ⟨p, 0, none⟩)] w (StepIs s R p (8 * (s.size - i) + (if i < s.size then 7 else 1)) w) := by
  obtain ⟨c0, c1, c2, c3, c4, c5, c6, c7⟩ := h.r8.cell
  have HH := Lib.hid h
  have hlt := h.lt
  have f3 := h.r8.frozen 3
  by_cases hlti : i < s.size
  · have hne : ((i : Int) == (s.size : Int)) = false := by rw [beq_eq_false_iff_ne]; omega
    have HE : Hid (csvC s f i rs [] = R) := by show _ = _; rw [← hR]; unfold csvB; rw [if_pos hlti]
    rw [if_pos hlti]
    have hf' := hf hlti
    clear h hR c2 c4 c5 c6 c7 hf
    go_enter Tryd.func29, Tryd.ntmps29
    go_wp2
    go_quiet (fail)
    have HD := Lib.hid (HH.out.keep0 ((Keep.refl [] w).drewN nq))
    have HB := Lib.hid (keepBelow ((Keep.refl [] w).drewN nq) (Nat.le_of_lt hlt))
    go_wp2
    go_ret
    have k3 := keepSetP (w.drewN nq) p 3 (.slice none 0 0)
    exact ⟨_, _, rfl, .cell i f rs xs nv (.slice none 0 0) [] b v acc ⟨HD.out.r8.set3 _, (HD.out.inP k3).1, (HD.out.inP k3).2, HD.out.apart⟩ hi hf' hl (by simp) HE.out, by omega, belowP HB.out⟩
  · have hne : ((i : Int) == (s.size : Int)) = true := by rw [beq_iff_eq]; omega
    have HE : Hid ((rs, 0, 0) = R) := by show _ = _; rw [← hR]; unfold csvB; rw [if_neg hlti]
    rw [if_neg hlti]
    clear h hR c2 c3 c4 c5 c6 c7 hf
    go_enter Tryd.func29, Tryd.ntmps29
    go_wp2
    go_quiet (fail)
    have HD := Lib.hid (HH.out.keep0 ((Keep.refl [] w).drewN nq))
    have HB := Lib.hid (keepBelow ((Keep.refl [] w).drewN nq) (Nat.le_of_lt hlt))
    go_wp2
    go_ret
    exact ⟨_, 0, rfl, .done i rs xs nv uf b v 0 0 HD.out.r8 HD.out.st.own HE.out, by omega, HB.out⟩

set_option maxHeartbeats 2000000 in
set_option maxRecDepth 100000 in
theorem stepCell (s : ByteArray) (R : RowsRes) (p : Nat) (w : World) (i f : Nat) (rs : List (List ByteArray)) (xs : List Value) (nv u : Value) (cs : List ByteArray) (b : Nat) (v : Value) (acc : List UInt8) (h : Rdr w p s i nv rs xs u cs u b v acc 0 0) (hs : s.size ≤ 4000) (hi : i ≤ s.size) (hf : s.size < i + f) (hl : rs.length + f ≤ s.size + 1) (hc : cs.length ≤ 100)
    (hR : csvC s f i rs cs = R) : Calls Tryd.prog 55 #[.pointer (some ⟨p, 0, none⟩)] w (StepIs s R p (8 * (s.size - i) + 6) w) := by
  obtain ⟨A, c, rfl⟩ := own_form h.st.cells
  obtain ⟨c0, c1, c2, c3, c4, c5, c6, c7⟩ := h.r8.cell
  have HH := Lib.hid h
  have hlt := h.lt
  have f4 := h.r8.frozen 4
  have f5 := h.r8.frozen 5
  by_cases h100 : cs.length = 100
  · have hz : ((cs.length : Int) == 100) = true := by rw [h100]; rfl
    obtain ⟨f', rfl⟩ : ∃ f', f = f' + 1 := ⟨f - 1, by omega⟩
    have cF := failStep (M := 8 * (s.size - i) + 6) h ((csvC_many h100).symm.trans hR) (by omega)
    clear h hR h100 c0 c2 c4 c5 c6 c7 f4 f5
    go_enter Tryd.func55, Tryd.ntmps55
    go_wp2_with (go_at_call 68; refine cF.mono ?_; rintro e w1 ⟨sv, M', rfl, hcf, hM, hb⟩; have HX : Hid (StepIs s R p (8 * (s.size - i) + 6) w (.returned sv) w1) := ⟨sv, M', rfl, hcf, hM, hb⟩; clear hcf hM hb)
    go_ret
    exact HX.out
  · have hz : ((cs.length : Int) == 100) = false := by rw [beq_eq_false_iff_ne]; omega
    obtain ⟨f', hf'⟩ : ∃ f', f = f' + 1 := ⟨f - 1, by omega⟩
    have HC : Hid (contC s f' i rs cs (cellR s i) = R) := by show _ = _; rw [← hR, hf', csvC_cell h100]
    have k45 := (keepSetP w p 4 (.int .i64 i)).tr (keepSetP _ p 5 (.slice none 0 0))
    have R2 : Rdr ((w.setCell ⟨p, 4, none⟩ (.int .i64 i)).setCell ⟨p, 5, none⟩ (.slice none 0 0)) p s i nv rs xs (.slice A cs.length c) cs (.slice A cs.length c) i (.slice none 0 0) [] 0 0 :=
      ⟨(h.r8.set4 i).set5 _, (h.inP k45).1, BytesR.nil _ _, fun q hq => by simp [Value.ownBlock] at hq⟩
    have HR2 := Lib.hid R2
    have HB2 : Hid (Below p w ((w.setCell ⟨p, 4, none⟩ (.int .i64 i)).setCell ⟨p, 5, none⟩ (.slice none 0 0))) := belowP (belowP (Below.refl _ _))
    have cA := csvAhead _ p s i _ _ _ _ _ _ R2.r8 hs
    have hfl : s.size ≤ i + f' := by omega
    have hll : rs.length + f' ≤ s.size := by omega
    have hcl : cs.length ≤ 99 := by omega
    obtain ⟨x, hx⟩ : ∃ x, bt s i = x := ⟨_, rfl⟩
    rw [hx] at cA
    have hxl := x.toNat_lt
    clear h hR R2 k45 hf hl hc h100 c0 c2 c6 c7
    by_cases h34 : x = 34
    · have HQ : Hid (contC s f' i rs cs (quotedCell s (i + 1) []) = R) := by show _ = _; rw [← HC.out, cell_quoted (by rw [hx]; exact h34)]
      have hil : i < s.size := by
        by_cases q : i < s.size
        · exact q
        · rw [bt_out q] at hx; rw [h34] at hx; exact absurd hx (by decide)
      obtain ⟨j, hj⟩ : ∃ j, i + 1 = j := ⟨_, rfl⟩
      have hjz : (i : Int) + 1 = (j : Int) := by omega
      rw [hj] at HQ
      have HJ := Lib.hid hj
      subst h34
      clear HC hx hj
      go_enter Tryd.func55, Tryd.ntmps55
      go_wp2_with (go_at_call 69; refine cA.mono ?_; rintro e w1 ⟨rfl, k1⟩; have H1 := Lib.hid (HR2.out.keep0 k1); have HB1 := Lib.hid (HB2.out.trans (keepBelow k1 (Nat.le_of_lt HR2.out.lt))); obtain ⟨d0, d1, d2, d3, d4, d5, d6, d7⟩ := H1.out.r8.cell; have g1 := H1.out.r8.frozen 1; clear k1)
      go_ret
      have k1 := keepSetP w1 p 1 (.int .i64 j)
      exact ⟨_, _, rfl, .quoted j f' i rs xs nv (.slice A cs.length c) cs (.slice none 0 0) [] ⟨H1.out.r8.set1 j, (H1.out.inP k1).1, (H1.out.inP k1).2, H1.out.apart⟩ (by have := HJ.out; omega) (by have := HJ.out; omega) (by simp) hfl hll hcl HQ.out, by have := HJ.out; omega, belowP HB1.out⟩
    · have h34z : ((x.toNat : Int) == 34) = false := by have := u8_ne 34 h34; rw [beq_eq_false_iff_ne]; omega
      have h34y : ((x.toNat : Int) != 34) = true := by rw [bne, h34z]; rfl
      have HP : Hid (contC s f' i rs cs (plainR s i) = R) := by show _ = _; rw [← HC.out, cell_plain (by rw [hx]; exact h34)]
      clear HC hx h34
      go_enter Tryd.func55, Tryd.ntmps55
      go_wp2_with (go_at_call 69; refine cA.mono ?_; rintro e w1 ⟨rfl, k1⟩; have H1 := Lib.hid (HR2.out.keep0 k1); have HB1 := Lib.hid (HB2.out.trans (keepBelow k1 (Nat.le_of_lt HR2.out.lt))); clear k1)
      go_ret
      exact ⟨_, _, rfl, .plain i f' rs xs nv (.slice A cs.length c) cs (.slice none 0 0) H1.out hi hfl hll hcl HP.out, by omega, HB1.out⟩

set_option maxHeartbeats 1000000 in
set_option maxRecDepth 100000 in
theorem stepClosed (s : ByteArray) (R : RowsRes) (p : Nat) (w : World) (i f b : Nat) (rs : List (List ByteArray)) (xs : List Value) (nv u : Value) (cs : List ByteArray) (v : Value) (acc : List UInt8) (h : Rdr w p s i nv rs xs u cs u b v acc 0 0) (hs : s.size ≤ 4000) (hi : i ≤ s.size) (hb : b < i) (ha : acc.length ≤ i) (hf : s.size ≤ b + f) (hl : rs.length + f ≤ s.size) (hc : cs.length ≤ 99)
    (hR : contC s f b rs cs (closedR s acc i) = R) : Calls Tryd.prog 88 #[.pointer (some ⟨p, 0, none⟩)] w (StepIs s R p (8 * (s.size - i) + 4) w) := by
  have cE := csvCellEnds w p s i nv u b v 0 0 h.r8 hs hi
  have HH := Lib.hid h
  have hlt := h.lt
  cases hce : cellEndB s i with
  | false =>
    rw [hce] at cE
    have HE := Lib.hid (show (rs, i, 2) = R by rw [← hR, closed_no hce, contC_err])
    clear h hR hce
    go_enter Tryd.func88, Tryd.ntmps88
    go_wp2_with (first
      | (go_at_call 86; refine cE.mono ?_; rintro e w1 ⟨rfl, k1⟩; have H1 := Lib.hid (HH.out.keep0 k1); have HB1 := Lib.hid (keepBelow k1 (Nat.le_of_lt hlt)); obtain ⟨d0, d1, d2, d3, d4, d5, d6, d7⟩ := H1.out.r8.cell; have cF := failStep (M := 8 * (s.size - i) + 4) H1.out HE.out (by omega); clear k1)
      | (go_at_call 68; refine cF.mono ?_; rintro e w2 ⟨sv, M', rfl, hcf, hM, hb2⟩; have HX : Hid (StepIs s R p (8 * (s.size - i) + 4) w (.returned sv) w2) := ⟨sv, M', rfl, hcf, hM, HB1.out.trans hb2⟩; clear hcf hM hb2))
    go_ret
    exact HX.out
  | true =>
    rw [hce] at cE
    have HE := Lib.hid (show contC s f b rs cs (.ok (⟨acc.toArray⟩, i)) = R by rw [← hR, closed_yes hce])
    have HC := Lib.hid hce
    clear h hR hce
    go_enter Tryd.func88, Tryd.ntmps88
    go_wp2_with (go_at_call 86; refine cE.mono ?_; rintro e w1 ⟨rfl, k1⟩; have H1 := Lib.hid (HH.out.keep0 k1); have HB1 := Lib.hid (keepBelow k1 (Nat.le_of_lt hlt)); clear k1)
    go_ret
    exact ⟨_, _, rfl, .complete i f b rs xs nv u cs v acc H1.out hi (Nat.le_of_lt hb) ha hf hl hc HC.out HE.out, by omega, HB1.out⟩

end Go.Proofs.YtjklnfcoaakkgaaDoor
