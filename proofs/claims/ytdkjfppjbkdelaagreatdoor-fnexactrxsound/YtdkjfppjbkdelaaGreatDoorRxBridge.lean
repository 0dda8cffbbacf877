/- Plain mathematics of chapter 5: reading in the specification's way (a second repetition is looked for by the piece, a group without its end fails at the text's end, outside of groups ')' is a piece that fails) answers as the model of reading. No program in it. -/
import Derived.Test.YtdkjfppjbkdelaaGreatDoorRxMathA
namespace Go.Proofs.YtdkjfppjbkdelaaGreatDoor
set_option linter.unusedVariables false

def groupS (s : List Int) (inner : Option (Nat → List Nd → Rd)) (i : Nat) (out : List Nd) : Rd :=
  match inner with
  | none => .err 3 i
  | some g =>
    match g (i + 1) out with
    | .err c p => .err c p
    | .ok n j o => if pk s j = 41 then .ok n (j + 1) o else .err 2 s.length
def atomS (s : List Int) (inner : Option (Nat → List Nd → Rd)) (i : Nat) (out : List Nd) : Rd :=
  if pk s i = 40 then groupS s inner i out else if pk s i = 41 then .err 2 i else atomR s none i out
def pieceS (s : List Int) (inner : Option (Nat → List Nd → Rd)) (i : Nat) (out : List Nd) : Rd :=
  match atomS s inner i out with
  | .err c p => .err c p
  | .ok kid j o =>
    match repR s j with
    | .no => .ok kid j o
    | .bad => .err 5 j
    | .yes lo hi k => if isRep (pk s k) = true then .err 5 k else .ok o.length k (o ++ [repNode lo hi kid])
def stopS (top : Bool) (c : Int) : Bool := decide (c = 0 ∨ c = 124 ∨ c = 41 ∧ top = false)
def seqS (s : List Int) (top : Bool) (inner : Option (Nat → List Nd → Rd)) : Nat → Nat → List Nd → List Int → Rd
  | 0, i, out, kids => .err 0 0
  | f + 1, i, out, kids =>
    if stopS top (pk s i) = true then
      (if kids = [] then .ok out.length i (out ++ [plainNode 1]) else joinR 7 kids i out)
    else match pieceS s inner i out with
      | .err c p => .err c p
      | .ok n j o => seqS s top inner f j o (kids ++ [n])
def rowS (s : List Int) (top : Bool) (inner : Option (Nat → List Nd → Rd)) (i : Nat) (out : List Nd) : Rd := seqS s top inner (s.length + 1) i out []
def altS (s : List Int) (top : Bool) (inner : Option (Nat → List Nd → Rd)) : Nat → Nat → List Nd → List Int → Rd
  | 0, i, out, kids => .err 0 0
  | f + 1, i, out, kids =>
    if pk s i = 124 then
      match rowS s top inner (i + 1) out with
      | .err c p => .err c p
      | .ok n j o => altS s top inner f j o (kids ++ [n])
    else joinR 8 kids i out
def altsS (s : List Int) (top : Bool) (inner : Option (Nat → List Nd → Rd)) (i : Nat) (out : List Nd) : Rd :=
  match rowS s top inner i out with
  | .err c p => .err c p
  | .ok n j o => altS s top inner (s.length + 1) j o [n]
def innerS (s : List Int) : Nat → Option (Nat → List Nd → Rd)
  | 0 => none
  | n + 1 => some (altsS s false (innerS s n))
def wholeS (s : List Int) : Rd :=
  match altsS s true (innerS s 6) 0 [] with
  | .err c p => .err c p
  | .ok n j o => if 400 < o.length ∨ 1000 < sizeR o then .err 7 s.length else .ok n j o

/-- Outside of groups, ')' is an error. -/
def upT (s : List Int) (top : Bool) (r : Rd) : Rd :=
  match r with
  | .err c p => .err c p
  | .ok n j o => if top = true ∧ pk s j = 41 then .err 2 j else .ok n j o

/-- Nested reading answers alike, and never stops before '|'. -/
def AgI (s : List Int) (a b : Option (Nat → List Nd → Rd)) : Prop :=
  match a, b with
  | none, none => True
  | some g, some h => ∀ i out, i ≤ s.length → h i out = g i out ∧ ∀ n j o, g i out = .ok n j o → pk s j ≠ 124
  | _, _ => False

section
variable {s : List Int} {a b : Option (Nat → List Nd → Rd)}

theorem groupS_eq (hP : Pos s) (hF : FarI s a) (hA : AgI s a b) {i : Nat} {out : List Nd} (hi : i < s.length) : groupS s b i out = groupR s a i out := by
  cases a with
  | none =>
    cases b with
    | none => rfl
    | some h => exact hA.elim
  | some g =>
    cases b with
    | none => exact hA.elim
    | some h =>
      have hg := hA (i + 1) out (by omega)
      have hf := hF g rfl (i + 1) out (by omega)
      unfold groupS groupR
      simp only []
      rw [hg.1]
      cases hr : g (i + 1) out with
      | err c p => rfl
      | ok n j o =>
        have h1 := hg.2 n j o hr
        have h2 := hf n j o hr
        simp only []
        split
        · rfl
        · next h41 =>
          have he : pk s j = 0 := by
            have := h2.2.2.2.2.2.2
            simp only [ends, decide_eq_true_eq] at this
            omega
          have := hP.zero.1 he
          have : j = s.length := by omega
          rw [this]

theorem isRep_cases {c : Int} (h : isRep c = true) : c = 42 ∨ c = 43 ∨ c = 63 ∨ c = 123 := by simpa [isRep] using h
theorem rep_no {j : Nat} (h : repR s j = .no) : isRep (pk s j) = false := by
  unfold repR at h
  simp only [isRep, decide_eq_false_iff_not, not_or]
  split at h
  · cases h
  · split at h
    · cases h
    · split at h
      · cases h
      · split at h
        · split at h <;> cases h
        · exact ⟨by assumption, by assumption, by assumption, by assumption⟩

theorem atomS_eq (hP : Pos s) (hF : FarI s a) (hA : AgI s a b) {i : Nat} {out : List Nd} (hi : i < s.length) (h41 : pk s i ≠ 41) : atomS s b i out = atomR s a i out := by
  unfold atomS
  by_cases h40 : pk s i = 40
  · rw [if_pos h40, groupS_eq hP hF hA hi]
    unfold atomR
    rw [if_neg (by rw [h40]; decide), if_pos h40]
  · rw [if_neg h40, if_neg h41]
    unfold atomR
    rw [if_neg h40, if_neg h40]

theorem pieceS_eq (hP : Pos s) (hF : FarI s a) (hA : AgI s a b) {i : Nat} {out : List Nd} (hi : i < s.length) (h41 : pk s i ≠ 41) :
    pieceS s b i out = match pieceR s a i out with | .err c p => .err c p | .ok n j o => if isRep (pk s j) = true then .err 5 j else .ok n j o := by
  unfold pieceS pieceR
  rw [atomS_eq hP hF hA hi h41]
  cases atomR s a i out with
  | err c p => rfl
  | ok kid j o =>
    simp only []
    cases hr : repR s j with
    | no => simp [rep_no hr]
    | bad => rfl
    | yes lo hi k => rfl

theorem seqS_eq (hP : Pos s) (hF : FarI s a) (hA : AgI s a b) (top : Bool) : ∀ (f i : Nat) (out : List Nd) (kids : List Int), i ≤ s.length → s.length < i + f → seqS s top b f i out kids = upT s top (seqR s a f i out kids)
  | 0, i, out, kids, hi, hf => by omega
  | f + 1, i, out, kids, hi, hf => by
    rw [seqS, seqR]
    by_cases he : ends (pk s i) = true
    · rw [if_pos he]
      have he' : pk s i = 0 ∨ pk s i = 124 ∨ pk s i = 41 := by simpa [ends] using he
      by_cases h41 : top = true ∧ pk s i = 41
      · have hil := lt_of_pk (s := s) (i := i) (by omega)
        have hs : ¬ stopS top (pk s i) = true := by simp [stopS, h41.1, h41.2]
        rw [if_neg hs]
        have e : pieceS s b i out = .err 2 i := by unfold pieceS atomS; rw [if_neg (by omega), if_pos h41.2]
        rw [e]
        show Rd.err 2 i = _
        by_cases hk : kids = []
        · rw [if_pos hk]; simp [upT, h41.1, h41.2]
        · rw [if_neg hk]; unfold joinR; split <;> simp [upT, h41.1, h41.2]
      · have hs : stopS top (pk s i) = true := by
          simp only [stopS, decide_eq_true_eq]
          rcases he' with h | h | h
          · exact .inl h
          · exact .inr (.inl h)
          · refine .inr (.inr ⟨h, ?_⟩)
            cases top with
            | false => rfl
            | true => exact absurd ⟨rfl, h⟩ h41
        rw [if_pos hs]
        split
        · simp [upT, h41]
        · unfold joinR; split <;> simp [upT, h41]
    · have hne := ends_not he
      have hil := lt_of_pk hne.1
      rw [if_neg he, if_neg (by simp [stopS, hne.1, hne.2.1, hne.2.2]), pieceS_eq hP hF hA hil hne.2.2]
      cases hp : pieceR s a i out with
      | err c p => rfl
      | ok n j o =>
        have hj := pieceR_far hF (out := out) hil _ _ _ hp
        simp only []
        by_cases hr : isRep (pk s j) = true
        · rw [if_pos hr]
          obtain ⟨f', rfl⟩ : ∃ f', f = f' + 1 := ⟨f - 1, by omega⟩
          have hc := isRep_cases hr
          have hn : ¬ ends (pk s j) = true := by simp only [ends, decide_eq_true_eq]; omega
          rw [seqR, if_neg hn]
          have e : pieceR s a j o = .err 5 j := by unfold pieceR atomR; rw [if_pos hr]
          rw [e]
          rfl
        · rw [if_neg hr]
          exact seqS_eq hP hF hA top f j o (kids ++ [n]) hj.2.1 (by omega)

theorem rowS_eq (hP : Pos s) (hF : FarI s a) (hA : AgI s a b) (top : Bool) {i : Nat} {out : List Nd} (hi : i ≤ s.length) : rowS s top b i out = upT s top (rowR s a i out) :=
  seqS_eq hP hF hA top _ i out [] hi (by omega)

theorem join_up (top : Bool) {k : Int} {kids : List Int} {i : Nat} {out : List Nd} (h : ¬ (top = true ∧ pk s i = 41)) : upT s top (joinR k kids i out) = joinR k kids i out := by
  unfold joinR; split <;> simp [upT, h]
theorem join_up' {k : Int} {kids : List Int} {i : Nat} {out : List Nd} (h : pk s i = 41) : upT s true (joinR k kids i out) = .err 2 i := by
  unfold joinR; split <;> simp [upT, h]

theorem altS_eq (hP : Pos s) (hF : FarI s a) (hA : AgI s a b) (top : Bool) : ∀ (f i : Nat) (out : List Nd) (kids : List Int), i ≤ s.length → s.length < i + f → ¬ (top = true ∧ pk s i = 41) → altS s top b f i out kids = upT s top (altR s a f i out kids)
  | 0, i, out, kids, hi, hf, h41 => by omega
  | f + 1, i, out, kids, hi, hf, h41 => by
    rw [altS, altR]
    by_cases hb : pk s i = 124
    · have hil := lt_of_pk (s := s) (i := i) (by omega)
      rw [if_pos hb, if_pos hb, rowS_eq hP hF hA top (by omega)]
      cases hp : rowR s a (i + 1) out with
      | err c p => rfl
      | ok n j o =>
        have hj := rowR_far hF (out := out) (show i + 1 ≤ s.length by omega) _ _ _ hp
        by_cases hc : top = true ∧ pk s j = 41
        · obtain ⟨f', rfl⟩ : ∃ f', f = f' + 1 := ⟨f - 1, by omega⟩
          have e : altR s a (f' + 1) j o (kids ++ [n]) = joinR 8 (kids ++ [n]) j o := by rw [altR, if_neg (by omega)]
          simp only [e]
          rw [hc.1, join_up' hc.2]
          simp [upT, hc.2]
        · simp only [upT, if_neg hc]
          exact altS_eq hP hF hA top f j o (kids ++ [n]) hj.2.1 (by omega) hc
    · rw [if_neg hb, if_neg hb, join_up top h41]

theorem altsS_eq (hP : Pos s) (hF : FarI s a) (hA : AgI s a b) (top : Bool) {i : Nat} {out : List Nd} (hi : i ≤ s.length) : altsS s top b i out = upT s top (altsR s a i out) := by
  unfold altsS altsR
  rw [rowS_eq hP hF hA top hi]
  cases hp : rowR s a i out with
  | err c p => rfl
  | ok n j o =>
    have hj := rowR_far hF (out := out) hi _ _ _ hp
    by_cases hc : top = true ∧ pk s j = 41
    · have e : altR s a (s.length + 1) j o [n] = joinR 8 [n] j o := by rw [altR, if_neg (by omega)]
      simp only [e]
      rw [hc.1, join_up' hc.2]
      simp [upT, hc.2]
    · simp only [upT, if_neg hc]
      exact altS_eq hP hF hA top _ j o [n] hj.2.1 (by omega) hc

theorem altR_bar : ∀ {f i : Nat} {out : List Nd} {kids : List Int} {n : Int} {j : Nat} {o : List Nd}, altR s a f i out kids = .ok n j o → pk s j ≠ 124
  | 0, i, out, kids, n, j, o, h => by cases h
  | f + 1, i, out, kids, n, j, o, h => by
    rw [altR] at h
    split at h
    · split at h
      · cases h
      · exact altR_bar h
    · next hb =>
      unfold joinR at h
      split at h <;> (cases h; exact hb)
theorem altsR_bar {i : Nat} {out : List Nd} {n : Int} {j : Nat} {o : List Nd} (h : altsR s a i out = .ok n j o) : pk s j ≠ 124 := by
  unfold altsR at h
  split at h
  · cases h
  · exact altR_bar h
end

theorem upT_false (s : List Int) (r : Rd) : upT s false r = r := by cases r <;> simp [upT]
theorem innerS_ag {s : List Int} (hP : Pos s) : ∀ n, AgI s (innerD s n) (innerS s n)
  | 0 => trivial
  | n + 1 => fun i out hi => by
    rw [altsD_eq]
    exact ⟨by rw [altsS_eq hP (innerD_far s n) (innerS_ag hP n) false hi, upT_false], fun m j o h => altsR_bar h⟩
/-- The specification's way reads as the model. -/
theorem wholeS_eq {s : List Int} (hP : Pos s) : wholeS s = wholeR s := by
  unfold wholeS wholeR
  rw [altsS_eq hP (innerD_far s 6) (innerS_ag hP 6) true (Nat.zero_le _), ← altsD_eq]
  cases ha : altsD s 6 0 [] with
  | err c p => rfl
  | ok n j o =>
    have hb : pk s j ≠ 124 := by rw [altsD_eq] at ha; exact altsR_bar ha
    have hf := innerD_far s 7 _ rfl 0 [] (Nat.zero_le _) n j o ha
    have he : pk s j = 0 ∨ pk s j = 124 ∨ pk s j = 41 := by simpa [ends] using hf.2.2.2.2.2.2
    by_cases h41 : pk s j = 41
    · simp [upT, h41]
    · have h0 : pk s j = 0 := by omega
      have := hP.zero.1 h0
      have ej : j = s.length := by omega
      subst ej
      simp [upT, h0]

end Go.Proofs.YtdkjfppjbkdelaaGreatDoor
