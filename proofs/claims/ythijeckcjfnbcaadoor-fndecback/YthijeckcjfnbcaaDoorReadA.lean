/- The reading of a number's text, plainly. No program in it. -/
import Derived.Test.YthijeckcjfnbcaaDoorSpecDecA
import Derived.Test.YthijeckcjfnbcaaDoorSpecDec1
namespace Go.Proofs.YthijeckcjfnbcaaDoor
set_option linter.unusedVariables false

def isDig (b : UInt8) : Bool := decide (48 ≤ b.toNat ∧ b.toNat ≤ 57)
theorem isDig_iff {b : UInt8} : isDig b = true ↔ IsD b := by unfold isDig IsD; simp
/-- The digits ahead, and what is behind them. -/
def tW (l : List UInt8) : List UInt8 := l.takeWhile isDig
def dW (l : List UInt8) : List UInt8 := l.dropWhile isDig
theorem tdW (l : List UInt8) : tW l ++ dW l = l := List.takeWhile_append_dropWhile
theorem tW_digs : ∀ l : List UInt8, Digs (tW l)
  | [] => digs_nil
  | b :: l => by
    unfold tW
    by_cases h : isDig b = true
    · rw [List.takeWhile_cons_of_pos h]
      intro c hc
      rcases List.mem_cons.1 hc with rfl | hc
      · exact isDig_iff.1 h
      · exact tW_digs l c hc
    · rw [List.takeWhile_cons_of_neg h]; exact digs_nil
theorem digSet (b : UInt8) : [48, 49, 50, 51, 52, 53, 54, 55, 56, 57].contains b = isDig b := by
  rw [Bool.eq_iff_iff, isDig_iff]
  unfold IsD
  simp only [List.contains_eq_mem, decide_eq_true_eq, List.mem_cons, List.not_mem_nil, or_false]
  have e : ∀ k : Nat, k < 256 → (b = UInt8.ofNat k ↔ b.toNat = k) := fun k hk => ⟨fun h => by rw [h]; simp; omega, fun h => by rw [← h]; simp⟩
  have e0 := e 48 (by omega)
  have e1 := e 49 (by omega)
  have e2 := e 50 (by omega)
  have e3 := e 51 (by omega)
  have e4 := e 52 (by omega)
  have e5 := e 53 (by omega)
  have e6 := e 54 (by omega)
  have e7 := e 55 (by omega)
  have e8 := e 56 (by omega)
  have e9 := e 57 (by omega)
  change (b = 48 ↔ _) at e0
  change (b = 49 ↔ _) at e1
  change (b = 50 ↔ _) at e2
  change (b = 51 ↔ _) at e3
  change (b = 52 ↔ _) at e4
  change (b = 53 ↔ _) at e5
  change (b = 54 ↔ _) at e6
  change (b = 55 ↔ _) at e7
  change (b = 56 ↔ _) at e8
  change (b = 57 ↔ _) at e9
  rw [e0, e1, e2, e3, e4, e5, e6, e7, e8, e9]
  omega
theorem len_tW (l : List UInt8) : (tW l).length + (dW l).length = l.length := by rw [← List.length_append, tdW]

/-- A sign ahead of a text, and the rest. -/
def cutR : List UInt8 → Bool × List UInt8
  | [] => (false, [])
  | b :: r => if b = 43 ∨ b = 45 then (decide (b = 45), r) else (false, b :: r)
theorem cutR_cons (b : UInt8) (r : List UInt8) : cutR (b :: r) = if b = 43 ∨ b = 45 then (decide (b = 45), r) else (false, b :: r) := rfl
theorem cutR_len (l : List UInt8) : (cutR l).2.length ≤ l.length := by
  cases l with
  | nil => simp [cutR]
  | cons b r =>
    rw [cutR_cons]
    split <;> simp
/-- The exponent: nothing behind the digits, or e, a sign, digits. -/
def expOf : List UInt8 → Option Int
  | [] => some 0
  | c :: t => if c = 101 ∨ c = 69 then (if tW (cutR t).2 = [] ∨ dW (cutR t).2 ≠ [] then none else some (if (cutR t).1 then -((min (val (tW (cutR t).2)) 9999 : Nat) : Int) else ((min (val (tW (cutR t).2)) 9999 : Nat) : Int))) else none
theorem expOf_cons (c : UInt8) (t : List UInt8) : expOf (c :: t) = if c = 101 ∨ c = 69 then (if tW (cutR t).2 = [] ∨ dW (cutR t).2 ≠ [] then none else some (if (cutR t).1 then -((min (val (tW (cutR t).2)) 9999 : Nat) : Int) else ((min (val (tW (cutR t).2)) 9999 : Nat) : Int))) else none := rfl
/-- The fraction's digits, and what is behind them. -/
def frac : List UInt8 → List UInt8 × List UInt8
  | [] => ([], [])
  | c :: t => if c = 46 then (tW t, dW t) else ([], c :: t)
theorem frac_cons (c : UInt8) (t : List UInt8) : frac (c :: t) = if c = 46 then (tW t, dW t) else ([], c :: t) := rfl
/-- The number of a sign, digits ahead of the period and behind it, and an exponent that may be none. -/
def readX (o : Option Int) (neg : Bool) (W F : List UInt8) : DecV × Int := match o with
  | none => (DecV.zero, 3)
  | some x => if W = [] ∧ F = [] then (DecV.zero, 3) else formOf neg (val (W ++ F)) (x - F.length)
def readR (l : List UInt8) : DecV × Int :=
  if 1000 < l.length then (DecV.zero, 3) else readX (expOf (frac (dW (cutR l).2)).2) (cutR l).1 (tW (cutR l).2) (frac (dW (cutR l).2)).1
theorem readX_none (neg : Bool) (W F : List UInt8) : readX none neg W F = (DecV.zero, 3) := rfl
theorem readX_some (x : Int) (neg : Bool) (W F : List UInt8) : readX (some x) neg W F = if W = [] ∧ F = [] then (DecV.zero, 3) else formOf neg (val (W ++ F)) (x - F.length) := rfl
theorem frac_len (l : List UInt8) : (frac l).1.length + (frac l).2.length ≤ l.length := by
  cases l with
  | nil => simp [frac]
  | cons c t =>
    rw [frac_cons]
    split
    · have := len_tW t; simp; omega
    · simp
theorem frac_digs (l : List UInt8) : Digs (frac l).1 := by
  cases l with
  | nil => exact digs_nil
  | cons c t =>
    rw [frac_cons]
    split
    · exact tW_digs t
    · exact digs_nil
theorem exp_bound {l : List UInt8} {x : Int} (h : expOf l = some x) : -9999 ≤ x ∧ x ≤ 9999 := by
  cases l with
  | nil =>
    have : (0 : Int) = x := Option.some.inj h
    omega
  | cons c t =>
    rw [expOf_cons] at h
    split at h
    · split at h
      · cases h
      · have := Option.some.inj h
        rw [← this]
        split <;> omega
    · cases h

end Go.Proofs.YthijeckcjfnbcaaDoor

/- spec.l03Digit and spec.l03Scan from the text's beginning. Condition: at most 1000 bytes. -/
namespace Go.Proofs.YthijeckcjfnbcaaDoor
set_option linter.unusedVariables false
open Go.RowKit

/-- Where the scan ends. -/
def scanE (L k1 : Nat) : List UInt8 → Nat
  | [] => k1
  | c :: t => if c = 101 ∨ c = 69 then (if tW (cutR t).2 = [] then k1 else L - (dW (cutR t).2).length) else k1
def scanN (l : List UInt8) : Nat :=
  if tW (cutR l).2 = [] ∧ (frac (dW (cutR l).2)).1 = [] then 0 else scanE l.length (l.length - (frac (dW (cutR l).2)).2.length) (frac (dW (cutR l).2)).2
theorem tW_cons {b : UInt8} {l : List UInt8} (h : isDig b = true) : tW (b :: l) = b :: tW l ∧ dW (b :: l) = dW l := ⟨List.takeWhile_cons_of_pos h, List.dropWhile_cons_of_pos h⟩
theorem tW_stop {b : UInt8} {l : List UInt8} (h : isDig b = false) : tW (b :: l) = [] ∧ dW (b :: l) = b :: l := ⟨List.takeWhile_cons_of_neg (by rw [h]; simp), List.dropWhile_cons_of_neg (by rw [h]; simp)⟩
theorem drop_at {s : ByteArray} {k : Nat} (h : k < s.size) : s.data.toList.drop k = s[k] :: s.data.toList.drop (k + 1) := List.drop_eq_getElem_cons (l := s.data.toList) (i := k) (by rw [size_list]; exact h)
theorem drop_end {s : ByteArray} {k : Nat} (h : ¬ k < s.size) : s.data.toList.drop k = [] := List.drop_eq_nil_of_le (by rw [size_list]; omega)

/-- On the way through the digits and the period: what is left of the text tells what is left of the digits. -/
def Way (l W F r1 r2 : List UInt8) (k d : Nat) : Bool → Prop
  | false => W.length = d + (tW (l.drop k)).length ∧ dW (l.drop k) = r1
  | true => W.length + F.length = d + (tW (l.drop k)).length ∧ dW (l.drop k) = r2
def pVal (q : Bool) : Int := if q then 1 else 0
def ScanRel (w : World) (s : ByteArray) (W F r1 r2 : List UInt8) (kv dv pv : Value) (wr : World) : Prop :=
  ∃ (k d : Nat) (q : Bool), k ≤ s.size ∧ d ≤ k ∧ kv = .int .i64 k ∧ dv = .int .i64 d ∧ pv = .int .i64 (pVal q) ∧ Way s.data.toList W F r1 r2 k d q ∧ Below w.heap.size w wr

theorem way_digit {s : ByteArray} {W F r1 r2 : List UInt8} {k d : Nat} {q : Bool} (h : Way s.data.toList W F r1 r2 k d q) (hk : k < s.size) (hx : isDig s[k] = true) : Way s.data.toList W F r1 r2 (k + 1) (d + 1) q := by
  have e := drop_at hk
  obtain ⟨t1, t2⟩ := tW_cons (l := s.data.toList.drop (k + 1)) hx
  cases q
  · obtain ⟨h1, h2⟩ := h
    rw [e, t1, List.length_cons] at h1
    rw [e, t2] at h2
    exact ⟨by omega, h2⟩
  · obtain ⟨h1, h2⟩ := h
    rw [e, t1, List.length_cons] at h1
    rw [e, t2] at h2
    exact ⟨by omega, h2⟩
theorem way_dot {s : ByteArray} {W F r1 r2 : List UInt8} {k d : Nat} (h : Way s.data.toList W F r1 r2 k d false) (hk : k < s.size) (hx : s[k] = 46) (hf : frac r1 = (F, r2)) : Way s.data.toList W F r1 r2 (k + 1) d true := by
  have e := drop_at hk
  rw [hx] at e
  obtain ⟨t1, t2⟩ := tW_stop (b := 46) (l := s.data.toList.drop (k + 1)) (by decide)
  obtain ⟨h1, h2⟩ := h
  rw [e, t1] at h1
  rw [e, t2] at h2
  rw [← h2, frac_cons, if_pos rfl] at hf
  have f1 : tW (s.data.toList.drop (k + 1)) = F := congrArg Prod.fst hf
  have f2 : dW (s.data.toList.drop (k + 1)) = r2 := congrArg Prod.snd hf
  refine ⟨?_, f2⟩
  rw [f1]
  simp at h1
  omega
/-- At the end: all digits are passed, and what is left is what is behind them. -/
theorem way_end {s : ByteArray} {W F r1 r2 : List UInt8} {k d : Nat} {q : Bool} (h : Way s.data.toList W F r1 r2 k d q) (hf : frac r1 = (F, r2)) (hx : ∀ hk : k < s.size, isDig s[k] = false ∧ (q = false → s[k] ≠ 46)) :
    d = W.length + F.length ∧ s.data.toList.drop k = r2 := by
  by_cases hk : k < s.size
  · have e := drop_at hk
    obtain ⟨g1, g2⟩ := hx hk
    obtain ⟨t1, t2⟩ := tW_stop (l := s.data.toList.drop (k + 1)) g1
    cases q
    · obtain ⟨h1, h2⟩ := h
      rw [e, t1] at h1
      rw [e, t2] at h2
      rw [← h2, frac_cons, if_neg (g2 rfl)] at hf
      have f1 : ([] : List UInt8) = F := congrArg Prod.fst hf
      have f2 : s[k] :: s.data.toList.drop (k + 1) = r2 := congrArg Prod.snd hf
      rw [← f1, e]
      exact ⟨by simp at h1 ⊢; omega, f2⟩
    · obtain ⟨h1, h2⟩ := h
      rw [e, t1] at h1
      rw [e, t2] at h2
      exact ⟨by simp at h1; omega, by rw [e]; exact h2⟩
  · have e := drop_end hk
    cases q
    · obtain ⟨h1, h2⟩ := h
      rw [e] at h1 h2
      have h3 : ([] : List UInt8) = r1 := h2
      rw [← h3] at hf
      have f1 : ([] : List UInt8) = F := congrArg Prod.fst hf
      have f2 : ([] : List UInt8) = r2 := congrArg Prod.snd hf
      rw [← f1, ← f2, e]
      exact ⟨by simp [tW] at h1 ⊢; omega, rfl⟩
    · obtain ⟨h1, h2⟩ := h
      rw [e] at h1 h2
      exact ⟨by simp [tW] at h1; omega, by rw [e]; exact h2⟩
theorem cutR_drop {s : ByteArray} : ∃ p : Nat, (cutR s.data.toList).2 = s.data.toList.drop p ∧ p ≤ s.size ∧ (p = 0 ∨ p = 1) := by
  by_cases h : 0 < s.size
  · have e := drop_at h
    rw [List.drop_zero] at e
    rw [e, cutR_cons]
    split
    · exact ⟨1, rfl, h, .inr rfl⟩
    · exact ⟨0, rfl, by omega, .inl rfl⟩
  · have e : s.data.toList = [] := List.eq_nil_of_length_eq_zero (by rw [size_list]; omega)
    rw [e]
    exact ⟨0, rfl, by omega, .inl rfl⟩

end Go.Proofs.YthijeckcjfnbcaaDoor

/- The scan of a whole text, and the reading: when the scan takes all, the exponent is there and there are digits. No program in it. -/
namespace Go.Proofs.YthijeckcjfnbcaaDoor
set_option linter.unusedVariables false

theorem scanE_all {l : List UInt8} {L : Nat} (hl : l.length ≤ L) (hL : 1 ≤ L) : scanE L (L - l.length) l = L ↔ expOf l ≠ none := by
  cases l with
  | nil => simp [scanE, expOf]
  | cons c t =>
    have e1 : scanE L (L - (c :: t).length) (c :: t) = if c = 101 ∨ c = 69 then (if tW (cutR t).2 = [] then L - (c :: t).length else L - (dW (cutR t).2).length) else L - (c :: t).length := rfl
    rw [e1, expOf_cons]
    have h1 : (c :: t).length = t.length + 1 := rfl
    rw [h1] at hl ⊢
    have h2 := cutR_len t
    have h3 := len_tW (cutR t).2
    by_cases g : c = 101 ∨ c = 69
    · rw [if_pos g, if_pos g]
      by_cases g2 : tW (cutR t).2 = []
      · rw [if_pos g2, if_pos (.inl g2)]
        exact ⟨fun h => by omega, fun h => absurd rfl h⟩
      · rw [if_neg g2]
        by_cases g3 : dW (cutR t).2 = []
        · rw [if_neg (by rintro (h | h); exact g2 h; exact h g3), g3]
          exact ⟨fun _ => by simp, fun _ => by simp⟩
        · rw [if_pos (.inr g3)]
          have := List.length_pos_iff.2 g3
          exact ⟨fun h => by omega, fun h => absurd rfl h⟩
    · rw [if_neg g, if_neg g]
      exact ⟨fun h => by omega, fun h => absurd rfl h⟩
/-- The scan takes all of a text that is not empty: just where it is read. -/
theorem scan_all {l : List UInt8} (h : 1 ≤ l.length) : scanN l = l.length ↔ (expOf (frac (dW (cutR l).2)).2 ≠ none ∧ ¬ (tW (cutR l).2 = [] ∧ (frac (dW (cutR l).2)).1 = [])) := by
  have h1 := cutR_len l
  have h2 := len_tW (cutR l).2
  have h3 := frac_len (dW (cutR l).2)
  unfold scanN
  by_cases g : tW (cutR l).2 = [] ∧ (frac (dW (cutR l).2)).1 = []
  · rw [if_pos g]
    exact ⟨fun e => by omega, fun e => absurd g e.2⟩
  · rw [if_neg g, scanE_all (by omega) h]
    exact ⟨fun e => ⟨e, g⟩, fun e => e.1⟩
theorem read_not {l : List UInt8} (h0 : l.length ≤ 1000) (h : ¬ (expOf (frac (dW (cutR l).2)).2 ≠ none ∧ ¬ (tW (cutR l).2 = [] ∧ (frac (dW (cutR l).2)).1 = []))) : readR l = (DecV.zero, 3) := by
  unfold readR
  rw [if_neg (by omega)]
  cases hx : expOf (frac (dW (cutR l).2)).2 with
  | none => rfl
  | some x =>
    rw [readX_some]
    rw [hx] at h
    by_cases g : tW (cutR l).2 = [] ∧ (frac (dW (cutR l).2)).1 = []
    · rw [if_pos g]
    · exact absurd ⟨by simp, g⟩ h
theorem read_yes {l : List UInt8} {x : Int} (h0 : l.length ≤ 1000) (hx : expOf (frac (dW (cutR l).2)).2 = some x) (h : ¬ (tW (cutR l).2 = [] ∧ (frac (dW (cutR l).2)).1 = [])) :
    readR l = formOf (cutR l).1 (val (tW (cutR l).2 ++ (frac (dW (cutR l).2)).1)) (x - (frac (dW (cutR l).2)).1.length) := by
  unfold readR
  rw [if_neg (by omega), hx, readX_some, if_neg h]

end Go.Proofs.YthijeckcjfnbcaaDoor

/- Where a number's text ends, by its parts. No program in it. -/
namespace Go.Proofs.YthijeckcjfnbcaaDoor
set_option linter.unusedVariables false

/-- A sign or none. -/
def IsSg (l : List UInt8) : Prop := l = [] ∨ l = [43] ∨ l = [45]
/-- No digit ahead. -/
def NoD (l : List UInt8) : Prop := ∀ c t, l = c :: t → isDig c = false
/-- No sign ahead. -/
def NoS (l : List UInt8) : Prop := ∀ c t, l = c :: t → ¬ (c = 43 ∨ c = 45)
theorem noD_nil : NoD [] := fun c t h => by cases h
theorem tW_app {W X : List UInt8} (hW : Digs W) (hX : NoD X) : tW (W ++ X) = W ∧ dW (W ++ X) = X := by
  induction W with
  | nil =>
    cases X with
    | nil => exact ⟨rfl, rfl⟩
    | cons c t => exact tW_stop (hX c t rfl)
  | cons b W ih =>
    have hb : isDig b = true := isDig_iff.2 (hW b (List.mem_cons_self ..))
    obtain ⟨i1, i2⟩ := ih (fun c hc => hW c (List.mem_cons_of_mem _ hc))
    obtain ⟨t1, t2⟩ := tW_cons (l := W ++ X) hb
    exact ⟨by rw [List.cons_append, t1, i1], by rw [List.cons_append, t2, i2]⟩
theorem dW_noD : ∀ l : List UInt8, NoD (dW l)
  | [] => noD_nil
  | b :: l => by
    by_cases h : isDig b = true
    · rw [(tW_cons (l := l) h).2]; exact dW_noD l
    · have h2 : isDig b = false := by simpa using h
      rw [(tW_stop (l := l) h2).2]
      intro c t e
      injection e with e1 e2
      rw [← e1]; exact h2
theorem noS_digs {E Y : List UInt8} (hE : Digs E) (h0 : E ≠ []) : NoS (E ++ Y) := by
  intro c t e
  cases E with
  | nil => exact absurd rfl h0
  | cons b E =>
    rw [List.cons_append] at e
    injection e with e1 e2
    have := hE b (List.mem_cons_self ..)
    unfold IsD at this
    rw [← e1]
    rintro (h | h) <;> rw [h] at this <;> revert this <;> decide
theorem cutR_app {sg Y : List UInt8} (hs : IsSg sg) (hY : sg = [] → NoS Y) : cutR (sg ++ Y) = (decide (sg = [45]), Y) := by
  rcases hs with rfl | rfl | rfl
  · cases Y with
    | nil => rfl
    | cons c t => rw [List.nil_append, cutR_cons, if_neg (hY rfl c t rfl)]; rfl
  · show cutR (43 :: Y) = _
    rw [cutR_cons, if_pos (.inl rfl)]; rfl
  · show cutR (45 :: Y) = _
    rw [cutR_cons, if_pos (.inr rfl)]; rfl
theorem cutR_split (l : List UInt8) : ∃ sg, IsSg sg ∧ l = sg ++ (cutR l).2 ∧ (cutR l).1 = decide (sg = [45]) ∧ (sg = [] → NoS (cutR l).2) := by
  cases l with
  | nil => exact ⟨[], .inl rfl, rfl, rfl, fun _ c t h => by cases h⟩
  | cons b r =>
    rw [cutR_cons]
    by_cases g : b = 43 ∨ b = 45
    · rw [if_pos g]
      rcases g with rfl | rfl
      · exact ⟨[43], .inr (.inl rfl), rfl, rfl, fun h => by cases h⟩
      · exact ⟨[45], .inr (.inr rfl), rfl, rfl, fun h => by cases h⟩
    · rw [if_neg g]
      exact ⟨[], .inl rfl, rfl, rfl, fun _ c t h => by injection h with h1 h2; rw [← h1]; exact g⟩

/-- A period and digits, or neither. -/
def IsF (D F : List UInt8) : Prop := (D = [] ∧ F = []) ∨ (D = 46 :: F ∧ Digs F)
/-- What may stand behind: no digit; where no period was, no period. -/
def Stop (D X : List UInt8) : Prop := NoD X ∧ (D = [] → ∀ c t, X = c :: t → c ≠ 46)
theorem stop_nil (D : List UInt8) : Stop D [] := ⟨noD_nil, fun _ c t h => by cases h⟩
theorem frac_app {D F X : List UInt8} (h : IsF D F) (hX : Stop D X) : frac (D ++ X) = (F, X) := by
  rcases h with ⟨rfl, rfl⟩ | ⟨rfl, hF⟩
  · cases X with
    | nil => rfl
    | cons c t => rw [List.nil_append, frac_cons, if_neg (hX.2 rfl c t rfl)]
  · rw [List.cons_append, frac_cons, if_pos rfl, (tW_app hF hX.1).1, (tW_app hF hX.1).2]
theorem frac_split (l : List UInt8) (hl : NoD l) : ∃ D, IsF D (frac l).1 ∧ l = D ++ (frac l).2 ∧ Stop D (frac l).2 := by
  cases l with
  | nil => exact ⟨[], .inl ⟨rfl, rfl⟩, rfl, stop_nil _⟩
  | cons c t =>
    rw [frac_cons]
    by_cases g : c = 46
    · rw [if_pos g]
      subst g
      exact ⟨46 :: tW t, .inr ⟨rfl, tW_digs t⟩, by show 46 :: t = 46 :: (tW t ++ dW t); rw [tdW], dW_noD t, fun h => by cases h⟩
    · rw [if_neg g]
      exact ⟨[], .inl ⟨rfl, rfl⟩, rfl, hl, fun _ c' t' h => by injection h with h1 h2; rw [← h1]; exact g⟩
theorem noD_app {D F X : List UInt8} (h : IsF D F) (hX : Stop D X) : NoD (D ++ X) := by
  rcases h with ⟨rfl, rfl⟩ | ⟨rfl, hF⟩
  · exact hX.1
  · intro c t e
    rw [List.cons_append] at e
    injection e with e1 e2
    rw [← e1]; decide

/-- A sign, digits, a period and digits: at least one digit. -/
structure Parts (sg W D F : List UInt8) : Prop where
  hs : IsSg sg
  hw : Digs W
  hf : IsF D F
  hn : ¬ (W = [] ∧ F = [])
section
variable {sg W D F X : List UInt8}
theorem Parts.noS (h : Parts sg W D F) (X : List UInt8) : NoS (W ++ (D ++ X)) := by
  by_cases h0 : W = []
  · subst h0
    rcases h.hf with ⟨rfl, rfl⟩ | ⟨rfl, hF⟩
    · exact absurd ⟨rfl, rfl⟩ h.hn
    · intro c t e
      rw [List.nil_append, List.cons_append] at e
      injection e with e1 e2
      rw [← e1]; decide
  · exact noS_digs h.hw h0
theorem Parts.read (h : Parts sg W D F) (hX : Stop D X) : cutR (sg ++ (W ++ (D ++ X))) = (decide (sg = [45]), W ++ (D ++ X)) ∧ tW (W ++ (D ++ X)) = W ∧ dW (W ++ (D ++ X)) = D ++ X ∧ frac (D ++ X) = (F, X) :=
  ⟨cutR_app h.hs (fun _ => h.noS X), (tW_app h.hw (noD_app h.hf hX)).1, (tW_app h.hw (noD_app h.hf hX)).2, frac_app h.hf hX⟩
theorem Parts.scan (h : Parts sg W D F) (hX : Stop D X) : scanN (sg ++ (W ++ (D ++ X))) = scanE (sg ++ (W ++ (D ++ X))).length ((sg ++ (W ++ (D ++ X))).length - X.length) X := by
  obtain ⟨a, b, c, d⟩ := h.read hX
  unfold scanN
  rw [a]
  dsimp only
  rw [b, c, d]
  dsimp only
  rw [if_neg h.hn]
end
theorem parts_all (m : List UInt8) : ∃ sg W D F X, m = sg ++ (W ++ (D ++ X)) ∧ IsSg sg ∧ Digs W ∧ IsF D F ∧ Stop D X ∧ (sg = [] → NoS (W ++ (D ++ X))) ∧ (W = [] ∧ F = [] → scanN m = 0) := by
  obtain ⟨sg, h1, h2, h3, h4⟩ := cutR_split m
  obtain ⟨D, f1, f2, f3⟩ := frac_split (dW (cutR m).2) (dW_noD _)
  have e : tW (cutR m).2 ++ (D ++ (frac (dW (cutR m).2)).2) = (cutR m).2 := by rw [← f2, tdW]
  refine ⟨sg, tW (cutR m).2, D, (frac (dW (cutR m).2)).1, (frac (dW (cutR m).2)).2, ?_, h1, tW_digs _, f1, f3, ?_, ?_⟩
  · rw [e]; exact h2
  · rw [e]; exact h4
  · intro g; unfold scanN; rw [if_pos g]
theorem num_parts {m : List UInt8} (h : scanN m ≠ 0) : ∃ sg W D F X, m = sg ++ (W ++ (D ++ X)) ∧ Parts sg W D F ∧ Stop D X := by
  obtain ⟨sg, W, D, F, X, e, h1, h2, h3, h4, _, h5⟩ := parts_all m
  exact ⟨sg, W, D, F, X, e, ⟨h1, h2, h3, fun g => h (h5 g)⟩, h4⟩
theorem scanE_cons (L k1 : Nat) (c : UInt8) (t : List UInt8) : scanE L k1 (c :: t) = if c = 101 ∨ c = 69 then (if tW (cutR t).2 = [] then k1 else L - (dW (cutR t).2).length) else k1 := rfl
theorem scanE_exp {c : UInt8} {sg E Y : List UInt8} (hc : c = 101 ∨ c = 69) (hs : IsSg sg) (hE : Digs E) (h0 : E ≠ []) (hY : NoD Y) (L k1 : Nat) : scanE L k1 (c :: (sg ++ (E ++ Y))) = L - Y.length := by
  rw [scanE_cons, if_pos hc, cutR_app hs (fun _ => noS_digs hE h0)]
  dsimp only
  rw [(tW_app hE hY).1, (tW_app hE hY).2, if_neg h0]
theorem exp_split {t : List UInt8} (h : tW (cutR t).2 ≠ []) : ∃ sg E Y, IsSg sg ∧ Digs E ∧ E ≠ [] ∧ NoD Y ∧ t = sg ++ (E ++ Y) := by
  obtain ⟨sg, h1, h2, _, _⟩ := cutR_split t
  exact ⟨sg, tW (cutR t).2, dW (cutR t).2, h1, tW_digs _, h, dW_noD _, by rw [tdW]; exact h2⟩
theorem scanE_cases (L k1 : Nat) (X : List UInt8) : scanE L k1 X = k1 ∨ ∃ c sg E Y, (c = 101 ∨ c = 69) ∧ IsSg sg ∧ Digs E ∧ E ≠ [] ∧ NoD Y ∧ X = c :: (sg ++ (E ++ Y)) := by
  cases X with
  | nil => exact .inl rfl
  | cons c t =>
    rw [scanE_cons]
    by_cases hc : c = 101 ∨ c = 69
    · rw [if_pos hc]
      by_cases h : tW (cutR t).2 = []
      · rw [if_pos h]; exact .inl rfl
      · obtain ⟨sg, E, Y, h1, h2, h3, h4, h5⟩ := exp_split h
        exact .inr ⟨c, sg, E, Y, hc, h1, h2, h3, h4, by rw [h5]⟩
    · rw [if_neg hc]; exact .inl rfl
/-- What the scan takes, the scan takes whole. -/
theorem scan_take {m : List UInt8} (h : scanN m ≠ 0) : scanN (m.take (scanN m)) = scanN m ∧ scanN m ≤ m.length := by
  obtain ⟨sg, W, D, F, X, rfl, hP, hX⟩ := num_parts h
  obtain ⟨P, hPe⟩ : ∃ P, sg ++ (W ++ D) = P := ⟨_, rfl⟩
  have e1 : ∀ Z, sg ++ (W ++ (D ++ Z)) = P ++ Z := fun Z => by rw [← hPe]; simp
  have hsc : ∀ Z, Stop D Z → scanN (P ++ Z) = scanE (P ++ Z).length ((P ++ Z).length - Z.length) Z := fun Z hZ => by rw [← e1]; exact hP.scan hZ
  rw [e1]
  rcases scanE_cases (P ++ X).length ((P ++ X).length - X.length) X with g | ⟨c, sg', E, Y, hc, h1, h2, h3, h4, rfl⟩
  · rw [hsc X hX, g, List.length_append, Nat.add_sub_cancel, List.take_left]
    have e2 := hsc [] (stop_nil D)
    rw [List.append_nil] at e2
    rw [e2]
    exact ⟨rfl, by omega⟩
  · have e3 : P ++ (c :: (sg' ++ (E ++ Y))) = (P ++ (c :: (sg' ++ E))) ++ Y := by simp
    rw [hsc _ hX, scanE_exp hc h1 h2 h3 h4, e3, List.length_append, Nat.add_sub_cancel, List.take_left]
    have hX2 : Stop D (c :: (sg' ++ (E ++ []))) := by
      refine ⟨fun c' t' e => ?_, fun _ c' t' e => ?_⟩ <;> injection e with e1 e2 <;> rw [← e1] <;> rcases hc with rfl | rfl <;> decide
    have e4 := hsc _ hX2
    rw [scanE_exp hc h1 h2 h3 noD_nil, List.append_nil] at e4
    rw [e4]
    exact ⟨rfl, by omega⟩
theorem scan_le (m : List UInt8) : scanN m ≤ m.length := by
  by_cases h : scanN m = 0
  · omega
  · exact (scan_take h).2
/-- What stands ahead of the scan's end is read. -/
theorem scan_reads {m : List UInt8} (h : scanN m ≠ 0) : expOf (frac (dW (cutR (m.take (scanN m))).2)).2 ≠ none ∧ ¬ (tW (cutR (m.take (scanN m))).2 = [] ∧ (frac (dW (cutR (m.take (scanN m))).2)).1 = []) := by
  obtain ⟨h1, h2⟩ := scan_take h
  have h3 : (m.take (scanN m)).length = scanN m := by rw [List.length_take]; omega
  exact (scan_all (by omega)).1 (by rw [h1, h3])

end Go.Proofs.YthijeckcjfnbcaaDoor

/- The blanks ahead; the scanner by its parts, and that it ends where the scan does. No program in it. -/
namespace Go.Proofs.YthijeckcjfnbcaaDoor
set_option linter.unusedVariables false

def isBl (b : UInt8) : Bool := decide (b.toNat = 32 ∨ b.toNat = 9 ∨ b.toNat = 10 ∨ b.toNat = 13)
/-- How many blanks stand ahead. -/
def blN (l : List UInt8) : Nat := (l.takeWhile isBl).length
theorem blN_nil : blN [] = 0 := rfl
theorem blN_cons {b : UInt8} {l : List UInt8} (h : isBl b = true) : blN (b :: l) = blN l + 1 := by unfold blN; rw [List.takeWhile_cons_of_pos h]; rfl
theorem blN_stop {b : UInt8} {l : List UInt8} (h : isBl b = false) : blN (b :: l) = 0 := by unfold blN; rw [List.takeWhile_cons_of_neg (by rw [h]; simp)]; rfl
theorem blN_le : ∀ l : List UInt8, blN l ≤ l.length
  | [] => Nat.le_refl _
  | b :: l => by
    by_cases h : isBl b = true
    · rw [blN_cons h]; have := blN_le l; simp; omega
    · rw [blN_stop (by simpa using h)]; omega
/-- Where the longest number from a place on ends; 0 where none begins. -/
def numE (l : List UInt8) (a : Nat) : Nat := if scanN (l.drop a) = 0 then 0 else a + scanN (l.drop a)
def preEnd (l : List UInt8) : Nat := numE l (blN l)

/-- The scanner: at a place, the end so far, the part that it is in, what is left. -/
def nE : Nat → Nat → Nat → List UInt8 → Nat
  | _, en, _, [] => en
  | a, en, p, c :: t =>
    if isDig c = true then nE (a + 1) (a + 1) (if p = 0 ∨ p = 3 then p + 1 else p) t
    else if c = 43 ∨ c = 45 then (if p = 0 ∨ p = 3 then nE (a + 1) en (p + 1) t else en)
    else if c = 46 then (if 1 < p then en else nE (a + 1) (if 0 < en then a + 1 else en) 2 t)
    else if c = 101 ∨ c = 69 then (if en = 0 ∨ 2 < p then en else nE (a + 1) en 3 t)
    else en
theorem nE_nil (a en p : Nat) : nE a en p [] = en := by unfold nE; rfl
theorem nE_dig {c : UInt8} (h : isDig c = true) (a en p : Nat) (t : List UInt8) : nE a en p (c :: t) = nE (a + 1) (a + 1) (if p = 0 ∨ p = 3 then p + 1 else p) t := by rw [nE, if_pos h]
theorem nE_sg {c : UInt8} (h : c = 43 ∨ c = 45) (a en p : Nat) (t : List UInt8) : nE a en p (c :: t) = if p = 0 ∨ p = 3 then nE (a + 1) en (p + 1) t else en := by
  rw [nE, if_neg (by rcases h with rfl | rfl <;> decide), if_pos h]
theorem nE_dot (a en p : Nat) (t : List UInt8) : nE a en p (46 :: t) = if 1 < p then en else nE (a + 1) (if 0 < en then a + 1 else en) 2 t := by
  rw [nE, if_neg (by decide), if_neg (by decide), if_pos rfl]
theorem nE_e {c : UInt8} (h : c = 101 ∨ c = 69) (a en p : Nat) (t : List UInt8) : nE a en p (c :: t) = if en = 0 ∨ 2 < p then en else nE (a + 1) en 3 t := by
  rw [nE, if_neg (by rcases h with rfl | rfl <;> decide), if_neg (by rcases h with rfl | rfl <;> decide), if_neg (by rcases h with rfl | rfl <;> decide), if_pos h]
theorem nE_no {c : UInt8} (h1 : isDig c = false) (h2 : ¬ (c = 43 ∨ c = 45)) (h3 : c ≠ 46) (h4 : ¬ (c = 101 ∨ c = 69)) (a en p : Nat) (t : List UInt8) : nE a en p (c :: t) = en := by
  rw [nE, if_neg (by rw [h1]; simp), if_neg h2, if_neg h3, if_neg h4]

theorem nE_digs {W : List UInt8} (hW : Digs W) {p : Nat} (hp : p ≠ 0 ∧ p ≠ 3) (X : List UInt8) : ∀ a en : Nat, nE a en p (W ++ X) = nE (a + W.length) (if W = [] then en else a + W.length) p X := by
  induction W with
  | nil => intro a en; simp
  | cons b W ih =>
    intro a en
    rw [List.cons_append, nE_dig (isDig_iff.2 (hW b (List.mem_cons_self ..))), if_neg (by omega), ih (fun c hc => hW c (List.mem_cons_of_mem _ hc)), if_neg (List.cons_ne_nil b W)]
    have e : a + 1 + W.length = a + (b :: W).length := by simp; omega
    rw [e]
    congr 1
    split
    · rename_i h; subst h; rfl
    · rfl
theorem nE_stop4 {Y : List UInt8} (h : NoD Y) (a en : Nat) : nE a en 4 Y = en := by
  cases Y with
  | nil => exact nE_nil ..
  | cons c t =>
    have h1 := h c t rfl
    by_cases h2 : c = 43 ∨ c = 45
    · rw [nE_sg h2, if_neg (by omega)]
    · by_cases h3 : c = 46
      · subst h3; rw [nE_dot, if_pos (by omega)]
      · by_cases h4 : c = 101 ∨ c = 69
        · rw [nE_e h4, if_pos (by omega)]
        · exact nE_no h1 h2 h3 h4 ..
/-- Behind e: a sign and digits, or the end is where it was. -/
theorem nE_three (a en : Nat) (t : List UInt8) : nE a en 3 t = if tW (cutR t).2 = [] then en else a + t.length - (dW (cutR t).2).length := by
  obtain ⟨sg, h1, h2, _, h4⟩ := cutR_split t
  obtain ⟨T, hT⟩ : ∃ T, (cutR t).2 = T := ⟨_, rfl⟩
  rw [hT] at h2 h4 ⊢
  obtain ⟨E, hE⟩ : ∃ E, tW T = E := ⟨_, rfl⟩
  obtain ⟨Y, hY⟩ : ∃ Y, dW T = Y := ⟨_, rfl⟩
  have hd : Digs E := by rw [← hE]; exact tW_digs T
  have hn : NoD Y := by rw [← hY]; exact dW_noD T
  have hs : T = E ++ Y := by rw [← hE, ← hY, tdW]
  rw [hE, hY]
  subst hs
  have key : ∀ b : Nat, nE b en 4 (E ++ Y) = if E = [] then en else b + E.length := fun b => by rw [nE_digs hd (by omega), nE_stop4 hn]
  rcases h1 with rfl | hsg
  · rw [List.nil_append] at h2
    subst h2
    cases hEE : E with
    | nil =>
      subst hEE
      rw [List.nil_append, if_pos rfl]
      cases Y with
      | nil => exact nE_nil ..
      | cons c u =>
        have h1 := hn c u rfl
        have h2 := h4 rfl c u rfl
        by_cases h3 : c = 46
        · subst h3; rw [nE_dot, if_pos (by omega)]
        · by_cases h5 : c = 101 ∨ c = 69
          · rw [nE_e h5, if_pos (by omega)]
          · exact nE_no h1 h2 h3 h5 ..
    | cons b E' =>
      subst hEE
      have hb : isDig b = true := isDig_iff.2 (hd b (List.mem_cons_self ..))
      rw [List.cons_append, nE_dig hb, if_pos (.inr rfl), nE_digs (fun c hc => hd c (List.mem_cons_of_mem _ hc)) (by omega), nE_stop4 hn, if_neg (List.cons_ne_nil b E')]
      split
      · rename_i h; subst h; simp; omega
      · simp; omega
  · obtain ⟨c, rfl, hc⟩ : ∃ c : UInt8, sg = [c] ∧ (c = 43 ∨ c = 45) := by
      rcases hsg with rfl | rfl
      · exact ⟨43, rfl, .inl rfl⟩
      · exact ⟨45, rfl, .inr rfl⟩
    subst h2
    show nE a en 3 (c :: (E ++ Y)) = _
    rw [nE_sg hc, if_pos (.inr rfl), key]
    split
    · rfl
    · simp; omega
/-- Behind the digits. -/
theorem nE_tail {p : Nat} (hp : p = 1 ∨ p = 2) {X : List UInt8} (hX : NoD X) (hd : p = 1 → ∀ c t, X = c :: t → c ≠ 46) (a en : Nat) : nE a en p X = if en = 0 then 0 else scanE (a + X.length) en X := by
  cases X with
  | nil =>
    rw [nE_nil]
    split
    · assumption
    · rfl
  | cons c t =>
    have h1 := hX c t rfl
    rw [scanE_cons]
    by_cases h2 : c = 43 ∨ c = 45
    · rw [nE_sg h2, if_neg (by omega), if_neg (show ¬ (c = 101 ∨ c = 69) by rcases h2 with rfl | rfl <;> decide)]
      split
      · assumption
      · rfl
    · by_cases h3 : c = 46
      · rcases hp with rfl | rfl
        · exact absurd h3 (hd rfl c t rfl)
        · subst h3
          rw [nE_dot, if_pos (by omega), if_neg (show ¬ ((46 : UInt8) = 101 ∨ (46 : UInt8) = 69) by decide)]
          split
          · assumption
          · rfl
      · by_cases h4 : c = 101 ∨ c = 69
        · rw [nE_e h4, if_pos h4]
          by_cases h0 : en = 0
          · rw [if_pos (.inl h0), if_pos h0]; exact h0
          · rw [if_neg (by omega), if_neg h0, nE_three]
            have e : a + 1 + t.length = a + (c :: t).length := by simp; omega
            rw [e]
        · rw [nE_no h1 h2 h3 h4, if_neg h4]
          split
          · assumption
          · rfl
theorem nE_noS {Y : List UInt8} (h : NoS Y) (a en : Nat) : nE a en 0 Y = nE a en 1 Y := by
  cases Y with
  | nil => rw [nE_nil, nE_nil]
  | cons c t =>
    have h2 := h c t rfl
    by_cases h1 : isDig c = true
    · rw [nE_dig h1, nE_dig h1]; rfl
    · have h1' : isDig c = false := by simpa using h1
      by_cases h3 : c = 46
      · subst h3; rw [nE_dot, nE_dot]; rfl
      · by_cases h4 : c = 101 ∨ c = 69
        · rw [nE_e h4, nE_e h4]
          congr 1
          simp
        · rw [nE_no h1' h2 h3 h4, nE_no h1' h2 h3 h4]
theorem scanE_le (L k : Nat) (X : List UInt8) : scanE L k X = k ∨ ∃ n, n ≤ X.length ∧ scanE L k X = L - n := by
  cases X with
  | nil => exact .inl rfl
  | cons c t =>
    rw [scanE_cons]
    split
    · split
      · exact .inl rfl
      · have h1 := cutR_len t
        have h2 := len_tW (cutR t).2
        exact .inr ⟨_, by simp; omega, rfl⟩
    · exact .inl rfl
theorem scanE_shift (a L k : Nat) (X : List UInt8) (h : X.length ≤ L) : scanE (a + L) (a + k) X = a + scanE L k X := by
  cases X with
  | nil => rfl
  | cons c t =>
    rw [scanE_cons, scanE_cons]
    have h1 := cutR_len t
    have h2 := len_tW (cutR t).2
    simp at h
    split
    · split
      · rfl
      · omega
    · rfl
/-- The scanner ends where the scan does. -/
theorem nE_scan (a : Nat) (l : List UInt8) : nE a 0 0 l = if scanN l = 0 then 0 else a + scanN l := by
  obtain ⟨sg, W, D, F, X, e, h1, h2, h3, h4, h5, h6⟩ := parts_all l
  have start : nE a 0 0 l = nE (a + sg.length) 0 1 (W ++ (D ++ X)) := by
    rw [e]
    rcases h1 with rfl | hsg
    · rw [List.nil_append, nE_noS (h5 rfl)]; rfl
    · obtain ⟨c, rfl, hc⟩ : ∃ c : UInt8, sg = [c] ∧ (c = 43 ∨ c = 45) := by
        rcases hsg with rfl | rfl
        · exact ⟨43, rfl, .inl rfl⟩
        · exact ⟨45, rfl, .inr rfl⟩
      show nE a 0 0 (c :: (W ++ (D ++ X))) = _
      rw [nE_sg hc, if_pos (.inl rfl)]; rfl
  have key : ∃ en : Nat, nE a 0 0 l = (if en = 0 then 0 else scanE (a + l.length) en X) ∧ ((W = [] ∧ F = []) → en = 0) ∧ (¬ (W = [] ∧ F = []) → en = a + (l.length - X.length) ∧ en ≠ 0) := by
    rw [start, nE_digs h2 (by omega)]
    rcases h3 with ⟨rfl, rfl⟩ | ⟨rfl, hF⟩
    · refine ⟨if W = [] then 0 else a + sg.length + W.length, ?_, fun g => by rw [if_pos g.1], fun g => ?_⟩
      · rw [List.nil_append, nE_tail (.inl rfl) h4.1 (fun _ => h4.2 rfl), e]
        have el : a + sg.length + W.length + X.length = a + (sg ++ (W ++ ([] ++ X))).length := by simp; omega
        rw [el]
      · have hW : W ≠ [] := fun g' => g ⟨g', rfl⟩
        have := List.length_pos_iff.2 hW
        have el : (sg ++ (W ++ ([] ++ X))).length = sg.length + W.length + X.length := by simp; omega
        rw [if_neg hW, e, el]
        omega
    · rw [List.cons_append, nE_dot, if_neg (by omega), nE_digs hF (by omega)]
      refine ⟨if F = [] then (if 0 < (if W = [] then 0 else a + sg.length + W.length) then a + sg.length + W.length + 1 else (if W = [] then 0 else a + sg.length + W.length)) else a + sg.length + W.length + 1 + F.length, ?_, fun g => by rw [if_pos g.2, if_pos g.1]; rfl, fun g => ?_⟩
      · rw [nE_tail (.inr rfl) h4.1 (fun h => by omega), e]
        have el : a + sg.length + W.length + 1 + F.length + X.length = a + (sg ++ (W ++ (46 :: F ++ X))).length := by simp; omega
        rw [el]
      · by_cases hf : F = []
        · have hW : W ≠ [] := fun g' => g ⟨g', hf⟩
          have := List.length_pos_iff.2 hW
          have el : (sg ++ (W ++ (46 :: F ++ X))).length = sg.length + W.length + 1 + F.length + X.length := by simp; omega
          rw [if_pos hf, if_neg hW, if_pos (by omega), e, el, hf]
          simp; omega
        · have el : (sg ++ (W ++ (46 :: F ++ X))).length = sg.length + W.length + 1 + F.length + X.length := by simp; omega
          rw [if_neg hf, e, el]
          omega
  obtain ⟨en, k1, k2, k3⟩ := key
  by_cases g : W = [] ∧ F = []
  · rw [k1, if_pos (k2 g), if_pos (h6 g)]
  · obtain ⟨k4, k5⟩ := k3 g
    have hP : Parts sg W D F := ⟨h1, h2, h3, g⟩
    have hs := hP.scan h4
    rw [← e] at hs
    have hXl : X.length ≤ l.length := by rw [e]; simp; omega
    rw [k1, if_neg k5, k4, scanE_shift a _ _ X hXl, ← hs]
    have hne : scanN l ≠ 0 := by
      have hPl : 0 < l.length - X.length := by
        have hh : 0 < W.length + F.length := by
          by_cases hW : W = []
          · have := List.length_pos_iff.2 (fun g' => g ⟨hW, g'⟩ : F ≠ []); omega
          · have := List.length_pos_iff.2 hW; omega
        have hD : F.length ≤ D.length := by
          rcases h3 with ⟨rfl, rfl⟩ | ⟨rfl, _⟩ <;> simp
        rw [e]; simp; omega
      rw [hs]
      rcases scanE_le l.length (l.length - X.length) X with q | ⟨n, q1, q2⟩
      · rw [q]; omega
      · rw [q2]; omega
    rw [if_neg hne]
theorem nE_num (l : List UInt8) (a : Nat) : nE a 0 0 (l.drop a) = numE l a := nE_scan a _

end Go.Proofs.YthijeckcjfnbcaaDoor
