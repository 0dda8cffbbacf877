/- Where a number's text ends, by its parts. No program in it. -/
import Derived.Test.YtlhdolcadlabpaaDoorReadMath2
namespace Go.Proofs.YtlhdolcadlabpaaDoor
set_option linter.unusedVariables false

/-- A sign or none. -/
def IsSg (l : List UInt8) : Prop := l = [] ∨ l = [43] ∨ l = [45]
/-- No digit ahead. -/
def NoD (l : List UInt8) : Prop := ∀ c t, l = c :: t → isDig c = false
/-- No sign ahead. -/
def NoS (l : List UInt8) : Prop := ∀ c t, l = c :: t → ¬ (c = 43 ∨ c = 45)
theorem noD_nil : NoD [] := fun c t h => by cases h
theorem tW_app {W X : List UInt8} (hW : Digs W) (hX : NoD X) : tW (W ++ X) = W ∧ dW (W ++ X) = X := by
  induction W with
  | nil =>
    cases X with
    | nil => exact ⟨rfl, rfl⟩
    | cons c t => exact tW_stop (hX c t rfl)
  | cons b W ih =>
    have hb : isDig b = true := isDig_iff.2 (hW b (List.mem_cons_self ..))
    obtain ⟨i1, i2⟩ := ih (fun c hc => hW c (List.mem_cons_of_mem _ hc))
    obtain ⟨t1, t2⟩ := tW_cons (l := W ++ X) hb
    exact ⟨by rw [List.cons_append, t1, i1], by rw [List.cons_append, t2, i2]⟩
theorem dW_noD : ∀ l : List UInt8, NoD (dW l)
  | [] => noD_nil
  | b :: l => by
    by_cases h : isDig b = true
    · rw [(tW_cons (l := l) h).2]; exact dW_noD l
    · have h2 : isDig b = false := by simpa using h
      rw [(tW_stop (l := l) h2).2]
      intro c t e
      injection e with e1 e2
      rw [← e1]; exact h2
theorem noS_digs {E Y : List UInt8} (hE : Digs E) (h0 : E ≠ []) : NoS (E ++ Y) := by
  intro c t e
  cases E with
  | nil => exact absurd rfl h0
  | cons b E =>
    rw [List.cons_append] at e
    injection e with e1 e2
    have := hE b (List.mem_cons_self ..)
    unfold IsD at this
    rw [← e1]
    rintro (h | h) <;> rw [h] at this <;> revert this <;> decide
theorem cutR_app {sg Y : List UInt8} (hs : IsSg sg) (hY : sg = [] → NoS Y) : cutR (sg ++ Y) = (decide (sg = [45]), Y) := by
  rcases hs with rfl | rfl | rfl
  · cases Y with
    | nil => rfl
    | cons c t => rw [List.nil_append, cutR_cons, if_neg (hY rfl c t rfl)]; rfl
  · show cutR (43 :: Y) = _
    rw [cutR_cons, if_pos (.inl rfl)]; rfl
  · show cutR (45 :: Y) = _
    rw [cutR_cons, if_pos (.inr rfl)]; rfl
theorem cutR_split (l : List UInt8) : ∃ sg, IsSg sg ∧ l = sg ++ (cutR l).2 ∧ (cutR l).1 = decide (sg = [45]) ∧ (sg = [] → NoS (cutR l).2) := by
  cases l with
  | nil => exact ⟨[], .inl rfl, rfl, rfl, fun _ c t h => by cases h⟩
  | cons b r =>
    rw [cutR_cons]
    by_cases g : b = 43 ∨ b = 45
    · rw [if_pos g]
      rcases g with rfl | rfl
      · exact ⟨[43], .inr (.inl rfl), rfl, rfl, fun h => by cases h⟩
      · exact ⟨[45], .inr (.inr rfl), rfl, rfl, fun h => by cases h⟩
    · rw [if_neg g]
      exact ⟨[], .inl rfl, rfl, rfl, fun _ c t h => by injection h with h1 h2; rw [← h1]; exact g⟩

/-- A period and digits, or neither. -/
def IsF (D F : List UInt8) : Prop := (D = [] ∧ F = []) ∨ (D = 46 :: F ∧ Digs F)
/-- What may stand behind: no digit; where no period was, no period. -/
def Stop (D X : List UInt8) : Prop := NoD X ∧ (D = [] → ∀ c t, X = c :: t → c ≠ 46)
theorem stop_nil (D : List UInt8) : Stop D [] := ⟨noD_nil, fun _ c t h => by cases h⟩
theorem frac_app {D F X : List UInt8} (h : IsF D F) (hX : Stop D X) : frac (D ++ X) = (F, X) := by
  rcases h with ⟨rfl, rfl⟩ | ⟨rfl, hF⟩
  · cases X with
    | nil => rfl
    | cons c t => rw [List.nil_append, frac_cons, if_neg (hX.2 rfl c t rfl)]
  · rw [List.cons_append, frac_cons, if_pos rfl, (tW_app hF hX.1).1, (tW_app hF hX.1).2]
theorem frac_split (l : List UInt8) (hl : NoD l) : ∃ D, IsF D (frac l).1 ∧ l = D ++ (frac l).2 ∧ Stop D (frac l).2 := by
  cases l with
  | nil => exact ⟨[], .inl ⟨rfl, rfl⟩, rfl, stop_nil _⟩
  | cons c t =>
    rw [frac_cons]
    by_cases g : c = 46
    · rw [if_pos g]
      subst g
      exact ⟨46 :: tW t, .inr ⟨rfl, tW_digs t⟩, by show 46 :: t = 46 :: (tW t ++ dW t); rw [tdW], dW_noD t, fun h => by cases h⟩
    · rw [if_neg g]
      exact ⟨[], .inl ⟨rfl, rfl⟩, rfl, hl, fun _ c' t' h => by injection h with h1 h2; rw [← h1]; exact g⟩
theorem noD_app {D F X : List UInt8} (h : IsF D F) (hX : Stop D X) : NoD (D ++ X) := by
  rcases h with ⟨rfl, rfl⟩ | ⟨rfl, hF⟩
  · exact hX.1
  · intro c t e
    rw [List.cons_append] at e
    injection e with e1 e2
    rw [← e1]; decide

/-- A sign, digits, a period and digits: at least one digit. -/
structure Parts (sg W D F : List UInt8) : Prop where
  hs : IsSg sg
  hw : Digs W
  hf : IsF D F
  hn : ¬ (W = [] ∧ F = [])
section
variable {sg W D F X : List UInt8}
theorem Parts.noS (h : Parts sg W D F) (X : List UInt8) : NoS (W ++ (D ++ X)) := by
  by_cases h0 : W = []
  · subst h0
    rcases h.hf with ⟨rfl, rfl⟩ | ⟨rfl, hF⟩
    · exact absurd ⟨rfl, rfl⟩ h.hn
    · intro c t e
      rw [List.nil_append, List.cons_append] at e
      injection e with e1 e2
      rw [← e1]; decide
  · exact noS_digs h.hw h0
theorem Parts.read (h : Parts sg W D F) (hX : Stop D X) : cutR (sg ++ (W ++ (D ++ X))) = (decide (sg = [45]), W ++ (D ++ X)) ∧ tW (W ++ (D ++ X)) = W ∧ dW (W ++ (D ++ X)) = D ++ X ∧ frac (D ++ X) = (F, X) :=
  ⟨cutR_app h.hs (fun _ => h.noS X), (tW_app h.hw (noD_app h.hf hX)).1, (tW_app h.hw (noD_app h.hf hX)).2, frac_app h.hf hX⟩
theorem Parts.scan (h : Parts sg W D F) (hX : Stop D X) : scanN (sg ++ (W ++ (D ++ X))) = scanE (sg ++ (W ++ (D ++ X))).length ((sg ++ (W ++ (D ++ X))).length - X.length) X := by
  obtain ⟨a, b, c, d⟩ := h.read hX
  unfold scanN
  rw [a]
  dsimp only
  rw [b, c, d]
  dsimp only
  rw [if_neg h.hn]
end
theorem parts_all (m : List UInt8) : ∃ sg W D F X, m = sg ++ (W ++ (D ++ X)) ∧ IsSg sg ∧ Digs W ∧ IsF D F ∧ Stop D X ∧ (sg = [] → NoS (W ++ (D ++ X))) ∧ (W = [] ∧ F = [] → scanN m = 0) := by
  obtain ⟨sg, h1, h2, h3, h4⟩ := cutR_split m
  obtain ⟨D, f1, f2, f3⟩ := frac_split (dW (cutR m).2) (dW_noD _)
  have e : tW (cutR m).2 ++ (D ++ (frac (dW (cutR m).2)).2) = (cutR m).2 := by rw [← f2, tdW]
  refine ⟨sg, tW (cutR m).2, D, (frac (dW (cutR m).2)).1, (frac (dW (cutR m).2)).2, ?_, h1, tW_digs _, f1, f3, ?_, ?_⟩
  · rw [e]; exact h2
  · rw [e]; exact h4
  · intro g; unfold scanN; rw [if_pos g]
theorem num_parts {m : List UInt8} (h : scanN m ≠ 0) : ∃ sg W D F X, m = sg ++ (W ++ (D ++ X)) ∧ Parts sg W D F ∧ Stop D X := by
  obtain ⟨sg, W, D, F, X, e, h1, h2, h3, h4, _, h5⟩ := parts_all m
  exact ⟨sg, W, D, F, X, e, ⟨h1, h2, h3, fun g => h (h5 g)⟩, h4⟩
theorem scanE_cons (L k1 : Nat) (c : UInt8) (t : List UInt8) : scanE L k1 (c :: t) = if c = 101 ∨ c = 69 then (if tW (cutR t).2 = [] then k1 else L - (dW (cutR t).2).length) else k1 := rfl
theorem scanE_exp {c : UInt8} {sg E Y : List UInt8} (hc : c = 101 ∨ c = 69) (hs : IsSg sg) (hE : Digs E) (h0 : E ≠ []) (hY : NoD Y) (L k1 : Nat) : scanE L k1 (c :: (sg ++ (E ++ Y))) = L - Y.length := by
  rw [scanE_cons, if_pos hc, cutR_app hs (fun _ => noS_digs hE h0)]
  dsimp only
  rw [(tW_app hE hY).1, (tW_app hE hY).2, if_neg h0]
theorem exp_split {t : List UInt8} (h : tW (cutR t).2 ≠ []) : ∃ sg E Y, IsSg sg ∧ Digs E ∧ E ≠ [] ∧ NoD Y ∧ t = sg ++ (E ++ Y) := by
  obtain ⟨sg, h1, h2, _, _⟩ := cutR_split t
  exact ⟨sg, tW (cutR t).2, dW (cutR t).2, h1, tW_digs _, h, dW_noD _, by rw [tdW]; exact h2⟩
theorem scanE_cases (L k1 : Nat) (X : List UInt8) : scanE L k1 X = k1 ∨ ∃ c sg E Y, (c = 101 ∨ c = 69) ∧ IsSg sg ∧ Digs E ∧ E ≠ [] ∧ NoD Y ∧ X = c :: (sg ++ (E ++ Y)) := by
  cases X with
  | nil => exact .inl rfl
  | cons c t =>
    rw [scanE_cons]
    by_cases hc : c = 101 ∨ c = 69
    · rw [if_pos hc]
      by_cases h : tW (cutR t).2 = []
      · rw [if_pos h]; exact .inl rfl
      · obtain ⟨sg, E, Y, h1, h2, h3, h4, h5⟩ := exp_split h
        exact .inr ⟨c, sg, E, Y, hc, h1, h2, h3, h4, by rw [h5]⟩
    · rw [if_neg hc]; exact .inl rfl
/-- What the scan takes, the scan takes whole. -/
theorem scan_take {m : List UInt8} (h : scanN m ≠ 0) : scanN (m.take (scanN m)) = scanN m ∧ scanN m ≤ m.length := by
  obtain ⟨sg, W, D, F, X, rfl, hP, hX⟩ := num_parts h
  obtain ⟨P, hPe⟩ : ∃ P, sg ++ (W ++ D) = P := ⟨_, rfl⟩
  have e1 : ∀ Z, sg ++ (W ++ (D ++ Z)) = P ++ Z := fun Z => by rw [← hPe]; simp
  have hsc : ∀ Z, Stop D Z → scanN (P ++ Z) = scanE (P ++ Z).length ((P ++ Z).length - Z.length) Z := fun Z hZ => by rw [← e1]; exact hP.scan hZ
  rw [e1]
  rcases scanE_cases (P ++ X).length ((P ++ X).length - X.length) X with g | ⟨c, sg', E, Y, hc, h1, h2, h3, h4, rfl⟩
  · rw [hsc X hX, g, List.length_append, Nat.add_sub_cancel, List.take_left]
    have e2 := hsc [] (stop_nil D)
    rw [List.append_nil] at e2
    rw [e2]
    exact ⟨rfl, by omega⟩
  · have e3 : P ++ (c :: (sg' ++ (E ++ Y))) = (P ++ (c :: (sg' ++ E))) ++ Y := by simp
    rw [hsc _ hX, scanE_exp hc h1 h2 h3 h4, e3, List.length_append, Nat.add_sub_cancel, List.take_left]
    have hX2 : Stop D (c :: (sg' ++ (E ++ []))) := by
      refine ⟨fun c' t' e => ?_, fun _ c' t' e => ?_⟩ <;> injection e with e1 e2 <;> rw [← e1] <;> rcases hc with rfl | rfl <;> decide
    have e4 := hsc _ hX2
    rw [scanE_exp hc h1 h2 h3 noD_nil, List.append_nil] at e4
    rw [e4]
    exact ⟨rfl, by omega⟩
theorem scan_le (m : List UInt8) : scanN m ≤ m.length := by
  by_cases h : scanN m = 0
  · omega
  · exact (scan_take h).2
/-- What stands ahead of the scan's end is read. -/
theorem scan_reads {m : List UInt8} (h : scanN m ≠ 0) : expOf (frac (dW (cutR (m.take (scanN m))).2)).2 ≠ none ∧ ¬ (tW (cutR (m.take (scanN m))).2 = [] ∧ (frac (dW (cutR (m.take (scanN m))).2)).1 = []) := by
  obtain ⟨h1, h2⟩ := scan_take h
  have h3 : (m.take (scanN m)).length = scanN m := by rw [List.length_take]; omega
  exact (scan_all (by omega)).1 (by rw [h1, h3])

end Go.Proofs.YtlhdolcadlabpaaDoor
