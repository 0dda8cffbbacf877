/- The text of a valid decimal is read as that decimal, also with blanks around it or a letter behind it. No program in it. -/
import Derived.Test.YthijeckcjfnbcaaDoorReadA
import Derived.Test.YthijeckcjfnbcaaDoorDecMath4
import Derived.Test.YthijeckcjfnbcaaDoorDecTextMath
namespace Go.Proofs.YthijeckcjfnbcaaDoor
set_option linter.unusedVariables false

/-- What stands behind the digits: nothing, or an exponent. -/
def IsX (X : List UInt8) : Prop := X = [] ∨ ∃ sg E, X = 101 :: (sg ++ E) ∧ IsSg sg ∧ Digs E ∧ E ≠ []
theorem IsX.stop {X : List UInt8} (h : IsX X) (D : List UInt8) : Stop D X := by
  rcases h with rfl | ⟨sg, E, rfl, _, _, _⟩
  · exact stop_nil D
  · refine ⟨fun c t e => ?_, fun _ c t e => ?_⟩ <;> injection e with e1 e2 <;> rw [← e1] <;> decide
/-- A text by its parts. -/
structure IsText (T : List UInt8) (d : DecV) : Prop where
  small : T.length ≤ 100
  parts : ∃ sg W D F X, T = sg ++ (W ++ (D ++ X)) ∧ Parts sg W D F ∧ IsX X ∧ readX (expOf X) (decide (sg = [45])) W F = (d, 0)

theorem sign_sg (d : DecV) : IsSg (signOf d) ∧ decide (signOf d = [45]) = d.neg := by
  unfold signOf
  cases d.neg
  · exact ⟨.inl rfl, rfl⟩
  · exact ⟨.inr (.inr rfl), rfl⟩
theorem sign_len (d : DecV) : (signOf d).length ≤ 1 := by unfold signOf; split <;> simp
theorem digs_take {l : List UInt8} (h : Digs l) (k : Nat) : Digs (l.take k) := fun b hb => h b (List.mem_of_mem_take hb)
theorem digs_drop {l : List UInt8} (h : Digs l) (k : Nat) : Digs (l.drop k) := fun b hb => h b (List.mem_of_mem_drop hb)
theorem expOf_e {sg E : List UInt8} (hs : IsSg sg) (hE : Digs E) (h0 : E ≠ []) : expOf (101 :: (sg ++ E)) = some (if decide (sg = [45]) then -((min (val E) 9999 : Nat) : Int) else ((min (val E) 9999 : Nat) : Int)) := by
  have e : sg ++ E = sg ++ (E ++ []) := by rw [List.append_nil]
  rw [expOf_cons, if_pos (.inl rfl), e, cutR_app hs (fun _ => noS_digs hE h0)]
  dsimp only
  rw [(tW_app hE noD_nil).1, (tW_app hE noD_nil).2, if_neg (fun h => by rcases h with h | h; exact h0 h; exact h rfl)]
theorem text_is {d : DecV} (h : d.Ok) : IsText (textR d) d := by
  have hdg := h.digs
  have hlen := h.len
  have hself := form_self h
  obtain ⟨hsg, hsn⟩ := sign_sg d
  have hsl := sign_len d
  unfold textR
  rw [if_pos h]
  by_cases hn : d.dig = []
  · rw [if_pos hn]
    have e := h.nil hn
    subst e
    refine ⟨by simp, [], [48], [], [], [], rfl, ⟨.inl rfl, digs_one (by unfold IsD; decide), .inl ⟨rfl, rfl⟩, by simp⟩, .inl rfl, ?_⟩
    show readX (some 0) _ _ _ = _
    rw [readX_some, if_neg (by simp)]
    exact form_zero _ _
  · rw [if_neg hn]
    have hl1 := List.length_pos_iff.2 hn
    have hmag : -99 ≤ d.mag ∧ d.mag ≤ 99 := by
      rcases h with rfl | h
      · exact absurd rfl hn
      · exact ⟨h.2.2.2.2.2.1, h.2.2.2.2.2.2⟩
    have hmd : d.mag = d.exp + d.dig.length - 1 := rfl
    by_cases hm : d.mag < -7 ∨ 20 < d.mag
    · rw [if_pos hm]
      have hE : Digs (natOf d.mag.natAbs) := natOf_digs _
      have hE0 : natOf d.mag.natAbs ≠ [] := (natOf_canon _).1
      have hEl : (natOf d.mag.natAbs).length ≤ 2 := natOf_len_lt (k := 2) (by omega) (by omega)
      have hx : ∃ sg, (if d.mag < 0 then [101, 45] ++ natOf d.mag.natAbs else [101, 43] ++ natOf d.mag.natAbs) = 101 :: (sg ++ natOf d.mag.natAbs) ∧ IsSg sg ∧ sg.length ≤ 1 ∧ expOf (101 :: (sg ++ natOf d.mag.natAbs)) = some d.mag := by
        by_cases hm0 : d.mag < 0
        · refine ⟨[45], by rw [if_pos hm0]; rfl, .inr (.inr rfl), by simp, ?_⟩
          rw [expOf_e (.inr (.inr rfl)) hE hE0, val_natOf]
          congr 1
          rw [if_pos (by rfl)]
          omega
        · refine ⟨[43], by rw [if_neg hm0]; rfl, .inr (.inl rfl), by simp, ?_⟩
          rw [expOf_e (.inr (.inl rfl)) hE hE0, val_natOf]
          congr 1
          rw [if_neg (by decide)]
          omega
      obtain ⟨sg, hx1, hx2, hx3, hx4⟩ := hx
      have hD : ∃ D, (if 1 < d.dig.length then [46] ++ d.dig.drop 1 else []) = D ∧ IsF D (d.dig.drop 1) ∧ D.length ≤ d.dig.length := by
        by_cases h1 : 1 < d.dig.length
        · exact ⟨_, rfl, .inr ⟨by rw [if_pos h1]; rfl, digs_drop hdg 1⟩, by rw [if_pos h1]; simp; omega⟩
        · have e : d.dig.drop 1 = [] := List.drop_eq_nil_of_le (by omega)
          exact ⟨_, rfl, .inl ⟨by rw [if_neg h1], e⟩, by rw [if_neg h1]; simp⟩
      obtain ⟨D, hD1, hD2, hD3⟩ := hD
      unfold sciOf
      rw [hx1, hD1]
      have ht1 : (d.dig.take 1).length = 1 := by rw [List.length_take]; omega
      refine ⟨?_, signOf d, d.dig.take 1, D, d.dig.drop 1, 101 :: (sg ++ natOf d.mag.natAbs), by simp, ⟨hsg, digs_take hdg 1, hD2, fun g => by rw [g.1] at ht1; simp at ht1⟩, .inr ⟨sg, _, rfl, hx2, hE, hE0⟩, ?_⟩
      · simp only [List.length_append, List.length_cons, ht1]
        omega
      · rw [hx4, readX_some, if_neg (fun g => by rw [g.1] at ht1; simp at ht1), List.take_append_drop, hsn, ← hself]
        congr 1
        rw [List.length_drop]
        omega
    · rw [if_neg hm]
      unfold plainOf
      by_cases he : 0 ≤ d.exp
      · rw [if_pos he]
        refine ⟨?_, signOf d, d.dig ++ List.replicate d.exp.toNat 48, [], [], [], by simp, ⟨hsg, hdg.append (val_zeros _).2, .inl ⟨rfl, rfl⟩, fun g => hn (List.append_eq_nil_iff.1 g.1).1⟩, .inl rfl, ?_⟩
        · simp only [List.length_append, List.length_replicate]
          omega
        · show readX (some 0) _ _ _ = _
          rw [readX_some, if_neg (fun g => hn (List.append_eq_nil_iff.1 g.1).1), List.append_nil, val_pad, hsn, ← hself, ← form_scale d.neg (val d.dig) d.exp.toNat d.exp]
          congr 1
          simp
          omega
      · rw [if_neg he]
        by_cases hm0 : 0 ≤ d.mag
        · rw [if_pos hm0]
          have htl : (d.dig.take (d.mag + 1).toNat).length = (d.mag + 1).toNat := by rw [List.length_take]; omega
          refine ⟨?_, signOf d, d.dig.take (d.mag + 1).toNat, 46 :: d.dig.drop (d.mag + 1).toNat, d.dig.drop (d.mag + 1).toNat, [], by simp, ⟨hsg, digs_take hdg _, .inr ⟨rfl, digs_drop hdg _⟩, fun g => by have := congrArg List.length g.1; rw [htl, List.length_nil] at this; omega⟩, .inl rfl, ?_⟩
          · simp only [List.length_append, List.length_cons, List.length_nil, List.length_drop, htl]
            omega
          · show readX (some 0) _ _ _ = _
            rw [readX_some, if_neg (fun g => by have := congrArg List.length g.1; rw [htl, List.length_nil] at this; omega), List.take_append_drop, hsn, ← hself]
            congr 1
            rw [List.length_drop]
            omega
        · rw [if_neg hm0]
          refine ⟨?_, signOf d, [48], 46 :: (List.replicate (-d.mag - 1).toNat 48 ++ d.dig), List.replicate (-d.mag - 1).toNat 48 ++ d.dig, [], by simp, ⟨hsg, digs_one (by unfold IsD; decide), .inr ⟨rfl, (val_zeros _).2.append hdg⟩, by simp⟩, .inl rfl, ?_⟩
          · simp only [List.length_append, List.length_cons, List.length_nil, List.length_replicate]
            omega
          · show readX (some 0) _ _ _ = _
            rw [readX_some, if_neg (by simp), hsn, ← hself]
            have ev : val ([48] ++ (List.replicate (-d.mag - 1).toNat 48 ++ d.dig)) = val d.dig := by
              rw [val_append, val_append, (val_zeros _).1]
              show (0 : Nat) * _ + _ = _
              simp
            rw [ev]
            congr 1
            simp only [List.length_append, List.length_replicate]
            omega

/-- What may stand behind the text of a number: no digit, no sign, no period, no e. -/
def Tail (Z : List UInt8) : Prop := ∀ c t, Z = c :: t → isDig c = false ∧ c ≠ 46 ∧ ¬ (c = 101 ∨ c = 69)
theorem IsText.scan {T : List UInt8} {d : DecV} (h : IsText T d) {Z : List UInt8} (hZ : Tail Z) : scanN (T ++ Z) = T.length := by
  obtain ⟨sg, W, D, F, X, e, hP, hX, _⟩ := h.parts
  rcases hX with rfl | ⟨sg', E, rfl, h1, h2, h3⟩
  · have e2 : T ++ Z = sg ++ (W ++ (D ++ Z)) := by rw [e]; simp
    have hS : Stop D Z := ⟨fun c t g => (hZ c t g).1, fun _ c t g => (hZ c t g).2.1⟩
    rw [e2, hP.scan hS, ← e2]
    have e3 : (T ++ Z).length - Z.length = T.length := by simp
    rw [e3]
    cases Z with
    | nil => rfl
    | cons c t => rw [scanE_cons, if_neg (hZ c t rfl).2.2]
  · have e2 : T ++ Z = sg ++ (W ++ (D ++ (101 :: (sg' ++ (E ++ Z))))) := by rw [e]; simp
    have hS : Stop D (101 :: (sg' ++ (E ++ Z))) := by
      refine ⟨fun c t e => ?_, fun _ c t e => ?_⟩ <;> injection e with e1 e2 <;> rw [← e1] <;> decide
    rw [e2, hP.scan hS, scanE_exp (.inl rfl) h1 h2 h3 (fun c t g => (hZ c t g).1), ← e2]
    simp
theorem IsText.reads {T : List UInt8} {d : DecV} (h : IsText T d) : readR T = (d, 0) := by
  have hl := h.small
  obtain ⟨sg, W, D, F, X, e, hP, hX, hr⟩ := h.parts
  obtain ⟨a, b, c, f⟩ := hP.read (hX.stop D)
  rw [← e] at a
  unfold readR
  rw [if_neg (by omega), a]
  dsimp only
  rw [b, c, f]
  exact hr
theorem IsText.full {T : List UInt8} {d : DecV} (h : IsText T d) : ∃ c t, T = c :: t ∧ isBl c = false := by
  obtain ⟨sg, W, D, F, X, e, hP, _, _⟩ := h.parts
  have dg : ∀ b : UInt8, IsD b → isBl b = false := fun b hb => by unfold IsD at hb; unfold isBl; exact decide_eq_false (by omega)
  rcases hP.hs with rfl | rfl | rfl
  · cases W with
    | cons b W => exact ⟨b, _, by rw [e]; rfl, dg b (hP.hw b (List.mem_cons_self ..))⟩
    | nil =>
      rcases hP.hf with ⟨rfl, rfl⟩ | ⟨rfl, _⟩
      · exact absurd ⟨rfl, rfl⟩ hP.hn
      · exact ⟨46, _, by rw [e]; rfl, by decide⟩
  · exact ⟨43, _, by rw [e]; rfl, by decide⟩
  · exact ⟨45, _, by rw [e]; rfl, by decide⟩
/-- Every byte is an ASCII character, none 0. -/
def Plain (l : List UInt8) : Prop := ∀ b ∈ l, 1 ≤ b.toNat ∧ b.toNat < 128
theorem Plain.app {a b : List UInt8} (ha : Plain a) (hb : Plain b) : Plain (a ++ b) := fun c hc => by
  rcases List.mem_append.1 hc with h | h
  · exact ha c h
  · exact hb c h
theorem plain_digs {l : List UInt8} (h : Digs l) : Plain l := fun b hb => by have := h b hb; unfold IsD at this; omega
theorem plain_sg {l : List UInt8} (h : IsSg l) : Plain l := by
  rcases h with rfl | rfl | rfl <;> intro b hb
  · cases hb
  · rw [List.mem_singleton.1 hb]; decide
  · rw [List.mem_singleton.1 hb]; decide
theorem plain_cons {c : UInt8} {l : List UInt8} (hc : 1 ≤ c.toNat ∧ c.toNat < 128) (h : Plain l) : Plain (c :: l) := fun b hb => by
  rcases List.mem_cons.1 hb with rfl | hb
  · exact hc
  · exact h b hb
theorem plain_nil : Plain [] := fun b hb => by cases hb
theorem IsText.plain {T : List UInt8} {d : DecV} (h : IsText T d) : Plain T := by
  obtain ⟨sg, W, D, F, X, e, hP, hX, _⟩ := h.parts
  rw [e]
  refine (plain_sg hP.hs).app ((plain_digs hP.hw).app (Plain.app ?_ ?_))
  · rcases hP.hf with ⟨rfl, rfl⟩ | ⟨rfl, hF⟩
    · exact plain_nil
    · exact plain_cons (by decide) (plain_digs hF)
  · rcases hX with rfl | ⟨sg', E, rfl, h1, h2, h3⟩
    · exact plain_nil
    · exact plain_cons (by decide) ((plain_sg h1).app (plain_digs h2))
/-- Blanks alone. -/
def Gap (G : List UInt8) : Prop := ∀ b ∈ G, isBl b = true
theorem gap_bl {G : List UInt8} (h : Gap G) {c : UInt8} {t : List UInt8} (hc : isBl c = false) : blN (G ++ c :: t) = G.length := by
  induction G with
  | nil => rw [List.nil_append, blN_stop hc]; rfl
  | cons b G ih =>
    rw [List.cons_append, blN_cons (h b (List.mem_cons_self ..)), ih (fun c hc => h c (List.mem_cons_of_mem _ hc))]
    rfl
theorem gap_all {G : List UInt8} (h : Gap G) : blN G = G.length := by
  induction G with
  | nil => rfl
  | cons b G ih =>
    rw [blN_cons (h b (List.mem_cons_self ..)), ih (fun c hc => h c (List.mem_cons_of_mem _ hc))]
    rfl
theorem gap_plain {G : List UInt8} (h : Gap G) : Plain G := fun b hb => by have := h b hb; unfold isBl at this; have := of_decide_eq_true this; omega
theorem gap_tail {G : List UInt8} (h : Gap G) : Tail G := fun c t e => by
  have := h c (by rw [e]; exact List.mem_cons_self ..)
  unfold isBl at this
  have hc := of_decide_eq_true this
  refine ⟨?_, ?_, ?_⟩
  · unfold isDig; exact decide_eq_false (by omega)
  · intro g; rw [g] at hc; revert hc; decide
  · rintro (g | g) <;> rw [g] at hc <;> revert hc <;> decide
/-- A text with blanks ahead and something behind. -/
theorem IsText.pre {T : List UInt8} {d : DecV} (h : IsText T d) {G Z : List UInt8} (hG : Gap G) (hZ : Tail Z) : blN (G ++ (T ++ Z)) = G.length ∧ preEnd (G ++ (T ++ Z)) = G.length + T.length ∧ T.length ≠ 0 := by
  obtain ⟨c, t, e, hc⟩ := h.full
  have h1 : blN (G ++ (T ++ Z)) = G.length := by rw [e, List.cons_append]; exact gap_bl hG hc
  have h0 : T.length ≠ 0 := by rw [e]; simp
  refine ⟨h1, ?_, h0⟩
  unfold preEnd numE
  rw [h1, List.drop_left, h.scan hZ, if_neg h0]

end Go.Proofs.YthijeckcjfnbcaaDoor
