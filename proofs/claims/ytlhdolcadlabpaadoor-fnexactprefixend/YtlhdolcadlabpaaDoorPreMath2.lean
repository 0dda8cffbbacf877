/- The blanks ahead; the scanner by its parts, and that it ends where the scan does. No program in it. -/
import Derived.Test.YtlhdolcadlabpaaDoorPreMath
namespace Go.Proofs.YtlhdolcadlabpaaDoor
set_option linter.unusedVariables false

def isBl (b : UInt8) : Bool := decide (b.toNat = 32 ∨ b.toNat = 9 ∨ b.toNat = 10 ∨ b.toNat = 13)
/-- How many blanks stand ahead. -/
def blN (l : List UInt8) : Nat := (l.takeWhile isBl).length
theorem blN_nil : blN [] = 0 := rfl
theorem blN_cons {b : UInt8} {l : List UInt8} (h : isBl b = true) : blN (b :: l) = blN l + 1 := by unfold blN; rw [List.takeWhile_cons_of_pos h]; rfl
theorem blN_stop {b : UInt8} {l : List UInt8} (h : isBl b = false) : blN (b :: l) = 0 := by unfold blN; rw [List.takeWhile_cons_of_neg (by rw [h]; simp)]; rfl
theorem blN_le : ∀ l : List UInt8, blN l ≤ l.length
  | [] => Nat.le_refl _
  | b :: l => by
    by_cases h : isBl b = true
    · rw [blN_cons h]; have := blN_le l; simp; omega
    · rw [blN_stop (by simpa using h)]; omega
/-- Where the longest number from a place on ends; 0 where none begins. -/
def numE (l : List UInt8) (a : Nat) : Nat := if scanN (l.drop a) = 0 then 0 else a + scanN (l.drop a)
def preEnd (l : List UInt8) : Nat := numE l (blN l)

/-- The scanner: at a place, the end so far, the part that it is in, what is left. -/
def nE : Nat → Nat → Nat → List UInt8 → Nat
  | _, en, _, [] => en
  | a, en, p, c :: t =>
    if isDig c = true then nE (a + 1) (a + 1) (if p = 0 ∨ p = 3 then p + 1 else p) t
    else if c = 43 ∨ c = 45 then (if p = 0 ∨ p = 3 then nE (a + 1) en (p + 1) t else en)
    else if c = 46 then (if 1 < p then en else nE (a + 1) (if 0 < en then a + 1 else en) 2 t)
    else if c = 101 ∨ c = 69 then (if en = 0 ∨ 2 < p then en else nE (a + 1) en 3 t)
    else en
theorem nE_nil (a en p : Nat) : nE a en p [] = en := by unfold nE; rfl
theorem nE_dig {c : UInt8} (h : isDig c = true) (a en p : Nat) (t : List UInt8) : nE a en p (c :: t) = nE (a + 1) (a + 1) (if p = 0 ∨ p = 3 then p + 1 else p) t := by rw [nE, if_pos h]
theorem nE_sg {c : UInt8} (h : c = 43 ∨ c = 45) (a en p : Nat) (t : List UInt8) : nE a en p (c :: t) = if p = 0 ∨ p = 3 then nE (a + 1) en (p + 1) t else en := by
  rw [nE, if_neg (by rcases h with rfl | rfl <;> decide), if_pos h]
theorem nE_dot (a en p : Nat) (t : List UInt8) : nE a en p (46 :: t) = if 1 < p then en else nE (a + 1) (if 0 < en then a + 1 else en) 2 t := by
  rw [nE, if_neg (by decide), if_neg (by decide), if_pos rfl]
theorem nE_e {c : UInt8} (h : c = 101 ∨ c = 69) (a en p : Nat) (t : List UInt8) : nE a en p (c :: t) = if en = 0 ∨ 2 < p then en else nE (a + 1) en 3 t := by
  rw [nE, if_neg (by rcases h with rfl | rfl <;> decide), if_neg (by rcases h with rfl | rfl <;> decide), if_neg (by rcases h with rfl | rfl <;> decide), if_pos h]
theorem nE_no {c : UInt8} (h1 : isDig c = false) (h2 : ¬ (c = 43 ∨ c = 45)) (h3 : c ≠ 46) (h4 : ¬ (c = 101 ∨ c = 69)) (a en p : Nat) (t : List UInt8) : nE a en p (c :: t) = en := by
  rw [nE, if_neg (by rw [h1]; simp), if_neg h2, if_neg h3, if_neg h4]

theorem nE_digs {W : List UInt8} (hW : Digs W) {p : Nat} (hp : p ≠ 0 ∧ p ≠ 3) (X : List UInt8) : ∀ a en : Nat, nE a en p (W ++ X) = nE (a + W.length) (if W = [] then en else a + W.length) p X := by
  induction W with
  | nil => intro a en; simp
  | cons b W ih =>
    intro a en
    rw [List.cons_append, nE_dig (isDig_iff.2 (hW b (List.mem_cons_self ..))), if_neg (by omega), ih (fun c hc => hW c (List.mem_cons_of_mem _ hc)), if_neg (List.cons_ne_nil b W)]
    have e : a + 1 + W.length = a + (b :: W).length := by simp; omega
    rw [e]
    congr 1
    split
    · rename_i h; subst h; rfl
    · rfl
theorem nE_stop4 {Y : List UInt8} (h : NoD Y) (a en : Nat) : nE a en 4 Y = en := by
  cases Y with
  | nil => exact nE_nil ..
  | cons c t =>
    have h1 := h c t rfl
    by_cases h2 : c = 43 ∨ c = 45
    · rw [nE_sg h2, if_neg (by omega)]
    · by_cases h3 : c = 46
      · subst h3; rw [nE_dot, if_pos (by omega)]
      · by_cases h4 : c = 101 ∨ c = 69
        · rw [nE_e h4, if_pos (by omega)]
        · exact nE_no h1 h2 h3 h4 ..
/-- Behind e: a sign and digits, or the end is where it was. -/
theorem nE_three (a en : Nat) (t : List UInt8) : nE a en 3 t = if tW (cutR t).2 = [] then en else a + t.length - (dW (cutR t).2).length := by
  obtain ⟨sg, h1, h2, _, h4⟩ := cutR_split t
  obtain ⟨T, hT⟩ : ∃ T, (cutR t).2 = T := ⟨_, rfl⟩
  rw [hT] at h2 h4 ⊢
  obtain ⟨E, hE⟩ : ∃ E, tW T = E := ⟨_, rfl⟩
  obtain ⟨Y, hY⟩ : ∃ Y, dW T = Y := ⟨_, rfl⟩
  have hd : Digs E := by rw [← hE]; exact tW_digs T
  have hn : NoD Y := by rw [← hY]; exact dW_noD T
  have hs : T = E ++ Y := by rw [← hE, ← hY, tdW]
  rw [hE, hY]
  subst hs
  have key : ∀ b : Nat, nE b en 4 (E ++ Y) = if E = [] then en else b + E.length := fun b => by rw [nE_digs hd (by omega), nE_stop4 hn]
  rcases h1 with rfl | hsg
  · rw [List.nil_append] at h2
    subst h2
    cases hEE : E with
    | nil =>
      subst hEE
      rw [List.nil_append, if_pos rfl]
      cases Y with
      | nil => exact nE_nil ..
      | cons c u =>
        have h1 := hn c u rfl
        have h2 := h4 rfl c u rfl
        by_cases h3 : c = 46
        · subst h3; rw [nE_dot, if_pos (by omega)]
        · by_cases h5 : c = 101 ∨ c = 69
          · rw [nE_e h5, if_pos (by omega)]
          · exact nE_no h1 h2 h3 h5 ..
    | cons b E' =>
      subst hEE
      have hb : isDig b = true := isDig_iff.2 (hd b (List.mem_cons_self ..))
      rw [List.cons_append, nE_dig hb, if_pos (.inr rfl), nE_digs (fun c hc => hd c (List.mem_cons_of_mem _ hc)) (by omega), nE_stop4 hn, if_neg (List.cons_ne_nil b E')]
      split
      · rename_i h; subst h; simp; omega
      · simp; omega
  · obtain ⟨c, rfl, hc⟩ : ∃ c : UInt8, sg = [c] ∧ (c = 43 ∨ c = 45) := by
      rcases hsg with rfl | rfl
      · exact ⟨43, rfl, .inl rfl⟩
      · exact ⟨45, rfl, .inr rfl⟩
    subst h2
    show nE a en 3 (c :: (E ++ Y)) = _
    rw [nE_sg hc, if_pos (.inr rfl), key]
    split
    · rfl
    · simp; omega
/-- Behind the digits. -/
theorem nE_tail {p : Nat} (hp : p = 1 ∨ p = 2) {X : List UInt8} (hX : NoD X) (hd : p = 1 → ∀ c t, X = c :: t → c ≠ 46) (a en : Nat) : nE a en p X = if en = 0 then 0 else scanE (a + X.length) en X := by
  cases X with
  | nil =>
    rw [nE_nil]
    split
    · assumption
    · rfl
  | cons c t =>
    have h1 := hX c t rfl
    rw [scanE_cons]
    by_cases h2 : c = 43 ∨ c = 45
    · rw [nE_sg h2, if_neg (by omega), if_neg (show ¬ (c = 101 ∨ c = 69) by rcases h2 with rfl | rfl <;> decide)]
      split
      · assumption
      · rfl
    · by_cases h3 : c = 46
      · rcases hp with rfl | rfl
        · exact absurd h3 (hd rfl c t rfl)
        · subst h3
          rw [nE_dot, if_pos (by omega), if_neg (show ¬ ((46 : UInt8) = 101 ∨ (46 : UInt8) = 69) by decide)]
          split
          · assumption
          · rfl
      · by_cases h4 : c = 101 ∨ c = 69
        · rw [nE_e h4, if_pos h4]
          by_cases h0 : en = 0
          · rw [if_pos (.inl h0), if_pos h0]; exact h0
          · rw [if_neg (by omega), if_neg h0, nE_three]
            have e : a + 1 + t.length = a + (c :: t).length := by simp; omega
            rw [e]
        · rw [nE_no h1 h2 h3 h4, if_neg h4]
          split
          · assumption
          · rfl
theorem nE_noS {Y : List UInt8} (h : NoS Y) (a en : Nat) : nE a en 0 Y = nE a en 1 Y := by
  cases Y with
  | nil => rw [nE_nil, nE_nil]
  | cons c t =>
    have h2 := h c t rfl
    by_cases h1 : isDig c = true
    · rw [nE_dig h1, nE_dig h1]; rfl
    · have h1' : isDig c = false := by simpa using h1
      by_cases h3 : c = 46
      · subst h3; rw [nE_dot, nE_dot]; rfl
      · by_cases h4 : c = 101 ∨ c = 69
        · rw [nE_e h4, nE_e h4]
          congr 1
          simp
        · rw [nE_no h1' h2 h3 h4, nE_no h1' h2 h3 h4]
theorem scanE_le (L k : Nat) (X : List UInt8) : scanE L k X = k ∨ ∃ n, n ≤ X.length ∧ scanE L k X = L - n := by
  cases X with
  | nil => exact .inl rfl
  | cons c t =>
    rw [scanE_cons]
    split
    · split
      · exact .inl rfl
      · have h1 := cutR_len t
        have h2 := len_tW (cutR t).2
        exact .inr ⟨_, by simp; omega, rfl⟩
    · exact .inl rfl
theorem scanE_shift (a L k : Nat) (X : List UInt8) (h : X.length ≤ L) : scanE (a + L) (a + k) X = a + scanE L k X := by
  cases X with
  | nil => rfl
  | cons c t =>
    rw [scanE_cons, scanE_cons]
    have h1 := cutR_len t
    have h2 := len_tW (cutR t).2
    simp at h
    split
    · split
      · rfl
      · omega
    · rfl
/-- The scanner ends where the scan does. -/
theorem nE_scan (a : Nat) (l : List UInt8) : nE a 0 0 l = if scanN l = 0 then 0 else a + scanN l := by
  obtain ⟨sg, W, D, F, X, e, h1, h2, h3, h4, h5, h6⟩ := parts_all l
  have start : nE a 0 0 l = nE (a + sg.length) 0 1 (W ++ (D ++ X)) := by
    rw [e]
    rcases h1 with rfl | hsg
    · rw [List.nil_append, nE_noS (h5 rfl)]; rfl
    · obtain ⟨c, rfl, hc⟩ : ∃ c : UInt8, sg = [c] ∧ (c = 43 ∨ c = 45) := by
        rcases hsg with rfl | rfl
        · exact ⟨43, rfl, .inl rfl⟩
        · exact ⟨45, rfl, .inr rfl⟩
      show nE a 0 0 (c :: (W ++ (D ++ X))) = _
      rw [nE_sg hc, if_pos (.inl rfl)]; rfl
  have key : ∃ en : Nat, nE a 0 0 l = (if en = 0 then 0 else scanE (a + l.length) en X) ∧ ((W = [] ∧ F = []) → en = 0) ∧ (¬ (W = [] ∧ F = []) → en = a + (l.length - X.length) ∧ en ≠ 0) := by
    rw [start, nE_digs h2 (by omega)]
    rcases h3 with ⟨rfl, rfl⟩ | ⟨rfl, hF⟩
    · refine ⟨if W = [] then 0 else a + sg.length + W.length, ?_, fun g => by rw [if_pos g.1], fun g => ?_⟩
      · rw [List.nil_append, nE_tail (.inl rfl) h4.1 (fun _ => h4.2 rfl), e]
        have el : a + sg.length + W.length + X.length = a + (sg ++ (W ++ ([] ++ X))).length := by simp; omega
        rw [el]
      · have hW : W ≠ [] := fun g' => g ⟨g', rfl⟩
        have := List.length_pos_iff.2 hW
        have el : (sg ++ (W ++ ([] ++ X))).length = sg.length + W.length + X.length := by simp; omega
        rw [if_neg hW, e, el]
        omega
    · rw [List.cons_append, nE_dot, if_neg (by omega), nE_digs hF (by omega)]
      refine ⟨if F = [] then (if 0 < (if W = [] then 0 else a + sg.length + W.length) then a + sg.length + W.length + 1 else (if W = [] then 0 else a + sg.length + W.length)) else a + sg.length + W.length + 1 + F.length, ?_, fun g => by rw [if_pos g.2, if_pos g.1]; rfl, fun g => ?_⟩
      · rw [nE_tail (.inr rfl) h4.1 (fun h => by omega), e]
        have el : a + sg.length + W.length + 1 + F.length + X.length = a + (sg ++ (W ++ (46 :: F ++ X))).length := by simp; omega
        rw [el]
      · by_cases hf : F = []
        · have hW : W ≠ [] := fun g' => g ⟨g', hf⟩
          have := List.length_pos_iff.2 hW
          have el : (sg ++ (W ++ (46 :: F ++ X))).length = sg.length + W.length + 1 + F.length + X.length := by simp; omega
          rw [if_pos hf, if_neg hW, if_pos (by omega), e, el, hf]
          simp; omega
        · have el : (sg ++ (W ++ (46 :: F ++ X))).length = sg.length + W.length + 1 + F.length + X.length := by simp; omega
          rw [if_neg hf, e, el]
          omega
  obtain ⟨en, k1, k2, k3⟩ := key
  by_cases g : W = [] ∧ F = []
  · rw [k1, if_pos (k2 g), if_pos (h6 g)]
  · obtain ⟨k4, k5⟩ := k3 g
    have hP : Parts sg W D F := ⟨h1, h2, h3, g⟩
    have hs := hP.scan h4
    rw [← e] at hs
    have hXl : X.length ≤ l.length := by rw [e]; simp; omega
    rw [k1, if_neg k5, k4, scanE_shift a _ _ X hXl, ← hs]
    have hne : scanN l ≠ 0 := by
      have hPl : 0 < l.length - X.length := by
        have hh : 0 < W.length + F.length := by
          by_cases hW : W = []
          · have := List.length_pos_iff.2 (fun g' => g ⟨hW, g'⟩ : F ≠ []); omega
          · have := List.length_pos_iff.2 hW; omega
        have hD : F.length ≤ D.length := by
          rcases h3 with ⟨rfl, rfl⟩ | ⟨rfl, _⟩ <;> simp
        rw [e]; simp; omega
      rw [hs]
      rcases scanE_le l.length (l.length - X.length) X with q | ⟨n, q1, q2⟩
      · rw [q]; omega
      · rw [q2]; omega
    rw [if_neg hne]
theorem nE_num (l : List UInt8) (a : Nat) : nE a 0 0 (l.drop a) = numE l a := nE_scan a _

end Go.Proofs.YtlhdolcadlabpaaDoor
