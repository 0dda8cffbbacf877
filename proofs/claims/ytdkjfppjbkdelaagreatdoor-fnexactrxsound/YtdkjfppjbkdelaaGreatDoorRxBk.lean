/- Plain mathematics of chapter 5: how much the nodes of a read pattern hold. No program in it. -/
import Derived.Test.YtdkjfppjbkdelaaGreatDoorRxMathA
import Derived.Test.YtdkjfppjbkdelaaGreatDoorRxMem
namespace Go.Proofs.YtdkjfppjbkdelaaGreatDoor
set_option linter.unusedVariables false

theorem bulks_snoc (l : List Nd) (n : Nd) : bulks (l ++ [n]) = bulks l + bulkOf n := by
  unfold bulks
  rw [List.map_append, List.sum_append]
  simp only [List.map_cons, List.map_nil, List.sum_cons, List.sum_nil, Nat.add_zero]
theorem mul_cut (K : Nat) {i j k : Nat} (h1 : i ≤ j) (h2 : j ≤ k) : K * (j - i) + K * (k - j) = K * (k - i) := by rw [← Nat.mul_add]; congr 1; omega
theorem mul_one_le {K a b : Nat} (hK : 1 ≤ K) (h : a < b) : K * a + 1 ≤ K * b := by
  have : K * (a + 1) ≤ K * b := Nat.mul_le_mul_left K h
  rw [Nat.mul_add] at this
  omega

theorem item_len {s : List Int} {i : Nat} {l : List Int} {j : Nat} (h : itemR s i = .ok l j) : l.length ≤ 8 := by
  unfold itemR at h
  split at h
  · cases h
  split at h
  · split at h
    · next e j' hc =>
      cases h
      unfold classR at hc
      split at hc
      · cases hc
        unfold classOf
        repeat' (split; · decide)
        decide
      · cases hc
    · cases h
  split at h
  · cases h
  split at h
  · split at h
    · cases h
    · split at h
      · cases h; simp
      · cases h
  · cases h; simp
theorem items_len {s : List Int} : ∀ {f i : Nat} {b : Bool} {set e : List Int} {j : Nat}, itemsR s f i b set = .ok e j → e.length ≤ set.length + 8 * (j - i)
  | 0, i, b, set, e, j, h => by cases h
  | f + 1, i, b, set, e, j, h => by
    rw [itemsR] at h
    split at h
    · cases h; omega
    · split at h
      · next e' k hk =>
        have p := itemR_place hk
        have l := item_len hk
        have q := items_len h
        have q2 := itemsR_place h
        simp at q
        omega
      · next hne => exact absurd h (hne _ _)

def BkI (K : Nat) (s : List Int) (inner : Option (Nat → List Nd → Rd)) : Prop := ∀ g, inner = some g → ∀ i out, i ≤ s.length → ∀ n j o, g i out = .ok n j o → bulks o ≤ bulks out + K * (j - i) + 1

section
variable {s : List Int} {inner : Option (Nat → List Nd → Rd)} {K : Nat}
theorem one_bk {i j : Nat} {out : List Nd} {nd : Nd} (hK : 8 ≤ K) (h : bulkOf nd ≤ 8 * (j - i)) {n : Int} {j' : Nat} {o : List Nd} (e : Rd.ok out.length j (out ++ [nd]) = .ok n j' o) : bulks o ≤ bulks out + K * (j' - i) := by
  cases e
  rw [bulks_snoc]
  have : 8 * (j - i) ≤ K * (j - i) := Nat.mul_le_mul_right _ hK
  omega
theorem atomR_bk (hK : 8 ≤ K) (hB : BkI K s inner) (hF : FarI s inner) {i : Nat} {out : List Nd} (hi : i < s.length) {n : Int} {j : Nat} {o : List Nd} (h : atomR s inner i out = .ok n j o) : bulks o ≤ bulks out + K * (j - i) := by
  unfold atomR at h
  split at h
  · cases h
  split at h
  · unfold groupR at h
    split at h
    · cases h
    · next g =>
      split at h
      · cases h
      · next n' j' o' hg =>
        have f := hF g rfl (i + 1) out (by omega) _ _ _ hg
        have b := hB g rfl (i + 1) out (by omega) _ _ _ hg
        split at h
        · cases h
          have := mul_one_le (K := K) (a := j' - (i + 1)) (b := j' + 1 - i) (by omega) (by omega)
          omega
        · cases h
  split at h
  · unfold bracketR at h
    split at h
    · next set k hk =>
      have p := items_len hk
      have q := itemsR_place hk
      refine one_bk hK ?_ h
      simp [bulkOf, setNode] at p ⊢
      split at p <;> split at q <;> omega
    · cases h
    · cases h
  split at h
  · exact one_bk hK (by simp [bulkOf, plainNode]) h
  split at h
  · exact one_bk hK (by simp [bulkOf, plainNode]) h
  split at h
  · exact one_bk hK (by simp [bulkOf, plainNode]) h
  split at h
  · cases h
  · exact one_bk hK (by simp [bulkOf, charNode]) h
theorem pieceR_bk (hK : 8 ≤ K) (hB : BkI K s inner) (hF : FarI s inner) {i : Nat} {out : List Nd} (hi : i < s.length) {n : Int} {j : Nat} {o : List Nd} (h : pieceR s inner i out = .ok n j o) : bulks o ≤ bulks out + K * (j - i) := by
  unfold pieceR at h
  split at h
  · cases h
  · next kid j' o' ha =>
    have b := atomR_bk hK hB hF hi ha
    have f := atomR_far hF (out := out) hi _ _ _ ha
    split at h
    · cases h; exact b
    · cases h
    · next lo hi' k hr =>
      have q := repR_place hr
      cases h
      rw [bulks_snoc]
      have := mul_one_le (K := K) (a := j' - i) (b := j - i) (by omega) (by omega)
      simp [bulkOf, repNode]
      omega
theorem join_bk {k : Int} {kids : List Int} {i : Nat} {out : List Nd} {n : Int} {j : Nat} {o : List Nd} (h : joinR k kids i out = .ok n j o) : bulks o ≤ bulks out + kids.length ∧ j = i := by
  unfold joinR at h
  split at h
  · cases h; exact ⟨by omega, rfl⟩
  · cases h
    rw [bulks_snoc]
    simp [bulkOf, manyNode]
theorem seqR_bk (hK : 8 ≤ K) (hB : BkI K s inner) (hF : FarI s inner) : ∀ {f i : Nat} {out : List Nd} {kids : List Int} {n : Int} {j : Nat} {o : List Nd}, i ≤ s.length → seqR s inner f i out kids = .ok n j o → i ≤ j ∧ bulks o ≤ bulks out + (K + 1) * (j - i) + kids.length
  | 0, i, out, kids, n, j, o, hi, h => by cases h
  | f + 1, i, out, kids, n, j, o, hi, h => by
    rw [seqR] at h
    split at h
    · split at h
      · cases h; rw [bulks_snoc]; simp [bulkOf, plainNode]
      · obtain ⟨b, rfl⟩ := join_bk h; omega
    · next he =>
      have hil := lt_of_pk (ends_not he).1
      split at h
      · cases h
      · next m j' o' hp =>
        have b := pieceR_bk hK hB hF hil hp
        have p := pieceR_far hF (out := out) hil _ _ _ hp
        have q := seqR_bk hK hB hF (f := f) (i := j') (out := o') (kids := kids ++ [m]) (by omega) h
        have c := mul_cut (K + 1) (i := i) (j := j') (k := j) (by omega) q.1
        have d : (K + 1) * (j' - i) = K * (j' - i) + (j' - i) := by rw [Nat.add_mul, Nat.one_mul]
        simp at q
        omega
theorem rowR_bk (hK : 8 ≤ K) (hB : BkI K s inner) (hF : FarI s inner) {i : Nat} {out : List Nd} {n : Int} {j : Nat} {o : List Nd} (hi : i ≤ s.length) (h : rowR s inner i out = .ok n j o) : bulks o ≤ bulks out + (K + 1) * (j - i) := by
  have := (seqR_bk hK hB hF hi h).2
  simpa using this
theorem altR_bk (hK : 8 ≤ K) (hB : BkI K s inner) (hF : FarI s inner) : ∀ {f i : Nat} {out : List Nd} {kids : List Int} {n : Int} {j : Nat} {o : List Nd}, i ≤ s.length → altR s inner f i out kids = .ok n j o → i ≤ j ∧ bulks o ≤ bulks out + (K + 1) * (j - i) + kids.length
  | 0, i, out, kids, n, j, o, hi, h => by cases h
  | f + 1, i, out, kids, n, j, o, hi, h => by
    rw [altR] at h
    split at h
    · next h0 =>
      have hil := lt_of_pk (s := s) (i := i) (by omega)
      split at h
      · cases h
      · next m j' o' hp =>
        have b := rowR_bk hK hB hF (by omega) hp
        have p := rowR_far hF (out := out) (show i + 1 ≤ s.length by omega) _ _ _ hp
        have q := altR_bk hK hB hF (f := f) (i := j') (out := o') (kids := kids ++ [m]) p.2.1 h
        have c := mul_cut (K + 1) (i := i + 1) (j := j') (k := j) p.1 q.1
        have d := mul_one_le (K := K + 1) (a := j - (i + 1)) (b := j - i) (by omega) (by omega)
        simp at q
        omega
    · obtain ⟨b, rfl⟩ := join_bk h; omega
theorem altsR_bk (hK : 8 ≤ K) (hB : BkI K s inner) (hF : FarI s inner) {i : Nat} {out : List Nd} {n : Int} {j : Nat} {o : List Nd} (hi : i ≤ s.length) (h : altsR s inner i out = .ok n j o) : bulks o ≤ bulks out + (K + 1) * (j - i) + 1 := by
  unfold altsR at h
  split at h
  · cases h
  · next m j' o' hp =>
    have b := rowR_bk hK hB hF hi hp
    have p := rowR_far hF (out := out) hi _ _ _ hp
    have q := altR_bk hK hB hF p.2.1 h
    have c := mul_cut (K + 1) (i := i) (j := j') (k := j) p.1 q.1
    simp at q
    omega
end
theorem innerD_bk (s : List Int) : ∀ n, BkI (8 + n) s (innerD s n)
  | 0 => fun g h => by cases h
  | n + 1 => fun g h i out hi m j o hg => by
    cases h
    rw [altsD_eq] at hg
    exact altsR_bk (by omega) (innerD_bk s n) (innerD_far s n) hi hg
/-- What the nodes of a whole pattern hold. -/
theorem altsD_bulk {s : List Int} (hs : s.length ≤ 1000) {n : Int} {j : Nat} {o : List Nd} (h : altsD s 6 0 [] = .ok n j o) : o.length + bulks o ≤ 20000 := by
  have h' := h
  rw [altsD_eq] at h h'
  have b := altsR_bk (K := 14) (by omega) (innerD_bk s 6) (innerD_far s 6) (Nat.zero_le _) h
  have f := altsR_far (innerD_far s 6) (Nat.zero_le _) _ _ _ h'
  have e : bulks [] = 0 := rfl
  have e2 : (14 + 1) * (j - 0) = 15 * j := by rw [Nat.sub_zero]
  simp at f
  omega

end Go.Proofs.YtdkjfppjbkdelaaGreatDoor
