/- The text of a valid decimal with blanks around it, or with something behind it, as Prefix and Looks read it. No program in it but the names of answers. -/
import Derived.Test.YtlhdolcadlabpaaDoorBackMath
import Derived.Test.YtlhdolcadlabpaaDoorPreA
namespace Go.Proofs.YtlhdolcadlabpaaDoor
set_option linter.unusedVariables false
open Go.RowKit

theorem plain_text {s : ByteArray} (h : Plain s.data.toList) (hz : s.size ≤ 1000) : (runesOf s).isSome = true := by
  rw [← textOk_eq s hz, index_zf, Bool.and_eq_true]
  refine ⟨?_, ?_⟩
  · rw [Lib.validD_ascii s.data.toList.length _ (fun b hb => (h b (List.mem_of_mem_take hb)).2), List.drop_length]
    rfl
  · unfold zf
    rw [List.all_eq_true]
    intro b hb
    have := (h b hb).1
    simp only [bne_iff_ne, ne_eq]
    intro g
    rw [g] at this
    revert this
    decide
theorem like_pre {d : DecV} (h : d.Ok) {g t z s : ByteArray} (ht : t.data.toList = textR d) (hg : Gap g.data.toList) (hgz : g.size ≤ 2) (hz : Tail z.data.toList) (hzp : Plain z.data.toList) (hzz : z.size ≤ 2) (hs : (g ++ t) ++ z = s) :
    s.size ≤ 200 ∧ preR s = (d, 0) ∧ looksR s = decide (blN z.data.toList = z.size) := by
  have hI := text_is h
  rw [← ht] at hI
  have sl : s.data.toList = g.data.toList ++ (t.data.toList ++ z.data.toList) := by
    rw [← hs, ByteArray.data_append, ByteArray.data_append, Array.toList_append, Array.toList_append, List.append_assoc]
  have htz := hI.small
  have sz : s.size = g.size + t.size + z.size := by rw [← hs, ByteArray.size_append, ByteArray.size_append]
  rw [size_list] at htz
  have hsz : s.size ≤ 200 := by omega
  obtain ⟨p1, p2, p3⟩ := hI.pre hg hz
  rw [← sl, size_list] at p1
  rw [← sl, size_list, size_list] at p2
  rw [size_list] at p3
  have tx : (runesOf s).isSome = true := plain_text (by rw [sl]; exact (gap_plain hg).app (hI.plain.app hzp)) (by omega)
  have hR : preR s = (d, 0) := by
    unfold preR
    rw [if_pos tx, p2, if_neg (by omega), p1, ByteArray.data_extract, Array.toList_extract, List.extract_eq_take_drop, sl, Nat.add_sub_cancel_left]
    have e1 : g.size = g.data.toList.length := (size_list _).symm
    have e2 : t.size = t.data.toList.length := (size_list _).symm
    rw [e1, List.drop_left, e2, List.take_left]
    exact hI.reads
  refine ⟨hsz, hR, ?_⟩
  unfold looksR
  rw [decide_eq_decide, hR, p2]
  have e3 : s.data.toList.drop (g.size + t.size) = z.data.toList := by
    have e1 : g.size = g.data.toList.length := (size_list _).symm
    have e2 : t.size = t.data.toList.length := (size_list _).symm
    rw [sl, ← List.append_assoc, e1, e2, ← List.length_append, List.drop_left]
  rw [e3, sz]
  exact ⟨fun q => by have := q.2.2.1; omega, fun q => ⟨tx, by omega, by omega, rfl⟩⟩
/-- Blanks around it: it looks like the number. -/
theorem like_gap {d : DecV} (h : d.Ok) {g t s : ByteArray} (ht : t.data.toList = textR d) (hg : Gap g.data.toList) (hgz : g.size ≤ 2) (hs : (g ++ t) ++ g = s) : s.size ≤ 200 ∧ preR s = (d, 0) ∧ looksR s = true := by
  obtain ⟨h1, h2, h3⟩ := like_pre h ht hg hgz (gap_tail hg) (gap_plain hg) hgz hs
  exact ⟨h1, h2, by rw [h3]; exact decide_eq_true (by rw [gap_all hg, size_list])⟩
/-- A letter behind it: it does not, and has it as its beginning. -/
theorem like_z {d : DecV} (h : d.Ok) {g t s : ByteArray} (ht : t.data.toList = textR d) (hg : Gap g.data.toList) (hgz : g.size ≤ 2) (hs : (g ++ t) ++ ⟨#[122]⟩ = s) : s.size ≤ 200 ∧ preR s = (d, 0) ∧ looksR s = false := by
  have hz : Tail (⟨#[122]⟩ : ByteArray).data.toList := fun c t e => by
    change [122] = c :: t at e
    injection e with e1 e2
    rw [← e1]; decide
  obtain ⟨h1, h2, h3⟩ := like_pre h ht hg hgz hz (plain_cons (by decide) plain_nil) (by decide) hs
  exact ⟨h1, h2, by rw [h3]; rfl⟩
def okGap : Value → Bool
  | .string t => decide (t.size ≤ 2) && t.data.toList.all isBl
  | _ => false
theorem gap_at {w : World} {g : Nat} {arr : Array Value} {T : TypeId} {fz : Nat × Nat} (h : w.heap[g]? = some (.cells arr T fz)) (hok : arr.toList.all okGap = true) (j : Nat) (hj : j < arr.size) :
    ∃ t : ByteArray, w.cell? ⟨g, j, none⟩ = some (.string t) ∧ t.size ≤ 2 ∧ Gap t.data.toList := by
  rw [cell_of_row w g j arr T fz h]
  have h1 := List.all_eq_true.1 hok (arr[j]) (by simp)
  rw [Array.getElem?_eq_getElem hj]
  generalize arr[j] = v at h1
  unfold okGap at h1
  split at h1
  · rw [Bool.and_eq_true, List.all_eq_true] at h1
    exact ⟨_, rfl, of_decide_eq_true h1.1, fun b hb => h1.2 b hb⟩
  · cases h1

end Go.Proofs.YtlhdolcadlabpaaDoor
