/- spec.l03Digit and spec.l03Scan from the text's beginning. Condition: at most 1000 bytes. -/
import Derived.Test.YtlhdolcadlabpaaDoorReadMath
import Derived.Test.YtlhdolcadlabpaaDoorSpecDec1
namespace Go.Proofs.YtlhdolcadlabpaaDoor
set_option linter.unusedVariables false
open Go.RowKit

set_option maxHeartbeats 400000 in
theorem specDigB (x : UInt8) (w : World) : Calls Tryd.prog 45 #[.int .u8 (x.toNat : Int)] w fun r w' => r = .returned (.bool (isDig x)) ∧ w = w' := by
  have hx := x.toNat_lt
  by_cases h1 : (48 : Int) ≤ (x.toNat : Int)
  · by_cases h2 : (x.toNat : Int) ≤ 57
    · have HV : Hid (isDig x = true) := by show _ = _; unfold isDig; exact decide_eq_true (by omega)
      go_enter Tryd.func45, Tryd.ntmps45
      go_wp2
      go_ret
      exact ⟨by rw [HV.out]; rfl, rfl⟩
    · have HV : Hid (isDig x = false) := by show _ = _; unfold isDig; exact decide_eq_false (by omega)
      go_enter Tryd.func45, Tryd.ntmps45
      go_wp2
      go_ret
      exact ⟨by rw [HV.out]; rfl, rfl⟩
  · have HV : Hid (isDig x = false) := by show _ = _; unfold isDig; exact decide_eq_false (by omega)
    go_enter Tryd.func45, Tryd.ntmps45
    go_wp2
    go_ret
    exact ⟨by rw [HV.out]; rfl, rfl⟩

/-- Where the scan ends. -/
def scanE (L k1 : Nat) : List UInt8 → Nat
  | [] => k1
  | c :: t => if c = 101 ∨ c = 69 then (if tW (cutR t).2 = [] then k1 else L - (dW (cutR t).2).length) else k1
def scanN (l : List UInt8) : Nat :=
  if tW (cutR l).2 = [] ∧ (frac (dW (cutR l).2)).1 = [] then 0 else scanE l.length (l.length - (frac (dW (cutR l).2)).2.length) (frac (dW (cutR l).2)).2
theorem tW_cons {b : UInt8} {l : List UInt8} (h : isDig b = true) : tW (b :: l) = b :: tW l ∧ dW (b :: l) = dW l := ⟨List.takeWhile_cons_of_pos h, List.dropWhile_cons_of_pos h⟩
theorem tW_stop {b : UInt8} {l : List UInt8} (h : isDig b = false) : tW (b :: l) = [] ∧ dW (b :: l) = b :: l := ⟨List.takeWhile_cons_of_neg (by rw [h]; simp), List.dropWhile_cons_of_neg (by rw [h]; simp)⟩
theorem drop_at {s : ByteArray} {k : Nat} (h : k < s.size) : s.data.toList.drop k = s[k] :: s.data.toList.drop (k + 1) := List.drop_eq_getElem_cons (l := s.data.toList) (i := k) (by rw [size_list]; exact h)
theorem drop_end {s : ByteArray} {k : Nat} (h : ¬ k < s.size) : s.data.toList.drop k = [] := List.drop_eq_nil_of_le (by rw [size_list]; omega)

/-- On the way through the digits and the period: what is left of the text tells what is left of the digits. -/
def Way (l W F r1 r2 : List UInt8) (k d : Nat) : Bool → Prop
  | false => W.length = d + (tW (l.drop k)).length ∧ dW (l.drop k) = r1
  | true => W.length + F.length = d + (tW (l.drop k)).length ∧ dW (l.drop k) = r2
def pVal (q : Bool) : Int := if q then 1 else 0
def ScanRel (w : World) (s : ByteArray) (W F r1 r2 : List UInt8) (kv dv pv : Value) (wr : World) : Prop :=
  ∃ (k d : Nat) (q : Bool), k ≤ s.size ∧ d ≤ k ∧ kv = .int .i64 k ∧ dv = .int .i64 d ∧ pv = .int .i64 (pVal q) ∧ Way s.data.toList W F r1 r2 k d q ∧ Below w.heap.size w wr

theorem way_digit {s : ByteArray} {W F r1 r2 : List UInt8} {k d : Nat} {q : Bool} (h : Way s.data.toList W F r1 r2 k d q) (hk : k < s.size) (hx : isDig s[k] = true) : Way s.data.toList W F r1 r2 (k + 1) (d + 1) q := by
  have e := drop_at hk
  obtain ⟨t1, t2⟩ := tW_cons (l := s.data.toList.drop (k + 1)) hx
  cases q
  · obtain ⟨h1, h2⟩ := h
    rw [e, t1, List.length_cons] at h1
    rw [e, t2] at h2
    exact ⟨by omega, h2⟩
  · obtain ⟨h1, h2⟩ := h
    rw [e, t1, List.length_cons] at h1
    rw [e, t2] at h2
    exact ⟨by omega, h2⟩
theorem way_dot {s : ByteArray} {W F r1 r2 : List UInt8} {k d : Nat} (h : Way s.data.toList W F r1 r2 k d false) (hk : k < s.size) (hx : s[k] = 46) (hf : frac r1 = (F, r2)) : Way s.data.toList W F r1 r2 (k + 1) d true := by
  have e := drop_at hk
  rw [hx] at e
  obtain ⟨t1, t2⟩ := tW_stop (b := 46) (l := s.data.toList.drop (k + 1)) (by decide)
  obtain ⟨h1, h2⟩ := h
  rw [e, t1] at h1
  rw [e, t2] at h2
  rw [← h2, frac_cons, if_pos rfl] at hf
  have f1 : tW (s.data.toList.drop (k + 1)) = F := congrArg Prod.fst hf
  have f2 : dW (s.data.toList.drop (k + 1)) = r2 := congrArg Prod.snd hf
  refine ⟨?_, f2⟩
  rw [f1]
  simp at h1
  omega
/-- At the end: all digits are passed, and what is left is what is behind them. -/
theorem way_end {s : ByteArray} {W F r1 r2 : List UInt8} {k d : Nat} {q : Bool} (h : Way s.data.toList W F r1 r2 k d q) (hf : frac r1 = (F, r2)) (hx : ∀ hk : k < s.size, isDig s[k] = false ∧ (q = false → s[k] ≠ 46)) :
    d = W.length + F.length ∧ s.data.toList.drop k = r2 := by
  by_cases hk : k < s.size
  · have e := drop_at hk
    obtain ⟨g1, g2⟩ := hx hk
    obtain ⟨t1, t2⟩ := tW_stop (l := s.data.toList.drop (k + 1)) g1
    cases q
    · obtain ⟨h1, h2⟩ := h
      rw [e, t1] at h1
      rw [e, t2] at h2
      rw [← h2, frac_cons, if_neg (g2 rfl)] at hf
      have f1 : ([] : List UInt8) = F := congrArg Prod.fst hf
      have f2 : s[k] :: s.data.toList.drop (k + 1) = r2 := congrArg Prod.snd hf
      rw [← f1, e]
      exact ⟨by simp at h1 ⊢; omega, f2⟩
    · obtain ⟨h1, h2⟩ := h
      rw [e, t1] at h1
      rw [e, t2] at h2
      exact ⟨by simp at h1; omega, by rw [e]; exact h2⟩
  · have e := drop_end hk
    cases q
    · obtain ⟨h1, h2⟩ := h
      rw [e] at h1 h2
      have h3 : ([] : List UInt8) = r1 := h2
      rw [← h3] at hf
      have f1 : ([] : List UInt8) = F := congrArg Prod.fst hf
      have f2 : ([] : List UInt8) = r2 := congrArg Prod.snd hf
      rw [← f1, ← f2, e]
      exact ⟨by simp [tW] at h1 ⊢; omega, rfl⟩
    · obtain ⟨h1, h2⟩ := h
      rw [e] at h1 h2
      exact ⟨by simp [tW] at h1; omega, by rw [e]; exact h2⟩
theorem cutR_drop {s : ByteArray} : ∃ p : Nat, (cutR s.data.toList).2 = s.data.toList.drop p ∧ p ≤ s.size ∧ (p = 0 ∨ p = 1) := by
  by_cases h : 0 < s.size
  · have e := drop_at h
    rw [List.drop_zero] at e
    rw [e, cutR_cons]
    split
    · exact ⟨1, rfl, h, .inr rfl⟩
    · exact ⟨0, rfl, by omega, .inl rfl⟩
  · have e : s.data.toList = [] := List.eq_nil_of_length_eq_zero (by rw [size_list]; omega)
    rw [e]
    exact ⟨0, rfl, by omega, .inl rfl⟩

end Go.Proofs.YtlhdolcadlabpaaDoor
