/- spec.l03Dig and spec.l03Level: the digits of two valid decimals by one power of ten. -/
import Derived.Test.YthijeckcjfnbcaaDoorSpecDec1
import Derived.Test.YthijeckcjfnbcaaDoorKept
import Derived.Test.YthijeckcjfnbcaaDoorSpecNatA
namespace Go.Proofs.YthijeckcjfnbcaaDoor
set_option linter.unusedVariables false
open Go.RowKit

theorem lt_of_cell {w : World} {b o : Nat} {v : Value} (h : w.cell? ⟨b, o, none⟩ = some v) : b < w.heap.size := by
  rcases Nat.lt_or_ge b w.heap.size with g | g
  · exact g
  · exfalso
    unfold World.cell? at h
    simp [Array.getElem?_eq_none g] at h
theorem cell_kept {w w' : World} {b o : Nat} {v : Value} (h : w.cell? ⟨b, o, none⟩ = some v) (hb : Below w.heap.size w w') : w'.cell? ⟨b, o, none⟩ = some v := (hb.cell (lt_of_cell h)).trans h
theorem below_kept {w w1 w2 : World} {B : Nat} (h : Below B w w1) (hB : B ≤ w.heap.size) (hb : Below w1.heap.size w1 w2) : Below B w w2 := h.trans (hb.mono (Nat.le_trans hB h.size))

theorem held7 {w0 w w' : World} {a b : Nat} {x0 x1 x2 y0 y1 y2 : Value}
    (h : w.cell? ⟨a, 0, none⟩ = some x0 ∧ w.cell? ⟨a, 1, none⟩ = some x1 ∧ w.cell? ⟨a, 2, none⟩ = some x2 ∧ w.cell? ⟨b, 0, none⟩ = some y0 ∧ w.cell? ⟨b, 1, none⟩ = some y1 ∧ w.cell? ⟨b, 2, none⟩ = some y2 ∧ Below w0.heap.size w0 w) (hb : Below w.heap.size w w') :
    w'.cell? ⟨a, 0, none⟩ = some x0 ∧ w'.cell? ⟨a, 1, none⟩ = some x1 ∧ w'.cell? ⟨a, 2, none⟩ = some x2 ∧ w'.cell? ⟨b, 0, none⟩ = some y0 ∧ w'.cell? ⟨b, 1, none⟩ = some y1 ∧ w'.cell? ⟨b, 2, none⟩ = some y2 ∧ Below w0.heap.size w0 w' :=
  ⟨cell_kept h.1 hb, cell_kept h.2.1 hb, cell_kept h.2.2.1 hb, cell_kept h.2.2.2.1 hb, cell_kept h.2.2.2.2.1 hb, cell_kept h.2.2.2.2.2.1 hb, below_kept h.2.2.2.2.2.2 (Nat.le_refl _) hb⟩

/-- The digits, 0 having one. -/
def dig0 (s : ByteArray) : ByteArray := if s.size = 0 then ⟨#[48]⟩ else s

theorem dig0_facts {s : ByteArray} (hd : Digs s.data.toList) : Digs (dig0 s).data.toList ∧ val (dig0 s).data.toList = val s.data.toList ∧ (dig0 s).size ≤ s.size + 1 := by
  unfold dig0
  split
  · next h =>
    have : s.data.toList = [] := List.eq_nil_of_length_eq_zero (by rw [size_list]; exact h)
    rw [this]
    exact ⟨digs_one ⟨by decide, by decide⟩, rfl, by show 1 ≤ _; omega⟩
  · exact ⟨hd, rfl, by omega⟩

def Ans3L (x y : ByteArray) (e : Int) (w : World) (r : Ending) (w' : World) : Prop := r = .returned (.tuple #[.string x, .string y, .int .i64 e]) ∧ Below w.heap.size w w'
def padZ (s : ByteArray) (k : Nat) : ByteArray := dig0 s ++ ⟨(List.replicate k 48).toArray⟩

end Go.Proofs.YthijeckcjfnbcaaDoor

/- spec.DecNeg and spec.l03Sum of valid decimals. -/
namespace Go.Proofs.YthijeckcjfnbcaaDoor
set_option linter.unusedVariables false
open Go.RowKit

/-- Two more blocks than a valid decimal needs; behind it a decimal is stored. -/
theorem neg_list {n : Bool} {s : ByteArray} {e : Int} (h : s.size ≠ 0) : negOf (dOf n s e) = dOf (!n) s e := by
  unfold negOf
  rw [if_neg]
  · rfl
  · show s.data.toList ≠ []
    intro g
    have := size_list s
    rw [g] at this; simp at this; omega
theorem neg_nil {n : Bool} {s : ByteArray} {e : Int} (h : s.size = 0) : negOf (dOf n s e) = DecV.zero := by
  unfold negOf
  rw [if_pos]
  exact List.eq_nil_of_length_eq_zero (by show s.data.toList.length = 0; rw [size_list]; exact h)
theorem mk_list (s : ByteArray) : (⟨s.data.toList.toArray⟩ : ByteArray) = s := by rw [Array.toArray_toList]

end Go.Proofs.YthijeckcjfnbcaaDoor

/- spec.l02Sub where the lesser number's row of digits may be the longer one (noughts ahead). Conditions: digits, at most 100000 of them. -/
namespace Go.Proofs.YthijeckcjfnbcaaDoor
set_option linter.unusedVariables false
open Go.RowKit
open Go.Lib (byteCells)

theorem low_big {l : List UInt8} (h : Digs l) {k : Nat} (hv : val l < 10 ^ k) : low l k = val l := by
  rcases Nat.lt_or_ge k l.length with g | g
  · have e := val_append (l.take (l.length - k)) (l.drop (l.length - k))
    rw [List.take_append_drop, List.length_drop, show l.length - (l.length - k) = k by omega] at e
    unfold low
    have hp : 0 < 10 ^ k := Nat.pow_pos (by omega)
    rcases Nat.eq_zero_or_pos (val (l.take (l.length - k))) with h0 | h0
    · rw [h0] at e; omega
    · have : 1 * 10 ^ k ≤ val (l.take (l.length - k)) * 10 ^ k := Nat.mul_le_mul_right _ h0
      omega
  · exact low_all g

end Go.Proofs.YthijeckcjfnbcaaDoor

/- spec.l03Sum of two valid decimals, its sign alone. -/
namespace Go.Proofs.YthijeckcjfnbcaaDoor
set_option linter.unusedVariables false
open Go.RowKit

theorem padZ_facts {s : ByteArray} (hd : Digs s.data.toList) (hs : s.size ≤ 20) (k : Nat) (hk : k ≤ 217) : Digs (padZ s k).data.toList ∧ val (padZ s k).data.toList = val s.data.toList * 10 ^ k ∧ (padZ s k).size ≤ 240 := by
  obtain ⟨h1, h2, h3⟩ := dig0_facts hd
  have e : (padZ s k).data.toList = (dig0 s).data.toList ++ List.replicate k 48 := by unfold padZ; rw [ByteArray.data_append, Array.toList_append]
  refine ⟨by rw [e]; exact h1.append (val_zeros k).2, by rw [e, val_pad, h2], ?_⟩
  rw [← size_list, e, List.length_append, List.length_replicate, size_list]
  omega
/-- The sign alone, as a decimal. -/
def sgnD (p : Bool × Nat) : DecV × Int := if p.2 = 0 then (DecV.zero, 0) else (⟨p.1, [49], 0⟩, 0)
theorem ok_size {n : Bool} {s : ByteArray} {e : Int} (h : (dOf n s e).Ok) : Digs s.data.toList ∧ s.size ≤ 20 ∧ -118 ≤ e ∧ e ≤ 99 :=
  ⟨h.digs, by have := h.len; rwa [show (dOf n s e).dig.length = s.size from size_list s] at this, h.exps⟩

theorem nat_zero_iff' {v : Nat} : natOf v = [48] ↔ v = 0 := by
  constructor
  · intro h
    have := val_natOf v
    rw [h] at this
    rw [← this]; rfl
  · intro h; subst h; rw [natOf_small (by omega)]; rfl
theorem nat_len_le {v k : Nat} (h : v < 10 ^ k) : (natOf v).length ≤ k + 1 := by
  by_cases h0 : v = 0
  · subst h0; rw [natOf_small (by omega)]; simp
  · exact Nat.le_succ_of_le (natOf_len_lt h h0)
theorem lt_of_nat {v k : Nat} (h : (natOf v).length ≤ k) : v < 10 ^ k := Nat.lt_of_lt_of_le (by have := val_lt (natOf_digs v); rwa [val_natOf] at this) (Nat.pow_le_pow_right (by omega) h)
theorem nat_len_add {x y k : Nat} (hx : (natOf x).length ≤ k) (hy : (natOf y).length ≤ k) : (natOf (x + y)).length ≤ k + 2 := by
  apply nat_len_le
  have h1 := lt_of_nat hx
  have h2 := lt_of_nat hy
  rw [Nat.pow_succ]
  omega
theorem nat_len_val {l : List UInt8} (h : Digs l) : (natOf (val l)).length ≤ l.length + 1 := nat_len_le (val_lt h)

end Go.Proofs.YthijeckcjfnbcaaDoor

/- What the functions of two decimals answer, plainly; worlds that hold two decimals. No program in it. -/
namespace Go.Proofs.YthijeckcjfnbcaaDoor
set_option linter.unusedVariables false
open Go.RowKit

noncomputable instance (d : DecV) : Decidable d.Ok := Classical.propDecidable _
noncomputable def addR (a b : DecV) : DecV × Int := if a.Ok ∧ b.Ok then formOf (sumOf a b).1 (sumOf a b).2 (low2 a b) else (DecV.zero, 3)
noncomputable def subR (a b : DecV) : DecV × Int := if a.Ok ∧ b.Ok then formOf (sumOf a (negOf b)).1 (sumOf a (negOf b)).2 (low2 a (negOf b)) else (DecV.zero, 3)
noncomputable def mulR (a b : DecV) : DecV × Int := if a.Ok ∧ b.Ok then formOf (a.neg != b.neg) (val a.dig * val b.dig) (a.exp + b.exp) else (DecV.zero, 3)
noncomputable def cmpR (a b : DecV) : Int := if a.Ok ∧ b.Ok then cmpS a b else 2
noncomputable def negR (a : DecV) : DecV := if a.Ok then negOf a else DecV.zero

theorem held4 {w0 w w' : World} {a b c : Nat} {n n2 n3 : Bool} {s s2 s3 : ByteArray} {e e2 e3 : Int} (h : DecAt w a n s e ∧ DecAt w b n2 s2 e2 ∧ DecAt w c n3 s3 e3 ∧ Below w0.heap.size w0 w) (hb : Below w.heap.size w w') :
    DecAt w' a n s e ∧ DecAt w' b n2 s2 e2 ∧ DecAt w' c n3 s3 e3 ∧ Below w0.heap.size w0 w' := ⟨h.1.belowS hb, h.2.1.belowS hb, h.2.2.1.belowS hb, below_kept h.2.2.2 (Nat.le_refl _) hb⟩
theorem held3 {w0 w w' : World} {a b : Nat} {n n2 : Bool} {s s2 : ByteArray} {e e2 : Int} (h : DecAt w a n s e ∧ DecAt w b n2 s2 e2 ∧ Below w0.heap.size w0 w) (hb : Below w.heap.size w w') :
    DecAt w' a n s e ∧ DecAt w' b n2 s2 e2 ∧ Below w0.heap.size w0 w' := ⟨h.1.belowS hb, h.2.1.belowS hb, below_kept h.2.2 (Nat.le_refl _) hb⟩
/-- A negative of a decimal that is valid, by its fields. -/
theorem neg_fields {n : Bool} {s : ByteArray} {e : Int} (h : (dOf n s e).Ok) : ∃ (m : Bool) (f : Int), negOf (dOf n s e) = dOf m s f := by
  by_cases h0 : s.size = 0
  · refine ⟨false, 0, ?_⟩
    rw [neg_nil h0]
    exact (dOf_zero.2 ⟨rfl, toList_nil.2 h0, rfl⟩).symm
  · exact ⟨!n, e, neg_list h0⟩

end Go.Proofs.YthijeckcjfnbcaaDoor
