/- spec.l03Sum of two valid decimals, its sign alone. -/
import Derived.Test.YtlhdolcadlabpaaDoorSpecDec4
import Derived.Test.YtlhdolcadlabpaaDoorSpecSubG
namespace Go.Proofs.YtlhdolcadlabpaaDoor
set_option linter.unusedVariables false
open Go.RowKit

theorem padZ_facts {s : ByteArray} (hd : Digs s.data.toList) (hs : s.size ≤ 20) (k : Nat) (hk : k ≤ 217) : Digs (padZ s k).data.toList ∧ val (padZ s k).data.toList = val s.data.toList * 10 ^ k ∧ (padZ s k).size ≤ 240 := by
  obtain ⟨h1, h2, h3⟩ := dig0_facts hd
  have e : (padZ s k).data.toList = (dig0 s).data.toList ++ List.replicate k 48 := by unfold padZ; rw [ByteArray.data_append, Array.toList_append]
  refine ⟨by rw [e]; exact h1.append (val_zeros k).2, by rw [e, val_pad, h2], ?_⟩
  rw [← size_list, e, List.length_append, List.length_replicate, size_list]
  omega
/-- The sign alone, as a decimal. -/
def sgnD (p : Bool × Nat) : DecV × Int := if p.2 = 0 then (DecV.zero, 0) else (⟨p.1, [49], 0⟩, 0)
theorem ok_size {n : Bool} {s : ByteArray} {e : Int} (h : (dOf n s e).Ok) : Digs s.data.toList ∧ s.size ≤ 20 ∧ -118 ≤ e ∧ e ≤ 99 :=
  ⟨h.digs, by have := h.len; rwa [show (dOf n s e).dig.length = s.size from size_list s] at this, h.exps⟩

theorem nat_zero_iff' {v : Nat} : natOf v = [48] ↔ v = 0 := by
  constructor
  · intro h
    have := val_natOf v
    rw [h] at this
    rw [← this]; rfl
  · intro h; subst h; rw [natOf_small (by omega)]; rfl
theorem nat_len_le {v k : Nat} (h : v < 10 ^ k) : (natOf v).length ≤ k + 1 := by
  by_cases h0 : v = 0
  · subst h0; rw [natOf_small (by omega)]; simp
  · exact Nat.le_succ_of_le (natOf_len_lt h h0)
theorem lt_of_nat {v k : Nat} (h : (natOf v).length ≤ k) : v < 10 ^ k := Nat.lt_of_lt_of_le (by have := val_lt (natOf_digs v); rwa [val_natOf] at this) (Nat.pow_le_pow_right (by omega) h)
theorem nat_len_add {x y k : Nat} (hx : (natOf x).length ≤ k) (hy : (natOf y).length ≤ k) : (natOf (x + y)).length ≤ k + 2 := by
  apply nat_len_le
  have h1 := lt_of_nat hx
  have h2 := lt_of_nat hy
  rw [Nat.pow_succ]
  omega
theorem nat_len_val {l : List UInt8} (h : Digs l) : (natOf (val l)).length ≤ l.length + 1 := nat_len_le (val_lt h)

end Go.Proofs.YtlhdolcadlabpaaDoor
