/- The natural 1 as impl builds it; the specification's answer for NatRound. No condition. -/
import Derived.Test.YtgbmijebhchkiaaImplNat16
namespace Go.Proofs.Ytgbmijebhchkiaa
open Go.RowKit
open Go.Lib (byteCells)

def rndOf (s : ByteArray) (n : Int) : List UInt8 × Bool := if NatS s ∧ 0 ≤ n ∧ n ≤ 600 then fits (rnd (nv s) n.toNat) else ([], false)

def onesOf (n : Nat) : Array Value := (Value.int .u8 1 :: List.replicate n (Value.int .u8 0)).toArray
def oneOf (n : Nat) : Array Value := ((Value.int .u8 1 :: List.replicate n (Value.int .u8 0)) ++ [Value.int .i64 1]).toArray
theorem oneOf_size (n : Nat) : (oneOf n).size = n + 2 := by simp [oneOf]
theorem oneOf_dig {n i : Nat} (hi : i < n + 1) : (oneOf n)[i]? = some (.int .u8 ((dgt 1 i : Nat) : Int)) := by
  unfold oneOf
  rw [List.getElem?_toArray, List.getElem?_append_left (by rw [List.length_cons, List.length_replicate]; exact hi)]
  rcases i with _ | i
  · rfl
  · rw [List.getElem?_cons_succ, List.getElem?_replicate, if_pos (by omega), dgt_succ]
    rw [show 1 / 10 = 0 from rfl, dgt_nought]; rfl
theorem oneOf_len (n : Nat) : (oneOf n)[n + 1]? = some (.int .i64 1) := by
  unfold oneOf
  rw [List.getElem?_toArray, List.getElem?_append_right (by rw [List.length_cons, List.length_replicate]; exact Nat.le_refl _), List.length_cons, List.length_replicate, Nat.sub_self]; rfl
theorem len_one : len 1 = 1 := by rw [len_nz (by omega), natOf_small (by omega)]; rfl
theorem one_nat : IsNat (oneOf 600) 1 1 := ⟨oneOf_size 600, fun i hi => oneOf_dig hi, oneOf_len 600, lt_top (n := 1) (by decide) (by omega)⟩
theorem Try.builtOnes : Try.prog.built 40 [(0, .int .u8 1)] = some (onesOf 600) := by kernel_rfl
theorem Try.builtOne : Try.prog.built 42 [(0, .agg (onesOf 600)), (1, .int .i64 1)] = some (oneOf 600) := by kernel_rfl

theorem build1 {P : Program} {ops : Array Oper} {rest : List Oper} {a : Act} {w : World} {Q : Exit → Act → World → Prop} {dst : Option Tmp} {t ty : TypeId} {pos : String} {after : Array Edge} {x : Operand} {i : Nat} {v : Value} {cells : Array Value}
    (hb : P.built t [(i, v)] = some cells) (hx : a.eval x = v) (h : wpList P ops Q rest (a.put dst (.agg cells)) w) : wpList P ops Q (⟨dst, .build t #[(i, x)], ty, pos, after, none⟩ :: rest) a w := by
  refine wpList_plain rfl fun K hK => ?_
  have hr := run_build (P := P) w t #[(i, v)] cells hb
  unfold Oper.wp execOp
  simp only [List.map_toArray, List.map_cons, List.map_nil, hx, Sem.run_bind, hr, Result.andThen_ok]
  exact hK _ _ h
theorem build2 {P : Program} {ops : Array Oper} {rest : List Oper} {a : Act} {w : World} {Q : Exit → Act → World → Prop} {dst : Option Tmp} {t ty : TypeId} {pos : String} {after : Array Edge} {x y : Operand} {i j : Nat} {v u : Value} {cells : Array Value}
    (hb : P.built t [(i, v), (j, u)] = some cells) (hx : a.eval x = v) (hy : a.eval y = u) (h : wpList P ops Q rest (a.put dst (.agg cells)) w) : wpList P ops Q (⟨dst, .build t #[(i, x), (j, y)], ty, pos, after, none⟩ :: rest) a w := by
  refine wpList_plain rfl fun K hK => ?_
  have hr := run_build (P := P) w t #[(i, v), (j, u)] cells hb
  unfold Oper.wp execOp
  simp only [List.map_toArray, List.map_cons, List.map_nil, hx, hy, Sem.run_bind, hr, Result.andThen_ok]
  exact hK _ _ h
theorem len_mono' {a b : Nat} (h : a ≤ b) : len a ≤ len b := len_le_of (Nat.lt_of_le_of_lt h (lt_len b))
theorem one_row : ∃ O1 O2 : Array Value, Try.prog.built 40 [(0, .int .u8 1)] = some O1 ∧ Try.prog.built 42 [(0, .agg O1), (1, .int .i64 1)] = some O2 ∧ IsNat O2 1 1 :=
  ⟨_, _, Try.builtOnes, Try.builtOne, one_nat⟩

end Go.Proofs.Ytgbmijebhchkiaa
