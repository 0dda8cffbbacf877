/- impl's push: a digit behind the last one. Conditions: a natural of at most 600 digits lies there. -/
import Derived.Test.YthijeckcjfnbcaaGreatDoorImplNat7
import Derived.Laws.CopyOwn
namespace Go.Proofs.YthijeckcjfnbcaaGreatDoor
set_option linter.unusedVariables false
open Go.RowKit
open Go.Lib (byteCells)

theorem growRow {a w : World} {g : Nat} (h : a.grownBy w (some g)) (C : Array Value) : a.grownBy (w.setRow g C) (some g) :=
  ⟨h.os, h.tape, h.output, by rw [setRow_size]; exact h.size, fun k hk hn => (setRow_other w g k C (fun e => hn (by rw [e]))).trans (h.block k hk hn)⟩

theorem splice_at {L cs : List Value} {off : Nat} (h : off + cs.length ≤ L.length) (i : Nat) : (splice L off cs)[i]? = if i < off then L[i]? else if i < off + cs.length then cs[i - off]? else L[i]? := by
  unfold splice
  have hl : (L.take off).length = off := by rw [List.length_take]; omega
  by_cases h1 : i < off
  · rw [if_pos h1, List.getElem?_append_left (by omega), List.getElem?_take, if_pos h1]
  · rw [if_neg h1, List.getElem?_append_right (by omega), hl]
    by_cases h2 : i < off + cs.length
    · rw [if_pos h2, List.getElem?_append_left (by omega)]
    · rw [if_neg h2, List.getElem?_append_right (by omega), List.getElem?_drop]
      congr 1; omega

/-- The cells of a row from a place on. -/
def piece (D : Array Value) (so cnt : Nat) : List Value := (D.toList.drop so).take cnt
theorem piece_length {D : Array Value} {so cnt : Nat} (h : so + cnt ≤ D.size) : (piece D so cnt).length = cnt := by
  unfold piece; rw [List.length_take, List.length_drop, Array.length_toList]; omega
theorem piece_at {D : Array Value} {so cnt j : Nat} (hj : j < cnt) : (piece D so cnt)[j]? = D[so + j]? := by
  unfold piece; rw [List.getElem?_take, if_pos hj, List.getElem?_drop, Array.getElem?_toList]

theorem Tryz.sizeByte : (Tryz.prog.info? 5).map (·.size) = some 1 := by kernel_rfl

/-- 'copy' of digits of one natural into another's, or into its own. -/
theorem copy_nat {ops : Array Oper} {rest : List Oper} {a : Act} {w : World} {Q : Exit → Act → World → Prop} {dst : Option Tmp} {ty : TypeId} {pos : String} {after : Array Edge} {d s : Operand} {C D : Array Value} {v n : Nat} (g off dLen dCap k so sLen sCap cnt : Nat)
    (hd : a.eval d = .slice (some ⟨g, off, none⟩) dLen dCap) (hs : a.eval s = .slice (some ⟨k, so, none⟩) sLen sCap) (hg : w.heap[g]? = some (.cells C 45 (0, 0))) (hk : w.heap[k]? = some (.cells D 45 (0, 0)))
    (hD : IsNat D v n) (hn : cnt = min sLen dLen) (hfit : off + cnt ≤ C.size) (hfit2 : so + cnt ≤ D.size)
    (h : wpList Tryz.prog ops Q rest (a.put dst (.int .i64 (cnt : Int))) (w.setRow g (splice C.toList off (piece D so cnt)).toArray)) :
    wpList Tryz.prog ops Q (⟨dst, .call { callee := .builtin .copy, args := #[d, s], argTypes := #[22, 22] }, ty, pos, after, none⟩ :: rest) a w := by
  have hl := piece_length hfit2
  refine wpList_copy_own rfl d s 22 22 rfl 5 Tryz.underlying22 Tryz.sizeByte g off dLen dCap ⟨k, so, none⟩ sLen sCap hd hs C _ hg (piece D so cnt) (hl.trans hn) ?_ (by rw [hl]; exact hfit) ?_ ?_
  · intro j u hu
    have hj : j < cnt := by
      have := (List.getElem?_eq_some_iff.1 hu).1
      omega
    rw [piece_at hj] at hu
    rw [Addr.add_mid, cell_of_row w k _ D _ _ hk]; exact hu
  · intro u hu
    have h1 : u ∈ D.toList := List.mem_of_mem_drop (List.mem_of_mem_take hu)
    exact (Array.all_eq_true_iff_forall_mem.1 hD.one) u (by simpa using h1)
  · rw [hl]
    have e : splice C.toList off (piece D so cnt) = C.toList.take off ++ (piece D so cnt ++ C.toList.drop (off + cnt)) := by unfold splice; rw [hl]
    rw [← e]; exact h

theorem push_cells {C : Array Value} {v n d : Nat} (h : IsNat C v n) (hv : v < 10 ^ n) (hn : n ≤ 600) (hd : d < 10) :
    IsNat ((splice C.toList 1 (piece C 0 n)).toArray.setIfInBounds 0 (.int .u8 (d : Int))) (10 * v + d) n := by
  have hs := h.size
  have hpl : (piece C 0 n).length = n := piece_length (by omega)
  have hfit : 1 + (piece C 0 n).length ≤ C.toList.length := by rw [hpl, Array.length_toList]; omega
  have hlen : (splice C.toList 1 (piece C 0 n)).length = 602 := by rw [length_splice _ _ _ hfit, Array.length_toList, hs]
  have hat := splice_at hfit
  have hval : 10 * v + d < 10 ^ (n + 1) := by rw [Nat.pow_succ]; omega
  refine ⟨by simp [hlen], fun i hi => ?_, ?_, lt_top hval (by omega)⟩
  · rw [Array.getElem?_setIfInBounds]
    rcases i with _ | i
    · rw [if_pos rfl, if_pos (by simp [hlen])]
      rw [dgt_zero, show (10 * v + d) % 10 = d by omega]
    · rw [if_neg (by omega), List.getElem?_toArray, hat, if_neg (by omega), dgt_succ, show (10 * v + d) / 10 = v by omega]
      by_cases h2 : i + 1 < 1 + n
      · rw [if_pos (by rw [hpl]; exact h2), show i + 1 - 1 = i by omega, piece_at (by omega), Nat.zero_add, h.dig i (by omega)]
      · rw [if_neg (by rw [hpl]; exact h2), Array.getElem?_toList, h.dig (i + 1) hi, dgt_ge hv (by omega), dgt_ge hv (by omega)]
  · rw [Array.getElem?_setIfInBounds, if_neg (by omega), List.getElem?_toArray, hat, if_neg (by omega), if_neg (by rw [hpl]; omega), Array.getElem?_toList, h.len]

set_option maxHeartbeats 2000000 in
set_option maxRecDepth 100000 in
theorem implPush (g v d : Nat) (w : World) (hA : NatAt w g v (len v)) (h6 : len v ≤ 600) (hd : d < 10) :
    Calls Tryz.prog 78 #[.pointer (some ⟨g, 0, none⟩), .int .u8 (d : Int)] w (Left g (10 * v + d) (len (10 * v + d)) w) := by
  have HLT := Lib.hid (lt_len v)
  obtain ⟨n, hn⟩ : ∃ n, len v = n := ⟨_, rfl⟩
  rw [hn] at hA h6 HLT
  obtain ⟨_, a2, _⟩ := hA.cells
  obtain ⟨C, hC, hI⟩ := hA
  have HP := Lib.hid (push_cells hI HLT.out h6 hd)
  have hn0 : (0 : Int) ≤ (n : Int) := by omega
  have hn1 : (n : Int) ≤ 601 := by omega
  clear hn
  go_enter Tryz.func78, Tryz.ntmps78
  go_wp2
  go_still_tail 12, (by kernel_rfl)
  change wpList _ _ _ _ _ w.drew
  have hC2 : w.drew.heap[g]? = _ := hC
  have G2 := gdrew (grefl w (some g))
  have Z2 : w.drew.heap.size = w.heap.size := rfl
  clear hC a2
  generalize w.drew = w2 at *
  have hs := hI.size
  refine copy_nat g 1 600 600 g 0 n 601 n rfl rfl hC2 hC2 hI (by omega) (by omega) (by omega) ?_
  have hC3 := setRow_heap w2 g C (splice C.toList 1 (piece C 0 n)).toArray 45 (0, 0) hC2
  have G3 := growRow G2 (splice C.toList 1 (piece C 0 n)).toArray
  have Z3 := (setRow_size w2 g (splice C.toList 1 (piece C 0 n)).toArray).trans Z2
  generalize w2.setRow g (splice C.toList 1 (piece C 0 n)).toArray = w3 at *
  generalize (splice C.toList 1 (piece C 0 n)).toArray = C3 at *
  have N4 : NatAt (w3.setCell ⟨g, 0, none⟩ (.int .u8 (d : Int))) g (10 * v + d) n := ⟨_, heap_setCell_same w3 g 0 C3 _ _ hC3, HP.out⟩
  have c0 : ∃ u, w3.cell? ⟨g, 0, none⟩ = some u := by
    have h1 := HP.out.size
    have h2 : 0 < C3.size := by simp at h1; omega
    exact ⟨C3[0], by rw [cell_of_row w3 g 0 C3 _ _ hC3, Array.getElem?_eq_getElem h2]⟩
  obtain ⟨u0, c0⟩ := c0
  have f0 : w3.frozen? ⟨g, 0, none⟩ = false := frozen_of_row w3 g 0 C3 _ hC3
  have G4 := gset (i := 0) G3 (.int .u8 (d : Int))
  have Z4 := (setCell_sizeN w3 ⟨g, 0, none⟩ (.int .u8 (d : Int))).trans Z3
  obtain ⟨_, c4, c5⟩ := N4.cells
  have f4 := c5 601
  have N5 := N4.setLen (n + 1)
  have G5 := gset (i := 601) G4 (.int .i64 ((n : Int) + 1))
  have Z5 := (setCell_sizeN _ ⟨g, 601, none⟩ (.int .i64 ((n : Int) + 1))).trans Z4
  have cT := fun W h => implTrim g (10 * v + d) (n + 1) W h (by have := HLT.out; rw [Nat.pow_succ]; omega) (by omega)
  unfold Left at cT
  clear c5 HP hC2 hC3 G2 G3 G4 Z2 Z3 Z4 N4 hI
  go_wp2_with fail
  refine (cT _ N5).mono ?_
  rintro e w6 ⟨rfl, N6, G6, S6⟩
  clear cT
  go_wp2
  go_end0
  exact ⟨rfl, N6, gtrans G5 G6, S6.trans Z5⟩

end Go.Proofs.YthijeckcjfnbcaaGreatDoor
