/- impl.exponentOf. Condition: at most 1048576 bytes. -/
import Derived.Test.YtpkmhojcccpolaaDoorImplDec19
import Derived.WalkSmall
namespace Go.Proofs.YtpkmhojcccpolaaDoor
set_option linter.unusedVariables false
open Go.RowKit

def IterR (w : World) (K : Nat) (s : ByteArray) (pos : Nat) : Prop := w.heap[K]? = some (.stringIter s pos)
theorem iterPosR {w : World} {K : Nat} {s : ByteArray} {pos : Nat} (h : IterR w K s pos) : w.iterPos K = pos := by unfold IterR at h; simp [World.iterPos, h]

def ExpRel (w : World) (E : ByteArray) (K : Nat) (ev : Value) (wr : World) : Prop :=
  ∃ pos : Nat, pos ≤ E.size ∧ IterR wr K E pos ∧ ev = .int .i64 ((min (val (E.data.toList.take pos)) 9999 : Nat) : Int) ∧ Below w.heap.size w wr

set_option maxHeartbeats 2000000 in
set_option maxRecDepth 100000 in
theorem implExponent (s : ByteArray) (w : World) (hs : s.size ≤ 1000) :
    Calls Tryd.prog 47 #[.string s] w fun r w' => r = .returned (.tuple #[.int .i64 (expA (expOf s.data.toList)).1, .bool (expA (expOf s.data.toList)).2]) ∧ Below w.heap.size w w' := by
  obtain ⟨R, hR⟩ : ∃ R, expA (expOf s.data.toList) = R := ⟨_, rfl⟩
  rw [hR]
  have HR := Lib.hid hR
  clear hR
  by_cases h0 : s.size = 0
  · have hnil : s.toList.isEmpty = true := by rw [List.isEmpty_iff]; exact toList_nil.2 h0
    have HV : Hid (R = (0, true)) := by
      show _ = _
      rw [← HR.out, show s.data.toList = [] from List.eq_nil_of_length_eq_zero (by rw [size_list]; exact h0)]
      rfl
    clear h0 HR
    go_enter Tryd.func47, Tryd.ntmps47
    go_wp2
    go_ret2
    exact ⟨by rw [HV.out]; rfl, Below.refl _ _⟩
  · have hnil : s.toList.isEmpty = false := by rw [List.isEmpty_eq_false_iff]; exact fun h => h0 (toList_nil.1 h)
    have hp : 0 < s.size := by omega
    obtain ⟨x, hx⟩ : ∃ x, s[0] = x := ⟨_, rfl⟩
    obtain ⟨t, ht⟩ : ∃ t : ByteArray, s.extract 1 s.size = t := ⟨_, rfl⟩
    have hc := consR hp
    rw [hx] at hc
    have lt : t.data.toList = s.data.toList.drop 1 := by rw [← ht]; exact Lib.ext_list s 1
    have zt : t.size ≤ 1000 := by rw [← size_list, lt, List.length_drop, size_list]; omega
    have cE : x = 101 ↔ x.toNat = 101 := ⟨fun e => by rw [e]; rfl, fun e => UInt8.toNat_inj.1 (by show x.toNat = 101; exact e)⟩
    have ce : x = 69 ↔ x.toNat = 69 := ⟨fun e => by rw [e]; rfl, fun e => UInt8.toNat_inj.1 (by show x.toNat = 69; exact e)⟩
    have hzi : (1 : Int) ≤ (s.size : Int) := by omega
    have HX : Hid (expOf s.data.toList = if x.toNat = 101 ∨ x.toNat = 69 then (if tW (cutR t.data.toList).2 = [] ∨ dW (cutR t.data.toList).2 ≠ [] then none else some (if (cutR t.data.toList).1 then -((min (val (tW (cutR t.data.toList).2)) 9999 : Nat) : Int) else ((min (val (tW (cutR t.data.toList).2)) 9999 : Nat) : Int))) else none) := by
      show _ = _
      rw [hc, expOf_cons, lt]
      simp only [cE, ce]
    clear hc lt cE ce
    by_cases g : x.toNat = 101 ∨ x.toNat = 69
    · have cC := fun W => implCutR t W (by omega)
      obtain ⟨⟨neg, r⟩, hr⟩ : ∃ p, cutR t.data.toList = p := ⟨_, rfl⟩
      have zr := cutR_len t.data.toList
      rw [hr] at cC HX zr
      dsimp only at cC HX zr
      rw [size_list] at zr
      have cD := fun W => implCutDigits ⟨r.toArray⟩ W (by show r.length ≤ _; omega)
      change ∀ W, Calls _ _ _ W fun q w' => q = .returned (.tuple #[.string ⟨(tW r).toArray⟩, .string ⟨(dW r).toArray⟩]) ∧ Below W.heap.size W w' at cD
      have zE := len_tW r
      have hdE := tW_digs r
      obtain ⟨E, hE⟩ : ∃ E : ByteArray, ⟨(tW r).toArray⟩ = E := ⟨_, rfl⟩
      obtain ⟨F, hF⟩ : ∃ F : ByteArray, ⟨(dW r).toArray⟩ = F := ⟨_, rfl⟩
      obtain ⟨q, hq⟩ : ∃ q : ByteArray, ⟨r.toArray⟩ = q := ⟨_, rfl⟩
      have lE : E.data.toList = tW r := by rw [← hE]
      have lF : F.data.toList = dW r := by rw [← hF]
      rw [hE, hF, hq] at cD
      rw [hq] at cC
      rw [← lE, ← lF] at HX
      rw [← lE] at hdE zE
      have hEl := size_list E
      rw [hEl] at zE
      have HXX : Hid (expOf s.data.toList = if E.data.toList = [] ∨ F.data.toList ≠ [] then none else some (if neg then -((min (val E.data.toList) 9999 : Nat) : Int) else ((min (val E.data.toList) 9999 : Nat) : Int))) := by show _ = _; rw [HX.out, if_pos g]
      have e1 : ((x.toNat : Int) != 101) = false ∨ (((x.toNat : Int) != 101) = true ∧ ((x.toNat : Int) != 69) = false) := by
        rcases g with g | g
        · exact .inl (by rw [bne_eq_false_iff_eq]; omega)
        · exact .inr ⟨by rw [bne_iff_ne]; omega, by rw [bne_eq_false_iff_eq]; omega⟩
      have HDE := Lib.hid hdE
      clear HX g hE hF hq lE lF hr hdE
      by_cases gb : E.size = 0 ∨ F.size ≠ 0
      · have HV : Hid (R = (0, false)) := by
          show _ = _
          rw [← HR.out, HXX.out, if_pos]
          · rfl
          · rcases gb with gb | gb
            · exact .inl (List.eq_nil_of_length_eq_zero (by rw [size_list]; exact gb))
            · exact .inr (fun h => gb (by rw [← size_list, h]; rfl))
        have e2 : E.toList.isEmpty = true ∨ (E.toList.isEmpty = false ∧ F.toList.isEmpty = false) := by
          by_cases g0 : E.size = 0
          · exact .inl (by rw [List.isEmpty_iff]; exact toList_nil.2 g0)
          · refine .inr ⟨by rw [List.isEmpty_eq_false_iff]; exact fun h => g0 (toList_nil.1 h), ?_⟩
            rw [List.isEmpty_eq_false_iff]
            intro h
            rcases gb with gb | gb
            · exact g0 gb
            · exact gb (toList_nil.1 h)
        clear HR HXX gb
        rcases e1 with e1 | ⟨e1, e3⟩
        all_goals
          rcases e2 with e2 | ⟨e2, e4⟩
          all_goals
            go_enter Tryd.func47, Tryd.ntmps47
            go_wp2_with fail
            refine (cC _).mono ?_
            rintro r' w1 ⟨rfl, B1⟩
            go_wp2_with fail
            refine (cD _).mono ?_
            rintro r' w2 ⟨rfl, B2⟩
            have D2 := below_kept B1 (Nat.le_refl _) B2
            clear cC cD B1 B2
            go_wp2
            go_ret2
            exact ⟨by rw [HV.out]; rfl, D2⟩
      · have gE : E.size ≠ 0 := fun h => gb (.inl h)
        have gF : F.size = 0 := by rcases Nat.eq_zero_or_pos F.size with h | h; exact h; exact absurd (.inr (by omega)) gb
        have HV : Hid (R = (if neg then -((min (val E.data.toList) 9999 : Nat) : Int) else ((min (val E.data.toList) 9999 : Nat) : Int), true)) := by
          show _ = _
          rw [← HR.out, HXX.out, if_neg]
          · rfl
          · rintro (h | h)
            · exact gE (by rw [← size_list, h]; rfl)
            · exact h (List.eq_nil_of_length_eq_zero (by rw [size_list]; exact gF))
        have e2 : E.toList.isEmpty = false := by rw [List.isEmpty_eq_false_iff]; exact fun h => gE (toList_nil.1 h)
        have e4 : F.toList.isEmpty = true := by rw [List.isEmpty_iff]; exact toList_nil.2 gF
        clear HR HXX gb gF
        rcases e1 with e1 | ⟨e1, e3⟩
        all_goals
          go_enter Tryd.func47, Tryd.ntmps47
          go_wp2_with fail
          refine (cC _).mono ?_
          rintro r' w1 ⟨rfl, B1⟩
          go_wp2_with fail
          refine (cD _).mono ?_
          rintro r' w2 ⟨rfl, B2⟩
          have D2 := below_kept B1 (Nat.le_refl _) B2
          clear cC cD B1 B2
          go_wp2
          go_loopw [7] (fun ev wr => ExpRel w E w2.heap.size ev wr) (fun _ wr => E.size - wr.iterPos w2.heap.size)
          case atStart => exact ⟨0, Nat.zero_le _, heap_alloc_new w2 _, rfl, D2.alloc D2.size _⟩
          case round =>
            obtain ⟨pos, hpl, hit, rfl, hbel⟩ := hrel
            have HM := Lib.hid (iterPosR hit)
            have HT := Lib.hid hit
            clear hit
            by_cases hlt : pos < E.size
            · obtain ⟨y, hy⟩ : ∃ y, E[pos] = y := ⟨_, rfl⟩
              have hdy : IsD y := HDE.out y (by rw [← hy]; exact List.getElem_mem (l := E.data.toList) (by rw [hEl]; exact hlt))
              unfold IsD at hdy
              have hnx : ∀ ty, (Instr.next (.pointer (some ⟨w2.heap.size, 0, none⟩)) true ty).run Tryd.prog wr = _ := fun ty => Lib.run_next_ascii_at wr w2.heap.size E pos ty HT.out hlt (by rw [hy]; omega)
              rw [hy] at hnx
              have HK : Hid (E.data.toList.take (pos + 1) = E.data.toList.take pos ++ [y]) := by
                show _ = _
                rw [List.take_succ_eq_append_getElem (by rw [hEl]; exact hlt), at_list E pos hlt, hy]
              obtain ⟨d, hd⟩ : ∃ d : Nat, y.toNat - 48 = d := ⟨_, rfl⟩
              have HN : Hid (val (E.data.toList.take (pos + 1)) = 10 * val (E.data.toList.take pos) + d) := by show _ = _; rw [HK.out, val_snoc]; show _ + (y.toNat - 48) = _; rw [hd]
              have hyi : (y.toNat : Int) - 48 = (d : Int) := by omega
              obtain ⟨V, hV⟩ : ∃ V, val (E.data.toList.take pos) = V := ⟨_, rfl⟩
              obtain ⟨A, hA⟩ : ∃ A : Nat, min V 9999 = A := ⟨_, rfl⟩
              obtain ⟨A2, hA2⟩ : ∃ A2 : Nat, min (10 * V + d) 9999 = A2 := ⟨_, rfl⟩
              rw [hV] at HN
              have hAb : A ≤ 9999 := by omega
              have hmin : min (10 * (A : Int) + (d : Int)) 9999 = (A2 : Int) := by rw [Int.min_def]; split <;> omega
              have v1 := IntWalk.i64_in (10 * (A : Int)) ⟨by omega, by omega⟩
              have v2 := IntWalk.i64_in (10 * (A : Int) + (d : Int)) ⟨by omega, by omega⟩
              have v3 := IntWalk.i64_in (d : Int) ⟨by omega, by omega⟩
              have hit1 : IterR (wr.iterAt w2.heap.size E (pos + 1)) w2.heap.size E (pos + 1) := Lib.iterAt_heap wr _ E pos _ HT.out
              have hbel1 : Below w.heap.size w (wr.iterAt w2.heap.size E (pos + 1)) := Lib.below_iterAt hbel D2.size E _
              have HT1 := Lib.hid hit1
              have HA2 := Lib.hid hA2
              clear hit1 hbel hA2
              rw [hV, hA]
              generalize wr.iterAt w2.heap.size E (pos + 1) = wn at *
              go_wp2
              go_roundw
              case rel => exact ⟨pos + 1, hlt, HT1.out, by rw [HN.out, HA2.out], hbel1⟩
              case measure => rw [iterPosR HT1.out, HM.out]; omega
            · have hnx : ∀ ty, (Instr.next (.pointer (some ⟨w2.heap.size, 0, none⟩)) true ty).run Tryd.prog wr = _ := fun ty => Lib.run_next_end_at wr w2.heap.size E pos ty HT.out hlt
              have HA : Hid (E.data.toList.take pos = E.data.toList) := List.take_of_length_le (by rw [hEl]; omega)
              rw [HA.out]
              cases neg
              · go_wp2
                go_ret2
                exact ⟨by rw [HV.out]; rfl, hbel⟩
              · go_wp2
                go_ret2
                exact ⟨by rw [HV.out]; rfl, hbel⟩
    · have HV : Hid (R = (0, false)) := by show _ = _; rw [← HR.out, HX.out, if_neg g]; rfl
      have e1 : ((x.toNat : Int) != 101) = true := by rw [bne_iff_ne]; omega
      have e2 : ((x.toNat : Int) != 69) = true := by rw [bne_iff_ne]; omega
      clear HR HX g
      go_enter Tryd.func47, Tryd.ntmps47
      go_wp2
      go_ret2
      exact ⟨by rw [HV.out]; rfl, Below.refl _ _⟩

end Go.Proofs.YtpkmhojcccpolaaDoor
