/- impl.cutSign, impl.cutDigits, impl.exponentOf. Condition: at most 1048576 bytes. -/
import Derived.Test.YthijeckcjfnbcaaDoorImplDec5
import Derived.Test.YthijeckcjfnbcaaDoorReadA
import Derived.Shelf.Strings.SlTrimAscii
import Derived.Lib.OthersKept
import Derived.WalkSmall
import Derived.Test.YthijeckcjfnbcaaDoorTailA
namespace Go.Proofs.YthijeckcjfnbcaaDoor
set_option linter.unusedVariables false
open Go.RowKit

theorem consR {s : ByteArray} (h : 0 < s.size) : s.data.toList = s[0] :: s.data.toList.drop 1 := by
  have hl := size_list s
  have := List.drop_eq_getElem_cons (l := s.data.toList) (i := 0) (by omega)
  rw [List.drop_zero] at this
  exact this
theorem dropR (s : ByteArray) : (⟨(s.data.toList.drop 1).toArray⟩ : ByteArray) = s.extract 1 s.size := by rw [← Lib.ext_list s 1]

set_option maxHeartbeats 1000000 in
set_option maxRecDepth 100000 in
theorem implCutR (s : ByteArray) (w : World) (hs : s.size ≤ 1048576) :
    Calls Tryd.prog 22 #[.string s] w fun r w' => r = .returned (.tuple #[.bool (cutR s.data.toList).1, .string ⟨(cutR s.data.toList).2.toArray⟩]) ∧ Below w.heap.size w w' := by
  obtain ⟨R, hR⟩ : ∃ R, cutR s.data.toList = R := ⟨_, rfl⟩
  rw [hR]
  have HR := Lib.hid hR
  clear hR
  by_cases h0 : s.size = 0
  · have hnil : s.toList.isEmpty = true := by rw [List.isEmpty_iff]; exact toList_nil.2 h0
    have HV : Hid (R = (false, s.data.toList)) := by
      show _ = _
      rw [← HR.out, show s.data.toList = [] from List.eq_nil_of_length_eq_zero (by rw [size_list]; exact h0)]
      rfl
    clear h0 HR
    go_enter Tryd.func22, Tryd.ntmps22
    go_wp2
    go_ret2
    exact ⟨by rw [HV.out]; simp, Below.refl _ _⟩
  · have hnil : s.toList.isEmpty = false := by rw [List.isEmpty_eq_false_iff]; exact fun h => h0 (toList_nil.1 h)
    have hp : 0 < s.size := by omega
    obtain ⟨x, hx⟩ : ∃ x, s[0] = x := ⟨_, rfl⟩
    obtain ⟨t, ht⟩ : ∃ t : ByteArray, s.extract 1 s.size = t := ⟨_, rfl⟩
    have hc := consR hp
    rw [hx] at hc
    have c43 : x = 43 ↔ x.toNat = 43 := ⟨fun e => by rw [e]; rfl, fun e => UInt8.toNat_inj.1 (by show x.toNat = 43; exact e)⟩
    have c45 : x = 45 ↔ x.toNat = 45 := ⟨fun e => by rw [e]; rfl, fun e => UInt8.toNat_inj.1 (by show x.toNat = 45; exact e)⟩
    have HV : Hid (R = if x.toNat = 43 ∨ x.toNat = 45 then (decide (x.toNat = 45), s.data.toList.drop 1) else (false, s.data.toList)) := by
      show _ = _
      rw [← HR.out, hc, cutR_cons]
      simp only [c43, c45, List.drop_succ_cons, List.drop_zero]
    have HD := Lib.hid (dropR s)
    have hzi : (1 : Int) ≤ (s.size : Int) := by omega
    have B0 : Below w.heap.size w w.drew := (Below.refl _ _).drew
    clear hc HR c43 c45
    by_cases g1 : x.toNat = 43
    · have HE : Hid (R = (false, s.data.toList.drop 1)) := by show _ = _; rw [HV.out, if_pos (.inl g1), decide_eq_false (by omega)]
      have e1 : ((x.toNat : Int) == 43) = true := by rw [beq_iff_eq]; omega
      have e2 : ((x.toNat : Int) == 45) = false := by rw [beq_eq_false_iff_ne]; omega
      clear HV g1
      go_enter Tryd.func22, Tryd.ntmps22
      go_wp2_with fail
      refine wp_region_kept_all (fun w' => Below w.heap.size w w') (by kernel_rfl) (by kernel_rfl) (fun _ _ d _ _ h => by cases d <;> exact h) B0 ?_
      iterate 7 (refine kept_step (fun K hK => ?_); go_simp; refine ⟨_, fun W hW => .inl (by go_simp; exact rfl), hK _ ?_⟩; clear hK K)
      refine kept_nil ?_
      intro W hW
      go_wp2
      go_ret2
      exact ⟨by rw [HE.out]; show _ = Ending.returned (.tuple #[.bool false, .string ⟨(s.data.toList.drop 1).toArray⟩]); rw [HD.out, ht]; rfl, hW⟩
    · by_cases g2 : x.toNat = 45
      · have HE : Hid (R = (true, s.data.toList.drop 1)) := by show _ = _; rw [HV.out, if_pos (.inr g2), decide_eq_true g2]
        have e1 : ((x.toNat : Int) == 43) = false := by rw [beq_eq_false_iff_ne]; omega
        have e2 : ((x.toNat : Int) == 45) = true := by rw [beq_iff_eq]; omega
        clear HV g1 g2
        go_enter Tryd.func22, Tryd.ntmps22
        go_wp2_with fail
        refine wp_region_kept_all (fun w' => Below w.heap.size w w') (by kernel_rfl) (by kernel_rfl) (fun _ _ d _ _ h => by cases d <;> exact h) B0 ?_
        iterate 7 (refine kept_step (fun K hK => ?_); go_simp; refine ⟨_, fun W hW => .inl (by go_simp; exact rfl), hK _ ?_⟩; clear hK K)
        refine kept_nil ?_
        intro W hW
        go_wp2
        go_ret2
        exact ⟨by rw [HE.out]; show _ = Ending.returned (.tuple #[.bool true, .string ⟨(s.data.toList.drop 1).toArray⟩]); rw [HD.out, ht]; rfl, hW⟩
      · have HE : Hid (R = (false, s.data.toList)) := by show _ = _; rw [HV.out, if_neg (by omega)]
        have e1 : ((x.toNat : Int) == 43) = false := by rw [beq_eq_false_iff_ne]; omega
        have e2 : ((x.toNat : Int) == 45) = false := by rw [beq_eq_false_iff_ne]; omega
        clear HV g1 g2
        go_enter Tryd.func22, Tryd.ntmps22
        go_wp2
        go_ret2
        exact ⟨by rw [HE.out]; simp, Below.refl _ _⟩

theorem cTrimSet (s : ByteArray) (w : World) : Calls Tryd.prog 40 #[.string s, .string ⟨#[48, 49, 50, 51, 52, 53, 54, 55, 56, 57]⟩] w fun r w' => r = .returned (.string ⟨(dW s.data.toList).toArray⟩) ∧ Below w.heap.size w w' := by
  have := Any.strings_TrimLeft_laid Tryd.lays161 (by kernel_rfl) s ⟨#[48, 49, 50, 51, 52, 53, 54, 55, 56, 57]⟩ w (by decide) (ascii_of_all (by decide))
  have e : Lib.trimLeftS s.data.toList [48, 49, 50, 51, 52, 53, 54, 55, 56, 57] = dW s.data.toList := by
    unfold Lib.trimLeftS dW
    congr 1
    funext b
    exact digSet b
  have h2 : Lib.trimLeftS s.data.toList (⟨#[48, 49, 50, 51, 52, 53, 54, 55, 56, 57]⟩ : ByteArray).data.toList = dW s.data.toList := e
  rw [h2] at this
  exact this

set_option maxHeartbeats 1000000 in
set_option maxRecDepth 100000 in
theorem implCutDigits (s : ByteArray) (w : World) (hs : s.size ≤ 1048576) :
    Calls Tryd.prog 23 #[.string s] w fun r w' => r = .returned (.tuple #[.string ⟨(tW s.data.toList).toArray⟩, .string ⟨(dW s.data.toList).toArray⟩]) ∧ Below w.heap.size w w' := by
  have cT := fun W => cTrimSet s W
  have hl := len_tW s.data.toList
  rw [size_list] at hl
  obtain ⟨t, ht⟩ : ∃ t : ByteArray, ⟨(dW s.data.toList).toArray⟩ = t := ⟨_, rfl⟩
  have lt : t.data.toList = dW s.data.toList := by rw [← ht]
  have zt : t.size = (dW s.data.toList).length := by rw [← size_list, lt]
  obtain ⟨k, hk⟩ : ∃ k, (tW s.data.toList).length = k := ⟨_, rfl⟩
  have HX : Hid ((⟨(tW s.data.toList).toArray⟩ : ByteArray) = s.extract 0 k) := by
    show _ = _
    have e : (s.extract 0 k).data.toList = tW s.data.toList := by
      rw [ByteArray.data_extract, Array.toList_extract]
      simp only [List.extract_eq_take_drop, List.drop_zero, Nat.sub_zero]
      have := congrArg (List.take k) (tdW s.data.toList)
      rw [← hk, List.take_left] at this
      rw [← hk]; exact this.symm
    rw [← e]
  rw [ht] at cT ⊢
  rw [HX.out]
  have hki : (s.size : Int) - (t.size : Int) = (k : Int) := by omega
  have hks : k ≤ s.size := by omega
  have hksi : (k : Int) ≤ (s.size : Int) := by omega
  clear ht lt hl hk HX zt
  go_enter Tryd.func23, Tryd.ntmps23
  go_wp2_with fail
  refine (cT _).mono ?_
  rintro r w1 ⟨rfl, B1⟩
  clear cT
  go_wp2
  go_ret2
  exact ⟨rfl, B1⟩

/-- What exponentOf answers. -/
def expA (o : Option Int) : Int × Bool := match o with
  | some x => (x, true)
  | none => (0, false)

end Go.Proofs.YthijeckcjfnbcaaDoor

/- impl.exponentOf. Condition: at most 1048576 bytes. -/
namespace Go.Proofs.YthijeckcjfnbcaaDoor
set_option linter.unusedVariables false
open Go.RowKit

def IterR (w : World) (K : Nat) (s : ByteArray) (pos : Nat) : Prop := w.heap[K]? = some (.stringIter s pos)
theorem iterPosR {w : World} {K : Nat} {s : ByteArray} {pos : Nat} (h : IterR w K s pos) : w.iterPos K = pos := by unfold IterR at h; simp [World.iterPos, h]

def ExpRel (w : World) (E : ByteArray) (K : Nat) (ev : Value) (wr : World) : Prop :=
  ∃ pos : Nat, pos ≤ E.size ∧ IterR wr K E pos ∧ ev = .int .i64 ((min (val (E.data.toList.take pos)) 9999 : Nat) : Int) ∧ Below w.heap.size w wr

set_option maxHeartbeats 2000000 in
set_option maxRecDepth 100000 in
theorem implExponent (s : ByteArray) (w : World) (hs : s.size ≤ 1000) :
    Calls Tryd.prog 25 #[.string s] w fun r w' => r = .returned (.tuple #[.int .i64 (expA (expOf s.data.toList)).1, .bool (expA (expOf s.data.toList)).2]) ∧ Below w.heap.size w w' := by
  obtain ⟨R, hR⟩ : ∃ R, expA (expOf s.data.toList) = R := ⟨_, rfl⟩
  rw [hR]
  have HR := Lib.hid hR
  clear hR
  by_cases h0 : s.size = 0
  · have hnil : s.toList.isEmpty = true := by rw [List.isEmpty_iff]; exact toList_nil.2 h0
    have HV : Hid (R = (0, true)) := by
      show _ = _
      rw [← HR.out, show s.data.toList = [] from List.eq_nil_of_length_eq_zero (by rw [size_list]; exact h0)]
      rfl
    clear h0 HR
    go_enter Tryd.func25, Tryd.ntmps25
    go_wp2
    go_ret2
    exact ⟨by rw [HV.out]; rfl, Below.refl _ _⟩
  · have hnil : s.toList.isEmpty = false := by rw [List.isEmpty_eq_false_iff]; exact fun h => h0 (toList_nil.1 h)
    have hp : 0 < s.size := by omega
    obtain ⟨x, hx⟩ : ∃ x, s[0] = x := ⟨_, rfl⟩
    obtain ⟨t, ht⟩ : ∃ t : ByteArray, s.extract 1 s.size = t := ⟨_, rfl⟩
    have hc := consR hp
    rw [hx] at hc
    have lt : t.data.toList = s.data.toList.drop 1 := by rw [← ht]; exact Lib.ext_list s 1
    have zt : t.size ≤ 1000 := by rw [← size_list, lt, List.length_drop, size_list]; omega
    have cE : x = 101 ↔ x.toNat = 101 := ⟨fun e => by rw [e]; rfl, fun e => UInt8.toNat_inj.1 (by show x.toNat = 101; exact e)⟩
    have ce : x = 69 ↔ x.toNat = 69 := ⟨fun e => by rw [e]; rfl, fun e => UInt8.toNat_inj.1 (by show x.toNat = 69; exact e)⟩
    have hzi : (1 : Int) ≤ (s.size : Int) := by omega
    have HX : Hid (expOf s.data.toList = if x.toNat = 101 ∨ x.toNat = 69 then (if tW (cutR t.data.toList).2 = [] ∨ dW (cutR t.data.toList).2 ≠ [] then none else some (if (cutR t.data.toList).1 then -((min (val (tW (cutR t.data.toList).2)) 9999 : Nat) : Int) else ((min (val (tW (cutR t.data.toList).2)) 9999 : Nat) : Int))) else none) := by
      show _ = _
      rw [hc, expOf_cons, lt]
      simp only [cE, ce]
    clear hc lt cE ce
    by_cases g : x.toNat = 101 ∨ x.toNat = 69
    · have cC := fun W => implCutR t W (by omega)
      obtain ⟨⟨neg, r⟩, hr⟩ : ∃ p, cutR t.data.toList = p := ⟨_, rfl⟩
      have zr := cutR_len t.data.toList
      rw [hr] at cC HX zr
      dsimp only at cC HX zr
      rw [size_list] at zr
      have cD := fun W => implCutDigits ⟨r.toArray⟩ W (by show r.length ≤ _; omega)
      change ∀ W, Calls _ _ _ W fun q w' => q = .returned (.tuple #[.string ⟨(tW r).toArray⟩, .string ⟨(dW r).toArray⟩]) ∧ Below W.heap.size W w' at cD
      have zE := len_tW r
      have hdE := tW_digs r
      obtain ⟨E, hE⟩ : ∃ E : ByteArray, ⟨(tW r).toArray⟩ = E := ⟨_, rfl⟩
      obtain ⟨F, hF⟩ : ∃ F : ByteArray, ⟨(dW r).toArray⟩ = F := ⟨_, rfl⟩
      obtain ⟨q, hq⟩ : ∃ q : ByteArray, ⟨r.toArray⟩ = q := ⟨_, rfl⟩
      have lE : E.data.toList = tW r := by rw [← hE]
      have lF : F.data.toList = dW r := by rw [← hF]
      rw [hE, hF, hq] at cD
      rw [hq] at cC
      rw [← lE, ← lF] at HX
      rw [← lE] at hdE zE
      have hEl := size_list E
      rw [hEl] at zE
      have HXX : Hid (expOf s.data.toList = if E.data.toList = [] ∨ F.data.toList ≠ [] then none else some (if neg then -((min (val E.data.toList) 9999 : Nat) : Int) else ((min (val E.data.toList) 9999 : Nat) : Int))) := by show _ = _; rw [HX.out, if_pos g]
      have e1 : ((x.toNat : Int) != 101) = false ∨ (((x.toNat : Int) != 101) = true ∧ ((x.toNat : Int) != 69) = false) := by
        rcases g with g | g
        · exact .inl (by rw [bne_eq_false_iff_eq]; omega)
        · exact .inr ⟨by rw [bne_iff_ne]; omega, by rw [bne_eq_false_iff_eq]; omega⟩
      have HDE := Lib.hid hdE
      clear HX g hE hF hq lE lF hr hdE
      by_cases gb : E.size = 0 ∨ F.size ≠ 0
      · have HV : Hid (R = (0, false)) := by
          show _ = _
          rw [← HR.out, HXX.out, if_pos]
          · rfl
          · rcases gb with gb | gb
            · exact .inl (List.eq_nil_of_length_eq_zero (by rw [size_list]; exact gb))
            · exact .inr (fun h => gb (by rw [← size_list, h]; rfl))
        have e2 : E.toList.isEmpty = true ∨ (E.toList.isEmpty = false ∧ F.toList.isEmpty = false) := by
          by_cases g0 : E.size = 0
          · exact .inl (by rw [List.isEmpty_iff]; exact toList_nil.2 g0)
          · refine .inr ⟨by rw [List.isEmpty_eq_false_iff]; exact fun h => g0 (toList_nil.1 h), ?_⟩
            rw [List.isEmpty_eq_false_iff]
            intro h
            rcases gb with gb | gb
            · exact g0 gb
            · exact gb (toList_nil.1 h)
        clear HR HXX gb
        rcases e1 with e1 | ⟨e1, e3⟩
        all_goals
          rcases e2 with e2 | ⟨e2, e4⟩
          all_goals
            go_enter Tryd.func25, Tryd.ntmps25
            go_wp2_with fail
            refine (cC _).mono ?_
            rintro r' w1 ⟨rfl, B1⟩
            go_wp2_with fail
            refine (cD _).mono ?_
            rintro r' w2 ⟨rfl, B2⟩
            have D2 := below_kept B1 (Nat.le_refl _) B2
            clear cC cD B1 B2
            go_wp2
            go_ret2
            exact ⟨by rw [HV.out]; rfl, D2⟩
      · have gE : E.size ≠ 0 := fun h => gb (.inl h)
        have gF : F.size = 0 := by rcases Nat.eq_zero_or_pos F.size with h | h; exact h; exact absurd (.inr (by omega)) gb
        have HV : Hid (R = (if neg then -((min (val E.data.toList) 9999 : Nat) : Int) else ((min (val E.data.toList) 9999 : Nat) : Int), true)) := by
          show _ = _
          rw [← HR.out, HXX.out, if_neg]
          · rfl
          · rintro (h | h)
            · exact gE (by rw [← size_list, h]; rfl)
            · exact h (List.eq_nil_of_length_eq_zero (by rw [size_list]; exact gF))
        have e2 : E.toList.isEmpty = false := by rw [List.isEmpty_eq_false_iff]; exact fun h => gE (toList_nil.1 h)
        have e4 : F.toList.isEmpty = true := by rw [List.isEmpty_iff]; exact toList_nil.2 gF
        clear HR HXX gb gF
        rcases e1 with e1 | ⟨e1, e3⟩
        all_goals
          go_enter Tryd.func25, Tryd.ntmps25
          go_wp2_with fail
          refine (cC _).mono ?_
          rintro r' w1 ⟨rfl, B1⟩
          go_wp2_with fail
          refine (cD _).mono ?_
          rintro r' w2 ⟨rfl, B2⟩
          have D2 := below_kept B1 (Nat.le_refl _) B2
          clear cC cD B1 B2
          go_wp2
          go_loopw [7] (fun ev wr => ExpRel w E w2.heap.size ev wr) (fun _ wr => E.size - wr.iterPos w2.heap.size)
          case atStart => exact ⟨0, Nat.zero_le _, heap_alloc_new w2 _, rfl, D2.alloc D2.size _⟩
          case round =>
            obtain ⟨pos, hpl, hit, rfl, hbel⟩ := hrel
            have HM := Lib.hid (iterPosR hit)
            have HT := Lib.hid hit
            clear hit
            by_cases hlt : pos < E.size
            · obtain ⟨y, hy⟩ : ∃ y, E[pos] = y := ⟨_, rfl⟩
              have hdy : IsD y := HDE.out y (by rw [← hy]; exact List.getElem_mem (l := E.data.toList) (by rw [hEl]; exact hlt))
              unfold IsD at hdy
              have hnx : ∀ ty, (Instr.next (.pointer (some ⟨w2.heap.size, 0, none⟩)) true ty).run Tryd.prog wr = _ := fun ty => Lib.run_next_ascii_at wr w2.heap.size E pos ty HT.out hlt (by rw [hy]; omega)
              rw [hy] at hnx
              have HK : Hid (E.data.toList.take (pos + 1) = E.data.toList.take pos ++ [y]) := by
                show _ = _
                rw [List.take_succ_eq_append_getElem (by rw [hEl]; exact hlt), at_list E pos hlt, hy]
              obtain ⟨d, hd⟩ : ∃ d : Nat, y.toNat - 48 = d := ⟨_, rfl⟩
              have HN : Hid (val (E.data.toList.take (pos + 1)) = 10 * val (E.data.toList.take pos) + d) := by show _ = _; rw [HK.out, val_snoc]; show _ + (y.toNat - 48) = _; rw [hd]
              have hyi : (y.toNat : Int) - 48 = (d : Int) := by omega
              obtain ⟨V, hV⟩ : ∃ V, val (E.data.toList.take pos) = V := ⟨_, rfl⟩
              obtain ⟨A, hA⟩ : ∃ A : Nat, min V 9999 = A := ⟨_, rfl⟩
              obtain ⟨A2, hA2⟩ : ∃ A2 : Nat, min (10 * V + d) 9999 = A2 := ⟨_, rfl⟩
              rw [hV] at HN
              have hAb : A ≤ 9999 := by omega
              have hmin : min (10 * (A : Int) + (d : Int)) 9999 = (A2 : Int) := by rw [Int.min_def]; split <;> omega
              have v1 := IntWalk.i64_in (10 * (A : Int)) ⟨by omega, by omega⟩
              have v2 := IntWalk.i64_in (10 * (A : Int) + (d : Int)) ⟨by omega, by omega⟩
              have v3 := IntWalk.i64_in (d : Int) ⟨by omega, by omega⟩
              have hit1 : IterR (wr.iterAt w2.heap.size E (pos + 1)) w2.heap.size E (pos + 1) := Lib.iterAt_heap wr _ E pos _ HT.out
              have hbel1 : Below w.heap.size w (wr.iterAt w2.heap.size E (pos + 1)) := Lib.below_iterAt hbel D2.size E _
              have HT1 := Lib.hid hit1
              have HA2 := Lib.hid hA2
              clear hit1 hbel hA2
              rw [hV, hA]
              generalize wr.iterAt w2.heap.size E (pos + 1) = wn at *
              go_wp2
              go_roundw
              case rel => exact ⟨pos + 1, hlt, HT1.out, by rw [HN.out, HA2.out], hbel1⟩
              case measure => rw [iterPosR HT1.out, HM.out]; omega
            · have hnx : ∀ ty, (Instr.next (.pointer (some ⟨w2.heap.size, 0, none⟩)) true ty).run Tryd.prog wr = _ := fun ty => Lib.run_next_end_at wr w2.heap.size E pos ty HT.out hlt
              have HA : Hid (E.data.toList.take pos = E.data.toList) := List.take_of_length_le (by rw [hEl]; omega)
              rw [HA.out]
              cases neg
              · go_wp2
                go_ret2
                exact ⟨by rw [HV.out]; rfl, hbel⟩
              · go_wp2
                go_ret2
                exact ⟨by rw [HV.out]; rfl, hbel⟩
    · have HV : Hid (R = (0, false)) := by show _ = _; rw [← HR.out, HX.out, if_neg g]; rfl
      have e1 : ((x.toNat : Int) != 101) = true := by rw [bne_iff_ne]; omega
      have e2 : ((x.toNat : Int) != 69) = true := by rw [bne_iff_ne]; omega
      clear HR HX g
      go_enter Tryd.func25, Tryd.ntmps25
      go_wp2
      go_ret2
      exact ⟨by rw [HV.out]; rfl, Below.refl _ _⟩

end Go.Proofs.YthijeckcjfnbcaaDoor

/- impl.DecRead. Condition: at most 1048576 bytes. -/
namespace Go.Proofs.YthijeckcjfnbcaaDoor
set_option linter.unusedVariables false
open Go.RowKit

theorem heldK {w0 w w' : World} {a : Nat} {n : Bool} {s : ByteArray} {e : Int} (h : DecAt w a n s e ∧ Below w0.heap.size w0 w) (hb : Below w.heap.size w w') : DecAt w' a n s e ∧ Below w0.heap.size w0 w' := ⟨h.1.belowS hb, below_kept h.2 (Nat.le_refl _) hb⟩
theorem results_dcR {fn : Func} {p u : Tmp} (h : fn.results = #[.cell p 25, .tmp u]) (tmps : Array Value) (w : World) {g : Nat} {n : Bool} {s : ByteArray} {e : Int} {x : Value}
    (hp : tmps.getD p undef = .pointer (some ⟨g, 0, none⟩)) (hu : tmps.getD u undef = x) (hg : DecAt w g n s e) : (results fn tmps).run Tryd.prog w = .ok (.tuple #[.agg (row3 n s e), x]) w := by
  have hl := run_loadVar_row (P := Tryd.prog) w g 25 25 (row3 n s e) (0, 0) _ hg Tryd.underlying25 rfl Tryd.sizeDec
  rw [results_cell_tmp h, hp, hu]
  simp [asAddr, Result.andThen, hl]
theorem isE (l : List UInt8) : (⟨l.toArray⟩ : ByteArray).size = l.length := rfl
theorem empty_iff {b : ByteArray} : b.toList.isEmpty = decide (b.size = 0) := by
  by_cases h : b.size = 0
  · rw [decide_eq_true h, List.isEmpty_iff]; exact toList_nil.2 h
  · rw [decide_eq_false h, List.isEmpty_eq_false_iff]; exact fun g => h (toList_nil.1 g)
theorem nil_of {b : ByteArray} : b.data.toList = [] ↔ b.size = 0 := by rw [← size_list]; exact List.length_eq_zero_iff.symm

set_option maxHeartbeats 4000000 in
set_option maxRecDepth 100000 in
theorem implDecRead (s : ByteArray) (w : World) (hs : s.size ≤ 1048576) :
    Calls Tryd.prog 10 #[.string s] w (AnsDC (readR s.data.toList) w) := by
  obtain ⟨R, hR⟩ : ∃ R, readR s.data.toList = R := ⟨_, rfl⟩
  rw [hR]
  unfold readR at hR
  rw [size_list] at hR
  have HR := Lib.hid hR
  clear hR
  have Lw : DecAt (w.alloc (.cells #[.bool false, .string ⟨#[]⟩, .int .i64 0] 25)) w.heap.size false ⟨#[]⟩ 0 ∧ Below w.heap.size w (w.alloc (.cells #[.bool false, .string ⟨#[]⟩, .int .i64 0] 25)) := ⟨DecAt.new w false ⟨#[]⟩ 0, (Below.refl _ _).alloc (Nat.le_refl _) _⟩
  by_cases hlen : 1000 < s.size
  · have HV : Hid (R = (DecV.zero, 3)) := by show _ = _; rw [← HR.out, if_pos hlen]
    have hli : (1000 : Int) < (s.size : Int) := by omega
    clear HR
    go_enter Tryd.func10, Tryd.ntmps10
    go_wp2_with (with_reducible show wpList _ _ _ (⟨_, .store _ _ _, _, _, _, _⟩ :: _) _ _; refine store_dec w.heap.size rfl rfl Lw.1 ?_)
    refine bodyPost_ret (results_dcR rfl _ _ rfl rfl Lw.1.row) rfl ⟨?_, below_row3 Lw.2 (Nat.le_refl _) _⟩
    rw [HV.out]; rfl
  · have hli : ¬ (1000 : Int) < (s.size : Int) := by omega
    have cC := fun W => implCutR s W (by omega)
    obtain ⟨⟨neg, r0⟩, h0⟩ : ∃ p, cutR s.data.toList = p := ⟨_, rfl⟩
    have z0 := cutR_len s.data.toList
    rw [h0, size_list] at z0
    have HR1 : Hid (R = readX (expOf (frac (dW r0)).2) neg (tW r0) (frac (dW r0)).1) := by
      show _ = _
      rw [← HR.out, if_neg hlen, h0]
    rw [h0] at cC
    dsimp only at cC z0
    obtain ⟨q0, hq0⟩ : ∃ q : ByteArray, ⟨r0.toArray⟩ = q := ⟨_, rfl⟩
    have l0 : q0.data.toList = r0 := by rw [← hq0]
    have s0 : q0.size ≤ 1000 := by rw [← size_list, l0]; omega
    rw [hq0] at cC
    have cD := fun W => implCutDigits q0 W (by omega)
    rw [l0] at cD
    have zW := len_tW r0
    have hdW0 := tW_digs r0
    obtain ⟨Wb, hWb⟩ : ∃ q : ByteArray, ⟨(tW r0).toArray⟩ = q := ⟨_, rfl⟩
    obtain ⟨q1, hq1⟩ : ∃ q : ByteArray, ⟨(dW r0).toArray⟩ = q := ⟨_, rfl⟩
    have lW : Wb.data.toList = tW r0 := by rw [← hWb]
    have l1 : q1.data.toList = dW r0 := by rw [← hq1]
    rw [hWb, hq1] at cD
    have hdW : Digs Wb.data.toList := by rw [lW]; exact hdW0
    have sW : Wb.size + q1.size = q0.size := by rw [← size_list, ← size_list q1, ← size_list q0, lW, l1, l0]; exact zW
    obtain ⟨r1, hr1⟩ : ∃ r, dW r0 = r := ⟨_, rfl⟩
    rw [hr1] at HR1 l1
    rw [← lW] at HR1
    have cP := fun W => (Tryd.strings_CutPrefix q1 ⟨#[46]⟩ W).mono (fun e w' (h : _ ∧ _) => (⟨h.1, by rw [h.2]; exact Below.refl _ _⟩ : _ ∧ Below W.heap.size W w'))
    rw [l1] at cP
    clear HR h0 hq0 l0 zW hdW0 hWb hq1 lW hr1
    by_cases hdot : ∃ t, r1 = 46 :: t
    · obtain ⟨t, rfl⟩ := hdot
      have e1 : Lib.hasPrefix (46 :: t) [46] = true := by simp [Lib.hasPrefix, List.isPrefixOf]
      have e2 : Lib.trimPrefix (46 :: t) [46] = t := by unfold Lib.trimPrefix; rw [if_pos e1]; rfl
      change ∀ W, Calls _ _ _ W fun e w' => e = .returned (.tuple #[.string ⟨(Lib.trimPrefix (46 :: t) [46]).toArray⟩, .bool (Lib.hasPrefix (46 :: t) [46])]) ∧ Below W.heap.size W w' at cP
      rw [e1, e2] at cP
      have efr : frac (46 :: t) = (tW t, dW t) := by rw [frac_cons, if_pos rfl]
      rw [efr] at HR1
      dsimp only at HR1
      have st : t.length + 1 = q1.size := by rw [← size_list, l1]; rfl
      obtain ⟨qt, hqt⟩ : ∃ q : ByteArray, ⟨t.toArray⟩ = q := ⟨_, rfl⟩
      have lt : qt.data.toList = t := by rw [← hqt]
      have sqt : qt.size = t.length := by rw [← size_list, lt]
      rw [hqt] at cP
      have cD2 := fun W => implCutDigits qt W (by omega)
      rw [lt] at cD2
      have zF := len_tW t
      have hdF0 := tW_digs t
      obtain ⟨Fb, hFb⟩ : ∃ q : ByteArray, ⟨(tW t).toArray⟩ = q := ⟨_, rfl⟩
      obtain ⟨q2, hq2⟩ : ∃ q : ByteArray, ⟨(dW t).toArray⟩ = q := ⟨_, rfl⟩
      have lF : Fb.data.toList = tW t := by rw [← hFb]
      have l2 : q2.data.toList = dW t := by rw [← hq2]
      rw [hFb, hq2] at cD2
      have hdF : Digs Fb.data.toList := by rw [lF]; exact hdF0
      have sF : Fb.size + q2.size = qt.size := by rw [← size_list, ← size_list q2, ← size_list qt, lF, l2, lt]; exact zF
      obtain ⟨r2, hr2⟩ : ∃ r, dW t = r := ⟨_, rfl⟩
      rw [hr2] at HR1 l2
      rw [← lF] at HR1
      have HR2 := HR1
      clear HR1 e1 e2 efr hqt lt zF hdF0 hFb hq2 lF hr2 l1
      go_enter Tryd.func10, Tryd.ntmps10
      go_wp2_with fail
      refine (cC _).mono ?_
      rintro r wa ⟨rfl, B⟩
      have Lwa := heldK Lw B
      clear B Lw cC
      go_wp2_with fail
      refine (cD _).mono ?_
      rintro r wb ⟨rfl, B⟩
      have Lwb := heldK Lwa B
      clear B Lwa cD
      go_wp2_with fail
      refine (cP _).mono ?_
      rintro r wc ⟨rfl, B⟩
      have Lwc := heldK Lwb B
      clear B Lwb cP
      go_wp2_with fail
      refine (cD2 _).mono ?_
      rintro r wd ⟨rfl, B⟩
      have Lwd := heldK Lwc B
      clear B Lwc cD2
      have cX := fun W => implExponent q2 W (by omega)
      rw [l2] at cX
      cases hx : expOf r2 with
      | none =>
        rw [hx] at cX
        change ∀ W, Calls _ _ _ W fun q w' => q = .returned (.tuple #[.int .i64 0, .bool false]) ∧ Below W.heap.size W w' at cX
        have HV : Hid (R = (DecV.zero, 3)) := by show _ = _; rw [HR2.out, hx, readX_none]
        clear HR2 hx
        go_wp2_with fail
        refine (cX _).mono ?_
        rintro r wx ⟨rfl, B⟩
        have Lwx := heldK Lwd B
        clear B Lwd cX
        go_wp2_with (with_reducible show wpList _ _ _ (⟨_, .store _ _ _, _, _, _, _⟩ :: _) _ _; refine store_dec w.heap.size rfl rfl Lwx.1 ?_)
        refine bodyPost_ret (results_dcR rfl _ _ rfl rfl Lwx.1.row) rfl ⟨?_, below_row3 Lwx.2 (Nat.le_refl _) _⟩
        rw [HV.out]; rfl
      | some x =>
        rw [hx] at cX
        change ∀ W, Calls _ _ _ W fun q w' => q = .returned (.tuple #[.int .i64 x, .bool true]) ∧ Below W.heap.size W w' at cX
        have hxb := exp_bound hx
        by_cases hz : Wb.size = 0 ∧ Fb.size = 0
        · have HV : Hid (R = (DecV.zero, 3)) := by show _ = _; rw [HR2.out, hx, readX_some]; rw [if_pos ⟨nil_of.2 hz.1, nil_of.2 hz.2⟩]
          have z1 : Wb.toList.isEmpty = true := by rw [empty_iff]; exact decide_eq_true hz.1
          have z2 : Fb.toList.isEmpty = true := by rw [empty_iff]; exact decide_eq_true hz.2
          clear HR2 hx hz
          go_wp2_with fail
          refine (cX _).mono ?_
          rintro r wx ⟨rfl, B⟩
          have Lwx := heldK Lwd B
          clear B Lwd cX
          go_wp2_with (with_reducible show wpList _ _ _ (⟨_, .store _ _ _, _, _, _, _⟩ :: _) _ _; refine store_dec w.heap.size rfl rfl Lwx.1 ?_)
          refine bodyPost_ret (results_dcR rfl _ _ rfl rfl Lwx.1.row) rfl ⟨?_, below_row3 Lwx.2 (Nat.le_refl _) _⟩
          rw [HV.out]; rfl
        · obtain ⟨u, hu⟩ : ∃ u : ByteArray, Wb ++ Fb = u := ⟨_, rfl⟩
          have lu : u.data.toList = Wb.data.toList ++ Fb.data.toList := by rw [← hu, ByteArray.data_append, Array.toList_append]
          have HV : Hid (R = formOf neg (nv u) (x - (Fb.size : Int))) := by
            show _ = _
            rw [HR2.out, hx, readX_some]
            rw [if_neg (fun g => hz ⟨nil_of.1 g.1, nil_of.1 g.2⟩)]
            unfold nv
            rw [lu, size_list]
          have hdu : Digs u.data.toList := by rw [lu]; exact hdW.append hdF
          have zu : u.size ≤ 1500 := by rw [← hu, ByteArray.size_append]; omega
          have z1 : Wb.toList.isEmpty = true ∧ Fb.toList.isEmpty = false ∨ Wb.toList.isEmpty = false := by
            rw [empty_iff, empty_iff]
            by_cases g : Wb.size = 0
            · exact .inl ⟨decide_eq_true g, decide_eq_false (fun g2 => hz ⟨g, g2⟩)⟩
            · exact .inr (decide_eq_false g)
          clear HR2 hx hz lu
          rcases z1 with ⟨z1, z2⟩ | z1
          all_goals
            go_wp2_with fail
            refine (cX _).mono ?_
            rintro r wx ⟨rfl, B⟩
            have Lwx := heldK Lwd B
            clear B Lwd cX
            have cF := fun W => implNorm neg u (x - (Fb.size : Int)) W (by omega) hdu (by omega) (by omega)
            rw [← HV.out] at cF
            obtain ⟨⟨rn, rd, re⟩, rc⟩ := R
            unfold AnsDC at cF
            dsimp only at cF
            obtain ⟨rs, hrs⟩ : ∃ rs : ByteArray, ⟨rd.toArray⟩ = rs := ⟨_, rfl⟩
            rw [hrs] at cF
            clear HV
            have hmx : Wb.size + Fb.size ≤ 9223372036854775807 := by omega
            have i1 := IntWalk.i64_in (x - (Fb.size : Int)) ⟨by omega, by omega⟩
            go_wp2_with fail
            refine (cF _).mono ?_
            rintro r wz ⟨rfl, B⟩
            have Lz := heldK Lwx B
            clear B cF
            go_wp2_with (with_reducible show wpList _ _ _ (⟨_, .store _ _ _, _, _, _, _⟩ :: _) _ _; refine store_dec w.heap.size rfl rfl Lz.1 ?_)
            refine bodyPost_ret (results_dcR rfl _ _ rfl rfl Lz.1.row) rfl ⟨?_, below_row3 Lz.2 (Nat.le_refl _) _⟩
            subst hrs
            rfl
    · have e1 : Lib.hasPrefix r1 [46] = false := by
        cases r1 with
        | nil => rfl
        | cons c t =>
          have hc : c ≠ 46 := fun h => hdot ⟨t, by rw [h]⟩
          simp [Lib.hasPrefix, List.isPrefixOf, Ne.symm hc]
      have e2 : Lib.trimPrefix r1 [46] = r1 := by unfold Lib.trimPrefix; rw [if_neg (by rw [e1]; simp)]
      change ∀ W, Calls _ _ _ W fun e w' => e = .returned (.tuple #[.string ⟨(Lib.trimPrefix r1 [46]).toArray⟩, .bool (Lib.hasPrefix r1 [46])]) ∧ Below W.heap.size W w' at cP
      rw [e1, e2] at cP
      have efr : frac r1 = ([], r1) := by
        cases r1 with
        | nil => rfl
        | cons c t => rw [frac_cons, if_neg (fun h => hdot ⟨t, by rw [h]⟩)]
      rw [efr] at HR1
      dsimp only at HR1
      obtain ⟨q5, hq5⟩ : ∃ q : ByteArray, ⟨r1.toArray⟩ = q := ⟨_, rfl⟩
      rw [hq5] at cP
      obtain ⟨r2, hr2⟩ : ∃ r, r1 = r := ⟨_, rfl⟩
      rw [hr2] at HR1
      obtain ⟨q2, hq2⟩ : ∃ q, q1 = q := ⟨_, rfl⟩
      have l2 : q2.data.toList = r2 := by rw [← hq2, ← hr2]; exact l1
      have HR2 := HR1
      subst hq2
      clear HR1 e1 e2 efr hr2 l1 hdot
      go_enter Tryd.func10, Tryd.ntmps10
      go_wp2_with fail
      refine (cC _).mono ?_
      rintro r wa ⟨rfl, B⟩
      have Lwa := heldK Lw B
      clear B Lw cC
      go_wp2_with fail
      refine (cD _).mono ?_
      rintro r wb ⟨rfl, B⟩
      have Lwb := heldK Lwa B
      clear B Lwa cD
      go_wp2_with fail
      refine (cP _).mono ?_
      rintro r wc ⟨rfl, B⟩
      have Lwc := heldK Lwb B
      clear B Lwb cP
      have cX := fun W => implExponent q1 W (by omega)
      rw [l2] at cX
      cases hx : expOf r2 with
      | none =>
        rw [hx] at cX
        change ∀ W, Calls _ _ _ W fun q w' => q = .returned (.tuple #[.int .i64 0, .bool false]) ∧ Below W.heap.size W w' at cX
        have HV : Hid (R = (DecV.zero, 3)) := by show _ = _; rw [HR2.out, hx, readX_none]
        clear HR2 hx
        go_wp2_with fail
        refine (cX _).mono ?_
        rintro r wx ⟨rfl, B⟩
        have Lwx := heldK Lwc B
        clear B Lwc cX
        go_wp2_with (with_reducible show wpList _ _ _ (⟨_, .store _ _ _, _, _, _, _⟩ :: _) _ _; refine store_dec w.heap.size rfl rfl Lwx.1 ?_)
        refine bodyPost_ret (results_dcR rfl _ _ rfl rfl Lwx.1.row) rfl ⟨?_, below_row3 Lwx.2 (Nat.le_refl _) _⟩
        rw [HV.out]; rfl
      | some x =>
        rw [hx] at cX
        change ∀ W, Calls _ _ _ W fun q w' => q = .returned (.tuple #[.int .i64 x, .bool true]) ∧ Below W.heap.size W w' at cX
        have hxb := exp_bound hx
        by_cases hz : Wb.size = 0
        · have HV : Hid (R = (DecV.zero, 3)) := by show _ = _; rw [HR2.out, hx, readX_some]; rw [if_pos ⟨nil_of.2 hz, rfl⟩]
          have z1 : Wb.toList.isEmpty = true := by rw [empty_iff]; exact decide_eq_true hz
          clear HR2 hx hz
          go_wp2_with fail
          refine (cX _).mono ?_
          rintro r wx ⟨rfl, B⟩
          have Lwx := heldK Lwc B
          clear B Lwc cX
          go_wp2_with (with_reducible show wpList _ _ _ (⟨_, .store _ _ _, _, _, _, _⟩ :: _) _ _; refine store_dec w.heap.size rfl rfl Lwx.1 ?_)
          refine bodyPost_ret (results_dcR rfl _ _ rfl rfl Lwx.1.row) rfl ⟨?_, below_row3 Lwx.2 (Nat.le_refl _) _⟩
          rw [HV.out]; rfl
        · obtain ⟨u, hu⟩ : ∃ u : ByteArray, Wb ++ (⟨#[]⟩ : ByteArray) = u := ⟨_, rfl⟩
          have lu : u.data.toList = Wb.data.toList := by rw [← hu, ByteArray.data_append, Array.toList_append]; simp
          have HV : Hid (R = formOf neg (nv u) x) := by
            show _ = _
            rw [HR2.out, hx, readX_some]
            rw [if_neg (fun g => hz (nil_of.1 g.1))]
            unfold nv
            rw [lu, List.append_nil]
            show formOf neg _ (x - ((0 : Nat) : Int)) = _
            rw [show x - ((0 : Nat) : Int) = x by omega]
          have hdu : Digs u.data.toList := by rw [lu]; exact hdW
          have zu : u.size ≤ 1500 := by rw [← size_list, lu, size_list]; omega
          have z1 : Wb.toList.isEmpty = false := by rw [empty_iff]; exact decide_eq_false hz
          clear HR2 hx hz lu
          go_wp2_with fail
          refine (cX _).mono ?_
          rintro r wx ⟨rfl, B⟩
          have Lwx := heldK Lwc B
          clear B Lwc cX
          have cF := fun W => implNorm neg u x W (by omega) hdu (by omega) (by omega)
          rw [← HV.out] at cF
          obtain ⟨⟨rn, rd, re⟩, rc⟩ := R
          unfold AnsDC at cF
          dsimp only at cF
          obtain ⟨rs, hrs⟩ : ∃ rs : ByteArray, ⟨rd.toArray⟩ = rs := ⟨_, rfl⟩
          rw [hrs] at cF
          clear HV
          have hmx : Wb.size + (⟨#[]⟩ : ByteArray).size ≤ 9223372036854775807 := by show Wb.size + 0 ≤ _; omega
          go_wp2_with fail
          refine (cF _).mono ?_
          rintro r wz ⟨rfl, B⟩
          have Lz := heldK Lwx B
          clear B cF
          go_wp2_with (with_reducible show wpList _ _ _ (⟨_, .store _ _ _, _, _, _, _⟩ :: _) _ _; refine store_dec w.heap.size rfl rfl Lz.1 ?_)
          refine bodyPost_ret (results_dcR rfl _ _ rfl rfl Lz.1.row) rfl ⟨?_, below_row3 Lz.2 (Nat.le_refl _) _⟩
          subst hrs
          rfl

end Go.Proofs.YthijeckcjfnbcaaDoor
