/- impl.cutSign, impl.cutDigits, impl.exponentOf. Condition: at most 1048576 bytes. -/
import Derived.Test.YtpkmhojcccpolaaDoorImplDec5
import Derived.Test.YtpkmhojcccpolaaDoorReadMath
import Derived.Shelf.Strings.SlTrimAscii
import Derived.Lib.OthersKept
namespace Go.Proofs.YtpkmhojcccpolaaDoor
set_option linter.unusedVariables false
open Go.RowKit

theorem consR {s : ByteArray} (h : 0 < s.size) : s.data.toList = s[0] :: s.data.toList.drop 1 := by
  have hl := size_list s
  have := List.drop_eq_getElem_cons (l := s.data.toList) (i := 0) (by omega)
  rw [List.drop_zero] at this
  exact this
theorem dropR (s : ByteArray) : (⟨(s.data.toList.drop 1).toArray⟩ : ByteArray) = s.extract 1 s.size := by rw [← Lib.ext_list s 1]

set_option maxHeartbeats 1000000 in
set_option maxRecDepth 100000 in
theorem implCutR (s : ByteArray) (w : World) (hs : s.size ≤ 1048576) :
    Calls Tryd.prog 44 #[.string s] w fun r w' => r = .returned (.tuple #[.bool (cutR s.data.toList).1, .string ⟨(cutR s.data.toList).2.toArray⟩]) ∧ Below w.heap.size w w' := by
  obtain ⟨R, hR⟩ : ∃ R, cutR s.data.toList = R := ⟨_, rfl⟩
  rw [hR]
  have HR := Lib.hid hR
  clear hR
  by_cases h0 : s.size = 0
  · have hnil : s.toList.isEmpty = true := by rw [List.isEmpty_iff]; exact toList_nil.2 h0
    have HV : Hid (R = (false, s.data.toList)) := by
      show _ = _
      rw [← HR.out, show s.data.toList = [] from List.eq_nil_of_length_eq_zero (by rw [size_list]; exact h0)]
      rfl
    clear h0 HR
    go_enter Tryd.func44, Tryd.ntmps44
    go_wp2
    go_ret2
    exact ⟨by rw [HV.out]; simp, Below.refl _ _⟩
  · have hnil : s.toList.isEmpty = false := by rw [List.isEmpty_eq_false_iff]; exact fun h => h0 (toList_nil.1 h)
    have hp : 0 < s.size := by omega
    obtain ⟨x, hx⟩ : ∃ x, s[0] = x := ⟨_, rfl⟩
    obtain ⟨t, ht⟩ : ∃ t : ByteArray, s.extract 1 s.size = t := ⟨_, rfl⟩
    have hc := consR hp
    rw [hx] at hc
    have c43 : x = 43 ↔ x.toNat = 43 := ⟨fun e => by rw [e]; rfl, fun e => UInt8.toNat_inj.1 (by show x.toNat = 43; exact e)⟩
    have c45 : x = 45 ↔ x.toNat = 45 := ⟨fun e => by rw [e]; rfl, fun e => UInt8.toNat_inj.1 (by show x.toNat = 45; exact e)⟩
    have HV : Hid (R = if x.toNat = 43 ∨ x.toNat = 45 then (decide (x.toNat = 45), s.data.toList.drop 1) else (false, s.data.toList)) := by
      show _ = _
      rw [← HR.out, hc, cutR_cons]
      simp only [c43, c45, List.drop_succ_cons, List.drop_zero]
    have HD := Lib.hid (dropR s)
    have hzi : (1 : Int) ≤ (s.size : Int) := by omega
    have B0 : Below w.heap.size w w.drew := (Below.refl _ _).drew
    clear hc HR c43 c45
    by_cases g1 : x.toNat = 43
    · have HE : Hid (R = (false, s.data.toList.drop 1)) := by show _ = _; rw [HV.out, if_pos (.inl g1), decide_eq_false (by omega)]
      have e1 : ((x.toNat : Int) == 43) = true := by rw [beq_iff_eq]; omega
      have e2 : ((x.toNat : Int) == 45) = false := by rw [beq_eq_false_iff_ne]; omega
      clear HV g1
      go_enter Tryd.func44, Tryd.ntmps44
      go_wp2_with fail
      refine wp_region_kept_all (fun w' => Below w.heap.size w w') (by kernel_rfl) (by kernel_rfl) (fun _ _ d _ _ h => by cases d <;> exact h) B0 ?_
      iterate 7 (refine kept_step (fun K hK => ?_); go_simp; refine ⟨_, fun W hW => .inl (by go_simp; exact rfl), hK _ ?_⟩; clear hK K)
      refine kept_nil ?_
      intro W hW
      go_wp2
      go_ret2
      exact ⟨by rw [HE.out]; show _ = Ending.returned (.tuple #[.bool false, .string ⟨(s.data.toList.drop 1).toArray⟩]); rw [HD.out, ht]; rfl, hW⟩
    · by_cases g2 : x.toNat = 45
      · have HE : Hid (R = (true, s.data.toList.drop 1)) := by show _ = _; rw [HV.out, if_pos (.inr g2), decide_eq_true g2]
        have e1 : ((x.toNat : Int) == 43) = false := by rw [beq_eq_false_iff_ne]; omega
        have e2 : ((x.toNat : Int) == 45) = true := by rw [beq_iff_eq]; omega
        clear HV g1 g2
        go_enter Tryd.func44, Tryd.ntmps44
        go_wp2_with fail
        refine wp_region_kept_all (fun w' => Below w.heap.size w w') (by kernel_rfl) (by kernel_rfl) (fun _ _ d _ _ h => by cases d <;> exact h) B0 ?_
        iterate 7 (refine kept_step (fun K hK => ?_); go_simp; refine ⟨_, fun W hW => .inl (by go_simp; exact rfl), hK _ ?_⟩; clear hK K)
        refine kept_nil ?_
        intro W hW
        go_wp2
        go_ret2
        exact ⟨by rw [HE.out]; show _ = Ending.returned (.tuple #[.bool true, .string ⟨(s.data.toList.drop 1).toArray⟩]); rw [HD.out, ht]; rfl, hW⟩
      · have HE : Hid (R = (false, s.data.toList)) := by show _ = _; rw [HV.out, if_neg (by omega)]
        have e1 : ((x.toNat : Int) == 43) = false := by rw [beq_eq_false_iff_ne]; omega
        have e2 : ((x.toNat : Int) == 45) = false := by rw [beq_eq_false_iff_ne]; omega
        clear HV g1 g2
        go_enter Tryd.func44, Tryd.ntmps44
        go_wp2
        go_ret2
        exact ⟨by rw [HE.out]; simp, Below.refl _ _⟩

theorem cTrimSet (s : ByteArray) (w : World) : Calls Tryd.prog 73 #[.string s, .string ⟨#[48, 49, 50, 51, 52, 53, 54, 55, 56, 57]⟩] w fun r w' => r = .returned (.string ⟨(dW s.data.toList).toArray⟩) ∧ Below w.heap.size w w' := by
  have := Any.strings_TrimLeft_laid Tryd.lays161 (by kernel_rfl) s ⟨#[48, 49, 50, 51, 52, 53, 54, 55, 56, 57]⟩ w (by decide) (ascii_of_all (by decide))
  have e : Lib.trimLeftS s.data.toList [48, 49, 50, 51, 52, 53, 54, 55, 56, 57] = dW s.data.toList := by
    unfold Lib.trimLeftS dW
    congr 1
    funext b
    exact digSet b
  have h2 : Lib.trimLeftS s.data.toList (⟨#[48, 49, 50, 51, 52, 53, 54, 55, 56, 57]⟩ : ByteArray).data.toList = dW s.data.toList := e
  rw [h2] at this
  exact this

set_option maxHeartbeats 1000000 in
set_option maxRecDepth 100000 in
theorem implCutDigits (s : ByteArray) (w : World) (hs : s.size ≤ 1048576) :
    Calls Tryd.prog 45 #[.string s] w fun r w' => r = .returned (.tuple #[.string ⟨(tW s.data.toList).toArray⟩, .string ⟨(dW s.data.toList).toArray⟩]) ∧ Below w.heap.size w w' := by
  have cT := fun W => cTrimSet s W
  have hl := len_tW s.data.toList
  rw [size_list] at hl
  obtain ⟨t, ht⟩ : ∃ t : ByteArray, ⟨(dW s.data.toList).toArray⟩ = t := ⟨_, rfl⟩
  have lt : t.data.toList = dW s.data.toList := by rw [← ht]
  have zt : t.size = (dW s.data.toList).length := by rw [← size_list, lt]
  obtain ⟨k, hk⟩ : ∃ k, (tW s.data.toList).length = k := ⟨_, rfl⟩
  have HX : Hid ((⟨(tW s.data.toList).toArray⟩ : ByteArray) = s.extract 0 k) := by
    show _ = _
    have e : (s.extract 0 k).data.toList = tW s.data.toList := by
      rw [ByteArray.data_extract, Array.toList_extract]
      simp only [List.extract_eq_take_drop, List.drop_zero, Nat.sub_zero]
      have := congrArg (List.take k) (tdW s.data.toList)
      rw [← hk, List.take_left] at this
      rw [← hk]; exact this.symm
    rw [← e]
  rw [ht] at cT ⊢
  rw [HX.out]
  have hki : (s.size : Int) - (t.size : Int) = (k : Int) := by omega
  have hks : k ≤ s.size := by omega
  have hksi : (k : Int) ≤ (s.size : Int) := by omega
  clear ht lt hl hk HX zt
  go_enter Tryd.func45, Tryd.ntmps45
  go_wp2_with fail
  refine (cT _).mono ?_
  rintro r w1 ⟨rfl, B1⟩
  clear cT
  go_wp2
  go_ret2
  exact ⟨rfl, B1⟩

/-- What exponentOf answers. -/
def expA (o : Option Int) : Int × Bool := match o with
  | some x => (x, true)
  | none => (0, false)

end Go.Proofs.YtpkmhojcccpolaaDoor
