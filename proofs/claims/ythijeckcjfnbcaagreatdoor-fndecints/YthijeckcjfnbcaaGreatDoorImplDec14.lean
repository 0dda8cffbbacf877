/- impl's appendPlain, appendScientific and DecText. Conditions: a valid decimal, not 0, where digits are appended; at most 1048576 digits; strconv's table of powers lies as Go's text lays it. -/
import Derived.Test.YthijeckcjfnbcaaGreatDoorBytesOut
import Derived.Test.YthijeckcjfnbcaaGreatDoorDecTextMath
import Derived.Test.YthijeckcjfnbcaaGreatDoorImplDec6
import Derived.Test.YthijeckcjfnbcaaGreatDoorSpecDec12
import Derived.Lib.AppendIntMem
namespace Go.Proofs.YthijeckcjfnbcaaGreatDoor
set_option linter.unusedVariables false
open Go.RowKit
open Go.Lib (byteCells)

/-- An answer that is a row of bytes. -/
def AnsB8 (B : Nat) (l : List UInt8) (w : World) (r : Ending) (w' : World) : Prop := ∃ v', r = .returned v' ∧ Out.Bytes w' B v' l ∧ Below B w w'
theorem ext_takeI (s : ByteArray) (k : Nat) : (s.extract 0 k).data.toList = s.data.toList.take k := by
  rw [ByteArray.data_extract, Array.toList_extract]
  simp [List.extract_eq_take_drop]
theorem repeatC (k : Nat) (hk : k ≤ 1000) : ∃ t : ByteArray, t.data.toList = List.replicate k 48 ∧ t.size = k ∧ ∀ W, Calls Tryz.prog 56 #[.string ⟨#[48]⟩, .int .i64 k] W fun r w' => r = .returned (.string t) ∧ Below W.heap.size W w' := by
  refine ⟨⟨(Lib.repeatL [48] k).toArray⟩, by rw [repeat_nought], ?_, fun W => Tryz.strings_Repeat ⟨#[48]⟩ k W (by omega) (by show 1 * k ≤ _; omega)⟩
  show (Lib.repeatL [48] k).length = k
  rw [repeat_nought, List.length_replicate]

set_option maxHeartbeats 2000000 in
set_option maxRecDepth 100000 in
theorem implPlain (n : Bool) (s : ByteArray) (e : Int) (v : Value) (acc : List UInt8) (w : World) (B : Nat) (hs : s.size ≤ 20) (h0 : s.size ≠ 0) (x1 : -118 ≤ e) (x2 : e ≤ 99) (hr : Out.Bytes w B v acc) (hB : B ≤ w.heap.size) (hl : acc.length ≤ 10) :
    Calls Tryz.prog 77 #[.agg #[.bool n, .string s, .int .i64 e], v] w (AnsB8 B (acc ++ plainOf (dOf n s e)) w) := by
  obtain ⟨R, hR⟩ : ∃ R, plainOf (dOf n s e) = R := ⟨_, rfl⟩
  rw [hR]
  have HR := Lib.hid hR
  clear hR
  have hmag : (dOf n s e).mag = e + (s.size : Int) - 1 := by unfold DecV.mag; rw [show (dOf n s e).dig.length = s.size from size_list s]; rfl
  have S0 : Out.St w B w.heap.size n s e v acc (w.alloc (.cells #[.bool n, .string s, .int .i64 e] 25)) := ⟨hr.alloc _, DecAt.new w n s e, (Below.refl _ _).alloc hB _, hB⟩
  have hsl := size_list s
  clear hr
  by_cases he : 0 ≤ e
  · obtain ⟨k, hk⟩ : ∃ k : Nat, e.toNat = k := ⟨_, rfl⟩
    have hki : (k : Int) = e := by omega
    obtain ⟨t, lt, zt, cR⟩ := repeatC k (by omega)
    rw [hki] at cR
    have HV : Hid (R = s.data.toList ++ t.data.toList) := by
      show _ = _
      rw [← HR.out, lt]
      unfold plainOf
      rw [if_pos (show 0 ≤ (dOf n s e).exp from he), ← hk]
      rfl
    clear HR hmag
    go_enter Tryz.func77, Tryz.ntmps77
    obtain ⟨k0, k1, k2⟩ := S0.dec.cell
    go_wp2_with (at_builtin; refine Out.app_str S0 rfl rfl (by omega) ?_; intro v1 w1 S1; clear S0 k0 k1 k2; obtain ⟨k0, k1, k2⟩ := S1.dec.cell)
    refine (cR _).mono ?_
    rintro r w2 ⟨rfl, B2⟩
    have S2 := S1.kept B2
    clear cR B2 S1 k0 k1 k2
    go_wp2_with (at_builtin; refine Out.app_str S2 rfl rfl (by rw [List.length_append]; omega) ?_; intro v3 w3 S3)
    go_ret
    exact ⟨_, rfl, by rw [HV.out, ← List.append_assoc]; exact S3.row, S3.below⟩
  · by_cases hw : 0 < (s.size : Int) + e
    · obtain ⟨k, hk⟩ : ∃ k : Nat, ((s.size : Int) + e).toNat = k := ⟨_, rfl⟩
      have hki : (s.size : Int) + e = (k : Int) := by omega
      have hks : k ≤ s.size := by omega
      have hksi : (k : Int) ≤ (s.size : Int) := by omega
      have hkp : (0 : Int) < (k : Int) := by omega
      have HV : Hid (R = (s.extract 0 k).data.toList ++ [46] ++ (s.extract k s.size).data.toList) := by
        show _ = _
        rw [← HR.out, ext_takeI, Lib.ext_list]
        unfold plainOf
        rw [hmag, if_neg (show ¬ 0 ≤ (dOf n s e).exp from he), if_pos (by omega), show (e + (s.size : Int) - 1 + 1).toNat = k by omega]
        rfl
      have z1 : (s.extract 0 k).size ≤ 20 := by rw [← size_list, ext_takeI, List.length_take]; omega
      have z2 : (s.extract k s.size).size ≤ 20 := by rw [← size_list, Lib.ext_list, List.length_drop]; omega
      have zl1 := size_list (s.extract 0 k)
      clear HR hmag hw hk
      go_enter Tryz.func77, Tryz.ntmps77
      obtain ⟨k0, k1, k2⟩ := S0.dec.cell
      go_wp2_with (at_builtin; first | (refine Out.app_str S0 rfl rfl (by omega) ?_; intro v1 w1 S1; clear S0 k0 k1 k2; obtain ⟨k0, k1, k2⟩ := S1.dec.cell) | (refine Out.app_byte (c := 46) S1 rfl rfl rfl (by simp) (by rw [List.length_append]; omega) ?_; intro v2 w2 S2; clear S1 k0 k1 k2; obtain ⟨k0, k1, k2⟩ := S2.dec.cell) | (refine Out.app_str S2 rfl rfl (by rw [List.length_append, List.length_append]; simp; omega) ?_; intro v3 w3 S3; clear S2 k0 k1 k2))
      go_ret
      exact ⟨_, rfl, by rw [HV.out, List.append_assoc, ← List.append_assoc, ← List.append_assoc]; exact S3.row, S3.below⟩
    · obtain ⟨k, hk⟩ : ∃ k : Nat, (-((s.size : Int) + e)).toNat = k := ⟨_, rfl⟩
      have hki : (k : Int) = -((s.size : Int) + e) := by omega
      obtain ⟨t, lt, zt, cR⟩ := repeatC k (by omega)
      rw [hki] at cR
      have HV : Hid (R = [48, 46] ++ t.data.toList ++ s.data.toList) := by
        show _ = _
        rw [← HR.out, lt]
        unfold plainOf
        rw [hmag, if_neg (show ¬ 0 ≤ (dOf n s e).exp from he), if_neg (by omega), show (-(e + (s.size : Int) - 1) - 1).toNat = k by omega]
        rfl
      have tl := size_list t
      clear HR hmag hk
      go_enter Tryz.func77, Tryz.ntmps77
      obtain ⟨k0, k1, k2⟩ := S0.dec.cell
      go_wp2_with (at_builtin; refine Out.app_str (u := ⟨#[48, 46]⟩) S0 rfl rfl (by show acc.length + 2 ≤ _; omega) ?_; intro v1 w1 S1; clear S0 k0 k1 k2; obtain ⟨k0, k1, k2⟩ := S1.dec.cell)
      refine (cR _).mono ?_
      rintro r w2 ⟨rfl, B2⟩
      have S2 := S1.kept B2
      clear cR B2 S1 k0 k1 k2
      obtain ⟨k0, k1, k2⟩ := S2.dec.cell
      go_wp2_with (at_builtin; first | (refine Out.app_str (u := t) S2 rfl rfl (by rw [List.length_append]; simp; omega) ?_; intro v3 w3 S3; clear S2 k0 k1 k2; obtain ⟨k0, k1, k2⟩ := S3.dec.cell) | (refine Out.app_str S3 rfl rfl (by rw [List.length_append, List.length_append]; simp; omega) ?_; intro v4 w4 S4; clear S3 k0 k1 k2))
      go_ret
      exact ⟨_, rfl, by rw [HV.out, List.append_assoc, ← List.append_assoc, ← List.append_assoc]; exact S4.row, S4.below⟩

end Go.Proofs.YthijeckcjfnbcaaGreatDoor
