/- impl's appendScientific. Conditions: a valid decimal, not 0, its magnitude not 0; strconv's table of powers lies as Go's text lays it. -/
import Derived.Test.YthijeckcjfnbcaaGreatDoorImplDec14
namespace Go.Proofs.YthijeckcjfnbcaaGreatDoor
set_option linter.unusedVariables false
open Go.RowKit

set_option maxHeartbeats 4000000 in
set_option maxRecDepth 100000 in
theorem implSci (n : Bool) (s : ByteArray) (e : Int) (v : Value) (acc : List UInt8) (w : World) (B : Nat) (hs : s.size ≤ 20) (h0 : s.size ≠ 0) (x1 : -118 ≤ e) (x2 : e ≤ 99) (hc : (dOf n s e).mag < 0 ∨ 0 < (dOf n s e).mag) (hr : Out.Bytes w B v acc) (hB : B ≤ w.heap.size) (hl : acc.length ≤ 10)
    (hT : Lib.TabBelow Tryz.prog B w "internal/strconv.uint64pow10" .u64 Lib.pow10Tab) :
    Calls Tryz.prog 76 #[.agg #[.bool n, .string s, .int .i64 e], v] w (AnsB8 B (acc ++ sciOf (dOf n s e)) w) := by
  obtain ⟨R, hR⟩ : ∃ R, sciOf (dOf n s e) = R := ⟨_, rfl⟩
  rw [hR]
  have HR := Lib.hid hR
  clear hR
  obtain ⟨m, hm0⟩ : ∃ m, e + (s.size : Int) - 1 = m := ⟨_, rfl⟩
  have hlen : (dOf n s e).dig.length = s.size := size_list s
  have hmag : (dOf n s e).mag = m := by unfold DecV.mag; rw [hlen]; exact hm0
  rw [hmag] at hc
  have S0 : Out.St w B w.heap.size n s e v acc (w.alloc (.cells #[.bool n, .string s, .int .i64 e] 25)) := ⟨hr.alloc _, DecAt.new w n s e, (Below.refl _ _).alloc hB _, hB⟩
  have hp : 0 < s.size := by omega
  obtain ⟨x, hx⟩ : ∃ x, s[0] = x := ⟨_, rfl⟩
  have hcons : s.data.toList = x :: s.data.toList.drop 1 := by
    have := List.drop_eq_getElem_cons (l := s.data.toList) (i := 0) (by rw [size_list]; exact hp)
    rw [List.drop_zero] at this
    rw [← hx]
    exact this
  have htake : s.data.toList.take 1 = [x] := by rw [hcons]; rfl
  have hdrop : s.data.toList.drop 1 = (s.extract 1 s.size).data.toList := (Lib.ext_list s 1).symm
  have z1 : (s.extract 1 s.size).size ≤ 20 := by rw [← size_list, ← hdrop, List.length_drop, size_list]; omega
  have z2 := size_list (s.extract 1 s.size)
  have hz1 : (1 : Int) ≤ (s.size : Int) := by omega
  have cM := fun W => implMagnitude n s e W (by omega) (by omega) (by omega)
  rw [hm0] at cM
  clear hr hcons
  by_cases h1 : 1 < s.size
  · by_cases hm : m < 0
    · have hm2 : ¬ 0 < m := by omega
      have HV : Hid (acc ++ R = acc ++ [x] ++ [46] ++ (s.extract 1 s.size).data.toList ++ [101] ++ Lib.itoa m) := by
        show _ = _
        rw [← HR.out]
        unfold sciOf
        rw [hmag, hlen, if_pos h1, if_pos hm, itoa_neg hm]
        rw [show (dOf n s e).dig.take 1 = [x] from htake, show (dOf n s e).dig.drop 1 = (s.extract 1 s.size).data.toList from hdrop]
        simp
      clear HR hmag htake hdrop hlen
      go_enter Tryz.func76, Tryz.ntmps76
      obtain ⟨k0, k1, k2⟩ := S0.dec.cell
      go_wp2_with (at_builtin; first | (refine Out.app_byte (c := x) S0 rfl rfl rfl (by simp) (by first | omega | (simp; omega)) ?_; intro v1 w1 S1; clear S0 k0 k1 k2; obtain ⟨k0, k1, k2⟩ := S1.dec.cell) | (refine Out.app_byte (c := 46) S1 rfl rfl rfl (by simp) (by first | omega | (simp; omega)) ?_; intro v2 w2 S2; clear S1 k0 k1 k2; obtain ⟨k0, k1, k2⟩ := S2.dec.cell) | (refine Out.app_str S2 rfl rfl (by first | omega | (simp; omega)) ?_; intro v3 w3 S3; clear S2 k0 k1 k2; obtain ⟨k0, k1, k2⟩ := S3.dec.cell) | (refine Out.app_byte (c := 101) S3 rfl rfl rfl (by simp) (by first | omega | (simp; omega)) ?_; intro v4 w4 S4; clear S3 k0 k1 k2; obtain ⟨k0, k1, k2⟩ := S4.dec.cell))
      refine (cM _).mono ?_
      rintro r wm ⟨rfl, Bm⟩
      have M0 := S4.kept Bm
      clear Bm S4 k0 k1 k2
      obtain ⟨k0, k1, k2⟩ := M0.dec.cell
      go_wp2_with fail
      refine (cM _).mono ?_
      rintro r wn ⟨rfl, Bn⟩
      have M2 := M0.kept Bn
      clear Bn M0 k0 k1 k2 cM
      have cA := Tryz.strconv_AppendInt_10 B _ m (by omega) (by omega) _ _ wn M2.row M2.size (by first | omega | (simp; omega)) (fun W hW => hT W (M2.below.trans hW))
      go_wp2_with fail
      refine cA.mono ?_
      rintro r wz ⟨vz, rfl, Oz, Bz, _⟩
      have Dz := M2.below.trans Bz
      clear cA Bz M2
      go_wp2
      go_ret
      refine ⟨vz, rfl, ?_, Dz⟩
      rw [HV.out]
      unfold Out.Bytes
      rw [Out.cells_app, List.length_append]
      exact Oz
    · have hm2 : 0 < m := by omega
      have HV : Hid (acc ++ R = acc ++ [x] ++ [46] ++ (s.extract 1 s.size).data.toList ++ [101] ++ [43] ++ Lib.itoa m) := by
        show _ = _
        rw [← HR.out]
        unfold sciOf
        rw [hmag, hlen, if_pos h1, if_neg (show ¬ m < 0 by omega), itoa_pos (show ¬ m < 0 by omega)]
        rw [show (dOf n s e).dig.take 1 = [x] from htake, show (dOf n s e).dig.drop 1 = (s.extract 1 s.size).data.toList from hdrop]
        simp
      clear HR hmag htake hdrop hlen
      go_enter Tryz.func76, Tryz.ntmps76
      obtain ⟨k0, k1, k2⟩ := S0.dec.cell
      go_wp2_with (at_builtin; first | (refine Out.app_byte (c := x) S0 rfl rfl rfl (by simp) (by first | omega | (simp; omega)) ?_; intro v1 w1 S1; clear S0 k0 k1 k2; obtain ⟨k0, k1, k2⟩ := S1.dec.cell) | (refine Out.app_byte (c := 46) S1 rfl rfl rfl (by simp) (by first | omega | (simp; omega)) ?_; intro v2 w2 S2; clear S1 k0 k1 k2; obtain ⟨k0, k1, k2⟩ := S2.dec.cell) | (refine Out.app_str S2 rfl rfl (by first | omega | (simp; omega)) ?_; intro v3 w3 S3; clear S2 k0 k1 k2; obtain ⟨k0, k1, k2⟩ := S3.dec.cell) | (refine Out.app_byte (c := 101) S3 rfl rfl rfl (by simp) (by first | omega | (simp; omega)) ?_; intro v4 w4 S4; clear S3 k0 k1 k2; obtain ⟨k0, k1, k2⟩ := S4.dec.cell))
      refine (cM _).mono ?_
      rintro r wm ⟨rfl, Bm⟩
      have M0 := S4.kept Bm
      clear Bm S4 k0 k1 k2
      obtain ⟨k0, k1, k2⟩ := M0.dec.cell
      go_wp2_with (at_builtin; refine Out.app_byte (c := 43) M0 rfl rfl rfl (by simp) (by first | omega | (simp; omega)) ?_; intro vp wp M1; clear M0 k0 k1 k2; obtain ⟨k0, k1, k2⟩ := M1.dec.cell)
      refine (cM _).mono ?_
      rintro r wn ⟨rfl, Bn⟩
      have M2 := M1.kept Bn
      clear Bn M1 k0 k1 k2 cM
      have cA := Tryz.strconv_AppendInt_10 B _ m (by omega) (by omega) _ _ wn M2.row M2.size (by first | omega | (simp; omega)) (fun W hW => hT W (M2.below.trans hW))
      go_wp2_with fail
      refine cA.mono ?_
      rintro r wz ⟨vz, rfl, Oz, Bz, _⟩
      have Dz := M2.below.trans Bz
      clear cA Bz M2
      go_wp2
      go_ret
      refine ⟨vz, rfl, ?_, Dz⟩
      rw [HV.out]
      unfold Out.Bytes
      rw [Out.cells_app, List.length_append]
      exact Oz
  · by_cases hm : m < 0
    · have hm2 : ¬ 0 < m := by omega
      have HV : Hid (acc ++ R = acc ++ [x] ++ [101] ++ Lib.itoa m) := by
        show _ = _
        rw [← HR.out]
        unfold sciOf
        rw [hmag, hlen, if_neg h1, if_pos hm, itoa_neg hm]
        rw [show (dOf n s e).dig.take 1 = [x] from htake, List.append_nil]
        simp
      clear HR hmag htake hdrop hlen
      go_enter Tryz.func76, Tryz.ntmps76
      obtain ⟨k0, k1, k2⟩ := S0.dec.cell
      go_wp2_with (at_builtin; first | (refine Out.app_byte (c := x) S0 rfl rfl rfl (by simp) (by first | omega | (simp; omega)) ?_; intro v1 w1 S1; clear S0 k0 k1 k2; obtain ⟨k0, k1, k2⟩ := S1.dec.cell) | (refine Out.app_byte (c := 101) S1 rfl rfl rfl (by simp) (by first | omega | (simp; omega)) ?_; intro v2 w2 S2; clear S1 k0 k1 k2; obtain ⟨k0, k1, k2⟩ := S2.dec.cell))
      refine (cM _).mono ?_
      rintro r wm ⟨rfl, Bm⟩
      have M0 := S2.kept Bm
      clear Bm S2 k0 k1 k2
      obtain ⟨k0, k1, k2⟩ := M0.dec.cell
      go_wp2_with fail
      refine (cM _).mono ?_
      rintro r wn ⟨rfl, Bn⟩
      have M2 := M0.kept Bn
      clear Bn M0 k0 k1 k2 cM
      have cA := Tryz.strconv_AppendInt_10 B _ m (by omega) (by omega) _ _ wn M2.row M2.size (by first | omega | (simp; omega)) (fun W hW => hT W (M2.below.trans hW))
      go_wp2_with fail
      refine cA.mono ?_
      rintro r wz ⟨vz, rfl, Oz, Bz, _⟩
      have Dz := M2.below.trans Bz
      clear cA Bz M2
      go_wp2
      go_ret
      refine ⟨vz, rfl, ?_, Dz⟩
      rw [HV.out]
      unfold Out.Bytes
      rw [Out.cells_app, List.length_append]
      exact Oz
    · have hm2 : 0 < m := by omega
      have HV : Hid (acc ++ R = acc ++ [x] ++ [101] ++ [43] ++ Lib.itoa m) := by
        show _ = _
        rw [← HR.out]
        unfold sciOf
        rw [hmag, hlen, if_neg h1, if_neg (show ¬ m < 0 by omega), itoa_pos (show ¬ m < 0 by omega)]
        rw [show (dOf n s e).dig.take 1 = [x] from htake, List.append_nil]
        simp
      clear HR hmag htake hdrop hlen
      go_enter Tryz.func76, Tryz.ntmps76
      obtain ⟨k0, k1, k2⟩ := S0.dec.cell
      go_wp2_with (at_builtin; first | (refine Out.app_byte (c := x) S0 rfl rfl rfl (by simp) (by first | omega | (simp; omega)) ?_; intro v1 w1 S1; clear S0 k0 k1 k2; obtain ⟨k0, k1, k2⟩ := S1.dec.cell) | (refine Out.app_byte (c := 101) S1 rfl rfl rfl (by simp) (by first | omega | (simp; omega)) ?_; intro v2 w2 S2; clear S1 k0 k1 k2; obtain ⟨k0, k1, k2⟩ := S2.dec.cell))
      refine (cM _).mono ?_
      rintro r wm ⟨rfl, Bm⟩
      have M0 := S2.kept Bm
      clear Bm S2 k0 k1 k2
      obtain ⟨k0, k1, k2⟩ := M0.dec.cell
      go_wp2_with (at_builtin; refine Out.app_byte (c := 43) M0 rfl rfl rfl (by simp) (by first | omega | (simp; omega)) ?_; intro vp wp M1; clear M0 k0 k1 k2; obtain ⟨k0, k1, k2⟩ := M1.dec.cell)
      refine (cM _).mono ?_
      rintro r wn ⟨rfl, Bn⟩
      have M2 := M1.kept Bn
      clear Bn M1 k0 k1 k2 cM
      have cA := Tryz.strconv_AppendInt_10 B _ m (by omega) (by omega) _ _ wn M2.row M2.size (by first | omega | (simp; omega)) (fun W hW => hT W (M2.below.trans hW))
      go_wp2_with fail
      refine cA.mono ?_
      rintro r wz ⟨vz, rfl, Oz, Bz, _⟩
      have Dz := M2.below.trans Bz
      clear cA Bz M2
      go_wp2
      go_ret
      refine ⟨vz, rfl, ?_, Dz⟩
      rw [HV.out]
      unfold Out.Bytes
      rw [Out.cells_app, List.length_append]
      exact Oz

end Go.Proofs.YthijeckcjfnbcaaGreatDoor
