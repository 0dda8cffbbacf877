/- spec.DecText. Condition: at most 1048576 digits. -/
import Derived.Test.YtlhdolcadlabpaaDoorDecTextMath
import Derived.Test.YtlhdolcadlabpaaDoorSpecDec12
import Derived.Test.YtlhdolcadlabpaaDoorKept
namespace Go.Proofs.YtlhdolcadlabpaaDoor
set_option linter.unusedVariables false
open Go.RowKit

theorem bytes_of {b : ByteArray} {l : List UInt8} (h : b.data.toList = l) : (⟨l.toArray⟩ : ByteArray) = b := by rw [← h]
theorem ext_takeT (s : ByteArray) (k : Nat) : (s.extract 0 k).data.toList = s.data.toList.take k := by
  rw [ByteArray.data_extract, Array.toList_extract]
  simp [List.extract_eq_take_drop]
theorem app_list (a b : ByteArray) : (a ++ b).data.toList = a.data.toList ++ b.data.toList := by rw [ByteArray.data_append, Array.toList_append]

set_option maxHeartbeats 4000000 in
set_option maxRecDepth 100000 in
theorem specDecText (n : Bool) (s : ByteArray) (e : Int) (w : World) (hs : s.size ≤ 1048576) (b1 : -9223372036854775808 ≤ e) (b2 : e ≤ 9223372036854775807) :
    Calls Tryd.prog 10 #[.agg #[.bool n, .string s, .int .i64 e]] w (AnsS (textR (dOf n s e)) w) := by
  obtain ⟨R, hR⟩ : ∃ R, textR (dOf n s e) = R := ⟨_, rfl⟩
  rw [hR]
  unfold textR at hR
  have HR := Lib.hid hR
  clear hR
  have KA0 := DecAt.new w n s e
  have B0 : Below w.heap.size w (w.alloc (.cells #[.bool n, .string s, .int .i64 e] 25)) := (Below.refl _ _).alloc (Nat.le_refl _) _
  have cO := fun W => specDecOk n s e W hs b1 b2
  go_enter Tryd.func10, Tryd.ntmps10
  go_wp2_with fail
  refine (cO _).mono ?_
  intro r w1 hr
  obtain ⟨hb, B1⟩ := AnsB.get hr
  have KA := KA0.belowS B1
  have D := below_kept B0 (Nat.le_refl _) B1
  clear cO B1 hr B0 KA0
  obtain ⟨k0, k1, k2⟩ := KA.cell
  rcases hb with ⟨rfl, hb⟩ | ⟨rfl, hb⟩
  · have HP := Lib.hid hb
    clear hb
    obtain ⟨d1, q1, x1, x2⟩ := ok_size HP.out
    clear d1
    by_cases h0 : s.size = 0
    · have hnil : s.toList.isEmpty = true := by rw [List.isEmpty_iff]; exact toList_nil.2 h0
      have HB : Hid (R = [48]) := by show _ = _; rw [← HR.out, if_pos HP.out, if_pos (show (dOf n s e).dig = [] from List.eq_nil_of_length_eq_zero (by rw [show (dOf n s e).dig.length = s.size from size_list s]; exact h0))]
      clear HR h0
      go_wp2
      go_ret
      exact ⟨by rw [HB.out]; rfl, D⟩
    have hnil : s.toList.isEmpty = false := by rw [List.isEmpty_eq_false_iff]; exact fun h => h0 (toList_nil.1 h)
    have hne : ¬ (dOf n s e).dig = [] := fun g => h0 (by have := size_list s; rw [show s.data.toList = [] from g] at this; simpa using this.symm)
    obtain ⟨h, hh⟩ : ∃ h, e + (s.size : Int) - 1 = h := ⟨_, rfl⟩
    have hmag : (dOf n s e).mag = h := by unfold DecV.mag; rw [show (dOf n s e).dig.length = s.size from size_list s]; exact hh
    have hz1 : (1 : Int) ≤ (s.size : Int) := by omega
    have hz2 : 1 ≤ s.size := by omega
    have zx : (s.extract 0 1).size = 1 := by rw [← size_list, ext_takeT, List.length_take, size_list]; omega
    have zy : (s.extract 1 s.size).size = s.size - 1 := by rw [← size_list, Lib.ext_list, List.length_drop, size_list]
    clear h0
    cases n
    · have HT : Hid (R = if h < -7 ∨ 20 < h then [] ++ sciOf (dOf false s e) else [] ++ plainOf (dOf false s e)) := by
        show _ = _
        rw [← HR.out, if_pos HP.out, if_neg hne]
        show (if (dOf false s e).mag < -7 ∨ 20 < (dOf false s e).mag then signOf (dOf false s e) ++ sciOf (dOf false s e) else signOf (dOf false s e) ++ plainOf (dOf false s e)) = _
        rw [hmag]
        rfl
      clear HR
      by_cases hc : h < -7 ∨ 20 < h
      · have hbt : decide ((-7 : Int) ≤ h ∧ h ≤ 20) = false := decide_eq_false (by omega)
        have HT2 : Hid (R = [] ++ sciOf (dOf false s e)) := by show _ = _; rw [HT.out, if_pos hc]
        clear HT
        by_cases hn : h < 0
        · have cN := fun W => NumT.specNumText (-h) W (by omega) (by omega)
          unfold NumT.StrIs at cN
          rw [itoa_pos (show ¬ -h < 0 by omega), Int.natAbs_neg] at cN
          obtain ⟨t, ht⟩ : ∃ t : ByteArray, ⟨(natOf h.natAbs).toArray⟩ = t := ⟨_, rfl⟩
          have lt : t.data.toList = natOf h.natAbs := by rw [← ht]
          have zt : t.size ≤ 30 := by rw [← size_list, lt]; exact nat20 (by omega) (by omega)
          rw [ht] at cN
          by_cases h1 : 1 < s.size
          · have HB : Hid ((⟨R.toArray⟩ : ByteArray) = ⟨#[]⟩ ++ s.extract 0 1 ++ ⟨#[46]⟩ ++ s.extract 1 s.size ++ ⟨#[101, 45]⟩ ++ t) := by
              refine bytes_of ?_
              rw [HT2.out]
              unfold sciOf
              rw [hmag, if_pos (show 1 < (dOf false s e).dig.length by rw [show (dOf false s e).dig.length = s.size from size_list s]; exact h1), if_pos hn]
              simp only [app_list, ext_takeT, Lib.ext_list, lt]
              simp [dOf]
            clear HT2 HP lt ht hc hmag hne
            go_wp2_with fail
            refine (betweenN _ _ _ _).mono ?_
            rintro r w2 ⟨rfl, rfl⟩
            go_wp2_with fail
            refine (cN _).mono ?_
            rintro r w3 ⟨rfl, B3⟩
            have D3 := below_kept D (Nat.le_refl _) B3
            clear cN B3 D KA k0 k1 k2
            go_wp2
            go_ret
            exact ⟨by rw [HB.out]; rfl, D3⟩
          · have HB : Hid ((⟨R.toArray⟩ : ByteArray) = ⟨#[]⟩ ++ s.extract 0 1 ++ ⟨#[101, 45]⟩ ++ t) := by
              refine bytes_of ?_
              rw [HT2.out]
              unfold sciOf
              rw [hmag, if_neg (show ¬ 1 < (dOf false s e).dig.length by rw [show (dOf false s e).dig.length = s.size from size_list s]; exact h1), if_pos hn]
              simp only [app_list, ext_takeT, lt]
              simp [dOf]
            clear HT2 HP lt ht hc hmag hne
            go_wp2_with fail
            refine (betweenN _ _ _ _).mono ?_
            rintro r w2 ⟨rfl, rfl⟩
            go_wp2_with fail
            refine (cN _).mono ?_
            rintro r w3 ⟨rfl, B3⟩
            have D3 := below_kept D (Nat.le_refl _) B3
            clear cN B3 D KA k0 k1 k2
            go_wp2
            go_ret
            exact ⟨by rw [HB.out]; rfl, D3⟩
        · have cN := fun W => NumT.specNumText h W (by omega) (by omega)
          unfold NumT.StrIs at cN
          rw [itoa_pos hn] at cN
          obtain ⟨t, ht⟩ : ∃ t : ByteArray, ⟨(natOf h.natAbs).toArray⟩ = t := ⟨_, rfl⟩
          have lt : t.data.toList = natOf h.natAbs := by rw [← ht]
          have zt : t.size ≤ 30 := by rw [← size_list, lt]; exact nat20 (by omega) (by omega)
          rw [ht] at cN
          by_cases h1 : 1 < s.size
          · have HB : Hid ((⟨R.toArray⟩ : ByteArray) = ⟨#[]⟩ ++ s.extract 0 1 ++ ⟨#[46]⟩ ++ s.extract 1 s.size ++ ⟨#[101, 43]⟩ ++ t) := by
              refine bytes_of ?_
              rw [HT2.out]
              unfold sciOf
              rw [hmag, if_pos (show 1 < (dOf false s e).dig.length by rw [show (dOf false s e).dig.length = s.size from size_list s]; exact h1), if_neg hn]
              simp only [app_list, ext_takeT, Lib.ext_list, lt]
              simp [dOf]
            clear HT2 HP lt ht hc hmag hne
            go_wp2_with fail
            refine (betweenN _ _ _ _).mono ?_
            rintro r w2 ⟨rfl, rfl⟩
            go_wp2_with fail
            refine (cN _).mono ?_
            rintro r w3 ⟨rfl, B3⟩
            have D3 := below_kept D (Nat.le_refl _) B3
            clear cN B3 D KA k0 k1 k2
            go_wp2
            go_ret
            exact ⟨by rw [HB.out]; rfl, D3⟩
          · have HB : Hid ((⟨R.toArray⟩ : ByteArray) = ⟨#[]⟩ ++ s.extract 0 1 ++ ⟨#[101, 43]⟩ ++ t) := by
              refine bytes_of ?_
              rw [HT2.out]
              unfold sciOf
              rw [hmag, if_neg (show ¬ 1 < (dOf false s e).dig.length by rw [show (dOf false s e).dig.length = s.size from size_list s]; exact h1), if_neg hn]
              simp only [app_list, ext_takeT, lt]
              simp [dOf]
            clear HT2 HP lt ht hc hmag hne
            go_wp2_with fail
            refine (betweenN _ _ _ _).mono ?_
            rintro r w2 ⟨rfl, rfl⟩
            go_wp2_with fail
            refine (cN _).mono ?_
            rintro r w3 ⟨rfl, B3⟩
            have D3 := below_kept D (Nat.le_refl _) B3
            clear cN B3 D KA k0 k1 k2
            go_wp2
            go_ret
            exact ⟨by rw [HB.out]; rfl, D3⟩
      · have hbt : decide ((-7 : Int) ≤ h ∧ h ≤ 20) = true := decide_eq_true (by omega)
        have HT2 : Hid (R = [] ++ plainOf (dOf false s e)) := by show _ = _; rw [HT.out, if_neg hc]
        clear HT
        by_cases he : 0 ≤ e
        · have cZ := fun W => specZeros e.toNat W (by omega)
          rw [show ((e.toNat : Nat) : Int) = e by omega] at cZ
          unfold AnsS at cZ
          obtain ⟨t, ht⟩ : ∃ t : ByteArray, ⟨(List.replicate e.toNat 48).toArray⟩ = t := ⟨_, rfl⟩
          have lt : t.data.toList = List.replicate e.toNat 48 := by rw [← ht]
          have zt : t.size ≤ 200 := by rw [← size_list, lt, List.length_replicate]; omega
          rw [ht] at cZ
          have HB : Hid ((⟨R.toArray⟩ : ByteArray) = ⟨#[]⟩ ++ s ++ t) := by
            refine bytes_of ?_
            rw [HT2.out]
            unfold plainOf
            rw [if_pos (show 0 ≤ (dOf false s e).exp from he)]
            simp only [app_list, lt]
            simp [dOf]
          clear HT2 HP lt ht hc hmag hne
          go_wp2_with fail
          refine (betweenN _ _ _ _).mono ?_
          rintro r w2 ⟨rfl, rfl⟩
          go_wp2_with fail
          refine wp_region_kept_all (fun w' => DecAt w' w.heap.size false s e ∧ Below w.heap.size w w') (by kernel_rfl) (by kernel_rfl) (fun _ _ d _ _ h => by cases d <;> exact h) ⟨KA, D.drew⟩ ?_
          (refine kept_step (fun K hK => ?_); go_simp; refine ⟨_, fun W hW => .inl (by obtain ⟨h0, h1, h2⟩ := hW.1.cell; first | (go_simp; exact rfl) | (go_simp; rw [if_neg (by omega)])), hK _ ?_⟩; clear hK K)
          (refine kept_step (fun K hK => ?_); go_simp; refine ⟨_, fun W hW => .inl (by obtain ⟨h0, h1, h2⟩ := hW.1.cell; first | (go_simp; exact rfl) | (go_simp; rw [if_neg (by omega)])), hK _ ?_⟩; clear hK K)
          (refine kept_step (fun K hK => ?_); go_simp; refine ⟨_, fun W hW => .inl (by obtain ⟨h0, h1, h2⟩ := hW.1.cell; first | (go_simp; exact rfl) | (go_simp; rw [if_neg (by omega)])), hK _ ?_⟩; clear hK K)
          (refine kept_step (fun K hK => ?_); go_simp; refine ⟨_, fun W hW => .inl (by obtain ⟨h0, h1, h2⟩ := hW.1.cell; first | (go_simp; exact rfl) | (go_simp; rw [if_neg (by omega)])), hK _ ?_⟩; clear hK K)
          (refine kept_step (fun K hK => ?_); go_simp; refine ⟨_, fun W hW => .inl (by obtain ⟨h0, h1, h2⟩ := hW.1.cell; first | (go_simp; exact rfl) | (go_simp; rw [if_neg (by omega)])), hK _ ?_⟩; clear hK K)
          (refine kept_step (fun K hK => ?_); go_simp; refine ⟨_, fun W hW => .inl (by obtain ⟨h0, h1, h2⟩ := hW.1.cell; first | (go_simp; exact rfl) | (go_simp; rw [if_neg (by omega)])), hK _ ?_⟩; clear hK K)
          (refine kept_step (fun K hK => ?_); go_simp; refine ⟨_, fun W hW => .inr (.inr ⟨_, _, ?_, (cZ W).mono (fun r w' h => ⟨h.1, ⟨hW.1.belowS h.2, below_kept hW.2 (Nat.le_refl _) h.2⟩⟩)⟩), hK _ ?_⟩; (· first | (go_simp; done) | (go_simp; rfl)); clear hK K)
          (refine kept_step (fun K hK => ?_); go_simp; refine ⟨_, fun W hW => .inl (by obtain ⟨h0, h1, h2⟩ := hW.1.cell; first | (go_simp; exact rfl) | (go_simp; rw [if_neg (by omega)])), hK _ ?_⟩; clear hK K)
          (refine kept_step (fun K hK => ?_); go_simp; refine ⟨_, fun W hW => .inl (by obtain ⟨h0, h1, h2⟩ := hW.1.cell; first | (go_simp; exact rfl) | (go_simp; rw [if_neg (by omega)])), hK _ ?_⟩; clear hK K)
          refine kept_nil ?_
          rintro W ⟨h0, h1⟩
          clear KA D k0 k1 k2 cZ
          go_wp2
          go_ret
          exact ⟨by rw [HB.out]; rfl, h1⟩
        · by_cases hn : 0 ≤ h
          · obtain ⟨k, hk⟩ : ∃ k : Nat, (h + 1).toNat = k := ⟨_, rfl⟩
            have hki : h + 1 = (k : Int) := by omega
            have hks : k ≤ s.size := by omega
            have hksi : (k : Int) ≤ (s.size : Int) := by omega
            have i1 := IntWalk.i64_in (h + 1) ⟨by omega, by omega⟩
            have i2 := IntWalk.i64_in (k : Int) ⟨by omega, by omega⟩
            have HB : Hid ((⟨R.toArray⟩ : ByteArray) = ⟨#[]⟩ ++ s.extract 0 k ++ ⟨#[46]⟩ ++ s.extract k s.size) := by
              refine bytes_of ?_
              rw [HT2.out]
              unfold plainOf
              rw [hmag, if_neg (show ¬ 0 ≤ (dOf false s e).exp from he), if_pos hn, hk]
              simp only [app_list, ext_takeT, Lib.ext_list]
              simp [dOf]
            have z1 : (s.extract 0 k).size = k := by rw [← size_list, ext_takeT, List.length_take, size_list]; omega
            have z2 : (s.extract k s.size).size = s.size - k := by rw [← size_list, Lib.ext_list, List.length_drop, size_list]
            clear HT2 HP hc hmag hne hk
            go_wp2_with fail
            refine (betweenN _ _ _ _).mono ?_
            rintro r w2 ⟨rfl, rfl⟩
            go_wp2_with fail
            refine wp_region_kept_all (fun w' => DecAt w' w.heap.size false s e ∧ Below w.heap.size w w') (by kernel_rfl) (by kernel_rfl) (fun _ _ d _ _ h => by cases d <;> exact h) ⟨KA, D.drew⟩ ?_
            (refine kept_step (fun K hK => ?_); go_simp; refine ⟨_, fun W hW => .inl (by obtain ⟨h0, h1, h2⟩ := hW.1.cell; first | (go_simp; exact rfl) | (go_simp; rw [if_neg (by omega)])), hK _ ?_⟩; clear hK K)
            (refine kept_step (fun K hK => ?_); go_simp; refine ⟨_, fun W hW => .inl (by obtain ⟨h0, h1, h2⟩ := hW.1.cell; first | (go_simp; exact rfl) | (go_simp; rw [if_neg (by omega)])), hK _ ?_⟩; clear hK K)
            (refine kept_step (fun K hK => ?_); go_simp; refine ⟨_, fun W hW => .inl (by obtain ⟨h0, h1, h2⟩ := hW.1.cell; first | (go_simp; exact rfl) | (go_simp; rw [if_neg (by omega)])), hK _ ?_⟩; clear hK K)
            (refine kept_step (fun K hK => ?_); go_simp; refine ⟨_, fun W hW => .inl (by obtain ⟨h0, h1, h2⟩ := hW.1.cell; first | (go_simp; exact rfl) | (go_simp; rw [if_neg (by omega)])), hK _ ?_⟩; clear hK K)
            (refine kept_step (fun K hK => ?_); go_simp; refine ⟨_, fun W hW => .inl (by obtain ⟨h0, h1, h2⟩ := hW.1.cell; first | (go_simp; exact rfl) | (go_simp; rw [if_neg (by omega)])), hK _ ?_⟩; clear hK K)
            (refine kept_step (fun K hK => ?_); go_simp; refine ⟨_, fun W hW => .inl (by obtain ⟨h0, h1, h2⟩ := hW.1.cell; first | (go_simp; exact rfl) | (go_simp; rw [if_neg (by omega)])), hK _ ?_⟩; clear hK K)
            (refine kept_step (fun K hK => ?_); go_simp; refine ⟨_, fun W hW => .inl (by obtain ⟨h0, h1, h2⟩ := hW.1.cell; first | (go_simp; exact rfl) | (go_simp; rw [if_neg (by omega)])), hK _ ?_⟩; clear hK K)
            (refine kept_step (fun K hK => ?_); go_simp; refine ⟨_, fun W hW => .inl (by obtain ⟨h0, h1, h2⟩ := hW.1.cell; first | (go_simp; exact rfl) | (go_simp; rw [if_neg (by omega)])), hK _ ?_⟩; clear hK K)
            (refine kept_step (fun K hK => ?_); go_simp; refine ⟨_, fun W hW => .inl (by obtain ⟨h0, h1, h2⟩ := hW.1.cell; first | (go_simp; exact rfl) | (go_simp; rw [if_neg (by omega)])), hK _ ?_⟩; clear hK K)
            (refine kept_step (fun K hK => ?_); go_simp; refine ⟨_, fun W hW => .inl (by obtain ⟨h0, h1, h2⟩ := hW.1.cell; first | (go_simp; exact rfl) | (go_simp; rw [if_neg (by omega)])), hK _ ?_⟩; clear hK K)
            (refine kept_step (fun K hK => ?_); go_simp; refine ⟨_, fun W hW => .inl (by obtain ⟨h0, h1, h2⟩ := hW.1.cell; first | (go_simp; exact rfl) | (go_simp; rw [if_neg (by omega)])), hK _ ?_⟩; clear hK K)
            (refine kept_step (fun K hK => ?_); go_simp; refine ⟨_, fun W hW => .inl (by obtain ⟨h0, h1, h2⟩ := hW.1.cell; first | (go_simp; exact rfl) | (go_simp; rw [if_neg (by omega)])), hK _ ?_⟩; clear hK K)
            (refine kept_step (fun K hK => ?_); go_simp; refine ⟨_, fun W hW => .inl (by obtain ⟨h0, h1, h2⟩ := hW.1.cell; first | (go_simp; exact rfl) | (go_simp; rw [if_neg (by omega)])), hK _ ?_⟩; clear hK K)
            (refine kept_step (fun K hK => ?_); go_simp; refine ⟨_, fun W hW => .inl (by obtain ⟨h0, h1, h2⟩ := hW.1.cell; first | (go_simp; exact rfl) | (go_simp; rw [if_neg (by omega)])), hK _ ?_⟩; clear hK K)
            (refine kept_step (fun K hK => ?_); go_simp; refine ⟨_, fun W hW => .inl (by obtain ⟨h0, h1, h2⟩ := hW.1.cell; first | (go_simp; exact rfl) | (go_simp; rw [if_neg (by omega)])), hK _ ?_⟩; clear hK K)
            refine kept_nil ?_
            rintro W ⟨h0, h1⟩
            clear KA D k0 k1 k2
            go_wp2
            go_ret
            exact ⟨by rw [HB.out]; rfl, h1⟩
          · obtain ⟨k, hk⟩ : ∃ k : Nat, (-h - 1).toNat = k := ⟨_, rfl⟩
            have hki : -h - 1 = (k : Int) := by omega
            have cZ := fun W => specZeros k W (by omega)
            unfold AnsS at cZ
            obtain ⟨t, ht⟩ : ∃ t : ByteArray, ⟨(List.replicate k 48).toArray⟩ = t := ⟨_, rfl⟩
            have lt : t.data.toList = List.replicate k 48 := by rw [← ht]
            have zt : t.size ≤ 200 := by rw [← size_list, lt, List.length_replicate]; omega
            rw [ht] at cZ
            have i1 := IntWalk.i64_in (-h) ⟨by omega, by omega⟩
            have i2 := IntWalk.i64_in (-h - 1) ⟨by omega, by omega⟩
            have i3 := IntWalk.i64_in (k : Int) ⟨by omega, by omega⟩
            have HB : Hid ((⟨R.toArray⟩ : ByteArray) = ⟨#[]⟩ ++ ⟨#[48, 46]⟩ ++ t ++ s) := by
              refine bytes_of ?_
              rw [HT2.out]
              unfold plainOf
              rw [hmag, if_neg (show ¬ 0 ≤ (dOf false s e).exp from he), if_neg hn, hk]
              simp only [app_list, lt]
              simp [dOf]
            clear HT2 HP lt ht hc hmag hne hk
            go_wp2_with fail
            refine (betweenN _ _ _ _).mono ?_
            rintro r w2 ⟨rfl, rfl⟩
            go_wp2_with fail
            refine wp_region_kept_all (fun w' => DecAt w' w.heap.size false s e ∧ Below w.heap.size w w') (by kernel_rfl) (by kernel_rfl) (fun _ _ d _ _ h => by cases d <;> exact h) ⟨KA, D.drew⟩ ?_
            (refine kept_step (fun K hK => ?_); go_simp; refine ⟨_, fun W hW => .inl (by obtain ⟨h0, h1, h2⟩ := hW.1.cell; first | (go_simp; exact rfl) | (go_simp; rw [if_neg (by omega)])), hK _ ?_⟩; clear hK K)
            (refine kept_step (fun K hK => ?_); go_simp; refine ⟨_, fun W hW => .inl (by obtain ⟨h0, h1, h2⟩ := hW.1.cell; first | (go_simp; exact rfl) | (go_simp; rw [if_neg (by omega)])), hK _ ?_⟩; clear hK K)
            (refine kept_step (fun K hK => ?_); go_simp; refine ⟨_, fun W hW => .inl (by obtain ⟨h0, h1, h2⟩ := hW.1.cell; first | (go_simp; exact rfl) | (go_simp; rw [if_neg (by omega)])), hK _ ?_⟩; clear hK K)
            (refine kept_step (fun K hK => ?_); go_simp; refine ⟨_, fun W hW => .inl (by obtain ⟨h0, h1, h2⟩ := hW.1.cell; first | (go_simp; exact rfl) | (go_simp; rw [if_neg (by omega)])), hK _ ?_⟩; clear hK K)
            (refine kept_step (fun K hK => ?_); go_simp; refine ⟨_, fun W hW => .inl (by obtain ⟨h0, h1, h2⟩ := hW.1.cell; first | (go_simp; exact rfl) | (go_simp; rw [if_neg (by omega)])), hK _ ?_⟩; clear hK K)
            (refine kept_step (fun K hK => ?_); go_simp; refine ⟨_, fun W hW => .inr (.inr ⟨_, _, ?_, (cZ W).mono (fun r w' h => ⟨h.1, ⟨hW.1.belowS h.2, below_kept hW.2 (Nat.le_refl _) h.2⟩⟩)⟩), hK _ ?_⟩; (· first | (go_simp; done) | (go_simp; rfl)); clear hK K)
            (refine kept_step (fun K hK => ?_); go_simp; refine ⟨_, fun W hW => .inl (by obtain ⟨h0, h1, h2⟩ := hW.1.cell; first | (go_simp; exact rfl) | (go_simp; rw [if_neg (by omega)])), hK _ ?_⟩; clear hK K)
            (refine kept_step (fun K hK => ?_); go_simp; refine ⟨_, fun W hW => .inl (by obtain ⟨h0, h1, h2⟩ := hW.1.cell; first | (go_simp; exact rfl) | (go_simp; rw [if_neg (by omega)])), hK _ ?_⟩; clear hK K)
            (refine kept_step (fun K hK => ?_); go_simp; refine ⟨_, fun W hW => .inl (by obtain ⟨h0, h1, h2⟩ := hW.1.cell; first | (go_simp; exact rfl) | (go_simp; rw [if_neg (by omega)])), hK _ ?_⟩; clear hK K)
            (refine kept_step (fun K hK => ?_); go_simp; refine ⟨_, fun W hW => .inl (by obtain ⟨h0, h1, h2⟩ := hW.1.cell; first | (go_simp; exact rfl) | (go_simp; rw [if_neg (by omega)])), hK _ ?_⟩; clear hK K)
            (refine kept_step (fun K hK => ?_); go_simp; refine ⟨_, fun W hW => .inl (by obtain ⟨h0, h1, h2⟩ := hW.1.cell; first | (go_simp; exact rfl) | (go_simp; rw [if_neg (by omega)])), hK _ ?_⟩; clear hK K)
            refine kept_nil ?_
            rintro W ⟨h0, h1⟩
            clear KA D k0 k1 k2 cZ
            go_wp2
            go_ret
            exact ⟨by rw [HB.out]; rfl, h1⟩
    · have HT : Hid (R = if h < -7 ∨ 20 < h then [45] ++ sciOf (dOf true s e) else [45] ++ plainOf (dOf true s e)) := by
        show _ = _
        rw [← HR.out, if_pos HP.out, if_neg hne]
        show (if (dOf true s e).mag < -7 ∨ 20 < (dOf true s e).mag then signOf (dOf true s e) ++ sciOf (dOf true s e) else signOf (dOf true s e) ++ plainOf (dOf true s e)) = _
        rw [hmag]
        rfl
      clear HR
      by_cases hc : h < -7 ∨ 20 < h
      · have hbt : decide ((-7 : Int) ≤ h ∧ h ≤ 20) = false := decide_eq_false (by omega)
        have HT2 : Hid (R = [45] ++ sciOf (dOf true s e)) := by show _ = _; rw [HT.out, if_pos hc]
        clear HT
        by_cases hn : h < 0
        · have cN := fun W => NumT.specNumText (-h) W (by omega) (by omega)
          unfold NumT.StrIs at cN
          rw [itoa_pos (show ¬ -h < 0 by omega), Int.natAbs_neg] at cN
          obtain ⟨t, ht⟩ : ∃ t : ByteArray, ⟨(natOf h.natAbs).toArray⟩ = t := ⟨_, rfl⟩
          have lt : t.data.toList = natOf h.natAbs := by rw [← ht]
          have zt : t.size ≤ 30 := by rw [← size_list, lt]; exact nat20 (by omega) (by omega)
          rw [ht] at cN
          by_cases h1 : 1 < s.size
          · have HB : Hid ((⟨R.toArray⟩ : ByteArray) = ⟨#[45]⟩ ++ s.extract 0 1 ++ ⟨#[46]⟩ ++ s.extract 1 s.size ++ ⟨#[101, 45]⟩ ++ t) := by
              refine bytes_of ?_
              rw [HT2.out]
              unfold sciOf
              rw [hmag, if_pos (show 1 < (dOf true s e).dig.length by rw [show (dOf true s e).dig.length = s.size from size_list s]; exact h1), if_pos hn]
              simp only [app_list, ext_takeT, Lib.ext_list, lt]
              simp [dOf]
            clear HT2 HP lt ht hc hmag hne
            go_wp2_with fail
            refine (betweenN _ _ _ _).mono ?_
            rintro r w2 ⟨rfl, rfl⟩
            go_wp2_with fail
            refine (cN _).mono ?_
            rintro r w3 ⟨rfl, B3⟩
            have D3 := below_kept D (Nat.le_refl _) B3
            clear cN B3 D KA k0 k1 k2
            go_wp2
            go_ret
            exact ⟨by rw [HB.out]; rfl, D3⟩
          · have HB : Hid ((⟨R.toArray⟩ : ByteArray) = ⟨#[45]⟩ ++ s.extract 0 1 ++ ⟨#[101, 45]⟩ ++ t) := by
              refine bytes_of ?_
              rw [HT2.out]
              unfold sciOf
              rw [hmag, if_neg (show ¬ 1 < (dOf true s e).dig.length by rw [show (dOf true s e).dig.length = s.size from size_list s]; exact h1), if_pos hn]
              simp only [app_list, ext_takeT, lt]
              simp [dOf]
            clear HT2 HP lt ht hc hmag hne
            go_wp2_with fail
            refine (betweenN _ _ _ _).mono ?_
            rintro r w2 ⟨rfl, rfl⟩
            go_wp2_with fail
            refine (cN _).mono ?_
            rintro r w3 ⟨rfl, B3⟩
            have D3 := below_kept D (Nat.le_refl _) B3
            clear cN B3 D KA k0 k1 k2
            go_wp2
            go_ret
            exact ⟨by rw [HB.out]; rfl, D3⟩
        · have cN := fun W => NumT.specNumText h W (by omega) (by omega)
          unfold NumT.StrIs at cN
          rw [itoa_pos hn] at cN
          obtain ⟨t, ht⟩ : ∃ t : ByteArray, ⟨(natOf h.natAbs).toArray⟩ = t := ⟨_, rfl⟩
          have lt : t.data.toList = natOf h.natAbs := by rw [← ht]
          have zt : t.size ≤ 30 := by rw [← size_list, lt]; exact nat20 (by omega) (by omega)
          rw [ht] at cN
          by_cases h1 : 1 < s.size
          · have HB : Hid ((⟨R.toArray⟩ : ByteArray) = ⟨#[45]⟩ ++ s.extract 0 1 ++ ⟨#[46]⟩ ++ s.extract 1 s.size ++ ⟨#[101, 43]⟩ ++ t) := by
              refine bytes_of ?_
              rw [HT2.out]
              unfold sciOf
              rw [hmag, if_pos (show 1 < (dOf true s e).dig.length by rw [show (dOf true s e).dig.length = s.size from size_list s]; exact h1), if_neg hn]
              simp only [app_list, ext_takeT, Lib.ext_list, lt]
              simp [dOf]
            clear HT2 HP lt ht hc hmag hne
            go_wp2_with fail
            refine (betweenN _ _ _ _).mono ?_
            rintro r w2 ⟨rfl, rfl⟩
            go_wp2_with fail
            refine (cN _).mono ?_
            rintro r w3 ⟨rfl, B3⟩
            have D3 := below_kept D (Nat.le_refl _) B3
            clear cN B3 D KA k0 k1 k2
            go_wp2
            go_ret
            exact ⟨by rw [HB.out]; rfl, D3⟩
          · have HB : Hid ((⟨R.toArray⟩ : ByteArray) = ⟨#[45]⟩ ++ s.extract 0 1 ++ ⟨#[101, 43]⟩ ++ t) := by
              refine bytes_of ?_
              rw [HT2.out]
              unfold sciOf
              rw [hmag, if_neg (show ¬ 1 < (dOf true s e).dig.length by rw [show (dOf true s e).dig.length = s.size from size_list s]; exact h1), if_neg hn]
              simp only [app_list, ext_takeT, lt]
              simp [dOf]
            clear HT2 HP lt ht hc hmag hne
            go_wp2_with fail
            refine (betweenN _ _ _ _).mono ?_
            rintro r w2 ⟨rfl, rfl⟩
            go_wp2_with fail
            refine (cN _).mono ?_
            rintro r w3 ⟨rfl, B3⟩
            have D3 := below_kept D (Nat.le_refl _) B3
            clear cN B3 D KA k0 k1 k2
            go_wp2
            go_ret
            exact ⟨by rw [HB.out]; rfl, D3⟩
      · have hbt : decide ((-7 : Int) ≤ h ∧ h ≤ 20) = true := decide_eq_true (by omega)
        have HT2 : Hid (R = [45] ++ plainOf (dOf true s e)) := by show _ = _; rw [HT.out, if_neg hc]
        clear HT
        by_cases he : 0 ≤ e
        · have cZ := fun W => specZeros e.toNat W (by omega)
          rw [show ((e.toNat : Nat) : Int) = e by omega] at cZ
          unfold AnsS at cZ
          obtain ⟨t, ht⟩ : ∃ t : ByteArray, ⟨(List.replicate e.toNat 48).toArray⟩ = t := ⟨_, rfl⟩
          have lt : t.data.toList = List.replicate e.toNat 48 := by rw [← ht]
          have zt : t.size ≤ 200 := by rw [← size_list, lt, List.length_replicate]; omega
          rw [ht] at cZ
          have HB : Hid ((⟨R.toArray⟩ : ByteArray) = ⟨#[45]⟩ ++ s ++ t) := by
            refine bytes_of ?_
            rw [HT2.out]
            unfold plainOf
            rw [if_pos (show 0 ≤ (dOf true s e).exp from he)]
            simp only [app_list, lt]
            simp [dOf]
          clear HT2 HP lt ht hc hmag hne
          go_wp2_with fail
          refine (betweenN _ _ _ _).mono ?_
          rintro r w2 ⟨rfl, rfl⟩
          go_wp2_with fail
          refine wp_region_kept_all (fun w' => DecAt w' w.heap.size true s e ∧ Below w.heap.size w w') (by kernel_rfl) (by kernel_rfl) (fun _ _ d _ _ h => by cases d <;> exact h) ⟨KA, D.drew⟩ ?_
          (refine kept_step (fun K hK => ?_); go_simp; refine ⟨_, fun W hW => .inl (by obtain ⟨h0, h1, h2⟩ := hW.1.cell; first | (go_simp; exact rfl) | (go_simp; rw [if_neg (by omega)])), hK _ ?_⟩; clear hK K)
          (refine kept_step (fun K hK => ?_); go_simp; refine ⟨_, fun W hW => .inl (by obtain ⟨h0, h1, h2⟩ := hW.1.cell; first | (go_simp; exact rfl) | (go_simp; rw [if_neg (by omega)])), hK _ ?_⟩; clear hK K)
          (refine kept_step (fun K hK => ?_); go_simp; refine ⟨_, fun W hW => .inl (by obtain ⟨h0, h1, h2⟩ := hW.1.cell; first | (go_simp; exact rfl) | (go_simp; rw [if_neg (by omega)])), hK _ ?_⟩; clear hK K)
          (refine kept_step (fun K hK => ?_); go_simp; refine ⟨_, fun W hW => .inl (by obtain ⟨h0, h1, h2⟩ := hW.1.cell; first | (go_simp; exact rfl) | (go_simp; rw [if_neg (by omega)])), hK _ ?_⟩; clear hK K)
          (refine kept_step (fun K hK => ?_); go_simp; refine ⟨_, fun W hW => .inl (by obtain ⟨h0, h1, h2⟩ := hW.1.cell; first | (go_simp; exact rfl) | (go_simp; rw [if_neg (by omega)])), hK _ ?_⟩; clear hK K)
          (refine kept_step (fun K hK => ?_); go_simp; refine ⟨_, fun W hW => .inl (by obtain ⟨h0, h1, h2⟩ := hW.1.cell; first | (go_simp; exact rfl) | (go_simp; rw [if_neg (by omega)])), hK _ ?_⟩; clear hK K)
          (refine kept_step (fun K hK => ?_); go_simp; refine ⟨_, fun W hW => .inr (.inr ⟨_, _, ?_, (cZ W).mono (fun r w' h => ⟨h.1, ⟨hW.1.belowS h.2, below_kept hW.2 (Nat.le_refl _) h.2⟩⟩)⟩), hK _ ?_⟩; (· first | (go_simp; done) | (go_simp; rfl)); clear hK K)
          (refine kept_step (fun K hK => ?_); go_simp; refine ⟨_, fun W hW => .inl (by obtain ⟨h0, h1, h2⟩ := hW.1.cell; first | (go_simp; exact rfl) | (go_simp; rw [if_neg (by omega)])), hK _ ?_⟩; clear hK K)
          (refine kept_step (fun K hK => ?_); go_simp; refine ⟨_, fun W hW => .inl (by obtain ⟨h0, h1, h2⟩ := hW.1.cell; first | (go_simp; exact rfl) | (go_simp; rw [if_neg (by omega)])), hK _ ?_⟩; clear hK K)
          refine kept_nil ?_
          rintro W ⟨h0, h1⟩
          clear KA D k0 k1 k2 cZ
          go_wp2
          go_ret
          exact ⟨by rw [HB.out]; rfl, h1⟩
        · by_cases hn : 0 ≤ h
          · obtain ⟨k, hk⟩ : ∃ k : Nat, (h + 1).toNat = k := ⟨_, rfl⟩
            have hki : h + 1 = (k : Int) := by omega
            have hks : k ≤ s.size := by omega
            have hksi : (k : Int) ≤ (s.size : Int) := by omega
            have i1 := IntWalk.i64_in (h + 1) ⟨by omega, by omega⟩
            have i2 := IntWalk.i64_in (k : Int) ⟨by omega, by omega⟩
            have HB : Hid ((⟨R.toArray⟩ : ByteArray) = ⟨#[45]⟩ ++ s.extract 0 k ++ ⟨#[46]⟩ ++ s.extract k s.size) := by
              refine bytes_of ?_
              rw [HT2.out]
              unfold plainOf
              rw [hmag, if_neg (show ¬ 0 ≤ (dOf true s e).exp from he), if_pos hn, hk]
              simp only [app_list, ext_takeT, Lib.ext_list]
              simp [dOf]
            have z1 : (s.extract 0 k).size = k := by rw [← size_list, ext_takeT, List.length_take, size_list]; omega
            have z2 : (s.extract k s.size).size = s.size - k := by rw [← size_list, Lib.ext_list, List.length_drop, size_list]
            clear HT2 HP hc hmag hne hk
            go_wp2_with fail
            refine (betweenN _ _ _ _).mono ?_
            rintro r w2 ⟨rfl, rfl⟩
            go_wp2_with fail
            refine wp_region_kept_all (fun w' => DecAt w' w.heap.size true s e ∧ Below w.heap.size w w') (by kernel_rfl) (by kernel_rfl) (fun _ _ d _ _ h => by cases d <;> exact h) ⟨KA, D.drew⟩ ?_
            (refine kept_step (fun K hK => ?_); go_simp; refine ⟨_, fun W hW => .inl (by obtain ⟨h0, h1, h2⟩ := hW.1.cell; first | (go_simp; exact rfl) | (go_simp; rw [if_neg (by omega)])), hK _ ?_⟩; clear hK K)
            (refine kept_step (fun K hK => ?_); go_simp; refine ⟨_, fun W hW => .inl (by obtain ⟨h0, h1, h2⟩ := hW.1.cell; first | (go_simp; exact rfl) | (go_simp; rw [if_neg (by omega)])), hK _ ?_⟩; clear hK K)
            (refine kept_step (fun K hK => ?_); go_simp; refine ⟨_, fun W hW => .inl (by obtain ⟨h0, h1, h2⟩ := hW.1.cell; first | (go_simp; exact rfl) | (go_simp; rw [if_neg (by omega)])), hK _ ?_⟩; clear hK K)
            (refine kept_step (fun K hK => ?_); go_simp; refine ⟨_, fun W hW => .inl (by obtain ⟨h0, h1, h2⟩ := hW.1.cell; first | (go_simp; exact rfl) | (go_simp; rw [if_neg (by omega)])), hK _ ?_⟩; clear hK K)
            (refine kept_step (fun K hK => ?_); go_simp; refine ⟨_, fun W hW => .inl (by obtain ⟨h0, h1, h2⟩ := hW.1.cell; first | (go_simp; exact rfl) | (go_simp; rw [if_neg (by omega)])), hK _ ?_⟩; clear hK K)
            (refine kept_step (fun K hK => ?_); go_simp; refine ⟨_, fun W hW => .inl (by obtain ⟨h0, h1, h2⟩ := hW.1.cell; first | (go_simp; exact rfl) | (go_simp; rw [if_neg (by omega)])), hK _ ?_⟩; clear hK K)
            (refine kept_step (fun K hK => ?_); go_simp; refine ⟨_, fun W hW => .inl (by obtain ⟨h0, h1, h2⟩ := hW.1.cell; first | (go_simp; exact rfl) | (go_simp; rw [if_neg (by omega)])), hK _ ?_⟩; clear hK K)
            (refine kept_step (fun K hK => ?_); go_simp; refine ⟨_, fun W hW => .inl (by obtain ⟨h0, h1, h2⟩ := hW.1.cell; first | (go_simp; exact rfl) | (go_simp; rw [if_neg (by omega)])), hK _ ?_⟩; clear hK K)
            (refine kept_step (fun K hK => ?_); go_simp; refine ⟨_, fun W hW => .inl (by obtain ⟨h0, h1, h2⟩ := hW.1.cell; first | (go_simp; exact rfl) | (go_simp; rw [if_neg (by omega)])), hK _ ?_⟩; clear hK K)
            (refine kept_step (fun K hK => ?_); go_simp; refine ⟨_, fun W hW => .inl (by obtain ⟨h0, h1, h2⟩ := hW.1.cell; first | (go_simp; exact rfl) | (go_simp; rw [if_neg (by omega)])), hK _ ?_⟩; clear hK K)
            (refine kept_step (fun K hK => ?_); go_simp; refine ⟨_, fun W hW => .inl (by obtain ⟨h0, h1, h2⟩ := hW.1.cell; first | (go_simp; exact rfl) | (go_simp; rw [if_neg (by omega)])), hK _ ?_⟩; clear hK K)
            (refine kept_step (fun K hK => ?_); go_simp; refine ⟨_, fun W hW => .inl (by obtain ⟨h0, h1, h2⟩ := hW.1.cell; first | (go_simp; exact rfl) | (go_simp; rw [if_neg (by omega)])), hK _ ?_⟩; clear hK K)
            (refine kept_step (fun K hK => ?_); go_simp; refine ⟨_, fun W hW => .inl (by obtain ⟨h0, h1, h2⟩ := hW.1.cell; first | (go_simp; exact rfl) | (go_simp; rw [if_neg (by omega)])), hK _ ?_⟩; clear hK K)
            (refine kept_step (fun K hK => ?_); go_simp; refine ⟨_, fun W hW => .inl (by obtain ⟨h0, h1, h2⟩ := hW.1.cell; first | (go_simp; exact rfl) | (go_simp; rw [if_neg (by omega)])), hK _ ?_⟩; clear hK K)
            (refine kept_step (fun K hK => ?_); go_simp; refine ⟨_, fun W hW => .inl (by obtain ⟨h0, h1, h2⟩ := hW.1.cell; first | (go_simp; exact rfl) | (go_simp; rw [if_neg (by omega)])), hK _ ?_⟩; clear hK K)
            refine kept_nil ?_
            rintro W ⟨h0, h1⟩
            clear KA D k0 k1 k2
            go_wp2
            go_ret
            exact ⟨by rw [HB.out]; rfl, h1⟩
          · obtain ⟨k, hk⟩ : ∃ k : Nat, (-h - 1).toNat = k := ⟨_, rfl⟩
            have hki : -h - 1 = (k : Int) := by omega
            have cZ := fun W => specZeros k W (by omega)
            unfold AnsS at cZ
            obtain ⟨t, ht⟩ : ∃ t : ByteArray, ⟨(List.replicate k 48).toArray⟩ = t := ⟨_, rfl⟩
            have lt : t.data.toList = List.replicate k 48 := by rw [← ht]
            have zt : t.size ≤ 200 := by rw [← size_list, lt, List.length_replicate]; omega
            rw [ht] at cZ
            have i1 := IntWalk.i64_in (-h) ⟨by omega, by omega⟩
            have i2 := IntWalk.i64_in (-h - 1) ⟨by omega, by omega⟩
            have i3 := IntWalk.i64_in (k : Int) ⟨by omega, by omega⟩
            have HB : Hid ((⟨R.toArray⟩ : ByteArray) = ⟨#[45]⟩ ++ ⟨#[48, 46]⟩ ++ t ++ s) := by
              refine bytes_of ?_
              rw [HT2.out]
              unfold plainOf
              rw [hmag, if_neg (show ¬ 0 ≤ (dOf true s e).exp from he), if_neg hn, hk]
              simp only [app_list, lt]
              simp [dOf]
            clear HT2 HP lt ht hc hmag hne hk
            go_wp2_with fail
            refine (betweenN _ _ _ _).mono ?_
            rintro r w2 ⟨rfl, rfl⟩
            go_wp2_with fail
            refine wp_region_kept_all (fun w' => DecAt w' w.heap.size true s e ∧ Below w.heap.size w w') (by kernel_rfl) (by kernel_rfl) (fun _ _ d _ _ h => by cases d <;> exact h) ⟨KA, D.drew⟩ ?_
            (refine kept_step (fun K hK => ?_); go_simp; refine ⟨_, fun W hW => .inl (by obtain ⟨h0, h1, h2⟩ := hW.1.cell; first | (go_simp; exact rfl) | (go_simp; rw [if_neg (by omega)])), hK _ ?_⟩; clear hK K)
            (refine kept_step (fun K hK => ?_); go_simp; refine ⟨_, fun W hW => .inl (by obtain ⟨h0, h1, h2⟩ := hW.1.cell; first | (go_simp; exact rfl) | (go_simp; rw [if_neg (by omega)])), hK _ ?_⟩; clear hK K)
            (refine kept_step (fun K hK => ?_); go_simp; refine ⟨_, fun W hW => .inl (by obtain ⟨h0, h1, h2⟩ := hW.1.cell; first | (go_simp; exact rfl) | (go_simp; rw [if_neg (by omega)])), hK _ ?_⟩; clear hK K)
            (refine kept_step (fun K hK => ?_); go_simp; refine ⟨_, fun W hW => .inl (by obtain ⟨h0, h1, h2⟩ := hW.1.cell; first | (go_simp; exact rfl) | (go_simp; rw [if_neg (by omega)])), hK _ ?_⟩; clear hK K)
            (refine kept_step (fun K hK => ?_); go_simp; refine ⟨_, fun W hW => .inl (by obtain ⟨h0, h1, h2⟩ := hW.1.cell; first | (go_simp; exact rfl) | (go_simp; rw [if_neg (by omega)])), hK _ ?_⟩; clear hK K)
            (refine kept_step (fun K hK => ?_); go_simp; refine ⟨_, fun W hW => .inr (.inr ⟨_, _, ?_, (cZ W).mono (fun r w' h => ⟨h.1, ⟨hW.1.belowS h.2, below_kept hW.2 (Nat.le_refl _) h.2⟩⟩)⟩), hK _ ?_⟩; (· first | (go_simp; done) | (go_simp; rfl)); clear hK K)
            (refine kept_step (fun K hK => ?_); go_simp; refine ⟨_, fun W hW => .inl (by obtain ⟨h0, h1, h2⟩ := hW.1.cell; first | (go_simp; exact rfl) | (go_simp; rw [if_neg (by omega)])), hK _ ?_⟩; clear hK K)
            (refine kept_step (fun K hK => ?_); go_simp; refine ⟨_, fun W hW => .inl (by obtain ⟨h0, h1, h2⟩ := hW.1.cell; first | (go_simp; exact rfl) | (go_simp; rw [if_neg (by omega)])), hK _ ?_⟩; clear hK K)
            (refine kept_step (fun K hK => ?_); go_simp; refine ⟨_, fun W hW => .inl (by obtain ⟨h0, h1, h2⟩ := hW.1.cell; first | (go_simp; exact rfl) | (go_simp; rw [if_neg (by omega)])), hK _ ?_⟩; clear hK K)
            (refine kept_step (fun K hK => ?_); go_simp; refine ⟨_, fun W hW => .inl (by obtain ⟨h0, h1, h2⟩ := hW.1.cell; first | (go_simp; exact rfl) | (go_simp; rw [if_neg (by omega)])), hK _ ?_⟩; clear hK K)
            (refine kept_step (fun K hK => ?_); go_simp; refine ⟨_, fun W hW => .inl (by obtain ⟨h0, h1, h2⟩ := hW.1.cell; first | (go_simp; exact rfl) | (go_simp; rw [if_neg (by omega)])), hK _ ?_⟩; clear hK K)
            refine kept_nil ?_
            rintro W ⟨h0, h1⟩
            clear KA D k0 k1 k2 cZ
            go_wp2
            go_ret
            exact ⟨by rw [HB.out]; rfl, h1⟩
  · have HB : Hid (R = []) := by show _ = _; rw [← HR.out, if_neg hb]
    clear HR hb
    go_wp2
    go_ret
    exact ⟨by rw [HB.out]; rfl, D⟩

end Go.Proofs.YtlhdolcadlabpaaDoor
