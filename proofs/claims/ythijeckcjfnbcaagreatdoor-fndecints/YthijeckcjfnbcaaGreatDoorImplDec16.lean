/- impl.DecText. Conditions: at most 1048576 digits; strconv's table of powers lies as Go's text lays it. -/
import Derived.Test.YthijeckcjfnbcaaGreatDoorImplDec15
import Derived.Test.YthijeckcjfnbcaaGreatDoorImplDecA
namespace Go.Proofs.YthijeckcjfnbcaaGreatDoor
set_option linter.unusedVariables false
open Go.RowKit
open Go.Lib (byteCells)

set_option maxHeartbeats 4000000 in
set_option maxRecDepth 100000 in
theorem implDecText (n : Bool) (s : ByteArray) (e : Int) (w : World) (hs : s.size ≤ 1048576) (b1 : -9223372036854775808 ≤ e) (b2 : e ≤ 9223372036854775807)
    (hT : Lib.TabBelow Tryz.prog w.heap.size w "internal/strconv.uint64pow10" .u64 Lib.pow10Tab) :
    Calls Tryz.prog 47 #[.agg #[.bool n, .string s, .int .i64 e]] w (AnsS (textR (dOf n s e)) w) := by
  obtain ⟨R, hR⟩ : ∃ R, textR (dOf n s e) = R := ⟨_, rfl⟩
  rw [hR]
  unfold textR at hR
  have HR := Lib.hid hR
  clear hR
  have KA0 := DecAt.new w n s e
  have B0 : Below w.heap.size w (w.alloc (.cells #[.bool n, .string s, .int .i64 e] 25)) := (Below.refl _ _).alloc (Nat.le_refl _) _
  have cO := fun W => implDecOk n s e W hs b1 b2
  have cZ := fun W => implIsZero n s e W
  go_enter Tryz.func47, Tryz.ntmps47
  go_wp2_with fail
  refine (cO _).mono ?_
  intro r w1 hr
  obtain ⟨hb, B1⟩ := AnsB.get hr
  have KA := KA0.belowS B1
  have D := below_kept B0 (Nat.le_refl _) B1
  clear cO B1 hr B0 KA0
  obtain ⟨k0, k1, k2⟩ := KA.cell
  rcases hb with ⟨rfl, hb⟩ | ⟨rfl, hb⟩
  · have HP := Lib.hid hb
    clear hb
    obtain ⟨d1, q1, x1, x2⟩ := ok_size HP.out
    clear d1
    go_wp2_with fail
    refine (cZ _).mono ?_
    intro r w2 hr
    obtain ⟨hb, B2⟩ := AnsB.get hr
    have KA2 := KA.belowS B2
    have D2 := below_kept D (Nat.le_refl _) B2
    clear cZ B2 hr D KA k0 k1 k2
    obtain ⟨k0, k1, k2⟩ := KA2.cell
    rcases hb with ⟨rfl, hb⟩ | ⟨rfl, hb⟩
    · have HB : Hid (R = [48]) := by show _ = _; rw [← HR.out, if_pos HP.out, if_pos (by rw [hb]; rfl)]
      clear HR hb
      go_wp2
      go_ret
      exact ⟨by rw [HB.out]; rfl, D2⟩
    · have hne : ¬ (dOf n s e).dig = [] := fun g => hb (HP.out.nil g)
      have h0 : s.size ≠ 0 := fun g => hne (List.eq_nil_of_length_eq_zero (by rw [show (dOf n s e).dig.length = s.size from size_list s]; exact g))
      obtain ⟨h, hh⟩ : ∃ h, e + (s.size : Int) - 1 = h := ⟨_, rfl⟩
      have hmag : (dOf n s e).mag = h := by unfold DecV.mag; rw [show (dOf n s e).dig.length = s.size from size_list s]; exact hh
      have cM := fun W => implMagnitude n s e W (by omega) (by omega) (by omega)
      rw [hh] at cM
      have HT : Hid (R = if h < -7 ∨ 20 < h then signOf (dOf n s e) ++ sciOf (dOf n s e) else signOf (dOf n s e) ++ plainOf (dOf n s e)) := by
        show _ = _
        rw [← HR.out, if_pos HP.out, if_neg hne, hmag]
      have cS : ∀ (v : Value) (acc : List UInt8) (W : World), Out.Bytes W w.heap.size v acc → Below w.heap.size w W → acc.length ≤ 10 → (h < 0 ∨ 0 < h) → Calls Tryz.prog 76 #[.agg #[.bool n, .string s, .int .i64 e], v] W (AnsB8 w.heap.size (acc ++ sciOf (dOf n s e)) W) := fun v acc W h1 h2 h3 h4 =>
        implSci n s e v acc W w.heap.size q1 h0 x1 x2 (by rw [hmag]; exact h4) h1 h2.size h3 (fun W' hW' => hT W' (h2.trans hW'))
      have cP : ∀ (v : Value) (acc : List UInt8) (W : World), Out.Bytes W w.heap.size v acc → Below w.heap.size w W → acc.length ≤ 10 → Calls Tryz.prog 77 #[.agg #[.bool n, .string s, .int .i64 e], v] W (AnsB8 w.heap.size (acc ++ plainOf (dOf n s e)) W) := fun v acc W h1 h2 h3 =>
        implPlain n s e v acc W w.heap.size q1 h0 x1 x2 h1 h2.size h3
      have cv : ∀ W v l, Out.Bytes W w.heap.size v l → (convert 22 9 v).run Tryz.prog W = .ok (.string ⟨l.toArray⟩) W := fun W v l h => conv_own (P := Tryz.prog) (dst := 9) Tryz.underlying22 Tryz.underlying5 Tryz.underlying9 h
      have CV := Lib.hid cv
      have CS := Lib.hid cS
      have CP := Lib.hid cP
      have S0 : Out.St w w.heap.size w.heap.size n s e (.slice none 0 0) [] w2 := ⟨Out.bytes_nil _ _, KA2, D2, Nat.le_refl _⟩
      clear HR hb hne hmag cv cS cP D2 KA2 HP hT hh
      have SG : Hid (signOf (dOf n s e) = if n then [45] else []) := rfl
      cases n
      · have SG2 : Hid (signOf (dOf false s e) = []) := rfl
        go_wp2_with fail
        refine (cM _).mono ?_
        rintro r w3 ⟨rfl, B3⟩
        have S1 := S0.kept B3
        clear S0 B3 k0 k1 k2
        obtain ⟨k0, k1, k2⟩ := S1.dec.cell
        by_cases g1 : h < -7
        · have HE : Hid (R = sciOf (dOf false s e)) := by show _ = _; rw [HT.out, if_pos (.inl g1), SG2.out, List.nil_append]
          clear HT cM
          have cS := CS.out (.slice none 0 0) [] w3 S1.row S1.below (by simp) (by omega)
          unfold AnsB8 at cS
          rw [List.nil_append, ← HE.out] at cS
          go_wp2_with fail
          refine cS.mono ?_
          rintro r w4 ⟨v4, rfl, O4, B4⟩
          have hcv := CV.out _ _ _ O4
          have D4 := S1.below.trans B4
          clear cS B4 S1 CS CP k0 k1 k2
          go_wp2
          go_ret
          exact ⟨rfl, D4⟩
        · go_wp2_with fail
          refine (cM _).mono ?_
          rintro r w4 ⟨rfl, B4⟩
          have S2 := S1.kept B4
          clear S1 B4 k0 k1 k2 cM
          obtain ⟨k0, k1, k2⟩ := S2.dec.cell
          by_cases g2 : 20 < h
          · have HE : Hid (R = sciOf (dOf false s e)) := by show _ = _; rw [HT.out, if_pos (.inr g2), SG2.out, List.nil_append]
            clear HT
            have cS := CS.out (.slice none 0 0) [] w4 S2.row S2.below (by simp) (by omega)
            unfold AnsB8 at cS
            rw [List.nil_append, ← HE.out] at cS
            go_wp2_with fail
            refine cS.mono ?_
            rintro r w5 ⟨v5, rfl, O5, B5⟩
            have hcv := CV.out _ _ _ O5
            have D5 := S2.below.trans B5
            clear cS B5 S2 CS CP k0 k1 k2
            go_wp2
            go_ret
            exact ⟨rfl, D5⟩
          · have HE : Hid (R = plainOf (dOf false s e)) := by show _ = _; rw [HT.out, if_neg (by omega), SG2.out, List.nil_append]
            clear HT
            have cS := CP.out (.slice none 0 0) [] w4 S2.row S2.below (by simp)
            unfold AnsB8 at cS
            rw [List.nil_append, ← HE.out] at cS
            go_wp2_with fail
            refine cS.mono ?_
            rintro r w5 ⟨v5, rfl, O5, B5⟩
            have hcv := CV.out _ _ _ O5
            have D5 := S2.below.trans B5
            clear cS B5 S2 CS CP k0 k1 k2
            go_wp2
            go_ret
            exact ⟨rfl, D5⟩
      · have SG2 : Hid (signOf (dOf true s e) = [45]) := rfl
        go_wp2_with (at_builtin; refine Out.app_byte (c := 45) S0 rfl rfl rfl (by simp) (by simp) ?_; intro v9 w9 S9; clear S0 k0 k1 k2; obtain ⟨k0, k1, k2⟩ := S9.dec.cell)
        refine (cM _).mono ?_
        rintro r w3 ⟨rfl, B3⟩
        have S1 := S9.kept B3
        clear S9 B3 k0 k1 k2
        obtain ⟨k0, k1, k2⟩ := S1.dec.cell
        by_cases g1 : h < -7
        · have HE : Hid (R = [45] ++ sciOf (dOf true s e)) := by show _ = _; rw [HT.out, if_pos (.inl g1), SG2.out]
          clear HT cM
          have cS := CS.out v9 ([] ++ [45]) w3 S1.row S1.below (by simp) (by omega)
          unfold AnsB8 at cS
          rw [List.nil_append, ← HE.out] at cS
          go_wp2_with fail
          refine cS.mono ?_
          rintro r w4 ⟨v4, rfl, O4, B4⟩
          have hcv := CV.out _ _ _ O4
          have D4 := S1.below.trans B4
          clear cS B4 S1 CS CP k0 k1 k2
          go_wp2
          go_ret
          exact ⟨rfl, D4⟩
        · go_wp2_with fail
          refine (cM _).mono ?_
          rintro r w4 ⟨rfl, B4⟩
          have S2 := S1.kept B4
          clear S1 B4 k0 k1 k2 cM
          obtain ⟨k0, k1, k2⟩ := S2.dec.cell
          by_cases g2 : 20 < h
          · have HE : Hid (R = [45] ++ sciOf (dOf true s e)) := by show _ = _; rw [HT.out, if_pos (.inr g2), SG2.out]
            clear HT
            have cS := CS.out v9 ([] ++ [45]) w4 S2.row S2.below (by simp) (by omega)
            unfold AnsB8 at cS
            rw [List.nil_append, ← HE.out] at cS
            go_wp2_with fail
            refine cS.mono ?_
            rintro r w5 ⟨v5, rfl, O5, B5⟩
            have hcv := CV.out _ _ _ O5
            have D5 := S2.below.trans B5
            clear cS B5 S2 CS CP k0 k1 k2
            go_wp2
            go_ret
            exact ⟨rfl, D5⟩
          · have HE : Hid (R = [45] ++ plainOf (dOf true s e)) := by show _ = _; rw [HT.out, if_neg (by omega), SG2.out]
            clear HT
            have cS := CP.out v9 ([] ++ [45]) w4 S2.row S2.below (by simp)
            unfold AnsB8 at cS
            rw [List.nil_append, ← HE.out] at cS
            go_wp2_with fail
            refine cS.mono ?_
            rintro r w5 ⟨v5, rfl, O5, B5⟩
            have hcv := CV.out _ _ _ O5
            have D5 := S2.below.trans B5
            clear cS B5 S2 CS CP k0 k1 k2
            go_wp2
            go_ret
            exact ⟨rfl, D5⟩
  · have HB : Hid (R = []) := by show _ = _; rw [← HR.out, if_neg hb]
    clear HR hb cZ
    go_wp2
    go_ret
    exact ⟨by rw [HB.out]; rfl, D⟩

end Go.Proofs.YthijeckcjfnbcaaGreatDoor
