/- PrefixEnd of both sides. Conditions: at most 1048576 bytes; utf8's two tables hold what Go's text lays. -/
import Derived.Test.YtlhdolcadlabpaaDoorPreScan
import Derived.Test.YtlhdolcadlabpaaDoorPre2
import Derived.Test.YtlhdolcadlabpaaDoorSpecOk
import Derived.Test.YtlhdolcadlabpaaDoorSpecDec20
import Derived.Test.YtlhdolcadlabpaaDoorImplDecR
namespace Go.Proofs.YtlhdolcadlabpaaDoor
set_option linter.unusedVariables false
open Go.RowKit

/-- The end of the number ahead: -1 where there is no text. -/
noncomputable def endR (s : ByteArray) : Int := if (runesOf s).isSome = true then (preEnd s.data.toList : Int) else -1
theorem text_size {s : ByteArray} (h : (runesOf s).isSome = true) : s.size ≤ 1000 := by
  unfold runesOf at h
  by_cases g : 1000 < s.size
  · rw [if_pos g] at h; cases h
  · omega
theorem pre_le {s : ByteArray} : preEnd s.data.toList ≤ s.size := by
  unfold preEnd numE
  have h1 := blN_le s.data.toList
  have h2 := scan_le (s.data.toList.drop (blN s.data.toList))
  rw [List.length_drop] at h2
  rw [size_list] at h1 h2
  split <;> omega

set_option maxHeartbeats 1000000 in
theorem specPrefixEnd (s : ByteArray) (w : World) (hs : s.size ≤ 1048576) :
    Calls Tryd.prog 17 #[.string s] w fun r w' => r = .returned (.int .i64 (endR s)) ∧ Below w.heap.size w w' := by
  have cT := fun W => specTextOkD s W hs
  unfold BoolIs at cT
  by_cases ht : (runesOf s).isSome = true
  · have hz := text_size ht
    have HE : Hid (endR s = (preEnd s.data.toList : Int)) := by show _ = _; unfold endR; rw [if_pos ht]
    rw [ht] at cT
    obtain ⟨a, ha⟩ : ∃ a, blN s.data.toList = a := ⟨_, rfl⟩
    have hal : a ≤ s.size := by rw [← ha, ← size_list]; exact blN_le _
    obtain ⟨V, hV⟩ : ∃ V, a + scanN (s.data.toList.drop a) = V := ⟨_, rfl⟩
    have hVl : V ≤ s.size := by have := scan_le (s.data.toList.drop a); rw [List.length_drop, size_list] at this; omega
    have cS := fun W => specStart s a W hs ha
    have cN := fun W => specScanG s a V W hz hal hV
    by_cases h0 : V = a
    · have HP : Hid (preEnd s.data.toList = 0) := by show _ = _; unfold preEnd numE; rw [ha, if_pos (by omega)]
      have hb : ((V : Int) == (a : Int)) = true := by rw [beq_iff_eq]; omega
      clear ht ha hV h0
      go_enter Tryd.func17, Tryd.ntmps17
      go_wp2_with fail
      refine (cT _).mono ?_
      rintro r w1 ⟨rfl, B1⟩
      go_wp2_with fail
      refine (cS _).mono ?_
      rintro r w2 ⟨rfl, B2⟩
      have D2 := below_kept B1 (Nat.le_refl _) B2
      clear B1 B2 cT cS
      go_wp2_with fail
      refine (cN _).mono ?_
      rintro r w3 ⟨rfl, B3⟩
      have D3 := below_kept D2 (Nat.le_refl _) B3
      clear D2 B3 cN
      go_wp2
      go_ret
      exact ⟨by rw [HE.out, HP.out]; rfl, D3⟩
    · have HP : Hid (preEnd s.data.toList = V) := by show _ = _; unfold preEnd numE; rw [ha, if_neg (by omega)]; exact hV
      have hb : ((V : Int) == (a : Int)) = false := by rw [beq_eq_false_iff_ne]; omega
      clear ht ha hV h0
      go_enter Tryd.func17, Tryd.ntmps17
      go_wp2_with fail
      refine (cT _).mono ?_
      rintro r w1 ⟨rfl, B1⟩
      go_wp2_with fail
      refine (cS _).mono ?_
      rintro r w2 ⟨rfl, B2⟩
      have D2 := below_kept B1 (Nat.le_refl _) B2
      clear B1 B2 cT cS
      go_wp2_with fail
      refine (cN _).mono ?_
      rintro r w3 ⟨rfl, B3⟩
      have D3 := below_kept D2 (Nat.le_refl _) B3
      clear D2 B3 cN
      go_wp2
      go_ret
      exact ⟨by rw [HE.out, HP.out]; rfl, D3⟩
  · have ht2 : (runesOf s).isSome = false := by simpa using ht
    have HE : Hid (endR s = -1) := by show _ = _; unfold endR; rw [if_neg ht]
    rw [ht2] at cT
    clear ht ht2
    go_enter Tryd.func17, Tryd.ntmps17
    go_wp2_with fail
    refine (cT _).mono ?_
    rintro r w1 ⟨rfl, B1⟩
    clear cT
    go_wp2
    go_ret
    exact ⟨by rw [HE.out]; rfl, B1⟩

set_option maxHeartbeats 1000000 in
theorem implPrefixEnd (s : ByteArray) (w : World) (hs : s.size ≤ 1048576) (hT : Tabs w) :
    Calls Tryd.prog 18 #[.string s] w fun r w' => r = .returned (.int .i64 (endR s)) ∧ Below w.heap.size w w' := by
  have cT := implTextOk s w hs hT
  unfold BoolIs at cT
  clear hT
  by_cases ht : (runesOf s).isSome = true
  · have hz := text_size ht
    rw [ht] at cT
    obtain ⟨a, ha⟩ : ∃ a, blN s.data.toList = a := ⟨_, rfl⟩
    have hal : a ≤ s.size := by rw [← ha, ← size_list]; exact blN_le _
    obtain ⟨V, hV⟩ : ∃ V, preEnd s.data.toList = V := ⟨_, rfl⟩
    have HE : Hid (endR s = (V : Int)) := by show _ = _; unfold endR; rw [if_pos ht, hV]
    have hVl : V ≤ s.size := by rw [← hV]; exact pre_le
    have cS := fun W => implBlanks s 0 a W hs (Nat.zero_le _) (by rw [List.drop_zero, ha]; omega)
    have cN := fun W => implNumEnd s a V W hz hal (by rw [← hV]; unfold preEnd; rw [ha])
    clear ht ha hV
    go_enter Tryd.func18, Tryd.ntmps18
    go_wp2_with fail
    refine cT.mono ?_
    rintro r w1 ⟨rfl, B1⟩
    go_wp2_with fail
    refine (cS _).mono ?_
    rintro r w2 ⟨rfl, B2⟩
    have D2 := below_kept B1 (Nat.le_refl _) B2
    clear B1 B2 cT cS
    go_wp2_with fail
    refine (cN _).mono ?_
    rintro r w3 ⟨rfl, B3⟩
    have D3 := below_kept D2 (Nat.le_refl _) B3
    clear D2 B3 cN
    go_wp2
    go_ret
    exact ⟨by rw [HE.out]; rfl, D3⟩
  · have ht2 : (runesOf s).isSome = false := by simpa using ht
    have HE : Hid (endR s = -1) := by show _ = _; unfold endR; rw [if_neg ht]
    rw [ht2] at cT
    clear ht ht2
    go_enter Tryd.func18, Tryd.ntmps18
    go_wp2_with fail
    refine cT.mono ?_
    rintro r w1 ⟨rfl, B1⟩
    clear cT
    go_wp2
    go_ret
    exact ⟨by rw [HE.out]; rfl, B1⟩

end Go.Proofs.YtlhdolcadlabpaaDoor

/- Prefix of both sides. Conditions: at most 1048576 bytes; utf8's two tables hold what Go's text lays. -/
namespace Go.Proofs.YtlhdolcadlabpaaDoor
set_option linter.unusedVariables false
open Go.RowKit

/-- The number ahead, and the code. -/
noncomputable def preR (s : ByteArray) : DecV × Int :=
  if (runesOf s).isSome = true then (if preEnd s.data.toList = 0 then (DecV.zero, 0) else readR ((s.extract (blN s.data.toList) (preEnd s.data.toList)).data.toList)) else (DecV.zero, 3)
/-- Where a number stands ahead: its place. -/
theorem pre_sub {s : ByteArray} (h : preEnd s.data.toList ≠ 0) :
    scanN (s.data.toList.drop (blN s.data.toList)) ≠ 0 ∧ blN s.data.toList < preEnd s.data.toList ∧ (s.extract (blN s.data.toList) (preEnd s.data.toList)).data.toList = (s.data.toList.drop (blN s.data.toList)).take (scanN (s.data.toList.drop (blN s.data.toList))) ∧
    (s.extract (blN s.data.toList) (preEnd s.data.toList)).size = scanN (s.data.toList.drop (blN s.data.toList)) := by
  obtain ⟨a, ha⟩ : ∃ a, blN s.data.toList = a := ⟨_, rfl⟩
  have hl : a ≤ s.size := by rw [← ha, ← size_list]; exact blN_le _
  unfold preEnd numE at h ⊢
  rw [ha] at h ⊢
  by_cases g : scanN (s.data.toList.drop a) = 0
  · rw [if_pos g] at h; exact absurd rfl h
  · rw [if_neg g]
    have h2 := scan_le (s.data.toList.drop a)
    rw [List.length_drop, size_list] at h2
    refine ⟨g, by omega, ?_, ?_⟩
    · rw [ByteArray.data_extract, Array.toList_extract, List.extract_eq_take_drop, Nat.add_sub_cancel_left]
    · rw [ByteArray.size_extract]; omega

theorem specReadT (t : ByteArray) (m : List UInt8) (w : World) (hm : scanN m ≠ 0) (ht : t.data.toList = m.take (scanN m)) (hz : t.size = scanN m) (hs : t.size ≤ 1000) :
    Calls Tryd.prog 27 #[.string t] w (AnsDC (readR t.data.toList) w) := by
  obtain ⟨h1, h2⟩ := scan_reads hm
  rw [← ht] at h1 h2
  obtain ⟨x, hx⟩ := Option.ne_none_iff_exists'.1 h1
  rw [read_yes (by rw [size_list]; exact hs) hx h2]
  exact specRead t x w hs (by omega) hx h2

set_option maxHeartbeats 1000000 in
set_option maxRecDepth 100000 in
theorem specPrefix (s : ByteArray) (w : World) (hs : s.size ≤ 1048576) :
    Calls Tryd.prog 14 #[.string s] w (AnsDC (preR s) w) := by
  have L1 := DecAt.new w false ⟨#[]⟩ 0
  have L2 : Below w.heap.size w (w.alloc (.cells #[.bool false, .string ⟨#[]⟩, .int .i64 0] 25)) := (Below.refl _ _).alloc (Nat.le_refl _) _
  have cE := fun W => specPrefixEnd s W hs
  by_cases ht : (runesOf s).isSome = true
  · have hz := text_size ht
    obtain ⟨a, ha⟩ : ∃ a, blN s.data.toList = a := ⟨_, rfl⟩
    have hal : a ≤ s.size := by rw [← ha, ← size_list]; exact blN_le _
    obtain ⟨V, hV⟩ : ∃ V, preEnd s.data.toList = V := ⟨_, rfl⟩
    have hVl : V ≤ s.size := by rw [← hV]; exact pre_le
    have he : endR s = (V : Int) := by unfold endR; rw [if_pos ht, hV]
    rw [he] at cE
    have hb1 : ((V : Int) == -1) = false := by rw [beq_eq_false_iff_ne]; omega
    by_cases h0 : V = 0
    · have HR : Hid (preR s = (DecV.zero, 0)) := by show _ = _; unfold preR; rw [if_pos ht, hV, if_pos h0]
      have hb0 : ((V : Int) == 0) = true := by rw [beq_iff_eq]; omega
      clear ht ha hV he h0
      go_enter Tryd.func14, Tryd.ntmps14
      go_wp2_with fail
      refine (cE _).mono ?_
      rintro r w1 ⟨rfl, B1⟩
      have K1 := L1.belowS B1
      have D1 := below_kept L2 (Nat.le_refl _) B1
      clear cE B1 L1 L2
      go_wp2_with (with_reducible show wpList _ _ _ (⟨_, .store _ _ _, _, _, _, _⟩ :: _) _ _; refine store_dec w.heap.size rfl rfl K1 ?_)
      refine bodyPost_ret (results_dcS rfl _ _ rfl rfl K1.row) rfl ⟨?_, below_row3 D1 (Nat.le_refl _) _⟩
      rw [HR.out]; rfl
    · have hb0 : ((V : Int) == 0) = false := by rw [beq_eq_false_iff_ne]; omega
      obtain ⟨p1, p2, p3, p4⟩ := pre_sub (s := s) (by rw [hV]; exact h0)
      rw [ha, hV] at p3 p4
      rw [ha] at p1
      rw [ha, hV] at p2
      obtain ⟨R, hR⟩ : ∃ R, preR s = R := ⟨_, rfl⟩
      have hRR : readR (s.extract a V).data.toList = R := by rw [← hR]; unfold preR; rw [if_pos ht, hV, if_neg h0, ha]
      rw [hR]
      have cS := fun W => specStart s a W hs ha
      have hsl : (s.extract a V).size ≤ 1000 := by rw [ByteArray.size_extract]; omega
      have cR := fun W => specReadT (s.extract a V) _ W p1 p3 p4 hsl
      rw [hRR] at cR
      unfold AnsDC at cR
      obtain ⟨⟨rn, rd, re⟩, rc⟩ := R
      dsimp only at cR
      obtain ⟨rs, hrs⟩ : ∃ rs : ByteArray, ⟨rd.toArray⟩ = rs := ⟨_, rfl⟩
      rw [hrs] at cR
      have HRS := Lib.hid hrs
      have hav : (a : Int) ≤ (V : Int) := by omega
      have hvs : (V : Int) ≤ (s.size : Int) := by omega
      clear ht ha hV he h0 hR hRR hrs p1 p3 p4 hsl
      go_enter Tryd.func14, Tryd.ntmps14
      go_wp2_with fail
      refine (cE _).mono ?_
      rintro r w1 ⟨rfl, B1⟩
      have K1 := L1.belowS B1
      have D1 := below_kept L2 (Nat.le_refl _) B1
      clear cE B1 L1 L2
      go_wp2_with fail
      refine (cS _).mono ?_
      rintro r w2 ⟨rfl, B2⟩
      have K2 := K1.belowS B2
      have D2 := below_kept D1 (Nat.le_refl _) B2
      clear cS B2 K1 D1
      go_wp2_with fail
      refine (cR _).mono ?_
      rintro r w3 ⟨rfl, B3⟩
      have KZ := K2.belowS B3
      have DZ := below_kept D2 (Nat.le_refl _) B3
      clear cR B3 K2 D2
      go_wp2_with (with_reducible show wpList _ _ _ (⟨_, .store _ _ _, _, _, _, _⟩ :: _) _ _; refine store_dec w.heap.size rfl rfl KZ ?_)
      refine bodyPost_ret (results_dcS rfl _ _ rfl rfl KZ.row) rfl ⟨?_, below_row3 DZ (Nat.le_refl _) _⟩
      rw [← HRS.out]; rfl
  · have HR : Hid (preR s = (DecV.zero, 3)) := by show _ = _; unfold preR; rw [if_neg ht]
    have he : endR s = -1 := by unfold endR; rw [if_neg ht]
    rw [he] at cE
    clear ht he
    go_enter Tryd.func14, Tryd.ntmps14
    go_wp2_with fail
    refine (cE _).mono ?_
    rintro r w1 ⟨rfl, B1⟩
    have K1 := L1.belowS B1
    have D1 := below_kept L2 (Nat.le_refl _) B1
    clear cE B1 L1 L2
    go_wp2_with (with_reducible show wpList _ _ _ (⟨_, .store _ _ _, _, _, _, _⟩ :: _) _ _; refine store_dec w.heap.size rfl rfl K1 ?_)
    refine bodyPost_ret (results_dcS rfl _ _ rfl rfl K1.row) rfl ⟨?_, below_row3 D1 (Nat.le_refl _) _⟩
    rw [HR.out]; rfl

set_option maxHeartbeats 1000000 in
set_option maxRecDepth 100000 in
theorem implPrefix (s : ByteArray) (w : World) (hs : s.size ≤ 1048576) (hT : Tabs w) :
    Calls Tryd.prog 12 #[.string s] w (AnsDC (preR s) w) := by
  have L1 := DecAt.new w false ⟨#[]⟩ 0
  have L2 : Below w.heap.size w (w.alloc (.cells #[.bool false, .string ⟨#[]⟩, .int .i64 0] 25)) := (Below.refl _ _).alloc (Nat.le_refl _) _
  have hTA : Tabs (w.alloc (.cells #[.bool false, .string ⟨#[]⟩, .int .i64 0] 25)) := hT.below L2
  have cE := implPrefixEnd s _ hs hTA
  clear hT hTA
  by_cases ht : (runesOf s).isSome = true
  · have hz := text_size ht
    obtain ⟨a, ha⟩ : ∃ a, blN s.data.toList = a := ⟨_, rfl⟩
    have hal : a ≤ s.size := by rw [← ha, ← size_list]; exact blN_le _
    obtain ⟨V, hV⟩ : ∃ V, preEnd s.data.toList = V := ⟨_, rfl⟩
    have hVl : V ≤ s.size := by rw [← hV]; exact pre_le
    have he : endR s = (V : Int) := by unfold endR; rw [if_pos ht, hV]
    rw [he] at cE
    have hb1 : ((V : Int) == -1) = false := by rw [beq_eq_false_iff_ne]; omega
    by_cases h0 : V = 0
    · have HR : Hid (preR s = (DecV.zero, 0)) := by show _ = _; unfold preR; rw [if_pos ht, hV, if_pos h0]
      have hb0 : ((V : Int) == 0) = true := by rw [beq_iff_eq]; omega
      clear ht ha hV he h0
      go_enter Tryd.func12, Tryd.ntmps12
      go_wp2_with fail
      refine cE.mono ?_
      rintro r w1 ⟨rfl, B1⟩
      have K1 := L1.belowS B1
      have D1 := below_kept L2 (Nat.le_refl _) B1
      clear cE B1 L1 L2
      go_wp2_with (with_reducible show wpList _ _ _ (⟨_, .store _ _ _, _, _, _, _⟩ :: _) _ _; refine store_dec w.heap.size rfl rfl K1 ?_)
      refine bodyPost_ret (results_dcS rfl _ _ rfl rfl K1.row) rfl ⟨?_, below_row3 D1 (Nat.le_refl _) _⟩
      rw [HR.out]; rfl
    · have hb0 : ((V : Int) == 0) = false := by rw [beq_eq_false_iff_ne]; omega
      obtain ⟨p1, p2, p3, p4⟩ := pre_sub (s := s) (by rw [hV]; exact h0)
      rw [ha, hV] at p3 p4
      rw [ha] at p1
      rw [ha, hV] at p2
      obtain ⟨R, hR⟩ : ∃ R, preR s = R := ⟨_, rfl⟩
      have hRR : readR (s.extract a V).data.toList = R := by rw [← hR]; unfold preR; rw [if_pos ht, hV, if_neg h0, ha]
      rw [hR]
      have cS := fun W => implBlanks s 0 a W hs (Nat.zero_le _) (by rw [List.drop_zero, ha]; omega)
      have hsl : (s.extract a V).size ≤ 1000 := by rw [ByteArray.size_extract]; omega
      have cR := fun W => implDecRead (s.extract a V) W (Nat.le_trans hsl (by omega))
      rw [hRR] at cR
      unfold AnsDC at cR
      obtain ⟨⟨rn, rd, re⟩, rc⟩ := R
      dsimp only at cR
      obtain ⟨rs, hrs⟩ : ∃ rs : ByteArray, ⟨rd.toArray⟩ = rs := ⟨_, rfl⟩
      rw [hrs] at cR
      have HRS := Lib.hid hrs
      have hav : (a : Int) ≤ (V : Int) := by omega
      have hvs : (V : Int) ≤ (s.size : Int) := by omega
      clear ht ha hV he h0 hR hRR hrs p1 p3 p4 hsl
      go_enter Tryd.func12, Tryd.ntmps12
      go_wp2_with fail
      refine cE.mono ?_
      rintro r w1 ⟨rfl, B1⟩
      have K1 := L1.belowS B1
      have D1 := below_kept L2 (Nat.le_refl _) B1
      clear cE B1 L1 L2
      go_wp2_with fail
      refine (cS _).mono ?_
      rintro r w2 ⟨rfl, B2⟩
      have K2 := K1.belowS B2
      have D2 := below_kept D1 (Nat.le_refl _) B2
      clear cS B2 K1 D1
      go_wp2_with fail
      refine (cR _).mono ?_
      rintro r w3 ⟨rfl, B3⟩
      have KZ := K2.belowS B3
      have DZ := below_kept D2 (Nat.le_refl _) B3
      clear cR B3 K2 D2
      go_wp2_with (with_reducible show wpList _ _ _ (⟨_, .store _ _ _, _, _, _, _⟩ :: _) _ _; refine store_dec w.heap.size rfl rfl KZ ?_)
      refine bodyPost_ret (results_dcS rfl _ _ rfl rfl KZ.row) rfl ⟨?_, below_row3 DZ (Nat.le_refl _) _⟩
      rw [← HRS.out]; rfl
  · have HR : Hid (preR s = (DecV.zero, 3)) := by show _ = _; unfold preR; rw [if_neg ht]
    have he : endR s = -1 := by unfold endR; rw [if_neg ht]
    rw [he] at cE
    clear ht he
    go_enter Tryd.func12, Tryd.ntmps12
    go_wp2_with fail
    refine cE.mono ?_
    rintro r w1 ⟨rfl, B1⟩
    have K1 := L1.belowS B1
    have D1 := below_kept L2 (Nat.le_refl _) B1
    clear cE B1 L1 L2
    go_wp2_with (with_reducible show wpList _ _ _ (⟨_, .store _ _ _, _, _, _, _⟩ :: _) _ _; refine store_dec w.heap.size rfl rfl K1 ?_)
    refine bodyPost_ret (results_dcS rfl _ _ rfl rfl K1.row) rfl ⟨?_, below_row3 D1 (Nat.le_refl _) _⟩
    rw [HR.out]; rfl

end Go.Proofs.YtlhdolcadlabpaaDoor

/- Looks of both sides. Conditions: at most 1048576 bytes; utf8's two tables hold what Go's text lays. -/
namespace Go.Proofs.YtlhdolcadlabpaaDoor
set_option linter.unusedVariables false
open Go.RowKit

/-- A number with blanks around it, and nothing else. -/
noncomputable def looksR (s : ByteArray) : Bool :=
  decide ((runesOf s).isSome = true ∧ preEnd s.data.toList ≠ 0 ∧ preEnd s.data.toList + blN (s.data.toList.drop (preEnd s.data.toList)) = s.size ∧ (preR s).2 = 0)
theorem bl_all {s : ByteArray} {k : Nat} (hk : k ≤ s.size) : k + blN (s.data.toList.drop k) ≤ s.size := by
  have := blN_le (s.data.toList.drop k)
  rw [List.length_drop, size_list] at this
  omega

set_option maxHeartbeats 2000000 in
set_option maxRecDepth 100000 in
theorem specLooks (s : ByteArray) (w : World) (hs : s.size ≤ 1048576) :
    Calls Tryd.prog 16 #[.string s] w (BoolIs (looksR s) w) := by
  have cE := fun W => specPrefixEnd s W hs
  unfold BoolIs
  by_cases ht : (runesOf s).isSome = true ∧ preEnd s.data.toList ≠ 0
  · obtain ⟨ht, hn⟩ := ht
    have hz := text_size ht
    have HL : Hid (looksR s = decide (preEnd s.data.toList + blN (s.data.toList.drop (preEnd s.data.toList)) = s.size ∧ (preR s).2 = 0)) := by
      show _ = _
      unfold looksR
      rw [decide_eq_decide]
      exact ⟨fun h => h.2.2, fun h => ⟨ht, hn, h⟩⟩
    have he : endR s = (preEnd s.data.toList : Int) := by unfold endR; rw [if_pos ht]
    have hVl : preEnd s.data.toList ≤ s.size := pre_le
    obtain ⟨V, hV⟩ : ∃ V, preEnd s.data.toList = V := ⟨_, rfl⟩
    rw [hV] at HL he hVl hn
    rw [he] at cE
    obtain ⟨T, hT⟩ : ∃ T, V + blN (s.data.toList.drop V) = T := ⟨_, rfl⟩
    rw [hT] at HL
    have hTl : T ≤ s.size := by rw [← hT]; exact bl_all hVl
    have HT0 := Lib.hid hT
    have cP := fun W => specPrefix s W hs
    obtain ⟨R, hR⟩ : ∃ R, preR s = R := ⟨_, rfl⟩
    rw [hR] at HL cP
    obtain ⟨⟨rn, rd, re⟩, rc⟩ := R
    unfold AnsDC at cP
    dsimp only at cP HL
    obtain ⟨rs, hrs⟩ : ∃ rs : ByteArray, ⟨rd.toArray⟩ = rs := ⟨_, rfl⟩
    rw [hrs] at cP
    have hb1 : ¬ (V : Int) < 1 := by omega
    clear ht he hV hT hR hrs
    go_enter Tryd.func16, Tryd.ntmps16
    go_wp2_with fail
    refine (cE _).mono ?_
    rintro r w1 ⟨rfl, B1⟩
    clear cE
    go_wp2_with fail
    refine (cP _).mono ?_
    rintro r w2 ⟨rfl, B2⟩
    have D2 := below_kept B1 (Nat.le_refl _) B2
    have N1 := DecAt.new w2 false ⟨#[]⟩ 0
    have D3 := below_row3 (D2.alloc D2.size (.cells (row3 false ⟨#[]⟩ 0) 25)) (g := w2.heap.size) D2.size (row3 rn rs re)
    clear cP B1 B2 D2
    go_wp2_with (with_reducible show wpList _ _ _ (⟨_, .store _ _ _, _, _, _, _⟩ :: _) _ _; refine store_dec w2.heap.size rfl rfl N1 ?_)
    clear N1
    go_loopw [6] (fun kv wr => ∃ k : Nat, k ≤ s.size ∧ kv = .int .i64 k ∧ Hid (k + blN (s.data.toList.drop k) = T) ∧ Below w.heap.size w wr) (fun kv _ => s.size - (intOf kv).toNat)
    case atStart => exact ⟨V, hVl, rfl, HT0, D3⟩
    case round =>
      clear HT0 D3
      obtain ⟨k, hk, rfl, HK, hbel⟩ := hrel
      by_cases hlt : k < s.size
      · obtain ⟨x, hx⟩ : ∃ x, s[k] = x := ⟨_, rfl⟩
        have hxl := x.toNat_lt
        have cB := fun W => specBlank (x.toNat : Int) W
        rw [isBlZ_byte] at cB
        have hki : (k : Int) < (s.size : Int) := by omega
        by_cases hb : isBl x = true
        · have HN := Lib.hid (bl_step HK.out hlt (by rw [hx]; exact hb))
          rw [hb] at cB
          clear hb HK
          go_wp2_with (go_at_call 29; refine (cB _).mono ?_; rintro r w' ⟨rfl, rfl⟩)
          go_roundw
          case rel => exact ⟨k + 1, hlt, by go_num, HN, hbel⟩
          case measure => simp [intOf]; omega
        · have hb2 : isBl x = false := by simpa using hb
          have hE := bl_end HK.out (fun _ => by rw [hx]; exact hb2)
          have HF : Hid (looksR s = false) := by show _ = _; rw [HL.out]; exact decide_eq_false (fun h => by omega)
          rw [hb2] at cB
          clear hb hb2 HK hE HL
          go_wp2_with (go_at_call 29; refine (cB _).mono ?_; rintro r w' ⟨rfl, rfl⟩)
          go_ret
          exact ⟨by rw [HF.out]; rfl, hbel⟩
      · have hki : ¬ (k : Int) < (s.size : Int) := by omega
        have hE := bl_end HK.out (fun h => absurd h hlt)
        by_cases hc : rc = 0
        · have HF : Hid (looksR s = true) := by show _ = _; rw [HL.out]; exact decide_eq_true ⟨by omega, hc⟩
          have hci : (rc == 0) = true := by rw [beq_iff_eq]; exact hc
          clear HK hE HL hc
          go_wp2_with fail
          go_ret
          exact ⟨by rw [HF.out]; rfl, hbel⟩
        · have HF : Hid (looksR s = false) := by show _ = _; rw [HL.out]; exact decide_eq_false (fun h => hc h.2)
          have hci : (rc == 0) = false := by rw [beq_eq_false_iff_ne]; exact hc
          clear HK hE HL hc
          go_wp2_with fail
          go_ret
          exact ⟨by rw [HF.out]; rfl, hbel⟩
  · have HF : Hid (looksR s = false) := by show _ = _; unfold looksR; exact decide_eq_false (fun h => ht ⟨h.1, h.2.1⟩)
    have hE : endR s = 0 ∨ endR s = -1 := by
      unfold endR
      by_cases g : (runesOf s).isSome = true
      · rw [if_pos g]
        by_cases g2 : preEnd s.data.toList = 0
        · rw [g2]; exact .inl rfl
        · exact absurd ⟨g, g2⟩ ht
      · rw [if_neg g]; exact .inr rfl
    clear ht
    rcases hE with hE | hE
    all_goals
      rw [hE] at cE
      clear hE
      go_enter Tryd.func16, Tryd.ntmps16
      go_wp2_with fail
      refine (cE _).mono ?_
      rintro r w1 ⟨rfl, B1⟩
      clear cE
      go_wp2
      go_ret
      exact ⟨by rw [HF.out]; rfl, B1⟩

set_option maxHeartbeats 2000000 in
set_option maxRecDepth 100000 in
theorem implLooks (s : ByteArray) (w : World) (hs : s.size ≤ 1048576) (hTab : Tabs w) :
    Calls Tryd.prog 13 #[.string s] w (BoolIs (looksR s) w) := by
  have cE := implPrefixEnd s w hs hTab
  unfold BoolIs
  by_cases ht : (runesOf s).isSome = true ∧ preEnd s.data.toList ≠ 0
  · obtain ⟨ht, hn⟩ := ht
    have hz := text_size ht
    have HL : Hid (looksR s = decide (preEnd s.data.toList + blN (s.data.toList.drop (preEnd s.data.toList)) = s.size ∧ (preR s).2 = 0)) := by
      show _ = _
      unfold looksR
      rw [decide_eq_decide]
      exact ⟨fun h => h.2.2, fun h => ⟨ht, hn, h⟩⟩
    have he : endR s = (preEnd s.data.toList : Int) := by unfold endR; rw [if_pos ht]
    have hVl : preEnd s.data.toList ≤ s.size := pre_le
    obtain ⟨V, hV⟩ : ∃ V, preEnd s.data.toList = V := ⟨_, rfl⟩
    rw [hV] at HL he hVl hn
    rw [he] at cE
    obtain ⟨T, hT⟩ : ∃ T, V + blN (s.data.toList.drop V) = T := ⟨_, rfl⟩
    rw [hT] at HL
    have hTl : T ≤ s.size := by rw [← hT]; exact bl_all hVl
    have cB := fun W => implBlanks s V T W hs hVl hT
    have cP := fun W h => implPrefix s W hs h
    obtain ⟨R, hR⟩ : ∃ R, preR s = R := ⟨_, rfl⟩
    rw [hR] at HL cP
    obtain ⟨⟨rn, rd, re⟩, rc⟩ := R
    unfold AnsDC at cP
    dsimp only at cP HL
    obtain ⟨rs, hrs⟩ : ∃ rs : ByteArray, ⟨rd.toArray⟩ = rs := ⟨_, rfl⟩
    rw [hrs] at cP
    have hb1 : ¬ (V : Int) ≤ 0 := by omega
    clear ht he hV hT hR hrs
    by_cases hTs : T = s.size
    · have hti : ¬ (T : Int) < (s.size : Int) := by omega
      by_cases hc : rc = 0
      · have HF : Hid (looksR s = true) := by show _ = _; rw [HL.out]; exact decide_eq_true ⟨by omega, hc⟩
        have hci : (rc == 0) = true := by rw [beq_iff_eq]; exact hc
        clear HL hc hTs
        go_enter Tryd.func13, Tryd.ntmps13
        go_wp2_with fail
        refine cE.mono ?_
        rintro r w1 ⟨rfl, B1⟩
        clear cE
        go_wp2_with fail
        refine (cB _).mono ?_
        rintro r w2 ⟨rfl, B2⟩
        have D2 := below_kept B1 (Nat.le_refl _) B2
        have hT2 := hTab.below D2
        clear cB B1 B2 hTab
        go_wp2_with fail
        refine (cP _ hT2).mono ?_
        rintro r w3 ⟨rfl, B3⟩
        have D3 := below_kept D2 (Nat.le_refl _) B3
        have N1 := DecAt.new w3 false ⟨#[]⟩ 0
        have D4 := below_row3 (D3.alloc D3.size (.cells (row3 false ⟨#[]⟩ 0) 25)) (g := w3.heap.size) D3.size (row3 rn rs re)
        clear cP B3 D2 D3 hT2
        go_wp2_with (with_reducible show wpList _ _ _ (⟨_, .store _ _ _, _, _, _, _⟩ :: _) _ _; refine store_dec w3.heap.size rfl rfl N1 ?_)
        go_ret
        exact ⟨by rw [HF.out]; rfl, D4⟩
      · have HF : Hid (looksR s = false) := by show _ = _; rw [HL.out]; exact decide_eq_false (fun h => hc h.2)
        have hci : (rc == 0) = false := by rw [beq_eq_false_iff_ne]; exact hc
        clear HL hc hTs
        go_enter Tryd.func13, Tryd.ntmps13
        go_wp2_with fail
        refine cE.mono ?_
        rintro r w1 ⟨rfl, B1⟩
        clear cE
        go_wp2_with fail
        refine (cB _).mono ?_
        rintro r w2 ⟨rfl, B2⟩
        have D2 := below_kept B1 (Nat.le_refl _) B2
        have hT2 := hTab.below D2
        clear cB B1 B2 hTab
        go_wp2_with fail
        refine (cP _ hT2).mono ?_
        rintro r w3 ⟨rfl, B3⟩
        have D3 := below_kept D2 (Nat.le_refl _) B3
        have N1 := DecAt.new w3 false ⟨#[]⟩ 0
        have D4 := below_row3 (D3.alloc D3.size (.cells (row3 false ⟨#[]⟩ 0) 25)) (g := w3.heap.size) D3.size (row3 rn rs re)
        clear cP B3 D2 D3 hT2
        go_wp2_with (with_reducible show wpList _ _ _ (⟨_, .store _ _ _, _, _, _, _⟩ :: _) _ _; refine store_dec w3.heap.size rfl rfl N1 ?_)
        go_ret
        exact ⟨by rw [HF.out]; rfl, D4⟩
    · have HF : Hid (looksR s = false) := by show _ = _; rw [HL.out]; exact decide_eq_false (fun h => hTs h.1)
      have hti : (T : Int) < (s.size : Int) := by omega
      clear HL hTs cP hTab
      go_enter Tryd.func13, Tryd.ntmps13
      go_wp2_with fail
      refine cE.mono ?_
      rintro r w1 ⟨rfl, B1⟩
      clear cE
      go_wp2_with fail
      refine (cB _).mono ?_
      rintro r w2 ⟨rfl, B2⟩
      have D2 := below_kept B1 (Nat.le_refl _) B2
      clear cB B1 B2
      go_wp2
      go_ret
      exact ⟨by rw [HF.out]; rfl, D2⟩
  · have HF : Hid (looksR s = false) := by show _ = _; unfold looksR; exact decide_eq_false (fun h => ht ⟨h.1, h.2.1⟩)
    have hE : endR s = 0 ∨ endR s = -1 := by
      unfold endR
      by_cases g : (runesOf s).isSome = true
      · rw [if_pos g]
        by_cases g2 : preEnd s.data.toList = 0
        · rw [g2]; exact .inl rfl
        · exact absurd ⟨g, g2⟩ ht
      · rw [if_neg g]; exact .inr rfl
    clear ht hTab
    rcases hE with hE | hE
    all_goals
      rw [hE] at cE
      clear hE
      go_enter Tryd.func13, Tryd.ntmps13
      go_wp2_with fail
      refine cE.mono ?_
      rintro r w1 ⟨rfl, B1⟩
      clear cE
      go_wp2
      go_ret
      exact ⟨by rw [HF.out]; rfl, B1⟩

end Go.Proofs.YtlhdolcadlabpaaDoor
