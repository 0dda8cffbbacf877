/- PrefixEnd of both sides. Conditions: at most 1048576 bytes; utf8's two tables hold what Go's text lays. -/
import Derived.Test.YtlhdolcadlabpaaDoorPreScan
import Derived.Test.YtlhdolcadlabpaaDoorPre2
import Derived.Test.YtlhdolcadlabpaaDoorSpecOk
namespace Go.Proofs.YtlhdolcadlabpaaDoor
set_option linter.unusedVariables false
open Go.RowKit

/-- The end of the number ahead: -1 where there is no text. -/
noncomputable def endR (s : ByteArray) : Int := if (runesOf s).isSome = true then (preEnd s.data.toList : Int) else -1
theorem text_size {s : ByteArray} (h : (runesOf s).isSome = true) : s.size ≤ 1000 := by
  unfold runesOf at h
  by_cases g : 1000 < s.size
  · rw [if_pos g] at h; cases h
  · omega
theorem pre_le {s : ByteArray} : preEnd s.data.toList ≤ s.size := by
  unfold preEnd numE
  have h1 := blN_le s.data.toList
  have h2 := scan_le (s.data.toList.drop (blN s.data.toList))
  rw [List.length_drop] at h2
  rw [size_list] at h1 h2
  split <;> omega

set_option maxHeartbeats 1000000 in
theorem specPrefixEnd (s : ByteArray) (w : World) (hs : s.size ≤ 1048576) :
    Calls Tryd.prog 17 #[.string s] w fun r w' => r = .returned (.int .i64 (endR s)) ∧ Below w.heap.size w w' := by
  have cT := fun W => specTextOkD s W hs
  unfold BoolIs at cT
  by_cases ht : (runesOf s).isSome = true
  · have hz := text_size ht
    have HE : Hid (endR s = (preEnd s.data.toList : Int)) := by show _ = _; unfold endR; rw [if_pos ht]
    rw [ht] at cT
    obtain ⟨a, ha⟩ : ∃ a, blN s.data.toList = a := ⟨_, rfl⟩
    have hal : a ≤ s.size := by rw [← ha, ← size_list]; exact blN_le _
    obtain ⟨V, hV⟩ : ∃ V, a + scanN (s.data.toList.drop a) = V := ⟨_, rfl⟩
    have hVl : V ≤ s.size := by have := scan_le (s.data.toList.drop a); rw [List.length_drop, size_list] at this; omega
    have cS := fun W => specStart s a W hs ha
    have cN := fun W => specScanG s a V W hz hal hV
    by_cases h0 : V = a
    · have HP : Hid (preEnd s.data.toList = 0) := by show _ = _; unfold preEnd numE; rw [ha, if_pos (by omega)]
      have hb : ((V : Int) == (a : Int)) = true := by rw [beq_iff_eq]; omega
      clear ht ha hV h0
      go_enter Tryd.func17, Tryd.ntmps17
      go_wp2_with fail
      refine (cT _).mono ?_
      rintro r w1 ⟨rfl, B1⟩
      go_wp2_with fail
      refine (cS _).mono ?_
      rintro r w2 ⟨rfl, B2⟩
      have D2 := below_kept B1 (Nat.le_refl _) B2
      clear B1 B2 cT cS
      go_wp2_with fail
      refine (cN _).mono ?_
      rintro r w3 ⟨rfl, B3⟩
      have D3 := below_kept D2 (Nat.le_refl _) B3
      clear D2 B3 cN
      go_wp2
      go_ret
      exact ⟨by rw [HE.out, HP.out]; rfl, D3⟩
    · have HP : Hid (preEnd s.data.toList = V) := by show _ = _; unfold preEnd numE; rw [ha, if_neg (by omega)]; exact hV
      have hb : ((V : Int) == (a : Int)) = false := by rw [beq_eq_false_iff_ne]; omega
      clear ht ha hV h0
      go_enter Tryd.func17, Tryd.ntmps17
      go_wp2_with fail
      refine (cT _).mono ?_
      rintro r w1 ⟨rfl, B1⟩
      go_wp2_with fail
      refine (cS _).mono ?_
      rintro r w2 ⟨rfl, B2⟩
      have D2 := below_kept B1 (Nat.le_refl _) B2
      clear B1 B2 cT cS
      go_wp2_with fail
      refine (cN _).mono ?_
      rintro r w3 ⟨rfl, B3⟩
      have D3 := below_kept D2 (Nat.le_refl _) B3
      clear D2 B3 cN
      go_wp2
      go_ret
      exact ⟨by rw [HE.out, HP.out]; rfl, D3⟩
  · have ht2 : (runesOf s).isSome = false := by simpa using ht
    have HE : Hid (endR s = -1) := by show _ = _; unfold endR; rw [if_neg ht]
    rw [ht2] at cT
    clear ht ht2
    go_enter Tryd.func17, Tryd.ntmps17
    go_wp2_with fail
    refine (cT _).mono ?_
    rintro r w1 ⟨rfl, B1⟩
    clear cT
    go_wp2
    go_ret
    exact ⟨by rw [HE.out]; rfl, B1⟩

set_option maxHeartbeats 1000000 in
theorem implPrefixEnd (s : ByteArray) (w : World) (hs : s.size ≤ 1048576) (hT : Tabs w) :
    Calls Tryd.prog 18 #[.string s] w fun r w' => r = .returned (.int .i64 (endR s)) ∧ Below w.heap.size w w' := by
  have cT := implTextOk s w hs hT
  unfold BoolIs at cT
  clear hT
  by_cases ht : (runesOf s).isSome = true
  · have hz := text_size ht
    rw [ht] at cT
    obtain ⟨a, ha⟩ : ∃ a, blN s.data.toList = a := ⟨_, rfl⟩
    have hal : a ≤ s.size := by rw [← ha, ← size_list]; exact blN_le _
    obtain ⟨V, hV⟩ : ∃ V, preEnd s.data.toList = V := ⟨_, rfl⟩
    have HE : Hid (endR s = (V : Int)) := by show _ = _; unfold endR; rw [if_pos ht, hV]
    have hVl : V ≤ s.size := by rw [← hV]; exact pre_le
    have cS := fun W => implBlanks s 0 a W hs (Nat.zero_le _) (by rw [List.drop_zero, ha]; omega)
    have cN := fun W => implNumEnd s a V W hz hal (by rw [← hV]; unfold preEnd; rw [ha])
    clear ht ha hV
    go_enter Tryd.func18, Tryd.ntmps18
    go_wp2_with fail
    refine cT.mono ?_
    rintro r w1 ⟨rfl, B1⟩
    go_wp2_with fail
    refine (cS _).mono ?_
    rintro r w2 ⟨rfl, B2⟩
    have D2 := below_kept B1 (Nat.le_refl _) B2
    clear B1 B2 cT cS
    go_wp2_with fail
    refine (cN _).mono ?_
    rintro r w3 ⟨rfl, B3⟩
    have D3 := below_kept D2 (Nat.le_refl _) B3
    clear D2 B3 cN
    go_wp2
    go_ret
    exact ⟨by rw [HE.out]; rfl, D3⟩
  · have ht2 : (runesOf s).isSome = false := by simpa using ht
    have HE : Hid (endR s = -1) := by show _ = _; unfold endR; rw [if_neg ht]
    rw [ht2] at cT
    clear ht ht2
    go_enter Tryd.func18, Tryd.ntmps18
    go_wp2_with fail
    refine cT.mono ?_
    rintro r w1 ⟨rfl, B1⟩
    clear cT
    go_wp2
    go_ret
    exact ⟨by rw [HE.out]; rfl, B1⟩

end Go.Proofs.YtlhdolcadlabpaaDoor
