/- The blanks ahead (impl.blanksEnd), strings.Clone, impl.words. Conditions: at most 1048576 bytes. -/
import Derived.Test.YtdkjfppjbkdelaaDoorWordMath
import Derived.Test.YtdkjfppjbkdelaaDoorBlank
import Derived.Test.YtdkjfppjbkdelaaDoorSpecBlanks
import Derived.Test.YtdkjfppjbkdelaaDoorShelf
namespace Go.Proofs.YtdkjfppjbkdelaaDoor
set_option linter.unusedVariables false
open Go.RowKit Wd

set_option maxHeartbeats 2000000 in
set_option maxRecDepth 100000 in
theorem implBlanksE (s : ByteArray) (a V : Nat) (w : World) (hs : s.size ≤ 1048576) (ha : a ≤ s.size) (hV : a + Wd.blN (s.data.toList.drop a) = V) :
    Calls Tryd.prog 58 #[.string s, .int .i64 a] w fun r w' => r = .returned (.int .i64 V) ∧ Below w.heap.size w w' := by
  have HV0 := Lib.hid hV
  clear hV
  go_enter Tryd.func58, Tryd.ntmps58
  go_wp2
  go_loopw [1] (fun kv wr => ∃ k : Nat, k ≤ s.size ∧ kv = .int .i64 k ∧ Hid (k + Wd.blN (s.data.toList.drop k) = V) ∧ Below w.heap.size w wr) (fun kv _ => s.size - (intOf kv).toNat)
  case atStart => exact ⟨a, ha, rfl, HV0, Below.refl _ _⟩
  case round =>
    clear HV0
    obtain ⟨k, hk, rfl, HK, hbel⟩ := hrel
    by_cases hlt : k < s.size
    · obtain ⟨x, hx⟩ : ∃ x, s[k] = x := ⟨_, rfl⟩
      have hxl := x.toNat_lt
      have cB := fun W => implBlank (x.toNat : Int) W
      rw [isBlZ_wd] at cB
      have hki : (k : Int) < (s.size : Int) := by omega
      by_cases hb : Wd.isBl x = true
      · have HN := Lib.hid (Wd.bl_step HK.out hlt (by rw [hx]; exact hb))
        rw [hb] at cB
        clear hb HK
        go_wp2_with (go_at_call 59; refine (cB _).mono ?_; rintro r w' ⟨rfl, rfl⟩)
        go_roundw
        case rel => exact ⟨k + 1, hlt, by go_num, HN, hbel⟩
        case measure => simp [intOf]; omega
      · have hb2 : Wd.isBl x = false := by simpa using hb
        have HE := Lib.hid (Wd.bl_end HK.out (fun _ => by rw [hx]; exact hb2))
        rw [hb2] at cB
        clear hb hb2 HK
        go_wp2_with (go_at_call 59; refine (cB _).mono ?_; rintro r w' ⟨rfl, rfl⟩)
        go_ret
        exact ⟨by rw [← HE.out]; rfl, hbel⟩
    · have hki : ¬ (k : Int) < (s.size : Int) := by omega
      have HE := Lib.hid (Wd.bl_end HK.out (fun h => absurd h hlt))
      clear HK
      go_wp2_with fail
      go_ret
      exact ⟨by rw [← HE.out]; rfl, hbel⟩

set_option maxHeartbeats 1000000 in
theorem cloneC (s : ByteArray) (w : World) (hs : s.size ≤ 1048576) : Calls Tryd.prog 60 #[.string s] w fun e w' => e = .returned (.string s) ∧ Below w.heap.size w w' := by
  have cC := Tryd.stringslite_Clone s w (by omega)
  go_enter Tryd.func60, Tryd.ntmps60
  go_wp2_with (go_at_call 80; refine cC.mono ?_; rintro e w1 ⟨rfl, b1⟩)
  go_ret
  exact ⟨rfl, b1⟩

set_option maxHeartbeats 1000000 in
theorem words_any (s : ByteArray) (w : World) : Calls Tryd.prog 28 #[.string s] w fun e w' => e = .returned (.func (.func 57) #[] #[.pointer (some ⟨w.heap.size, 0, none⟩)]) ∧ w' = w.alloc (.cells #[.string s] 9) := by
  go_enter Tryd.func28, Tryd.ntmps28
  go_wp2
  go_ret
  exact ⟨rfl, rfl⟩

/-! ### What a round of the words finds -/
/-- What is still to come from a place on. -/
def fromB (s : ByteArray) (k : Nat) : List ByteArray := (wordsR [] (s.data.toList.drop k)).map mkB
theorem fromB_skip (s : ByteArray) (k : Nat) : fromB s (k + Wd.blN (s.data.toList.drop k)) = fromB s k := by
  unfold fromB
  rw [← List.drop_drop, wordsR_skip]
theorem fromB_end {s : ByteArray} {k : Nat} (h : s.size ≤ k) : fromB s k = [] := by
  unfold fromB; rw [drop_end (by omega)]; rfl
/-- Where a word that begins at a and has come to j stands. -/
def midB (s : ByteArray) (a j : Nat) : List (List UInt8) := wordsR ((s.extract a j).data.toList) (s.data.toList.drop j)
theorem ext_list (s : ByteArray) (a j : Nat) : (s.extract a j).data.toList = (s.data.toList.drop a).take (j - a) := by
  rw [ByteArray.data_extract, Array.toList_extract]
theorem ext_more {s : ByteArray} {a j : Nat} (ha : a ≤ j) (h : j < s.size) : (s.extract a (j + 1)).data.toList = (s.extract a j).data.toList ++ [s[j]] := by
  rw [ext_list, ext_list, show j + 1 - a = (j - a) + 1 by omega]
  have hl : j - a < (s.data.toList.drop a).length := by rw [List.length_drop, size_list]; omega
  rw [List.take_succ_eq_append_getElem hl]
  congr 1
  simp [show a + (j - a) = j by omega]
  rfl
theorem midB_start (s : ByteArray) (a : Nat) : midB s a a = wordsR [] (s.data.toList.drop a) := by
  unfold midB; rw [ext_list, Nat.sub_self, List.take_zero]
theorem midB_on {s : ByteArray} {a j : Nat} (ha : a ≤ j) (h : j < s.size) (hb : Wd.isBl s[j] = false) : midB s a (j + 1) = midB s a j := by
  unfold midB
  rw [drop_at h, wordsR_on hb, ext_more ha h]
theorem midB_over {s : ByteArray} {a j : Nat} (ha : a < j) (hj : j ≤ s.size) (h : ∀ hk : j < s.size, Wd.isBl s[j] = true) : (midB s a j).map mkB = s.extract a j :: fromB s j := by
  unfold midB fromB
  have hne : (s.extract a j).data.toList ≠ [] := by
    intro e
    have := congrArg List.length e
    rw [ext_list, List.length_take, List.length_drop, size_list] at this
    simp at this
    omega
  rw [wordsR_over hne (fun b r e => by
    have hk : j < s.size := by
      rcases Nat.lt_or_ge j s.size with h1 | h1
      · exact h1
      · rw [drop_end (by omega)] at e; cases e
    rw [drop_at hk] at e
    injection e with e1 _
    rw [← e1]
    exact h hk), List.map_cons, mkB_list]

end Go.Proofs.YtdkjfppjbkdelaaDoor
