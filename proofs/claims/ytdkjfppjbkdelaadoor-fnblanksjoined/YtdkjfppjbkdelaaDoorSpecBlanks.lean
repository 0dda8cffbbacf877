/- spec.Blanks hands back the words of a text. Condition: at most 1048576 bytes. -/
import Derived.Test.YtdkjfppjbkdelaaDoorWordMath
import Derived.Test.YtdkjfppjbkdelaaDoorStrMem
import Derived.Test.YtdkjfppjbkdelaaDoorBlank
import Derived.Test.YtdkjfppjbkdelaaDoorSpecJoin
namespace Go.Proofs.YtdkjfppjbkdelaaDoor
set_option linter.unusedVariables false
open Go.RowKit Wd

theorem Tryd.infoStrB : (Tryd.prog.info? 9).map (fun i => (i.zero, i.size, i.bytes)) = some (some (.string ⟨#[]⟩), 1, 16) := by kernel_rfl
def mkB (l : List UInt8) : ByteArray := ⟨l.toArray⟩
theorem mkB_list (u : ByteArray) : mkB u.data.toList = u := by unfold mkB; cases u; rfl
theorem mkB_data (l : List UInt8) : (mkB l).data.toList = l := by unfold mkB; simp
theorem new_str (w : World) (c : ByteArray) (e : TypeId) : ∀ (j : Nat) (u : Value), [Value.string c][j]? = some u → (w.alloc (.cells #[.string c] e)).cell? ((⟨w.heap.size, 0, none⟩ : Addr).add j) = some u := by
  intro j u hu
  rw [Addr.add_lit, Nat.zero_add, cell_of_row _ w.heap.size j _ e (0, 0) (heap_alloc_new w _)]
  simpa using hu
theorem one_str (c : ByteArray) : ∀ u ∈ [Value.string c], u.oneCell' = true := by
  intro u hu; simp at hu; subst hu; rfl
theorem isBlZ_wd (x : UInt8) : isBlZ (x.toNat : Int) = isBl x := by
  unfold isBlZ isBl
  rw [decide_eq_decide]
  omega

theorem ext_one {s : ByteArray} {k : Nat} (h : k < s.size) : (s.extract k (k + 1)).data.toList = [s[k]] := by
  rw [ByteArray.data_extract, Array.toList_extract]
  show (List.drop k s.data.toList).take (k + 1 - k) = _
  rw [drop_at h, Nat.add_sub_cancel_left]
  rfl

theorem not_empty {u : ByteArray} (h : ¬ u.data.toList = []) : u.toList.isEmpty = false := by
  rw [ByteArray.toList_eq]
  cases hq : u.data.toList with
  | nil => exact absurd hq h
  | cons a r => rfl

/-- What is still to come, one word being under way. -/
def toCome (s u : ByteArray) (k : Nat) : List ByteArray := if k ≤ s.size then (wordsR u.data.toList (s.data.toList.drop k)).map mkB else []
def oneB (u : ByteArray) : List ByteArray := if u.data.toList = [] then [] else [u]
theorem toCome_over {s : ByteArray} {k : Nat} (h : s.size < k) (u : ByteArray) : toCome s u k = [] := by unfold toCome; rw [if_neg (by omega)]
theorem wordAdd_oneB (u : ByteArray) : (wordAdd u.data.toList).map mkB = oneB u := by
  unfold wordAdd oneB
  split
  · rfl
  · simp [mkB_list]
theorem toCome_end {s u : ByteArray} {k : Nat} (h : k = s.size) : toCome s u k = oneB u ++ toCome s ⟨#[]⟩ (k + 1) := by
  rw [toCome_over (show s.size < k + 1 by omega), List.append_nil]
  unfold toCome
  rw [if_pos (by omega), drop_end (by omega), wordsR_nil, wordAdd_oneB]
theorem toCome_blank {s u : ByteArray} {k : Nat} (h : k < s.size) (hb : isBl s[k] = true) : toCome s u k = oneB u ++ toCome s ⟨#[]⟩ (k + 1) := by
  unfold toCome
  rw [if_pos (by omega), if_pos (by omega), drop_at h, wordsR_blank hb, List.map_append, wordAdd_oneB]
theorem toCome_on {s u u' : ByteArray} {k : Nat} (h : k < s.size) (hb : isBl s[k] = false) (hu : u'.data.toList = u.data.toList ++ [s[k]]) : toCome s u k = toCome s u' (k + 1) := by
  unfold toCome
  rw [if_pos (by omega), if_pos (by omega), drop_at h, wordsR_on hb, hu]

def SBRel (s : ByteArray) (R : List ByteArray) (w : World) (v wd i : Value) (wr : World) : Prop :=
  ∃ (k : Nat) (acc : List ByteArray) (u : ByteArray), k ≤ s.size + 1 ∧ i = .int .i64 k ∧ wd = .string u ∧ u.size ≤ k ∧ acc.length ≤ k ∧
    wr.ownsRow w.heap.size 9 1 v acc.length (acc.map Value.string) ∧ Hid (acc ++ toCome s u k = R) ∧ Below w.heap.size w wr

theorem StrsAre.mk {l : List ByteArray} {v : Value} {w w' : World} {acc : List ByteArray} (h : acc = l) (ho : w'.ownsRow w.heap.size 9 1 v acc.length (acc.map Value.string)) (hb : Below w.heap.size w w') : StrsAre l w (.returned v) w' := by
  subst h; exact ⟨v, rfl, ho, hb⟩

set_option maxHeartbeats 4000000 in
set_option maxRecDepth 100000 in
theorem specBlanks (s : ByteArray) (w : World) (hs : s.size ≤ 1048576) : Calls Tryd.prog 10 #[.string s] w (StrsAre ((blanksR s).map mkB) w) := by
  obtain ⟨i0, hi, hz0, hz1, hz2⟩ := info_parts Tryd.infoStrB
  have cT : ∀ W, Calls Tryd.prog 29 #[.string s] W (BoolIs (runesOf s).isSome W) := fun W => specTextOkJ s W hs
  have oE := own_empty w w 9 (Nat.le_refl _)
  have bE : Below w.heap.size w (w.alloc (.cells #[] 9)) := (Below.refl _ _).alloc (Nat.le_refl _) _
  have HOE := Lib.hid oE
  have HBE := Lib.hid bE
  clear oE bE
  cases ht : (runesOf s).isSome with
  | false =>
    rw [ht] at cT
    have HR := Lib.hid (show ([] : List ByteArray) = (blanksR s).map mkB by rw [blanksR_no ht]; rfl)
    clear ht
    go_enter Tryd.func10, Tryd.ntmps10
    go_wp2_with (go_at_call 29; refine (cT _).mono ?_; rintro e w1 ⟨rfl, b1⟩)
    go_ret
    exact StrsAre.mk HR.out (row_keep HOE.out b1) (HBE.out.trans (b1.mono HBE.out.size))
  | true =>
    rw [ht] at cT
    have hs1 : s.size ≤ 1000 := text_size ht
    obtain ⟨R, hR⟩ : ∃ R, (blanksR s).map mkB = R := ⟨_, rfl⟩
    rw [hR]
    have HR : Hid (toCome s ⟨#[]⟩ 0 = R) := by show _ = _; rw [← hR, blanksR_yes ht]; rfl
    clear ht hR
    go_enter Tryd.func10, Tryd.ntmps10
    go_wp2_with (go_at_call 29; refine (cT _).mono ?_; rintro e w1 ⟨rfl, b1⟩)
    have HO1 := Lib.hid (row_keep HOE.out b1)
    have HB1 := Lib.hid (HBE.out.trans (b1.mono HBE.out.size))
    clear b1 cT
    go_loopw [3, 4, 5] (fun v wd i wr => SBRel s R w v wd i wr) (fun _ _ i _ => s.size + 2 - (intOf i).toNat)
    case atStart => exact ⟨0, [], ⟨#[]⟩, by omega, rfl, rfl, by decide, by simp, HO1.out, HR, HB1.out⟩
    case round =>
      obtain ⟨k, acc, u, hk, rfl, rfl, huz, hal, hown, hgo, hbel⟩ := hrel
      have HOwn := Lib.hid hown
      have HBel := Lib.hid hbel
      have hz := hbel.size
      obtain ⟨A1, c1, rfl⟩ := own_form hown
      by_cases hlt : k < s.size
      · obtain ⟨x, hx⟩ : ∃ x, s[k] = x := ⟨_, rfl⟩
        have hxl := x.toNat_lt
        have cB := fun W => specBlank (x.toNat : Int) W
        rw [isBlZ_wd] at cB
        have hki : (k : Int) < (s.size : Int) := by omega
        have hki2 : (k : Int) ≤ (s.size : Int) := by omega
        cases hb : isBl x with
        | false =>
          rw [hb] at cB
          obtain ⟨j, hj⟩ : ∃ j, k + 1 = j := ⟨_, rfl⟩
          have hjz : (k : Int) + 1 = (j : Int) := by omega
          have hjs : j ≤ s.size := by omega
          have hkj : k ≤ j := by omega
          obtain ⟨y, hy⟩ : ∃ y, s.extract k j = y := ⟨_, rfl⟩
          obtain ⟨u2, hu2⟩ : ∃ u2, u ++ y = u2 := ⟨_, rfl⟩
          have hyl : y.data.toList = [x] := by rw [← hy, ← hx, ← hj]; exact ext_one hlt
          have hyz : y.size = 1 := by rw [← size_list, hyl]; rfl
          have hul : u2.data.toList = u.data.toList ++ [x] := by rw [← hu2, ByteArray.data_append, Array.toList_append, hyl]
          have huz2 : u2.size = u.size + 1 := by rw [← hu2, ByteArray.size_append, hyz]
          have HN : Hid (acc ++ toCome s u2 (k + 1) = R) := by show _ = _; rw [← toCome_on hlt (by rw [hx]; exact hb) (by rw [hx]; exact hul)]; exact hgo.out
          rw [hj] at HN
          clear hb hgo hyl hul hj
          go_wp2_with (go_at_call 30; refine (cB _).mono ?_; rintro r w' ⟨rfl, rfl⟩)
          go_roundw
          case rel => exact ⟨j, acc, u2, by omega, by go_num, rfl, by omega, by omega, HOwn.out, HN, HBel.out⟩
          case measure => simp [intOf]; omega
        | true =>
          rw [hb] at cB
          have HT : Hid (toCome s u k = oneB u ++ toCome s ⟨#[]⟩ (k + 1)) := toCome_blank hlt (by rw [hx]; exact hb)
          clear hb
          by_cases hu : u.data.toList = []
          · obtain rfl : u = ⟨#[]⟩ := by rw [← mkB_list u, hu]; rfl
            have HN : Hid (acc ++ toCome s ⟨#[]⟩ (k + 1) = R) := by show _ = _; have h1 := HT.out; unfold oneB at h1; rw [if_pos hu, List.nil_append] at h1; rw [← h1]; exact hgo.out
            clear hu hgo
            go_wp2_with (first | (go_at_call 30; refine (cB _).mono ?_; rintro r w' ⟨rfl, rfl⟩))
            go_roundw
            case rel => exact ⟨k + 1, acc, ⟨#[]⟩, by omega, by go_num, rfl, by show 0 ≤ _; omega, by omega, HOwn.out, HN, HBel.out⟩
            case measure => simp [intOf]; omega
          · have HN : Hid ((acc ++ [u]) ++ toCome s ⟨#[]⟩ (k + 1) = R) := by show _ = _; have h1 := HT.out; unfold oneB at h1; rw [if_neg hu] at h1; rw [List.append_assoc, ← h1]; exact hgo.out
            have hut : u.toList.isEmpty = false := not_empty hu
            clear hu hgo
            go_wp2_with (first | (go_at_call 30; refine (cB _).mono ?_; rintro r w' ⟨rfl, rfl⟩) | (at_builtin; refine wpList_append_own _ rfl _ _ 25 rfl w.heap.size 9 i0 (.string ⟨#[]⟩) 1 16 Tryd.underlying25 hi hz0 hz1 hz2 rfl (by decide) _ _ _ rfl (hown.alloc _) ⟨wr.heap.size, 0, none⟩ _ _ [.string u] rfl rfl (new_str wr u 9) (one_str u) (by unfold maxLen; omega) (by omega) (by simp; omega) ?_; intro v2 w2 hown2 hgrow2 _; obtain ⟨A2, c2, rfl⟩ := own_form hown2))
            have B3 := Lib.hid ((HBel.out.alloc hz _).grown hgrow2 (by simp; omega) (own_block HOwn.out))
            have O3 : Hid (w2.ownsRow w.heap.size 9 1 (.slice A2 (acc.length + 1) c2) (acc ++ [u]).length ((acc ++ [u]).map Value.string)) := by show World.ownsRow _ _ _ _ _ _ _; rw [List.map_append, List.length_append]; exact hown2
            clear hown2 hgrow2
            go_roundw
            case rel => exact ⟨k + 1, acc ++ [u], ⟨#[]⟩, by omega, by go_num, rfl, by show 0 ≤ _; omega, by simp; omega, by simpa using O3.out, HN, B3.out⟩
            case measure => simp [intOf]; omega
      · by_cases hke : k = s.size
        · have hki : ¬ (k : Int) < (s.size : Int) := by omega
          have hki2 : (k : Int) ≤ (s.size : Int) := by omega
          have HT : Hid (toCome s u k = oneB u ++ toCome s ⟨#[]⟩ (k + 1)) := toCome_end hke
          clear hke
          by_cases hu : u.data.toList = []
          · obtain rfl : u = ⟨#[]⟩ := by rw [← mkB_list u, hu]; rfl
            have HN : Hid (acc ++ toCome s ⟨#[]⟩ (k + 1) = R) := by show _ = _; have h1 := HT.out; unfold oneB at h1; rw [if_pos hu, List.nil_append] at h1; rw [← h1]; exact hgo.out
            clear hu hgo
            go_wp2
            go_roundw
            case rel => exact ⟨k + 1, acc, ⟨#[]⟩, by omega, by go_num, rfl, by show 0 ≤ _; omega, by omega, HOwn.out, HN, HBel.out⟩
            case measure => simp [intOf]; omega
          · have HN : Hid ((acc ++ [u]) ++ toCome s ⟨#[]⟩ (k + 1) = R) := by show _ = _; have h1 := HT.out; unfold oneB at h1; rw [if_neg hu] at h1; rw [List.append_assoc, ← h1]; exact hgo.out
            have hut : u.toList.isEmpty = false := not_empty hu
            clear hu hgo
            go_wp2_with ((at_builtin; refine wpList_append_own _ rfl _ _ 25 rfl w.heap.size 9 i0 (.string ⟨#[]⟩) 1 16 Tryd.underlying25 hi hz0 hz1 hz2 rfl (by decide) _ _ _ rfl (hown.alloc _) ⟨wr.heap.size, 0, none⟩ _ _ [.string u] rfl rfl (new_str wr u 9) (one_str u) (by unfold maxLen; omega) (by omega) (by simp; omega) ?_; intro v2 w2 hown2 hgrow2 _; obtain ⟨A2, c2, rfl⟩ := own_form hown2))
            have B3 := Lib.hid ((HBel.out.alloc hz _).grown hgrow2 (by simp; omega) (own_block HOwn.out))
            have O3 : Hid (w2.ownsRow w.heap.size 9 1 (.slice A2 (acc.length + 1) c2) (acc ++ [u]).length ((acc ++ [u]).map Value.string)) := by show World.ownsRow _ _ _ _ _ _ _; rw [List.map_append, List.length_append]; exact hown2
            clear hown2 hgrow2
            go_roundw
            case rel => exact ⟨k + 1, acc ++ [u], ⟨#[]⟩, by omega, by go_num, rfl, by show 0 ≤ _; omega, by simp; omega, by simpa using O3.out, HN, B3.out⟩
            case measure => simp [intOf]; omega
        · have hki2 : ¬ (k : Int) ≤ (s.size : Int) := by omega
          have HE : Hid (acc = R) := by show _ = _; rw [← hgo.out, toCome_over (by omega), List.append_nil]
          clear hgo
          go_wp2
          go_ret
          exact StrsAre.mk HE.out HOwn.out HBel.out

end Go.Proofs.YtdkjfppjbkdelaaDoor
