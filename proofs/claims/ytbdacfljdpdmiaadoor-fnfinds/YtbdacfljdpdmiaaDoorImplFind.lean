/- impl.Find hands back where a text first stands in another, by code points. Conditions: at most 1048576 bytes each; utf8's tables. -/
import Derived.Test.YtbdacfljdpdmiaaDoorImplRunes
import Derived.Test.YtbdacfljdpdmiaaDoorSpecFind
import Derived.Test.YtbdacfljdpdmiaaDoorPartMath
import Derived.Deep.DeepMust
import Derived.Lib.ValidAsc
namespace Go.Proofs.YtbdacfljdpdmiaaDoor
open Go.RowKit

def FRel (s : ByteArray) (a b : List Int) (K : Nat) (w : World) (n : Value) (wr : World) : Prop :=
  ∃ (pos f : Nat) (lc : List Int), pos ≤ s.size ∧ IterIs wr K s pos ∧ n = .int .i64 lc.length ∧ lc.length ≤ pos ∧ (cat lc).length = pos ∧ s.size ≤ pos + f ∧
    (runesFrom s f pos).map (lc ++ ·) = some a ∧ (∀ j, j < lc.length → ¬ b <+: a.drop j) ∧ Below w.heap.size w wr

/-- By bytes from a place on, by code points from its number on. -/
theorem stands {s t : ByteArray} {a b lc rest : List Int} (ha : cat a = s.data.toList ∧ (∀ c ∈ a, pt c = true)) (hb : cat b = t.data.toList ∧ (∀ c ∈ b, pt c = true)) (hl : a = lc ++ rest) (pos : Nat) (hp : (cat lc).length = pos) :
    Lib.hasPrefix (s.data.toList.drop pos) t.data.toList = decide (b <+: a.drop lc.length) := by
  have h1 : s.data.toList.drop pos = cat rest := by rw [← ha.1, hl, cat_append, ← hp, List.drop_left]
  have h2 : a.drop lc.length = rest := by rw [hl, List.drop_left]
  have h3 := cat_prefix b rest hb.2 (fun c hc => ha.2 c (by rw [hl]; exact List.mem_append_right _ hc))
  unfold Lib.hasPrefix
  rw [h1, h2, ← hb.1, Bool.eq_iff_iff, List.isPrefixOf_iff_prefix, h3]
  simp

theorem sub_from (s : ByteArray) (a : Nat) : (s.extract a s.size).data.toList = s.data.toList.drop a := by
  rw [Lib.ext_list]

set_option maxHeartbeats 4000000 in
set_option maxRecDepth 100000 in
theorem implFind (s t : ByteArray) (w : World) (hs : s.size ≤ 1048576) (ht : t.size ≤ 1048576) (hT : Tabs w) : Calls Tryd.prog 26 #[.string s, .string t] w (NatIs (findOf s t) w) := by
  have cS := implTextOk s w hs hT
  have cT : ∀ W, Below w.heap.size w W → Calls Tryd.prog 18 #[.string t] W (BoolIs (runesOf t).isSome W) := fun W h => implTextOk t W ht (hT.below h)
  clear hT
  unfold findOf
  cases ho : runesOf s with
  | none =>
    rw [ho] at cS
    clear ho cT
    go_enter Tryd.func26, Tryd.ntmps26
    go_wp2_with fail
    refine cS.mono ?_
    rintro e w1 ⟨rfl, hb1⟩
    clear cS
    go_wp2
    go_ret
    exact ⟨rfl, hb1⟩
  | some a =>
    cases ho2 : runesOf t with
    | none =>
      rw [ho] at cS
      rw [ho2] at cT
      clear ho ho2
      go_enter Tryd.func26, Tryd.ntmps26
      go_wp2_with fail
      refine cS.mono ?_
      rintro e w1 ⟨rfl, hb1⟩
      clear cS
      go_wp2_with fail
      refine (cT _ hb1).mono ?_
      rintro e w2 ⟨rfl, hb2⟩
      clear cT
      go_wp2
      go_ret
      exact ⟨rfl, hb1.trans (hb2.mono hb1.size)⟩
    | some b =>
      have HA := Lib.hid (text_cat ho)
      have HB := Lib.hid (text_cat ho2)
      have HL : Hid (runesFrom s s.size 0 = some a) := by
        unfold runesOf at ho
        split at ho
        · cases ho
        · exact ho
      rw [ho] at cS
      rw [ho2] at cT
      clear ho ho2
      by_cases hb0 : b = []
      · have hte : t.toList.isEmpty = true := by rw [ByteArray.toList_eq, ← HB.out.1, hb0]; rfl
        show Calls _ _ _ _ (NatIs (if b = [] then 0 else findL a b) w)
        rw [if_pos hb0]
        clear hb0
        go_enter Tryd.func26, Tryd.ntmps26
        go_wp2_with fail
        refine cS.mono ?_
        rintro e w1 ⟨rfl, hb1⟩
        clear cS
        go_wp2_with fail
        refine (cT _ hb1).mono ?_
        rintro e w2 ⟨rfl, hb2⟩
        clear cT
        go_wp2
        go_ret
        exact ⟨rfl, hb1.trans (hb2.mono hb1.size)⟩
      · have hte : t.toList.isEmpty = false := by
          rw [ByteArray.toList_eq, ← HB.out.1]
          have := cat_length_ge b
          have h2 : 0 < b.length := List.length_pos_iff.2 hb0
          cases hc : cat b with
          | nil => rw [hc, List.length_nil] at this; omega
          | cons x l => rfl
        show Calls _ _ _ _ (NatIs (if b = [] then 0 else findL a b) w)
        rw [if_neg hb0]
        clear hb0
        go_enter Tryd.func26, Tryd.ntmps26
        go_wp2_with fail
        refine cS.mono ?_
        rintro e w1 ⟨rfl, hb1⟩
        clear cS
        go_wp2_with fail
        refine (cT _ hb1).mono ?_
        rintro e w2 ⟨rfl, hb2⟩
        have B2 : Below w.heap.size w w2 := hb1.trans (hb2.mono hb1.size)
        have z2 := B2.size
        clear cT hb1 hb2
        go_wp2
        go_loopw [5] (fun n wr => FRel s a b w2.heap.size w n wr) (fun _ wr => s.size - wr.iterPos w2.heap.size)
        case atStart =>
          exact ⟨0, s.size, [], Nat.zero_le _, heap_alloc_new w2 _, rfl, by simp, rfl, by omega, by rw [HL.out]; rfl, fun j hj => absurd hj (by simp), B2.alloc z2 _⟩
        case round =>
          obtain ⟨pos, f, lc, hpl, hit, rfl, hal, hcp, hf, hgo, hno, hbel⟩ := hrel
          have HM := Lib.hid (iterPos_of hit)
          have HT := Lib.hid hit; clear hit
          have HCP := Lib.hid hcp; clear hcp
          have HN := Lib.hid hno; clear hno
          by_cases hp : pos < s.size
          · obtain ⟨hd, hw1, hw2, hc, hgo'⟩ := step_of hf hp hgo
            have hwd := width_of hp (by omega)
            obtain ⟨rest, hrest⟩ : ∃ rest, a = lc ++ rest := by
              cases hr : runesFrom s f pos with
              | none => rw [hr] at hgo; cases hgo
              | some r => rw [hr] at hgo; exact ⟨r, (Option.some.inj hgo).symm⟩
            have hst := stands ⟨HA.out.1, HA.out.2.1⟩ ⟨HB.out.1, HB.out.2.1⟩ hrest pos HCP.out
            have hlr : lc.length < a.length := by
              cases hr : runesFrom s f pos with
              | none => rw [hr] at hgo; cases hgo
              | some r =>
                rw [runesFrom_on hf hp (by omega)] at hr
                obtain ⟨r', h1, h2⟩ := Option.map_eq_some_iff.1 hr
                rw [runesFrom_on hf hp (by omega), h1] at hgo
                have := Option.some.inj hgo
                rw [← this]
                simp
            have cP : ∀ W, Calls Tryd.prog 48 #[.string (s.extract pos s.size), .string t] W fun e w' => e = .returned (.bool (decide (b <+: a.drop lc.length))) ∧ w' = W := fun W => by
              have h := Tryd.strings_HasPrefix (s.extract pos s.size) t W
              rw [sub_from, hst] at h
              exact h
            have hnx : ∀ ty, (Instr.next (.pointer (some ⟨w2.heap.size, 0, none⟩)) true ty).run Tryd.prog wr = _ := fun ty => Lib.run_next_any_at wr w2.heap.size s pos ty HT.out hp
            rw [← hd] at hnx
            clear hgo hd hst hrest
            obtain ⟨c, hcc⟩ : ∃ c, (nx s pos).1 = c := ⟨_, rfl⟩
            obtain ⟨d, hdd⟩ : ∃ d, (nx s pos).2 = d := ⟨_, rfl⟩
            rw [hcc, hdd] at hnx hgo' hwd
            rw [hcc] at hc
            rw [hdd] at hw1 hw2
            clear hcc hdd
            have HG := Lib.hid hgo'; clear hgo'
            have HW := Lib.hid hwd; clear hwd
            have hit1 : IterIs (wr.iterAt w2.heap.size s (pos + d)) w2.heap.size s (pos + d) := Lib.iterAt_heap wr _ s pos _ HT.out
            have hbel1 : Below w.heap.size w (wr.iterAt w2.heap.size s (pos + d)) := Lib.below_iterAt hbel z2 s _
            have HT1 := Lib.hid hit1; clear hit1
            clear hbel
            generalize wr.iterAt w2.heap.size s (pos + d) = wn at hnx HT1 hbel1
            by_cases hpre : b <+: a.drop lc.length
            · rw [decide_eq_true hpre] at cP
              have HE := Lib.hid (findL_hit hlr hpre HN.out)
              clear hpre
              go_wp2_with (go_at_call 48; go_must (refine (cP _).mono ?_; rintro e w' ⟨rfl, rfl⟩))
              go_ret
              exact ⟨by rw [HE.out]; go_num, hbel1⟩
            · rw [decide_eq_false hpre] at cP
              have HO := Lib.hid (not_next hpre HN.out)
              clear hpre
              go_wp2_with (go_at_call 48; go_must (refine (cP _).mono ?_; rintro e w' ⟨rfl, rfl⟩))
              go_roundw
              case rel =>
                refine ⟨pos + d, f - 1, lc ++ [(c : Int)], hw2, HT1.out, by simp, by simp; omega, ?_, by omega, HG.out, by simpa using HO.out, hbel1⟩
                rw [cat_snoc, List.length_append, HCP.out, HW.out]
              case measure => rw [iterPos_of HT1.out, HM.out]; omega
          · have hnx : ∀ ty, (Instr.next (.pointer (some ⟨w2.heap.size, 0, none⟩)) true ty).run Tryd.prog wr = _ := fun ty => Lib.run_next_end_at wr w2.heap.size s pos ty HT.out hp
            have hl : lc = a := by rw [runesFrom_end hp] at hgo; simpa using hgo
            have HE := Lib.hid (show findL a b = 0 from findL_none fun j hj => HN.out j (by rw [hl]; exact hj))
            clear hgo hl
            go_wp2
            go_ret
            exact ⟨by rw [HE.out]; rfl, hbel⟩

end Go.Proofs.YtbdacfljdpdmiaaDoor
