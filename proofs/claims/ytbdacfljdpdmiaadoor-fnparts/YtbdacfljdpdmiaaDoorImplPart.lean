/- impl.offsetsOf and impl.Part: a part of a text by code points. Conditions: at most 1048576 bytes; the numbers are ints; utf8's tables. -/
import Derived.Test.YtbdacfljdpdmiaaDoorImplRunes
import Derived.Test.YtbdacfljdpdmiaaDoorSpecText
import Derived.Test.YtbdacfljdpdmiaaDoorPartMath
import Derived.StillTailTactics
import Derived.Deep.DeepMust
import Derived.IntWalk
namespace Go.Proofs.YtbdacfljdpdmiaaDoor
open Go.RowKit
open Go.Lib (encodeRuneZ encodeRune byteCells runeCells encodeRuneZ_length)

def OffRel (s : ByteArray) (l : List Int) (g K : Nat) (w : World) (v : Value) (wr : World) : Prop :=
  ∃ (pos f : Nat) (lc : List Int), pos ≤ s.size ∧ IterIs wr K s pos ∧ v = .slice (some ⟨g, 0, none⟩) lc.length (s.size + 1) ∧ wr.ownsRow w.heap.size 3 1 (.slice (some ⟨g, 0, none⟩) lc.length (s.size + 1)) lc.length ((offsOf lc).map (Value.int .i64)) ∧ lc.length ≤ pos ∧ (cat lc).length = pos ∧ s.size ≤ pos + f ∧
    (runesFrom s f pos).map (lc ++ ·) = some l ∧ Below w.heap.size w wr

theorem iter_other {w : World} {base K pos : Nat} {s : ByteArray} {e : TypeId} {size n : Nat} {v : Value} {xs : List Value} (h : IterIs w K s pos) (hown : w.ownsRow base e size v n xs) : v.ownBlock ≠ some K := by
  intro e0
  rcases hown.2 with ⟨rfl, _⟩ | ⟨g, cap, cur, rfl, hb, hgg, r⟩
  · cases e0
  · injection e0 with e1
    change g = K at e1
    subst e1
    unfold IterIs at h
    rw [h] at hgg
    cases hgg
theorem own_iter {w : World} {base K pos : Nat} {s : ByteArray} {e : TypeId} {size n : Nat} {v : Value} {xs : List Value} (h : IterIs w K s pos) (hown : w.ownsRow base e size v n xs) (p : Nat) : (w.iterAt K s p).ownsRow base e size v n xs := by
  have hne := iter_other h hown
  refine ⟨hown.1, ?_⟩
  rcases hown.2 with h0 | ⟨g, cap, cur, rfl, hb, hg, r⟩
  · exact .inl h0
  · refine .inr ⟨g, cap, cur, rfl, hb, ?_, r⟩
    rw [Lib.iterAt_other _ _ _ _ _ (fun e0 => hne (by rw [e0]; rfl))]
    exact hg
theorem iter_grown {w w' : World} {base K pos : Nat} {s : ByteArray} {e : TypeId} {size n : Nat} {v : Value} {xs : List Value} {row : Option Nat} (h : IterIs w K s pos) (hown : w.ownsRow base e size v n xs) (hg : w.grownBy w' row) (hr : row = v.ownBlock) : IterIs w' K s pos := by
  subst hr
  have hlt : K < w.heap.size := (Array.getElem?_eq_some_iff.1 h).1
  exact (hg.block K hlt (fun e0 => iter_other h hown e0.symm)).trans h
theorem iter_new {w : World} {K pos : Nat} {s : ByteArray} (h : IterIs w K s pos) (o : Obj) : IterIs (w.alloc o) K s pos :=
  (Below.heap_alloc w o K (Array.getElem?_eq_some_iff.1 h).1).trans h

/-- The offsets of the code points of a text and of its end, in new memory. -/
def OffsAre (l : List Int) (w : World) (e : Ending) (w' : World) : Prop :=
  ∃ A c, e = .returned (.slice A (l.length + 1) c) ∧ Nums .i64 w' w'.heap.size A (offsOf l ++ [((cat l).length : Int)]) ∧ Below w.heap.size w w'

set_option maxHeartbeats 2000000 in
set_option maxRecDepth 100000 in
theorem implOffs (s : ByteArray) (l : List Int) (w : World) (ho : runesOf s = some l) : Calls Tryd.prog 45 #[.string s] w (OffsAre l w) := by
  obtain ⟨i0, hi, hz0, hz1, hz2⟩ := info_parts Tryd.infoInt
  obtain ⟨hcat, hpts, hsz⟩ := text_cat ho
  have hcl : (cat l).length = s.size := by rw [hcat]; exact Array.length_toList
  have HL : Hid (runesFrom s s.size 0 = some l) := by
    unfold runesOf at ho
    split at ho
    · cases ho
    · exact ho
  have HCL := Lib.hid hcl
  clear ho hcat hpts hcl
  go_enter Tryd.func45, Tryd.ntmps45
  go_wp2_with (at_make; go_must (refine wpList_make_own _ rfl _ _ 25 rfl w.heap.size 3 i0 (.int .i64 0) 1 Tryd.underlying25 hi hz0 hz1 _ _ _ (s.size + 1) rfl rfl (by omega) (by rw [hz2]; omega) (by unfold maxLen; omega) (Nat.le_refl _) ?_); intro w0 hown0 hgrow0)
  have hb0 : Below w.heap.size w w0 := (Below.refl _ _).grown hgrow0 (Nat.le_refl _) (fun k h => by cases h)
  have z0 := hb0.size
  clear hgrow0
  go_wp2
  go_loopw [3] (fun v wr => OffRel s l w.heap.size w0.heap.size w v wr) (fun _ wr => s.size - wr.iterPos w0.heap.size)
  case atStart =>
    exact ⟨0, s.size, [], Nat.zero_le _, heap_alloc_new w0 _, rfl, hown0.alloc _, by simp, rfl, by omega, by rw [HL.out]; rfl, hb0.alloc z0 _⟩
  case round =>
    obtain ⟨pos, f, lc, hpl, hit, rfl, hown, hal, hcp, hf, hgo, hbel⟩ := hrel
    have HM := Lib.hid (iterPos_of hit)
    have HT := Lib.hid hit; clear hit
    have HCP := Lib.hid hcp; clear hcp
    by_cases hp : pos < s.size
    · obtain ⟨hd, hw1, hw2, hc, hgo'⟩ := step_of hf hp hgo
      have hwd := width_of hp (by omega)
      have hnx : ∀ ty, (Instr.next (.pointer (some ⟨w0.heap.size, 0, none⟩)) true ty).run Tryd.prog wr = _ := fun ty => Lib.run_next_any_at wr w0.heap.size s pos ty HT.out hp
      rw [← hd] at hnx
      clear hgo hd
      obtain ⟨c, hcc⟩ : ∃ c, (nx s pos).1 = c := ⟨_, rfl⟩
      obtain ⟨d, hdd⟩ : ∃ d, (nx s pos).2 = d := ⟨_, rfl⟩
      rw [hcc, hdd] at hnx hgo' hwd
      rw [hcc] at hc
      rw [hdd] at hw1 hw2
      clear hcc hdd
      have HG := Lib.hid hgo'; clear hgo'
      have HW := Lib.hid hwd; clear hwd
      have hown1 := own_iter HT.out hown (pos + d)
      have hit1 : IterIs (wr.iterAt w0.heap.size s (pos + d)) w0.heap.size s (pos + d) := Lib.iterAt_heap wr _ s pos _ HT.out
      have hbel1 : Below w.heap.size w (wr.iterAt w0.heap.size s (pos + d)) := Lib.below_iterAt hbel z0 s _
      have HT1 := Lib.hid hit1; clear hit1
      clear hown hbel
      generalize wr.iterAt w0.heap.size s (pos + d) = wn at hnx hown1 HT1 hbel1
      go_wp2_with (at_builtin; go_must (refine wpList_append_fits _ rfl _ _ 25 rfl w.heap.size 3 i0 1 Tryd.underlying25 hi hz1 w.heap.size lc.length (s.size + 1) _ rfl (hown1.alloc _) ⟨wn.heap.size, 0, none⟩ 1 1 [.int .i64 pos] rfl rfl (new_int wn pos 3) (one_int pos) (by omega) ?_); intro w2 hown2 hgrow2)
      have hit2 := Lib.hid (iter_grown (iter_new HT1.out _) (hown1.alloc _) hgrow2 rfl)
      have hb3 : Below w.heap.size w w2 := (hbel1.alloc hbel1.size _).grown hgrow2 (by have := hbel1.size; simp; omega) (fun k hk => by cases hk; exact Nat.le_refl _)
      have O2 := Lib.hid hown2
      clear hnx hown1 HT1 hbel1 hgrow2 hown2
      go_roundw
      case rel =>
        refine ⟨pos + d, f - 1, lc ++ [(c : Int)], hw2, hit2.out, by simp, ?_, by simp; omega, ?_, by omega, HG.out, hb3⟩
        · rw [offsOf_snoc, HCP.out]; simpa using O2.out
        · rw [cat_snoc, List.length_append, HCP.out, HW.out]
      case measure => rw [iterPos_of hit2.out, HM.out]; omega
    · have hnx : ∀ ty, (Instr.next (.pointer (some ⟨w0.heap.size, 0, none⟩)) true ty).run Tryd.prog wr = _ := fun ty => Lib.run_next_end_at wr w0.heap.size s pos ty HT.out hp
      have hl : lc = l := by rw [runesFrom_end hp] at hgo; simpa using hgo
      subst hl
      have hps : s.size = pos := by omega
      clear hgo
      go_wp2_with (at_builtin; go_must (refine wpList_append_fits _ rfl _ _ 25 rfl w.heap.size 3 i0 1 Tryd.underlying25 hi hz1 w.heap.size lc.length _ _ rfl (hown.alloc _) ⟨wr.heap.size, 0, none⟩ 1 1 [.int .i64 _] rfl rfl (new_int wr _ 3) (one_int _) (by omega) ?_); intro w2 hown2 hgrow2)
      have hb3 : Below w.heap.size w w2 := (hbel.alloc hbel.size _).grown hgrow2 (by have := hbel.size; simp; omega) (fun k hk => by cases hk; exact Nat.le_refl _)
      go_wp2
      go_ret
      refine ⟨_, _, rfl, ?_, hb3⟩
      rw [HCP.out]
      apply Nums.own (n := lc.length + 1)
      rw [List.map_append]
      exact hown2

theorem sub_bytes (s : ByteArray) (a b : Nat) : (s.extract a b).data.toList = (s.data.toList.take b).drop a := by
  simp [ByteArray.data_extract, List.drop_take]

set_option maxHeartbeats 4000000 in
set_option maxRecDepth 100000 in
theorem implPart (s : ByteArray) (fr ct : Int) (w : World) (hs : s.size ≤ 1048576) (hT : Tabs w) (f0 : -9223372036854775808 ≤ fr) (f1 : fr ≤ 9223372036854775807) (c0 : -9223372036854775808 ≤ ct) (c1 : ct ≤ 9223372036854775807) :
    Calls Tryd.prog 22 #[.string s, .int .i64 fr, .int .i64 ct] w (StrIs (partOf s fr ct) w) := by
  have cO := implTextOk s w hs hT
  clear hT
  cases ho : runesOf s with
  | none =>
    have HE := Lib.hid (show partOf s fr ct = [] by unfold partOf; rw [ho]; split <;> rfl)
    rw [ho] at cO
    clear ho
    go_enter Tryd.func22, Tryd.ntmps22
    go_wp2_with fail
    refine cO.mono ?_
    rintro e w1 ⟨rfl, hb⟩
    clear cO
    go_wp2
    go_ret
    exact ⟨by rw [HE.out]; rfl, hb⟩
  | some l =>
    rw [ho] at cO
    by_cases hct : ct < 1
    · have HE := Lib.hid (show partOf s fr ct = [] by unfold partOf; rw [if_pos hct])
      have hct' : ct ≤ 0 := by omega
      clear ho
      go_enter Tryd.func22, Tryd.ntmps22
      go_wp2_with fail
      refine cO.mono ?_
      rintro e w1 ⟨rfl, hb⟩
      clear cO
      go_wp2
      go_ret
      exact ⟨by rw [HE.out]; rfl, hb⟩
    · have HE := Lib.hid (show partOf s fr ct = cat (seg l (loOf fr) (hiOf fr ct)) by unfold partOf; rw [if_neg hct, ho]; rfl)
      obtain ⟨hcat, hpts, hsz⟩ := text_cat ho
      have hll : l.length ≤ 1048576 := by
        have := cat_length_ge l
        rw [hcat] at this
        have e : s.data.toList.length = s.size := Array.length_toList
        omega
      have cF := fun W => implOffs s l W ho
      have HC := Lib.hid hcat
      clear ho hcat hpts
      have hct' : ¬ ct ≤ 0 := by omega
      go_enter Tryd.func22, Tryd.ntmps22
      go_wp2_with fail
      refine cO.mono ?_
      rintro e w1 ⟨rfl, hb⟩
      clear cO
      go_wp2_with fail
      refine (cF _).mono ?_
      rintro e w2 ⟨A, cp, rfl, hN, hb2⟩
      have B2 : Below w.heap.size w w2 := hb.trans (hb2.mono hb.size)
      clear cF hb hb2
      obtain ⟨a, ha⟩ : ∃ a : Nat, max fr 1 = (a : Int) + 1 := ⟨(max fr 1 - 1).toNat, by omega⟩
      have hlo : loOf fr = a := by unfold loOf; omega
      by_cases hfit : fr ≤ (l.length : Int) - ct
      · by_cases h1 : (a : Int) + 1 ≤ fr + ct - 1
        · obtain ⟨b, hbb⟩ : ∃ b : Nat, fr + ct - 1 = (b : Int) := ⟨(fr + ct - 1).toNat, by omega⟩
          have hab : a ≤ b := by omega
          have hbl : b ≤ l.length := by omega
          have h1' : (a : Int) + 1 ≤ (b : Int) := by omega
          have HSEG := Lib.hid (show seg l (loOf fr) (hiOf fr ct) = seg l a b by rw [hlo]; congr 1; unfold hiOf; omega)
          clear h1 hlo
          obtain ⟨bk, o, rfl, hbk, hca⟩ := hN a (by simp [offsOf_length]; omega)
          obtain ⟨bk', o', e', hbk', hcb⟩ := hN b (by simp [offsOf_length]; omega)
          injection e' with e'
          injection e' with e1 e2 _
          subst e1
          subst e2
          have va : (offsOf l ++ [((cat l).length : Int)])[a]'(by simp [offsOf_length]; omega) = ((cat (l.take a)).length : Int) := by
            have h := offs_at l a (by omega)
            rw [List.getElem?_eq_getElem (by simp [offsOf_length]; omega)] at h
            exact Option.some.inj h
          have vb : (offsOf l ++ [((cat l).length : Int)])[b]'(by simp [offsOf_length]; omega) = ((cat (l.take b)).length : Int) := by
            have h := offs_at l b hbl
            rw [List.getElem?_eq_getElem (by simp [offsOf_length]; omega)] at h
            exact Option.some.inj h
          rw [va] at hca
          rw [vb] at hcb
          have hm1 := cat_mono l a b hab
          have hm2 := cat_take_le l b
          have hm3 : (cat l).length = s.size := by rw [HC.out]; exact Array.length_toList
          have HR : Hid (s.extract (cat (l.take a)).length (cat (l.take b)).length = ⟨(partOf s fr ct).toArray⟩) := by
            show _ = _
            rw [HE.out, HSEG.out, ← cat_seg l a b hab, HC.out, ← sub_bytes, bytes_of]
          generalize (cat (l.take a)).length = x at hca hm1 HR
          generalize (cat (l.take b)).length = y at hcb hm1 hm2 HR
          have hys : y ≤ s.size := by omega
          clear hN va vb hm2 hm3
          have cC : ∀ W, Calls Tryd.prog 60 #[.string (s.extract x y)] W fun e w' => e = .returned (.string (s.extract x y)) ∧ Below W.heap.size W w' := fun W => Tryd.stringslite_Clone _ W (by simp; omega)
          have hwa : IntKind.i64.wrap (a : Int) = (a : Int) := IntWalk.i64_in _ ⟨by omega, by omega⟩
          have a1 : (0 : Int) ≤ (a : Int) := by omega
          have a2 : (a : Int) < (l.length : Int) + 1 := by omega
          have a3 : (b : Int) < (l.length : Int) + 1 := by omega
          have a4 : (x : Int) ≤ (y : Int) := by omega
          have a6 : (a : Int) < (b : Int) + 1 := by omega
          have a7 : (b : Int) < (b : Int) + 1 := by omega
          have a5 : (y : Int) ≤ (s.size : Int) := by omega
          go_wp2
          go_still_tail 11, (by kernel_rfl)

          change wpList _ _ _ _ _ w2.drew
          have B3 : Below w.heap.size w w2.drew := B2.drew
          generalize w2.drew = w3 at B3
          clear B2
          go_wp2_with (first | (go_at_call 60; refine (cC _).mono ?_; rintro e w4 ⟨rfl, hb4⟩) | go_in)
          go_ret
          exact ⟨by rw [HR.out]; rfl, B3.trans (hb4.mono B3.size)⟩
        · have HSEG := Lib.hid (show cat (seg l (loOf fr) (hiOf fr ct)) = [] by
            rw [hlo]
            unfold seg
            rw [List.drop_eq_nil_of_le (by simp; unfold hiOf; omega)]
            rfl)
          clear hlo
          clear hN
          go_wp2
          go_ret
          exact ⟨by rw [HE.out, HSEG.out]; rfl, B2⟩
      · by_cases h1 : a + 1 ≤ l.length
        · obtain ⟨b, hbb⟩ : ∃ b : Nat, l.length = b := ⟨_, rfl⟩
          have hab : a ≤ b := by omega
          have hbl : b ≤ l.length := by omega
          have h1' : (a : Int) + 1 ≤ (b : Int) := by omega
          have HSEG := Lib.hid (show seg l (loOf fr) (hiOf fr ct) = seg l a b by
            rw [hlo, ← hbb]
            unfold seg
            rw [List.take_of_length_le (by unfold hiOf; omega), List.take_of_length_le (Nat.le_refl _)])
          clear h1 hlo
          obtain ⟨bk, o, rfl, hbk, hca⟩ := hN a (by simp [offsOf_length]; omega)
          obtain ⟨bk', o', e', hbk', hcb⟩ := hN b (by simp [offsOf_length]; omega)
          injection e' with e'
          injection e' with e1 e2 _
          subst e1
          subst e2
          have va : (offsOf l ++ [((cat l).length : Int)])[a]'(by simp [offsOf_length]; omega) = ((cat (l.take a)).length : Int) := by
            have h := offs_at l a (by omega)
            rw [List.getElem?_eq_getElem (by simp [offsOf_length]; omega)] at h
            exact Option.some.inj h
          have vb : (offsOf l ++ [((cat l).length : Int)])[b]'(by simp [offsOf_length]; omega) = ((cat (l.take b)).length : Int) := by
            have h := offs_at l b hbl
            rw [List.getElem?_eq_getElem (by simp [offsOf_length]; omega)] at h
            exact Option.some.inj h
          rw [va] at hca
          rw [vb] at hcb
          have hm1 := cat_mono l a b hab
          have hm2 := cat_take_le l b
          have hm3 : (cat l).length = s.size := by rw [HC.out]; exact Array.length_toList
          have HR : Hid (s.extract (cat (l.take a)).length (cat (l.take b)).length = ⟨(partOf s fr ct).toArray⟩) := by
            show _ = _
            rw [HE.out, HSEG.out, ← cat_seg l a b hab, HC.out, ← sub_bytes, bytes_of]
          generalize (cat (l.take a)).length = x at hca hm1 HR
          generalize (cat (l.take b)).length = y at hcb hm1 hm2 HR
          have hys : y ≤ s.size := by omega
          clear hN va vb hm2 hm3
          have cC : ∀ W, Calls Tryd.prog 60 #[.string (s.extract x y)] W fun e w' => e = .returned (.string (s.extract x y)) ∧ Below W.heap.size W w' := fun W => Tryd.stringslite_Clone _ W (by simp; omega)
          have hwa : IntKind.i64.wrap (a : Int) = (a : Int) := IntWalk.i64_in _ ⟨by omega, by omega⟩
          have a1 : (0 : Int) ≤ (a : Int) := by omega
          have a2 : (a : Int) < (l.length : Int) + 1 := by omega
          have a3 : (b : Int) < (l.length : Int) + 1 := by omega
          have a4 : (x : Int) ≤ (y : Int) := by omega
          have a6 : (a : Int) < (b : Int) + 1 := by omega
          have a7 : (b : Int) < (b : Int) + 1 := by omega
          have a5 : (y : Int) ≤ (s.size : Int) := by omega
          go_wp2
          go_still_tail 11, (by kernel_rfl)

          change wpList _ _ _ _ _ w2.drew
          have B3 : Below w.heap.size w w2.drew := B2.drew
          generalize w2.drew = w3 at B3
          clear B2
          go_wp2_with (first | (go_at_call 60; refine (cC _).mono ?_; rintro e w4 ⟨rfl, hb4⟩) | go_in)
          go_ret
          exact ⟨by rw [HR.out]; rfl, B3.trans (hb4.mono B3.size)⟩
        · have HSEG := Lib.hid (show cat (seg l (loOf fr) (hiOf fr ct)) = [] by
            rw [hlo]
            unfold seg
            rw [List.drop_eq_nil_of_le (by simp; omega)]
            rfl)
          have h2 : (l.length : Int) < (a : Int) + 1 := by omega
          clear hlo
          clear hN
          go_wp2
          go_ret
          exact ⟨by rw [HE.out, HSEG.out]; rfl, B2⟩

end Go.Proofs.YtbdacfljdpdmiaaDoor
