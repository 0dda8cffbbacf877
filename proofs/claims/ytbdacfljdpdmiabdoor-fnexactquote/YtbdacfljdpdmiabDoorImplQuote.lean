/- impl.Quote puts a text in quotes. Conditions: at most 1048576 bytes; utf8's tables hold what Go's text lays. -/
import Derived.Test.YtbdacfljdpdmiabDoorQuote
import Derived.Test.YtbdacfljdpdmiabDoorImplRunes
import Derived.Deep.DeepMust
namespace Go.Proofs.YtbdacfljdpdmiabDoor
open Go.RowKit
open Go.Lib (encodeRuneZ encodeRune byteCells runeCells encodeRuneZ_length)

theorem own_iterAt {w : World} {base K pos : Nat} {s : ByteArray} {e : TypeId} {size n : Nat} {v : Value} {xs : List Value} (h : IterIs w K s pos) (hown : w.ownsRow base e size v n xs) (p : Nat) : (w.iterAt K s p).ownsRow base e size v n xs := by
  refine ⟨hown.1, ?_⟩
  rcases hown.2 with h0 | ⟨g, cap, cur, hv, hb, hg, r⟩
  · exact .inl h0
  · refine .inr ⟨g, cap, cur, hv, hb, ?_, r⟩
    rw [Lib.iterAt_other _ _ _ _ _ (fun e0 => by subst e0; unfold IterIs at h; rw [h] at hg; cases hg)]
    exact hg
theorem iter_on {w w' : World} {base K pos : Nat} {s : ByteArray} {e : TypeId} {size n : Nat} {v : Value} {xs : List Value} (h : IterIs w K s pos) (hown : w.ownsRow base e size v n xs) (hg : w.grownBy w' v.ownBlock) : IterIs w' K s pos := by
  have hlt : K < w.heap.size := (Array.getElem?_eq_some_iff.1 h).1
  refine (hg.block K hlt (fun e0 => ?_)).trans h
  rcases hown.2 with ⟨rfl, _⟩ | ⟨g, cap, cur, rfl, hb, hgg, r⟩
  · cases e0
  · injection e0 with e1
    subst e1
    unfold IterIs at h
    rw [h] at hgg
    cases hgg
theorem iter_alloc {w : World} {K pos : Nat} {s : ByteArray} (h : IterIs w K s pos) (o : Obj) : IterIs (w.alloc o) K s pos :=
  (Below.heap_alloc w o K (Array.getElem?_eq_some_iff.1 h).1).trans h

theorem special_rune (x : Nat) : x = 34 ∨ x = 92 ∨ x = 10 ∨ x = 9 ∨ x = 13 ∨ (x ≠ 34 ∧ x ≠ 92 ∧ x ≠ 10 ∧ x ≠ 9 ∧ x ≠ 13) := by omega

theorem quoted_enc {c : Nat} (hp : pt (c : Int) = true) (h1 : c ≠ 34) (h2 : c ≠ 92) (h3 : c ≠ 10) (h4 : c ≠ 9) (h5 : c ≠ 13) : quoted (encodeRune (c : Int)) = encodeRune (c : Int) := by
  have key : ∀ l : List UInt8, (∀ x ∈ l, qb x = [x]) → quoted l = l := by
    intro l
    induction l with
    | nil => intro _; rfl
    | cons x l ih =>
      intro h
      have e1 := h x (List.mem_cons_self ..)
      have e2 := ih fun y hy => h y (List.mem_cons_of_mem _ hy)
      unfold quoted at e2 ⊢
      rw [List.flatMap_cons, e1, e2]
      rfl
  apply key
  intro x hx
  have hxz : x.toNat = c ∨ 128 ≤ x.toNat := by
    unfold encodeRune at hx
    obtain ⟨z, hz, rfl⟩ := List.mem_map.1 hx
    have hb := Lib.encodeRuneZ_byte (c : Int) z hz
    have hc := pt_iff.1 hp
    have hn : z.toNat.toUInt8.toNat = z.toNat := by simp; omega
    rw [hn]
    by_cases g0 : (c : Int) < 128
    · rw [enc1 hp g0] at hz
      simp at hz
      omega
    · by_cases g1 : (c : Int) < 2048
      · rw [enc2 g0 g1] at hz
        simp at hz
        omega
      · by_cases g2 : (c : Int) < 65536
        · rw [enc3 hp g1 g2] at hz
          simp at hz
          omega
        · rw [enc4 hp g2] at hz
          simp at hz
          omega
  have ne : ∀ k : UInt8, k.toNat < 128 → k.toNat ≠ c → x ≠ k := fun k g1 g2 e0 => by subst e0; omega
  exact qb_other (ne 34 (by decide) h1.symm) (ne 92 (by decide) h2.symm) (ne 10 (by decide) h3.symm) (ne 9 (by decide) h4.symm) (ne 13 (by decide) h5.symm)

def IRel (s : ByteArray) (l : List Int) (K : Nat) (w : World) (v : Value) (wr : World) : Prop :=
  ∃ (pos f : Nat) (lc : List Int), pos ≤ s.size ∧ IterIs wr K s pos ∧ wr.ownsRow w.heap.size 5 1 v (34 :: quoted (cat lc)).length (byteCells (34 :: quoted (cat lc))) ∧ lc.length ≤ pos ∧ s.size ≤ pos + f ∧
    (runesFrom s f pos).map (lc ++ ·) = some l ∧ Below w.heap.size w wr

set_option maxHeartbeats 4000000 in
set_option maxRecDepth 100000 in
theorem implQuote (s : ByteArray) (w : World) (hs : s.size ≤ 1048576) (hT : Tabs w) : Calls Tryd.prog 5 #[.string s] w (StrIs (quoteOf s) w) := by
  obtain ⟨i0, hi, hz0, hz1, hz2⟩ := info_parts Tryd.infoByte
  have cO := implTextOk s w hs hT
  clear hT
  unfold quoteOf
  cases ho : runesOf s with
  | none =>
    rw [ho] at cO
    clear ho
    go_enter Tryd.func5, Tryd.ntmps5
    go_wp2_with fail
    refine cO.mono ?_
    rintro e w1 ⟨rfl, hb⟩
    clear cO
    go_wp2
    go_ret
    exact ⟨rfl, hb⟩
  | some l =>
    rw [ho] at cO
    have HCat := Lib.hid (text_cat ho)
    have HL : Hid (runesFrom s s.size 0 = some l) := by
      unfold runesOf at ho
      split at ho
      · cases ho
      · exact ho
    clear ho
    go_enter Tryd.func5, Tryd.ntmps5
    go_wp2_with fail
    refine cO.mono ?_
    rintro e w1 ⟨rfl, hb1⟩
    clear cO
    go_wp2
    go_loopw [3] (fun v wr => IRel s l (w1.heap.size + 1) w v wr) (fun _ wr => s.size - wr.iterPos (w1.heap.size + 1))
    case atStart =>
      refine ⟨0, s.size, [], Nat.zero_le _, ?_, ?_, by simp, by omega, by rw [HL.out]; rfl, (hb1.alloc hb1.size _).alloc (by have := hb1.size; simp; omega) _⟩
      · have e0 : (w1.alloc (Obj.cells #[Value.int IntKind.u8 34] 5)).heap.size = w1.heap.size + 1 := by simp
        rw [← e0]
        exact heap_alloc_new (w1.alloc (Obj.cells #[Value.int IntKind.u8 34] 5)) (Obj.stringIter s 0)
      · exact (World.ownsRow_lit w1 #[.int .u8 34] 1 hb1.size (by unfold maxLen; omega) rfl).alloc _
    case round =>
      obtain ⟨pos, f, lc, hpl, hit, hown, hal, hf, hgo, hbel⟩ := hrel
      have HM := Lib.hid (iterPos_of hit)
      have HT := Lib.hid hit; clear hit
      have hql := quoted_length (cat lc)
      have hcl := cat_length_le lc
      obtain ⟨acc, hacc⟩ : ∃ acc, 34 :: quoted (cat lc) = acc := ⟨_, rfl⟩
      have hal2 : acc.length ≤ 8388700 := by rw [← hacc]; simp; omega
      rw [hacc] at hown
      have HAc := Lib.hid hacc
      clear hacc hql hcl
      obtain ⟨A1, c1, rfl⟩ := own_form hown
      by_cases hp : pos < s.size
      · obtain ⟨hd, hw1, hw2, hc, hgo'⟩ := step_of hf hp hgo
        have hpv := decode_valid s pos (by omega)
        have hnx : ∀ ty, (Instr.next (.pointer (some ⟨w1.heap.size + 1, 0, none⟩)) true ty).run Tryd.prog wr = _ := fun ty => Lib.run_next_any_at wr (w1.heap.size + 1) s pos ty HT.out hp
        rw [← hd] at hnx
        clear hgo hd
        obtain ⟨c, hcc⟩ : ∃ c, (nx s pos).1 = c := ⟨_, rfl⟩
        obtain ⟨d, hdd⟩ : ∃ d, (nx s pos).2 = d := ⟨_, rfl⟩
        rw [hcc, hdd] at hnx hgo'
        rw [hcc] at hc hpv
        rw [hdd] at hw1 hw2
        clear hcc hdd
        have HG := Lib.hid hgo'; clear hgo'
        have hown1 := own_iterAt HT.out hown (pos + d)
        have hit1 : IterIs (wr.iterAt (w1.heap.size + 1) s (pos + d)) (w1.heap.size + 1) s (pos + d) := Lib.iterAt_heap wr _ s pos _ HT.out
        have hbel1 : Below w.heap.size w (wr.iterAt (w1.heap.size + 1) s (pos + d)) := Lib.below_iterAt hbel (by have := hb1.size; omega) s _
        have HT1 := Lib.hid hit1; clear hit1
        have HQ : Hid (34 :: quoted (cat (lc ++ [(c : Int)])) = acc ++ quoted (encodeRune (c : Int))) := by
          show _ = _
          rw [cat_snoc, quoted_append, ← HAc.out]; rfl
        clear hown hbel
        generalize wr.iterAt (w1.heap.size + 1) s (pos + d) = wn at hnx hown1 HT1 hbel1
        rcases special_rune c with rfl | rfl | rfl | rfl | rfl | ⟨n1, n2, n3, n4, n5⟩
        · go_wp2_with (at_builtin; go_must (refine wpList_append_own _ rfl _ _ 24 rfl w.heap.size 5 i0 (.int .u8 0) 1 1 Tryd.underlying24 hi hz0 hz1 hz2 rfl (by decide) _ _ _ rfl (hown1.alloc _) ⟨wn.heap.size, 0, none⟩ _ _ [.int .u8 92, .int .u8 34] rfl rfl (new_list wn [.int .u8 92, .int .u8 34] 5) (bytes_one [92, 34]) (by unfold maxLen; omega) (by omega) (by have := hbel1.size; simp; omega) ?_); intro v' w2 hown2 hgrow2 _; obtain ⟨A2, c2, rfl⟩ := own_form hown2)
          have hit2 := Lib.hid (iter_on (iter_alloc HT1.out _) (hown1.alloc _) hgrow2)
          have hb3 : Below w.heap.size w w2 := (hbel1.alloc hbel1.size _).grown hgrow2 (by have := hbel1.size; simp; omega) (own_block hown1)
          have O2 := Lib.hid (own_cat (a := acc) (b := [92, 34]) hown2)
          clear hnx hown1 HT1 hbel1 hgrow2 hown2
          go_wp2
          go_roundw
          case rel => exact ⟨pos + d, f - 1, lc ++ [((34 : Nat) : Int)], hw2, hit2.out, by rw [HQ.out, show quoted (encodeRune ((34 : Nat) : Int)) = [92, 34] by decide]; simpa using O2.out, by simp; omega, by omega, HG.out, hb3⟩
          case measure => rw [iterPos_of hit2.out, HM.out]; omega
        · go_wp2_with (at_builtin; go_must (refine wpList_append_own _ rfl _ _ 24 rfl w.heap.size 5 i0 (.int .u8 0) 1 1 Tryd.underlying24 hi hz0 hz1 hz2 rfl (by decide) _ _ _ rfl (hown1.alloc _) ⟨wn.heap.size, 0, none⟩ _ _ [.int .u8 92, .int .u8 92] rfl rfl (new_list wn [.int .u8 92, .int .u8 92] 5) (bytes_one [92, 92]) (by unfold maxLen; omega) (by omega) (by have := hbel1.size; simp; omega) ?_); intro v' w2 hown2 hgrow2 _; obtain ⟨A2, c2, rfl⟩ := own_form hown2)
          have hit2 := Lib.hid (iter_on (iter_alloc HT1.out _) (hown1.alloc _) hgrow2)
          have hb3 : Below w.heap.size w w2 := (hbel1.alloc hbel1.size _).grown hgrow2 (by have := hbel1.size; simp; omega) (own_block hown1)
          have O2 := Lib.hid (own_cat (a := acc) (b := [92, 92]) hown2)
          clear hnx hown1 HT1 hbel1 hgrow2 hown2
          go_wp2
          go_roundw
          case rel => exact ⟨pos + d, f - 1, lc ++ [((92 : Nat) : Int)], hw2, hit2.out, by rw [HQ.out, show quoted (encodeRune ((92 : Nat) : Int)) = [92, 92] by decide]; simpa using O2.out, by simp; omega, by omega, HG.out, hb3⟩
          case measure => rw [iterPos_of hit2.out, HM.out]; omega
        · go_wp2_with (at_builtin; go_must (refine wpList_append_own _ rfl _ _ 24 rfl w.heap.size 5 i0 (.int .u8 0) 1 1 Tryd.underlying24 hi hz0 hz1 hz2 rfl (by decide) _ _ _ rfl (hown1.alloc _) ⟨wn.heap.size, 0, none⟩ _ _ [.int .u8 92, .int .u8 110] rfl rfl (new_list wn [.int .u8 92, .int .u8 110] 5) (bytes_one [92, 110]) (by unfold maxLen; omega) (by omega) (by have := hbel1.size; simp; omega) ?_); intro v' w2 hown2 hgrow2 _; obtain ⟨A2, c2, rfl⟩ := own_form hown2)
          have hit2 := Lib.hid (iter_on (iter_alloc HT1.out _) (hown1.alloc _) hgrow2)
          have hb3 : Below w.heap.size w w2 := (hbel1.alloc hbel1.size _).grown hgrow2 (by have := hbel1.size; simp; omega) (own_block hown1)
          have O2 := Lib.hid (own_cat (a := acc) (b := [92, 110]) hown2)
          clear hnx hown1 HT1 hbel1 hgrow2 hown2
          go_wp2
          go_roundw
          case rel => exact ⟨pos + d, f - 1, lc ++ [((10 : Nat) : Int)], hw2, hit2.out, by rw [HQ.out, show quoted (encodeRune ((10 : Nat) : Int)) = [92, 110] by decide]; simpa using O2.out, by simp; omega, by omega, HG.out, hb3⟩
          case measure => rw [iterPos_of hit2.out, HM.out]; omega
        · go_wp2_with (at_builtin; go_must (refine wpList_append_own _ rfl _ _ 24 rfl w.heap.size 5 i0 (.int .u8 0) 1 1 Tryd.underlying24 hi hz0 hz1 hz2 rfl (by decide) _ _ _ rfl (hown1.alloc _) ⟨wn.heap.size, 0, none⟩ _ _ [.int .u8 92, .int .u8 116] rfl rfl (new_list wn [.int .u8 92, .int .u8 116] 5) (bytes_one [92, 116]) (by unfold maxLen; omega) (by omega) (by have := hbel1.size; simp; omega) ?_); intro v' w2 hown2 hgrow2 _; obtain ⟨A2, c2, rfl⟩ := own_form hown2)
          have hit2 := Lib.hid (iter_on (iter_alloc HT1.out _) (hown1.alloc _) hgrow2)
          have hb3 : Below w.heap.size w w2 := (hbel1.alloc hbel1.size _).grown hgrow2 (by have := hbel1.size; simp; omega) (own_block hown1)
          have O2 := Lib.hid (own_cat (a := acc) (b := [92, 116]) hown2)
          clear hnx hown1 HT1 hbel1 hgrow2 hown2
          go_wp2
          go_roundw
          case rel => exact ⟨pos + d, f - 1, lc ++ [((9 : Nat) : Int)], hw2, hit2.out, by rw [HQ.out, show quoted (encodeRune ((9 : Nat) : Int)) = [92, 116] by decide]; simpa using O2.out, by simp; omega, by omega, HG.out, hb3⟩
          case measure => rw [iterPos_of hit2.out, HM.out]; omega
        · go_wp2_with (at_builtin; go_must (refine wpList_append_own _ rfl _ _ 24 rfl w.heap.size 5 i0 (.int .u8 0) 1 1 Tryd.underlying24 hi hz0 hz1 hz2 rfl (by decide) _ _ _ rfl (hown1.alloc _) ⟨wn.heap.size, 0, none⟩ _ _ [.int .u8 92, .int .u8 114] rfl rfl (new_list wn [.int .u8 92, .int .u8 114] 5) (bytes_one [92, 114]) (by unfold maxLen; omega) (by omega) (by have := hbel1.size; simp; omega) ?_); intro v' w2 hown2 hgrow2 _; obtain ⟨A2, c2, rfl⟩ := own_form hown2)
          have hit2 := Lib.hid (iter_on (iter_alloc HT1.out _) (hown1.alloc _) hgrow2)
          have hb3 : Below w.heap.size w w2 := (hbel1.alloc hbel1.size _).grown hgrow2 (by have := hbel1.size; simp; omega) (own_block hown1)
          have O2 := Lib.hid (own_cat (a := acc) (b := [92, 114]) hown2)
          clear hnx hown1 HT1 hbel1 hgrow2 hown2
          go_wp2
          go_roundw
          case rel => exact ⟨pos + d, f - 1, lc ++ [((13 : Nat) : Int)], hw2, hit2.out, by rw [HQ.out, show quoted (encodeRune ((13 : Nat) : Int)) = [92, 114] by decide]; simpa using O2.out, by simp; omega, by omega, HG.out, hb3⟩
          case measure => rw [iterPos_of hit2.out, HM.out]; omega
        · have t1 : ((c : Int) == 34) = false := by simp; omega
          have t2 : ((c : Int) == 92) = false := by simp; omega
          have t3 : ((c : Int) == 10) = false := by simp; omega
          have t4 : ((c : Int) == 9) = false := by simp; omega
          have t5 : ((c : Int) == 13) = false := by simp; omega
          have HB := Lib.hid (quoted_enc hpv n1 n2 n3 n4 n5)
          have hel := (encodeRune_length (c : Int)).2
          clear n1 n2 n3 n4 n5
          go_wp2_with (go_at_call 8; go_must (refine (Tryd.utf8_AppendRune_plain w.heap.size _ acc.length (byteCells acc) c (by omega) (by omega) _ hown1 (by omega) hbel1.size).mono ?_); rintro e w2 ⟨v', rfl, hown2, o1, hgrow2⟩)
          have hit2 := Lib.hid (iter_on (iter_alloc HT1.out o1) (hown1.alloc o1) hgrow2)
          have hb3 : Below w.heap.size w w2 := (hbel1.alloc hbel1.size o1).grown hgrow2 (by have := hbel1.size; simp; omega) (own_block hown1)
          have O2 : Hid (w2.ownsRow w.heap.size 5 1 v' (acc ++ encodeRune (c : Int)).length (byteCells (acc ++ encodeRune (c : Int)))) := by
            have h := hown2
            rw [← Lib.byteCells_encodeRune, byteCells_length] at h
            exact own_cat h
          clear hnx hown1 HT1 hbel1 hgrow2 hown2
          go_wp2
          go_roundw
          case rel => exact ⟨pos + d, f - 1, lc ++ [(c : Int)], hw2, hit2.out, by rw [HQ.out, HB.out]; exact O2.out, by simp; omega, by omega, HG.out, hb3⟩
          case measure => rw [iterPos_of hit2.out, HM.out]; omega
      · have hnx : ∀ ty, (Instr.next (.pointer (some ⟨w1.heap.size + 1, 0, none⟩)) true ty).run Tryd.prog wr = _ := fun ty => Lib.run_next_end_at wr (w1.heap.size + 1) s pos ty HT.out hp
        have hl : lc = l := by rw [runesFrom_end hp] at hgo; simpa using hgo
        have HC : Hid (34 :: quoted s.data.toList ++ [34] = acc ++ [34]) := by
          show _ = _
          rw [← HAc.out, hl, HCat.out.1]
        clear hgo hl
        have CV := Lib.hid (closing acc w.heap.size)
        go_wp2_with (at_builtin; go_must (refine wpList_append_own _ rfl _ _ 24 rfl w.heap.size 5 i0 (.int .u8 0) 1 1 Tryd.underlying24 hi hz0 hz1 hz2 rfl (by decide) _ _ _ rfl (hown.alloc _) ⟨wr.heap.size, 0, none⟩ _ _ [.int .u8 34] rfl rfl (new_list wr [.int .u8 34] 5) (bytes_one [34]) (by unfold maxLen; omega) (by omega) (by have := hbel.size; simp; omega) ?_); intro v' w2 hown2 hgrow2 _; obtain ⟨A2, c2, rfl⟩ := own_form hown2; have hcv := CV.out _ _ _ hown2)
        have hb3 : Below w.heap.size w w2 := (hbel.alloc hbel.size _).grown hgrow2 (by have := hbel.size; simp; omega) (own_block hown)
        clear hown2 hgrow2 hown hbel
        go_wp2
        go_ret
        exact ⟨by rw [show 34 :: (quoted s.data.toList ++ [34]) = acc ++ [34] from HC.out]; rfl, hb3⟩

end Go.Proofs.YtbdacfljdpdmiabDoor
