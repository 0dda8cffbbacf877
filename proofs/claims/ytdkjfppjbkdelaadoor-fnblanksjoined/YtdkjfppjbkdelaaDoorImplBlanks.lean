/- impl.Blanks hands back the words of a text. Conditions: at most 1048576 bytes; utf8's two tables hold what Go's text lays. -/
import Derived.Test.YtdkjfppjbkdelaaDoorWordsEnd
import Derived.Test.YtdkjfppjbkdelaaDoorCollect
import Derived.Test.YtdkjfppjbkdelaaDoorImplOk
namespace Go.Proofs.YtdkjfppjbkdelaaDoor
set_option linter.unusedVariables false
open Go.RowKit Go.Shelf Wd
attribute [local go_sem] Oper.semAt_some

theorem blN_at : ∀ (l : List UInt8) (b : UInt8) (r : List UInt8), l.drop (Wd.blN l) = b :: r → Wd.isBl b = false
  | [], b, r, h => by simp [Wd.blN_nil] at h
  | c :: t, b, r, h => by
    cases hc : Wd.isBl c with
    | true => rw [Wd.blN_cons hc, List.drop_succ_cons] at h; exact blN_at t b r h
    | false => rw [Wd.blN_stop hc, List.drop_zero] at h; injection h with h1 _; rw [← h1]; exact hc
theorem blN_not {s : ByteArray} {a V : Nat} (hV : a + Wd.blN (s.data.toList.drop a) = V) (h : V < s.size) : Wd.isBl s[V] = false := by
  refine blN_at (s.data.toList.drop a) _ (s.data.toList.drop (V + 1)) ?_
  rw [List.drop_drop, hV]
  exact drop_at h
theorem blN_in {s : ByteArray} {a V : Nat} (ha : a ≤ s.size) (hV : a + Wd.blN (s.data.toList.drop a) = V) : a ≤ V ∧ V ≤ s.size := by
  have := Wd.blN_le (s.data.toList.drop a)
  rw [List.length_drop, size_list] at this
  omega

theorem own_down {W : World} {base base' : Nat} {e : TypeId} {size : Nat} {v : Value} {k : Nat} {xs : List Value} (h : W.ownsRow base e size v k xs) (hb : base' ≤ base) : W.ownsRow base' e size v k xs := by
  refine ⟨h.1, ?_⟩
  rcases h.2 with hn | ⟨g, cap, cur, hv, hbg, rest⟩
  · exact .inl hn
  · exact .inr ⟨g, cap, cur, hv, Nat.le_trans hb hbg, rest⟩

theorem abide {α : Type} {B : Nat} {J : List α → World → Prop} (hJ : AbidesFrom B J) {pre : List α} {A C : World} (h : J pre A) (hb : Below A.heap.size A C) : J pre C :=
  hJ pre A C none h ⟨hb.os, hb.tape, hb.output, hb.size, fun k hk _ => hb.block k hk⟩ (fun r e => by cases e)

set_option maxRecDepth 100000 in
set_option maxHeartbeats 4000000 in
theorem words1_in (n : Nat) (hn : 2 ≤ n) (l Bs n₀ : Nat) (s : ByteArray) (hs : s.size ≤ 1000) (hBs : Bs < n₀) (J Jx : List ByteArray → World → Prop) (W0 : World) (hJ : AbidesFrom W0.heap.size J)
    (hY : ∀ pre x W, J pre W → pre.length < 1001 → YieldAt Fence.wide (n - 1) Tryd.prog l #[.string x] W fun e W' =>
      (e = .returned (.bool true) ∧ J (pre ++ [x]) W' ∧ Below n₀ W W') ∨ (e = .returned (.bool false) ∧ Jx (pre ++ [x]) W'))
    (hn₀ : n₀ ≤ W0.heap.size) (hc : W0.cell? ⟨Bs, 0, none⟩ = some (.string s)) (h0 : J [] W0) :
    CallsIn Fence.wide n Tryd.prog 57 #[.func (.yield l) #[] #[], .pointer (some ⟨Bs, 0, none⟩)] W0 fun e W' => (∃ v, e = .returned v) ∧
      ((∃ ys, ys = fromB s 0 ∧ J ys W') ∨ (∃ pre : List ByteArray, True ∧ Jx pre W')) := by
  have cellW : ∀ W, Below n₀ W0 W → W.cell? ⟨Bs, 0, none⟩ = some (.string s) := fun W h => (h.cell (p := ⟨Bs, 0, none⟩) hBs).trans hc
  have HC := Lib.hid cellW
  obtain ⟨V, hV⟩ : ∃ V, 0 + Wd.blN (s.data.toList.drop 0) = V := ⟨_, rfl⟩
  have cE := implBlanksE s 0 V W0 (by omega) (by omega) hV
  have hVl : V ≤ s.size := by rw [← hV]; have := Wd.blN_le (s.data.toList.drop 0); rw [List.length_drop, size_list] at this; omega
  have HF : Hid (fromB s V = fromB s 0) := by show _ = _; rw [← hV]; exact fromB_skip s 0
  have HV := Lib.hid hV
  clear cellW hV
  refine callsIn_of_wp Tryd.func57 rfl trivial ?_ rfl
  simp only [Tryd.ntmps57, List.size_toArray, List.length_cons, List.length_nil, Nat.reduceAdd, Nat.reduceSub, Array.replicate_succ, Array.replicate_zero, List.push_toArray, List.append_toArray, List.nil_append, List.cons_append]
  gi_wp2
  refine ⟨trivial, fun h => (by cases h), ?_⟩
  refine (callsIn_wide.2 cE).mono ?_
  rintro e w1 ⟨rfl, b1⟩
  have hB1 : Below n₀ W0 w1 := b1.mono hn₀
  have hJ1 := abide hJ h0 b1
  have HB1 := Lib.hid hB1
  clear cE hc h0
  gi_wp2
  gi_loopw [3] (fun b wr => ∃ (k : Nat) (pre : List ByteArray), k ≤ s.size ∧ b = .int .i64 k ∧ Hid (pre ++ fromB s k = fromB s 0) ∧ (∀ h : k < s.size, Wd.isBl s[k] = false) ∧ pre.length ≤ k ∧ J pre wr ∧ Below n₀ W0 wr) (fun b _ => s.size - (intOf b).toNat)
  case atStart => exact ⟨V, [], hVl, rfl, HF, fun h => blN_not HV.out h, Nat.zero_le _, hJ1, HB1.out⟩
  case round =>
    obtain ⟨k, pre, hk, rfl, hgo, hnb, hpl, hJr, hbel⟩ := hrel
    have hcr := HC.out wr hbel
    have HG := Lib.hid hgo.out
    have HNb := Lib.hid hnb
    clear hgo hnb HF HV HB1 hJ1
    by_cases hlt : k < s.size
    · have hki : (k : Int) < (s.size : Int) := by omega
      gi_wp2
      gi_loopw [4] (fun en wr2 => ∃ j : Nat, k ≤ j ∧ j ≤ s.size ∧ en = .int .i64 j ∧ Hid (midB s k j = wordsR [] (s.data.toList.drop k)) ∧ wr2 = wr) (fun en _ => s.size - (intOf en).toNat)
      case atStart => exact ⟨k, Nat.le_refl _, hk, rfl, midB_start s k, rfl⟩
      case round =>
        obtain ⟨j, hkj, hjs, rfl, hm, rfl⟩ := hrel
        by_cases hj : j < s.size
        · obtain ⟨x, hx⟩ : ∃ x, s[j] = x := ⟨_, rfl⟩
          have hxl := x.toNat_lt
          have cB := fun W => implBlank (x.toNat : Int) W
          rw [isBlZ_wd] at cB
          have hji : (j : Int) < (s.size : Int) := by omega
          cases hb : Wd.isBl x with
          | false =>
            rw [hb] at cB
            have HN := Lib.hid ((midB_on hkj hj (by rw [hx]; exact hb)).trans hm.out)
            clear hb hm
            gi_wp2
            refine ⟨trivial, fun h => (by cases h), ?_⟩
            refine (callsIn_wide.2 (cB _)).mono ?_
            rintro r w' ⟨rfl, rfl⟩
            gi_wp2
            go_roundw
            case rel => first | exact ⟨j + 1, by omega, hj, by go_num, HN, rfl⟩ | exact ⟨j + 1, by omega, hj, by go_num, HN, trivial⟩
            case measure => simp [intOf]; omega
          | true =>
            rw [hb] at cB
            have hkj2 : k < j := by
              rcases Nat.lt_or_eq_of_le hkj with h | h
              · exact h
              · subst h
                have := HNb.out hj
                rw [hx, hb] at this
                cases this
            have hov : ∀ hk : j < s.size, Wd.isBl s[j] = true := fun _ => by rw [hx]; exact hb
            clear hb
            gi_wp2
            refine ⟨trivial, fun h => (by cases h), ?_⟩
            refine (callsIn_wide.2 (cB _)).mono ?_
            rintro r w' ⟨rfl, rfl⟩
            clear cB
            have hki3 : (k : Int) ≤ (j : Int) := by omega
            have HO : Hid ((midB s k j).map mkB = s.extract k j :: fromB s j) := midB_over hkj2 hjs hov
            obtain ⟨y, hy⟩ : ∃ y, s.extract k j = y := ⟨_, rfl⟩
            have hyz : y.size ≤ 1048576 := by rw [← hy, ByteArray.size_extract]; omega
            have HN : Hid (pre ++ (y :: fromB s j) = fromB s 0) := by
              show _ = _
              have h1 := HO.out
              rw [hm.out, hy] at h1
              rw [← h1]
              exact HG.out
            have cC := cloneC y wr hyz
            obtain ⟨V2, hV2⟩ : ∃ V2, j + Wd.blN (s.data.toList.drop j) = V2 := ⟨_, rfl⟩
            have cE2 : ∀ W, Calls Tryd.prog 58 #[.string s, .int .i64 j] W fun r w' => r = .returned (.int .i64 V2) ∧ Below W.heap.size W w' := fun W => implBlanksE s j V2 W (by omega) hjs hV2
            have hVi := blN_in hjs hV2
            have HV2 := Lib.hid hV2
            have HM := Lib.hid hm
            clear hm hov hV2
            gi_wp2
            refine ⟨trivial, fun h => (by cases h), ?_⟩
            refine (callsIn_wide.2 cC).mono ?_
            rintro e w2 ⟨rfl, b2⟩
            have hb2 : Below n₀ W0 w2 := hbel.trans (b2.mono (Nat.le_trans hn₀ hbel.size))
            obtain ⟨fn, tmps, assign, body, hyv, hR⟩ := hY pre y w2 (abide hJ hJr b2) (by omega)
            have HB2 := Lib.hid hb2
            clear cC b2 hb2
            gi_wp2
            refine ⟨fun h => (by cases h), hR.mono ?_⟩
            rintro e W3 (⟨rfl, hJ3, hk3⟩ | ⟨rfl, hJx3⟩)
            · have hb3 : Below n₀ W0 W3 := HB2.out.trans hk3
              have hc3 := HC.out W3 hb3
              have HB3 := Lib.hid hb3
              have cE3 := cE2 W3
              clear hk3 hb3 hyv hR cE2
              gi_wp2
              refine ⟨trivial, fun h => (by cases h), ?_⟩
              refine (callsIn_wide.2 cE3).mono ?_
              rintro e w4 ⟨rfl, b4⟩
              have hJ4 := abide hJ hJ3 b4
              have HB4 := Lib.hid (HB3.out.trans (b4.mono (Nat.le_trans hn₀ HB3.out.size)))
              clear cE3 b4
              gi_wp2
              go_roundw
              case rel =>
                refine ⟨V2, pre ++ [y], hVi.2, rfl, ?_, fun h => blN_not HV2.out h, by simp; omega, hJ4, HB4.out⟩
                show _ = _
                rw [List.append_assoc, ← HV2.out, fromB_skip]
                exact HN.out
              case measure => simp [intOf]; omega
            · gi_wp2
              refine bodyPost_ret (results_none rfl _ _ _) rfl ?_
              exact ⟨⟨_, rfl⟩, .inr ⟨pre ++ [y], trivial, hJx3⟩⟩
        · have hji : ¬ (j : Int) < (s.size : Int) := by omega
          have hkj2 : k < j := by omega
          have hov : ∀ hk : j < s.size, Wd.isBl s[j] = true := fun h => absurd h hj
          have hki3 : (k : Int) ≤ (j : Int) := by omega
          have HO : Hid ((midB s k j).map mkB = s.extract k j :: fromB s j) := midB_over hkj2 hjs hov
          obtain ⟨y, hy⟩ : ∃ y, s.extract k j = y := ⟨_, rfl⟩
          have hyz : y.size ≤ 1048576 := by rw [← hy, ByteArray.size_extract]; omega
          have HN : Hid (pre ++ (y :: fromB s j) = fromB s 0) := by
            show _ = _
            have h1 := HO.out
            rw [hm.out, hy] at h1
            rw [← h1]
            exact HG.out
          have cC := cloneC y wr hyz
          obtain ⟨V2, hV2⟩ : ∃ V2, j + Wd.blN (s.data.toList.drop j) = V2 := ⟨_, rfl⟩
          have cE2 : ∀ W, Calls Tryd.prog 58 #[.string s, .int .i64 j] W fun r w' => r = .returned (.int .i64 V2) ∧ Below W.heap.size W w' := fun W => implBlanksE s j V2 W (by omega) hjs hV2
          have hVi := blN_in hjs hV2
          have HV2 := Lib.hid hV2
          have HM := Lib.hid hm
          clear hm hov hV2
          gi_wp2
          refine ⟨trivial, ?_⟩
          gi_wp2
          refine ⟨trivial, fun h => (by cases h), ?_⟩
          refine (callsIn_wide.2 cC).mono ?_
          rintro e w2 ⟨rfl, b2⟩
          have hb2 : Below n₀ W0 w2 := hbel.trans (b2.mono (Nat.le_trans hn₀ hbel.size))
          obtain ⟨fn, tmps, assign, body, hyv, hR⟩ := hY pre y w2 (abide hJ hJr b2) (by omega)
          have HB2 := Lib.hid hb2
          clear cC b2 hb2
          gi_wp2
          refine ⟨fun h => (by cases h), hR.mono ?_⟩
          rintro e W3 (⟨rfl, hJ3, hk3⟩ | ⟨rfl, hJx3⟩)
          · have hb3 : Below n₀ W0 W3 := HB2.out.trans hk3
            have hc3 := HC.out W3 hb3
            have HB3 := Lib.hid hb3
            have cE3 := cE2 W3
            clear hk3 hb3 hyv hR cE2
            gi_wp2
            refine ⟨trivial, fun h => (by cases h), ?_⟩
            refine (callsIn_wide.2 cE3).mono ?_
            rintro e w4 ⟨rfl, b4⟩
            have hJ4 := abide hJ hJ3 b4
            have HB4 := Lib.hid (HB3.out.trans (b4.mono (Nat.le_trans hn₀ HB3.out.size)))
            clear cE3 b4
            gi_wp2
            go_roundw
            case rel =>
              refine ⟨V2, pre ++ [y], hVi.2, rfl, ?_, fun h => blN_not HV2.out h, by simp; omega, hJ4, HB4.out⟩
              show _ = _
              rw [List.append_assoc, ← HV2.out, fromB_skip]
              exact HN.out
            case measure => simp [intOf]; omega
          · gi_wp2
            refine bodyPost_ret (results_none rfl _ _ _) rfl ?_
            exact ⟨⟨_, rfl⟩, .inr ⟨pre ++ [y], trivial, hJx3⟩⟩
    · have hki : ¬ (k : Int) < (s.size : Int) := by omega
      gi_wp2
      go_end0
      have h1 := HG.out
      rw [fromB_end (by omega), List.append_nil] at h1
      first | exact ⟨⟨_, rfl⟩, .inl ⟨pre, h1, hJr⟩⟩ | exact ⟨⟨_, rfl⟩, .inl (by rw [← h1]; exact hJr)⟩

theorem words_stops (n : Nat) (hn : 2 ≤ n) (Bs : Nat) (s : ByteArray) (hs : s.size ≤ 1000) (w : World) (hBs : Bs < w.heap.size) (hc : w.cell? ⟨Bs, 0, none⟩ = some (.string s)) :
    SeqStopsK Fence.wide n Tryd.prog 57 #[.pointer (some ⟨Bs, 0, none⟩)] (fun x : ByteArray => #[Value.string x]) (Below w.heap.size) (fun ys => ys = fromB s 0) (fun _ => True) 1001 w := fun l J Jx W hW hJ _ hY h0 =>
  words1_in n hn l Bs w.heap.size s hs hBs J Jx W hJ hY hW.size ((hW.cell (p := ⟨Bs, 0, none⟩) hBs).trans hc) h0

set_option maxHeartbeats 1000000 in
set_option maxRecDepth 100000 in
theorem implBlanksC (s : ByteArray) (w : World) (hs : s.size ≤ 1048576) (hT : Tabs w) : Calls Tryd.prog 8 #[.string s] w (StrsAre ((blanksR s).map mkB) w) := by
  have cT := implTextOk s w hs hT
  clear hT
  cases ht : (runesOf s).isSome with
  | false =>
    rw [ht] at cT
    have HR := Lib.hid (show ([] : List ByteArray) = (blanksR s).map mkB by rw [blanksR_no ht]; rfl)
    clear ht
    go_enter Tryd.func8, Tryd.ntmps8
    go_wp2_with (go_at_call 26; refine cT.mono ?_; rintro e w1 ⟨rfl, b1⟩)
    go_ret
    exact StrsAre.mk HR.out (World.ownsRow_nil _ _ _ _) b1
  | true =>
    rw [ht] at cT
    have hs1 : s.size ≤ 1000 := text_size ht
    have HR : Hid (fromB s 0 = (blanksR s).map mkB) := by show _ = _; rw [blanksR_yes ht]; rfl
    clear ht
    go_enter Tryd.func8, Tryd.ntmps8
    go_wp2_with (first
      | (go_at_call 26; refine cT.mono ?_; rintro e w1 ⟨rfl, b1⟩; have cW := words_any s w1)
      | (go_at_call 28; refine cW.mono ?_; rintro e w2 ⟨rfl, e2⟩; have hz2 : w2.heap.size = w1.heap.size + 1 := (by rw [e2]; simp); have b2 : Below w1.heap.size w1 w2 := (by rw [e2]; exact (Below.refl _ _).alloc (Nat.le_refl _) _); have hc2 : w2.cell? ⟨w1.heap.size, 0, none⟩ = some (.string s) := (by rw [e2, cell_of_row _ _ _ _ _ _ (heap_alloc_new w1 _)]; rfl); have cC := callsIn_wide.1 (collect_any 10 (by omega) 57 #[.pointer (some ⟨w1.heap.size, 0, none⟩)] (enters_of Tryd.func57 (by kernel_rfl) rfl) (fun ys => ys = fromB s 0) (fun _ => True) 1001 (by omega) w2 (words_stops (10 - 1 - 1) (by omega) w1.heap.size s hs1 w2 (by omega) hc2)); clear e2 cW)
      | (go_at_call 27; refine cC.mono ?_; rintro e w3 ⟨l, v, rfl, rfl, ho, b3⟩; have B2 := b1.trans (b2.mono b1.size); have HO := Lib.hid ho; obtain ⟨A3, c3, rfl⟩ := own_form ho; clear cC ho))
    go_ret
    refine StrsAre.mk HR.out ?_ (B2.trans (b3.mono B2.size))
    exact own_down HO.out B2.size

end Go.Proofs.YtdkjfppjbkdelaaDoor
