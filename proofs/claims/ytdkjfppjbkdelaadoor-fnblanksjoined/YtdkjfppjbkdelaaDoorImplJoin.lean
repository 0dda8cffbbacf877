/- impl.Joined joins texts as the plain function. Conditions: at most 1048576 strings, each of at most 1048576 bytes; utf8's two tables hold what Go's text lays. -/
import Derived.Test.YtdkjfppjbkdelaaDoorSpecJoin
import Derived.Test.YtdkjfppjbkdelaaDoorBld
namespace Go.Proofs.YtdkjfppjbkdelaaDoor
set_option linter.unusedVariables false
open Go.RowKit
open Go.Lib (byteCells)

def IJRel (sep : ByteArray) (xs : List ByteArray) (R : Option (List UInt8)) (w : World) (b : Nat) (i : Value) (wr : World) : Prop :=
  ∃ (k : Nat) (acc : List UInt8), k ≤ xs.length ∧ i = .int .i64 k ∧ acc.length ≤ 1000 ∧ Bld b acc wr ∧ b < wr.heap.size ∧ joinFrom sep (decide (k = 0)) acc (xs.drop k) = R ∧ Below w.heap.size w wr

set_option maxHeartbeats 4000000 in
set_option maxRecDepth 100000 in
theorem implJoined (A : Option Addr) (c : Nat) (xs : List ByteArray) (sep : ByteArray) (w : World) (hlen : xs.length ≤ 1048576) (hsz : ∀ x ∈ xs, x.size ≤ 1048576) (hs : sep.size ≤ 1048576) (hN : Strs w w.heap.size A xs) (hT : Tabs w) :
    Calls Tryd.prog 11 #[.slice A xs.length c, .string sep] w (JoinIs (joinR sep xs) w) := by
  have cT := implTextOk sep w hs hT
  obtain ⟨R, hR⟩ : ∃ R, joinR sep xs = R := ⟨_, rfl⟩
  rw [hR]
  have HR := Lib.hid hR
  have HSz := Lib.hid hsz
  have HN := Lib.hid hN
  have HT := Lib.hid hT
  clear hR hsz hN hT
  cases hsep : (runesOf sep).isSome with
  | false =>
    rw [hsep] at cT
    have HRn := Lib.hid (HR.out.symm.trans (joinR_no xs hsep))
    clear hsep
    go_enter Tryd.func11, Tryd.ntmps11
    go_wp2_with (go_at_call 26; refine cT.mono ?_; rintro e w1 ⟨rfl, b1⟩)
    go_ret2
    exact JoinIs.no HRn.out b1
  | true =>
    rw [hsep] at cT
    have HRy := Lib.hid ((joinR_yes xs hsep).symm.trans HR.out)
    have hs1 : sep.size ≤ 1000 := text_size hsep
    clear hsep
    go_enter Tryd.func11, Tryd.ntmps11
    go_wp2_with (go_at_call 26; refine cT.mono ?_; rintro e w1 ⟨rfl, b1⟩)
    clear cT
    obtain ⟨p, hp⟩ : ∃ p, w1.heap.size = p := ⟨_, rfl⟩
    have hpw : w.heap.size ≤ p := by rw [← hp]; exact b1.size
    have HB0 : Hid (Bld p [] (w1.alloc (.cells #[.pointer none, .slice none 0 0] 58))) := by rw [← hp]; exact bld_new w1
    have HW0 : Hid (Below w.heap.size w (w1.alloc (.cells #[.pointer none, .slice none 0 0] 58))) := b1.alloc b1.size _
    have HZ0 : Hid (p < (w1.alloc (.cells #[.pointer none, .slice none 0 0] 58)).heap.size) := by show p < _; simp; omega
    rw [hp]
    clear hp b1
    go_loopw [14] (fun i wr => IJRel sep xs R w p i wr) (fun i _ => xs.length - (intOf i).toNat)
    case atStart => exact ⟨0, [], Nat.zero_le _, rfl, by simp, HB0.out, HZ0.out, HRy.out, HW0.out⟩
    case round =>
      obtain ⟨k, acc, hk, rfl, hal, hbld, hpz, hgo, hbel⟩ := hrel
      have HG := Lib.hid hgo
      have HBel := Lib.hid hbel
      have HBld := Lib.hid hbld
      clear hgo hbld
      by_cases hlt : k < xs.length
      · obtain ⟨b, o, rfl, hb, hc0⟩ := HN.out k hlt
        have hcr := (hbel.cell (p := ⟨b, o + k, none⟩) hb).trans hc0
        have hxs := HSz.out _ (List.getElem_mem hlt)
        have HBad : Hid ((runesOf xs[k]).isSome = false → R = none) := fun h => HG.out.symm.trans (joinFrom_bad hlt h)
        have HLong : Hid ((runesOf xs[k]).isSome = true → 1000 < (joinOne sep (decide (k = 0)) acc xs[k]).length → R = none) := fun h h2 => HG.out.symm.trans (joinFrom_long hlt h h2)
        have HOn : Hid ((runesOf xs[k]).isSome = true → ¬ 1000 < (joinOne sep (decide (k = 0)) acc xs[k]).length → joinFrom sep (decide (k + 1 = 0)) (joinOne sep (decide (k = 0)) acc xs[k]) (xs.drop (k + 1)) = R) := fun h h2 => by rw [show decide (k + 1 = 0) = false by simp]; exact (joinFrom_on hlt h h2).symm.trans HG.out
        obtain ⟨x, hx⟩ : ∃ x, xs[k] = x := ⟨_, rfl⟩
        rw [hx] at hcr hxs HBad HLong HOn
        have cX : Calls Tryd.prog 26 #[.string x] wr (BoolIs (runesOf x).isSome wr) := implTextOk x wr hxs (HT.out.below hbel)
        have hltz : (k : Int) < (xs.length : Int) := by omega
        clear hc0 hx hbel
        cases htx : (runesOf x).isSome with
        | false =>
          rw [htx] at cX
          have HRn := Lib.hid (HBad.out htx)
          clear htx
          go_wp2_with (go_at_call 26; refine cX.mono ?_; rintro e w2 ⟨rfl, b2⟩)
          go_ret2
          exact JoinIs.no HRn.out (HBel.out.trans (b2.mono HBel.out.size))
        | true =>
          rw [htx] at cX
          have hx1 : x.size ≤ 1000 := text_size htx
          have HL2 : Hid (1000 < (joinOne sep (decide (k = 0)) acc x).length → R = none) := fun h => HLong.out htx h
          have HO2 : Hid (¬ 1000 < (joinOne sep (decide (k = 0)) acc x).length → joinFrom sep (decide (k + 1 = 0)) (joinOne sep (decide (k = 0)) acc x) (xs.drop (k + 1)) = R) := fun h => HOn.out htx h
          clear htx HBad HLong HOn
          by_cases hk0 : k = 0
          · have hk0z : ¬ (0 : Int) < (k : Int) := by omega
            have hj : joinOne sep (decide (k = 0)) acc x = acc ++ x.data.toList := by rw [decide_eq_true hk0]; rfl
            obtain ⟨t, ht⟩ : ∃ t, acc ++ x.data.toList = t := ⟨_, rfl⟩
            have htl : t.length ≤ 2000 := by rw [← ht, List.length_append, size_join]; omega
            rw [hj, ht] at HL2 HO2
            obtain ⟨m, hm⟩ : ∃ m, t.length = m := ⟨_, rfl⟩
            rw [hm] at HL2 HO2 htl
            have HJ := Lib.hid ht
            have HM := Lib.hid hm
            clear hj ht hk0 hm
            by_cases hL : 1000 < m
            · have hLz : (1000 : Int) < (m : Int) := by omega
              have HRn := Lib.hid (HL2.out hL)
              go_wp2_with (first | (go_at_call 26; refine cX.mono ?_; rintro e w2 ⟨rfl, b2⟩; have B2 := HBel.out.trans (b2.mono HBel.out.size); have hl2 := bld_below HBld.out b2; have hp2 := Nat.lt_of_lt_of_le hpz b2.size; clear cX) | (go_at_call 31; refine (bld_write p acc x _ hl2 (by omega) hp2).mono ?_; rintro e w3 ⟨rfl, hl3, b3⟩; rw [HJ.out] at hl3; have B3 := B2.trans (b3.mono hpw); have hp3 := Nat.lt_of_lt_of_le hp2 b3.size; have cL := bld_len p t w3 hl3; rw [HM.out] at cL; clear hl2 b2 b3) | (go_at_call 32; refine cL.mono ?_; rintro e w5 ⟨rfl, rfl⟩; clear cL))
              go_ret2
              exact JoinIs.no HRn.out B3
            · have hLz : ¬ (1000 : Int) < (m : Int) := by omega
              have HRn := Lib.hid (HO2.out hL)
              go_wp2_with (first | (go_at_call 26; refine cX.mono ?_; rintro e w2 ⟨rfl, b2⟩; have B2 := HBel.out.trans (b2.mono HBel.out.size); have hl2 := bld_below HBld.out b2; have hp2 := Nat.lt_of_lt_of_le hpz b2.size; clear cX) | (go_at_call 31; refine (bld_write p acc x _ hl2 (by omega) hp2).mono ?_; rintro e w3 ⟨rfl, hl3, b3⟩; rw [HJ.out] at hl3; have B3 := B2.trans (b3.mono hpw); have hp3 := Nat.lt_of_lt_of_le hp2 b3.size; have cL := bld_len p t w3 hl3; rw [HM.out] at cL; clear hl2 b2 b3) | (go_at_call 32; refine cL.mono ?_; rintro e w5 ⟨rfl, rfl⟩; clear cL))
              have HX := Lib.hid B3
              have HY := Lib.hid hl3
              clear B3 hl3
              go_roundw
              case rel => exact ⟨k + 1, t, hlt, by go_num, by rw [HM.out]; omega, HY.out, hp3, HRn.out, HX.out⟩
              case measure => simp [intOf]; omega
          · have hk0z : (0 : Int) < (k : Int) := by omega
            have hj : joinOne sep (decide (k = 0)) acc x = (acc ++ sep.data.toList) ++ x.data.toList := by rw [decide_eq_false hk0]; rfl
            obtain ⟨t1, ht1⟩ : ∃ t1, acc ++ sep.data.toList = t1 := ⟨_, rfl⟩
            have ht1l : t1.length ≤ 2000 := by rw [← ht1, List.length_append, size_join]; omega
            obtain ⟨t, ht⟩ : ∃ t, t1 ++ x.data.toList = t := ⟨_, rfl⟩
            have htl : t.length ≤ 3000 := by rw [← ht, List.length_append, size_join]; omega
            rw [hj, ht1, ht] at HL2 HO2
            obtain ⟨m, hm⟩ : ∃ m, t.length = m := ⟨_, rfl⟩
            rw [hm] at HL2 HO2 htl
            have HJ := Lib.hid ht
            have HJ1 := Lib.hid ht1
            have HM := Lib.hid hm
            clear hj ht ht1 hk0 hm
            by_cases hL : 1000 < m
            · have hLz : (1000 : Int) < (m : Int) := by omega
              have HRn := Lib.hid (HL2.out hL)
              go_wp2_with (first | (go_at_call 26; refine cX.mono ?_; rintro e w2 ⟨rfl, b2⟩; have B2 := HBel.out.trans (b2.mono HBel.out.size); have hl2 := bld_below HBld.out b2; have hp2 := Nat.lt_of_lt_of_le hpz b2.size; clear cX) | (go_at_call 31; refine (bld_write p acc sep _ hl2 (by omega) hp2).mono ?_; rintro e w3 ⟨rfl, hl3, b3⟩; rw [HJ1.out] at hl3; have B3 := B2.trans (b3.mono hpw); have hp3 := Nat.lt_of_lt_of_le hp2 b3.size; clear hl2 b2 b3) | (go_at_call 31; refine (bld_write p t1 x _ hl3 (by omega) hp3).mono ?_; rintro e w4 ⟨rfl, hl4, b4⟩; rw [HJ.out] at hl4; have B4 := B3.trans (b4.mono hpw); have hp4 := Nat.lt_of_lt_of_le hp3 b4.size; have cL := bld_len p t w4 hl4; rw [HM.out] at cL; clear hl3 b4) | (go_at_call 32; refine cL.mono ?_; rintro e w5 ⟨rfl, rfl⟩; clear cL))
              go_ret2
              exact JoinIs.no HRn.out B4
            · have hLz : ¬ (1000 : Int) < (m : Int) := by omega
              have HRn := Lib.hid (HO2.out hL)
              go_wp2_with (first | (go_at_call 26; refine cX.mono ?_; rintro e w2 ⟨rfl, b2⟩; have B2 := HBel.out.trans (b2.mono HBel.out.size); have hl2 := bld_below HBld.out b2; have hp2 := Nat.lt_of_lt_of_le hpz b2.size; clear cX) | (go_at_call 31; refine (bld_write p acc sep _ hl2 (by omega) hp2).mono ?_; rintro e w3 ⟨rfl, hl3, b3⟩; rw [HJ1.out] at hl3; have B3 := B2.trans (b3.mono hpw); have hp3 := Nat.lt_of_lt_of_le hp2 b3.size; clear hl2 b2 b3) | (go_at_call 31; refine (bld_write p t1 x _ hl3 (by omega) hp3).mono ?_; rintro e w4 ⟨rfl, hl4, b4⟩; rw [HJ.out] at hl4; have B4 := B3.trans (b4.mono hpw); have hp4 := Nat.lt_of_lt_of_le hp3 b4.size; have cL := bld_len p t w4 hl4; rw [HM.out] at cL; clear hl3 b4) | (go_at_call 32; refine cL.mono ?_; rintro e w5 ⟨rfl, rfl⟩; clear cL))
              have HX := Lib.hid B4
              have HY := Lib.hid hl4
              clear B4 hl4
              go_roundw
              case rel => exact ⟨k + 1, t, hlt, by go_num, by rw [HM.out]; omega, HY.out, hp4, HRn.out, HX.out⟩
              case measure => simp [intOf]; omega
      · have HE := Lib.hid (HG.out.symm.trans (joinFrom_end (by omega)))
        have cS := bld_str p acc wr HBld.out (Nat.le_of_lt hpz)
        clear hbel
        go_wp2_with (go_at_call 33; refine cS.mono ?_; rintro e w2 ⟨rfl, b2⟩)
        go_ret2
        exact JoinIs.yes HE.out (HBel.out.trans (b2.mono hpw))

end Go.Proofs.YtdkjfppjbkdelaaDoor
