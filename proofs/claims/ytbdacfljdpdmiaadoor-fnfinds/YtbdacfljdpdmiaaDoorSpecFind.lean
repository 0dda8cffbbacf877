/- spec.Find hands back where a text first stands in another, by code points. Condition: at most 1048576 bytes each. -/
import Derived.Test.YtbdacfljdpdmiaaDoorSpecRunes
import Derived.Test.YtbdacfljdpdmiaaDoorFindMath
import Derived.Deep.QuietTactic
import Derived.BigQuiet
import Derived.IntWalk
namespace Go.Proofs.YtbdacfljdpdmiaaDoor
open Go.RowKit

def NatIs (n : Nat) (w : World) (e : Ending) (w' : World) : Prop := e = .returned (.int .i64 n) ∧ Below w.heap.size w w'

theorem not_far {a b : List Int} (hb : b ≠ []) {i : Nat} (hi : ¬ i + b.length ≤ a.length) (hn : ∀ j, j < i → ¬ b <+: a.drop j) : findL a b = 0 := by
  apply findL_none
  intro j hj g
  by_cases h : j < i
  · exact hn j h g
  · have h1 := g.length_le
    rw [List.length_drop] at h1
    have : 0 < b.length := List.length_pos_iff.2 hb
    omega
theorem not_next {a b : List Int} {i : Nat} (h : ¬ b <+: a.drop i) (hn : ∀ j, j < i → ¬ b <+: a.drop j) : ∀ j, j < i + 1 → ¬ b <+: a.drop j := by
  intro j hj
  by_cases e : j = i
  · subst e; exact h
  · exact hn j (by omega)

theorem text_len {s : ByteArray} {l : List Int} (h : runesOf s = some l) : l.length ≤ 1000 := by
  obtain ⟨hcat, _, hsz⟩ := text_cat h
  have := cat_length_ge l
  rw [hcat] at this
  have e : s.data.toList.length = s.size := Array.length_toList
  omega

set_option maxHeartbeats 4000000 in
set_option maxRecDepth 100000 in
theorem specFind (s t : ByteArray) (w : World) (hs : s.size ≤ 1048576) (ht : t.size ≤ 1048576) : Calls Tryd.prog 31 #[.string s, .string t] w (NatIs (findOf s t) w) := by
  have cS := specRunes s w hs
  have cT := fun W => specRunes t W ht
  unfold findOf
  cases ho : runesOf s with
  | none =>
    rw [ho] at cS
    clear ho
    unfold IntsAre at cT
    go_enter Tryd.func31, Tryd.ntmps31
    go_wp2_with fail
    refine cS.mono ?_
    rintro e w1 ⟨v1, rfl, hown1, hb1⟩
    clear cS hown1
    go_wp2_with fail
    refine (cT _).mono ?_
    rintro e w2 ⟨v2, rfl, hown2, hb2⟩
    clear cT hown2
    go_wp2
    go_ret
    exact ⟨rfl, hb1.trans (hb2.mono hb1.size)⟩
  | some a =>
    have hal := text_len ho
    cases ho2 : runesOf t with
    | none =>
      rw [ho] at cS
      rw [ho2] at cT
      clear ho ho2
      go_enter Tryd.func31, Tryd.ntmps31
      go_wp2_with fail
      refine cS.mono ?_
      rintro e w1 ⟨v1, rfl, hown1, hb1⟩
      clear cS hown1
      go_wp2_with fail
      refine (cT _).mono ?_
      rintro e w2 ⟨v2, rfl, hown2, hb2⟩
      clear cT hown2
      go_wp2
      go_ret
      exact ⟨rfl, hb1.trans (hb2.mono hb1.size)⟩
    | some b =>
      have hbl := text_len ho2
      rw [ho] at cS
      rw [ho2] at cT
      clear ho ho2
      by_cases hb0 : b = []
      · subst hb0
        go_enter Tryd.func31, Tryd.ntmps31
        go_wp2_with fail
        refine cS.mono ?_
        rintro e w1 ⟨v1, rfl, hown1, hb1⟩
        clear cS hown1
        go_wp2_with fail
        refine (cT _).mono ?_
        rintro e w2 ⟨v2, rfl, hown2, hb2⟩
        obtain ⟨A2, c2, rfl⟩ := own_form hown2
        clear cT hown2
        go_wp2
        go_ret
        exact ⟨rfl, hb1.trans (hb2.mono hb1.size)⟩
      · have hbp : 0 < b.length := List.length_pos_iff.2 hb0
        have hbz : ((b.length : Int) == 0) = false := by simp; omega
        have HB := Lib.hid hb0
        show Calls _ _ _ _ (NatIs (if b = [] then 0 else findL a b) w)
        rw [if_neg hb0]
        clear hb0
        go_enter Tryd.func31, Tryd.ntmps31
        go_wp2_with fail
        refine cS.mono ?_
        rintro e w1 ⟨v1, rfl, hown1, hb1⟩
        obtain ⟨A1, c1, rfl⟩ := own_form hown1
        have N1 := Nums.own hown1
        clear cS hown1
        go_wp2_with fail
        refine (cT _).mono ?_
        rintro e w2 ⟨v2, rfl, hown2, hb2⟩
        obtain ⟨A2, c2, rfl⟩ := own_form hown2
        have N2 := Nums.own hown2
        have M1 := (N1.below hb2).up hb2.size
        have B2 : Below w.heap.size w w2 := hb1.trans (hb2.mono hb1.size)
        clear cT hown2 hb1 hb2 N1
        simp only [Option.getD_some] at N2 M1
        go_wp2
        go_loopw [9] (fun p wr => ∃ i : Nat, i ≤ a.length + 1 ∧ p = .int .i64 i ∧ (∀ j, j < i → ¬ b <+: a.drop j) ∧ Below w2.heap.size w2 wr) (fun p _ => a.length + 2 - (intOf p).toNat)
        case atStart => exact ⟨0, Nat.zero_le _, rfl, fun j hj => absurd hj (by omega), Below.refl _ _⟩
        case round =>
          obtain ⟨i, hil, rfl, hno, hbel⟩ := hrel
          have HN := Lib.hid hno; clear hno
          by_cases hfit : i + b.length ≤ a.length
          · have hfitz : (i : Int) + (b.length : Int) ≤ (a.length : Int) := by omega
            have HB3 := Lib.hid B2
            have HM := Lib.hid M1
            have HM2 := Lib.hid N2
            clear M1 N2 B2
            go_wp2
            go_loopw [10, 11] (fun sm q wq => ∃ (k : Nat) (g : Bool), k ≤ b.length ∧ q = .int .i64 k ∧ sm = .bool g ∧ agree a b i k = g ∧ Below w2.heap.size w2 wq) (fun _ q _ => b.length + 1 - (intOf q).toNat)
            case atStart => exact ⟨0, true, Nat.zero_le _, rfl, rfl, agree_zero a b i, hbel⟩
            case round =>
              obtain ⟨k, g, hkl, rfl, rfl, hag, hbq⟩ := hrel
              cases g with
              | false =>
                have HO := Lib.hid (agree_less hag)
                have hbq2 : Below w2.heap.size w2 wr := hbq
                clear hag hbq
                by_cases hlt : k < b.length
                all_goals
                  go_wp2
                  go_roundw
                  case rel => exact ⟨i + 1, by omega, by go_num, not_next HO.out HN.out, hbq2⟩
                  case measure => simp [intOf]; omega
              | true =>
                by_cases hlt : k < b.length
                · obtain ⟨b1, o1, e1, hb1, hc1⟩ := HM.out (i + k) (by omega)
                  obtain ⟨b2, o2, e2, hb2, hc2⟩ := HM2.out k hlt
                  subst e1
                  subst e2
                  have HA := Lib.hid (agree_step hlt (by omega) hag)
                  have d1 : wr.cell? ⟨b1, o1 + (i + k), none⟩ = some (.int .i64 a[i + k]) := (hbq.cell (p := ⟨b1, o1 + (i + k), none⟩) hb1).trans hc1
                  have d2 : wr.cell? ⟨b2, o2 + k, none⟩ = some (.int .i64 b[k]) := (hbq.cell (p := ⟨b2, o2 + k, none⟩) hb2).trans hc2
                  generalize a[i + k] = x at d1 HA
                  generalize b[k] = y at d2 HA
                  have k1 : (k : Int) < (b.length : Int) := by omega
                  have k2 : (i : Int) + (k : Int) < (a.length : Int) := by omega
                  have k3 : (0 : Int) ≤ (i : Int) + (k : Int) := by omega
                  have k4 : ((i : Int) + (k : Int)).toNat = i + k := by omega
                  have k5 : IntKind.i64.wrap ((i : Int) + (k : Int)) = (i : Int) + (k : Int) := IntWalk.i64_in _ ⟨by omega, by omega⟩
                  clear hag hc1 hc2
                  go_wp2
                  go_quiet (fail)
                  go_wp2
                  go_roundw
                  case rel => exact ⟨k + 1, x == y, hlt, by go_num, rfl, HA.out, belowDrewN hbq _⟩
                  case measure => simp [intOf]; omega
                · have hkb : k = b.length := by omega
                  subst hkb
                  have HE := Lib.hid (findL_hit (by omega) ((agree_all a b i).1 hag) HN.out)
                  have hbw : Below w.heap.size w wr := HB3.out.trans (hbq.mono HB3.out.size)
                  clear hag
                  go_wp2
                  go_ret
                  exact ⟨by rw [HE.out]; go_num, hbw⟩
          · have hfitz : ¬ (i : Int) + (b.length : Int) ≤ (a.length : Int) := by omega
            have HE := Lib.hid (not_far HB.out hfit HN.out)
            clear M1 N2
            go_wp2
            go_ret
            exact ⟨by rw [HE.out]; rfl, B2.trans (hbel.mono B2.size)⟩

end Go.Proofs.YtbdacfljdpdmiaaDoor
