/- impl.DecOk answers whether a decimal is valid. Condition: at most 1048576 digits. -/
import Derived.Test.YthijeckcjfnbcaaDoorSpecDec1
import Derived.Test.YthijeckcjfnbcaaDoorImplNat1
import Derived.Test.YthijeckcjfnbcaaDoorSpecDecA
import Derived.Test.YthijeckcjfnbcaaDoorShelf
namespace Go.Proofs.YthijeckcjfnbcaaDoor
set_option linter.unusedVariables false
open Go.RowKit

theorem cell_below {w w' : World} {a : Addr} {v : Value} (h : w.cell? a = some v) (hb : Below w.heap.size w w') (hl : a.block < w.heap.size) : w'.cell? a = some v := (hb.cell hl).trans h

set_option maxHeartbeats 1000000 in
set_option maxRecDepth 100000 in
theorem implDecOk (n : Bool) (s : ByteArray) (e : Int) (w : World) (hs : s.size ≤ 1048576) (b1 : -9223372036854775808 ≤ e) (b2 : e ≤ 9223372036854775807) :
    Calls Tryd.prog 9 #[.agg #[.bool n, .string s, .int .i64 e]] w (AnsB (dOf n s e).Ok w) := by
  have B : Below w.heap.size w (w.alloc (.cells #[.bool n, .string s, .int .i64 e] 25)) := (Below.refl _ _).alloc (Nat.le_refl _) _
  have cZ := fun W => implIsZero n s e W
  have cN := fun W => implNatOk s W hs
  obtain ⟨P, HP⟩ : ∃ P : Prop, Hid (P = (dOf n s e).Ok) := ⟨_, rfl⟩
  rw [← HP.out]
  go_enter Tryd.func9, Tryd.ntmps9
  go_wp2_with fail
  refine (cZ _).mono ?_
  intro r w1 hr
  obtain ⟨hb, B1⟩ := AnsB.get hr
  have K1 := (DecAt.new w n s e).belowS B1
  obtain ⟨k0, k1, k2⟩ := K1.cell
  have D := B.trans (B1.mono B.size)
  clear cZ B1 hr B
  rcases hb with ⟨rfl, hb⟩ | ⟨rfl, hb⟩
  · have HB := Lib.hid hb
    clear hb
    go_wp2
    go_ret
    exact ⟨_, rfl, ⟨fun _ => by rw [HP.out]; exact .inl HB.out, fun _ => rfl⟩, D⟩
  · have HZ := Lib.hid hb
    clear hb
    have z1 := IntWalk.i64_in ((s.size : Int) - 1) ⟨by omega, by omega⟩
    go_wp2_with fail
    refine (cN _).mono ?_
    intro r w2 hr
    obtain ⟨hb, B2⟩ := AnsB.get hr
    obtain ⟨k3, k4, k5⟩ := (K1.belowS B2).cell
    have D2 := D.trans (B2.mono D.size)
    clear cN B2 hr D k0 k1 k2 K1
    rcases hb with ⟨rfl, hb⟩ | ⟨rfl, hb⟩
    · have h0 : 0 < s.size := by
        rcases Nat.eq_zero_or_pos s.size with h | h
        · exact absurd (List.eq_nil_of_length_eq_zero (by rw [size_list]; exact h)) hb.1.1
        · exact h
      have HI := Lib.hid (ok_iff (n := n) (e := e) h0)
      rw [← HP.out] at HI
      have HB := Lib.hid hb
      have hx48 : s.size ≤ 20 → s[s.size - 1].toNat ≠ 48 → (s[0]).toNat ≠ 48 := by
        intro _ g1 g2
        rcases hb.1.2 with h | h
        · rw [size_list] at h
          apply g1
          have : s.size - 1 = 0 := by omega
          simp only [this]; exact g2
        · apply h
          rw [head_at s h0]
          congr 1
          exact UInt8.toNat_inj.1 g2
      have HX := Lib.hid hx48
      clear hb HZ HP hx48
      obtain ⟨m, hm⟩ : ∃ m : Nat, s.size - 1 = m := ⟨_, rfl⟩
      have hmi : (s.size : Int) - 1 = (m : Int) := by omega
      have hml : m < s.size := by omega
      obtain ⟨y, hy⟩ : ∃ y, s[m]'hml = y := ⟨_, rfl⟩
      have HY : Hid (s[s.size - 1]'(by omega) = y) := by show _ = _; rw [← hy]; congr 1
      by_cases c1 : m < 20
      · by_cases c3 : y.toNat = 48
        · go_wp2
          go_ret
          exact ⟨_, rfl, ⟨fun h => (by cases h), fun h => absurd (show (s[s.size - 1]'(by omega)).toNat = 48 by rw [HY.out]; exact c3) (HI.out.1 h).2.2.2.1⟩, D2⟩
        · have g3 : ((y.toNat : Int) == 48) = false := beq_eq_false_iff_ne.2 (by omega)
          have g1 : decide ((20 : Int) ≤ (m : Int)) = false := decide_eq_false (by omega)
          have hy2 : (s[s.size - 1]'(by omega)).toNat ≠ 48 := by rw [HY.out]; exact c3
          have HX2 := Lib.hid (HX.out (by omega) hy2)
          have HY2 := Lib.hid hy2
          clear hy2
          by_cases c4 : -99 - (m : Int) ≤ e
          · by_cases c5 : e ≤ 99 - (m : Int)
            · go_wp2
              go_ret
              exact ⟨_, rfl, ⟨fun _ => HI.out.2 ⟨HB.out, by omega, HX2.out, HY2.out, by omega, by omega⟩, fun _ => by first | rfl | exact decide_eq_true c5⟩, D2⟩
            · go_wp2
              go_ret
              exact ⟨_, rfl, ⟨fun h => absurd (of_decide_eq_true h) (by omega), fun h => by have := (HI.out.1 h).2.2.2.2; omega⟩, D2⟩
          · go_wp2
            go_ret
            exact ⟨_, rfl, ⟨fun h => (by cases h), fun h => by have := (HI.out.1 h).2.2.2.2; omega⟩, D2⟩
      · go_wp2
        go_ret
        exact ⟨_, rfl, ⟨fun h => (by cases h), fun h => absurd (HI.out.1 h).2.1 (by omega)⟩, D2⟩
    · have HN : Hid (¬ P) := by
        show ¬ P
        rw [HP.out]
        rintro (h | h)
        · exact HZ.out h
        · apply hb
          have h0 : s.data.toList ≠ [] := fun g => by have := h.2.1; rw [show (dOf n s e).dig = s.data.toList from rfl, g] at this; simp at this
          exact ⟨⟨h0, .inr h.2.2.2.1⟩, h.1, by have h2 : s.data.toList.length ≤ 20 := h.2.2.1; rw [size_list] at h2; omega⟩
      clear hb HZ HP
      go_wp2
      go_ret
      exact ⟨_, rfl, ⟨fun h => (by cases h), fun h => absurd h HN.out⟩, D2⟩

end Go.Proofs.YthijeckcjfnbcaaDoor

/- strings.Clone, impl's magnitude, impl.DecNeg. Condition: at most 1048576 digits. -/
namespace Go.Proofs.YthijeckcjfnbcaaDoor
set_option linter.unusedVariables false
open Go.RowKit

set_option maxHeartbeats 400000 in
theorem implClone (s : ByteArray) (w : World) (hs : s.size ≤ 1048576) : Calls Tryd.prog 44 #[.string s] w fun r w' => r = .returned (.string s) ∧ Below w.heap.size w w' := by
  have c := fun W => Tryd.stringslite_Clone s W (by omega)
  go_enter Tryd.func44, Tryd.ntmps44
  go_wp2_with fail
  refine (c _).mono ?_
  rintro r w1 ⟨rfl, B1⟩
  clear c
  go_wp2
  go_ret
  exact ⟨rfl, B1⟩

set_option maxHeartbeats 400000 in
theorem implMagnitude (n : Bool) (s : ByteArray) (e : Int) (w : World) (hs : s.size ≤ 1048576) (b1 : -1000000000 ≤ e) (b2 : e ≤ 1000000000) :
    Calls Tryd.prog 17 #[.agg #[.bool n, .string s, .int .i64 e]] w fun r w' => r = .returned (.int .i64 (e + s.size - 1)) ∧ Below w.heap.size w w' := by
  have B : Below w.heap.size w (w.alloc (.cells #[.bool n, .string s, .int .i64 e] 25)) := (Below.refl _ _).alloc (Nat.le_refl _) _
  go_enter Tryd.func17, Tryd.ntmps17
  go_wp2
  go_ret
  exact ⟨rfl, B⟩

end Go.Proofs.YthijeckcjfnbcaaDoor
