/- spec.DecOk answers whether a decimal is valid. Condition: at most 1048576 digits. -/
import Derived.Test.YthijeckcjfnbcaaGreatDoorDecAt
namespace Go.Proofs.YthijeckcjfnbcaaGreatDoor
set_option linter.unusedVariables false
open Go.RowKit

theorem last_at (s : ByteArray) (h : 0 < s.size) : s.data.toList.getLast? = some (s[s.size - 1]'(by omega)) := by
  have h1 := size_list s
  rw [List.getLast?_eq_getElem?, h1, List.getElem?_eq_getElem (by omega)]
  rfl
theorem toList_nil {s : ByteArray} : s.toList = [] ↔ s.size = 0 := by
  rw [ByteArray.toList_eq, ← size_list]
  exact List.length_eq_zero_iff.symm

/-- Valid, by the program's own fields. -/
theorem ok_iff {n : Bool} {s : ByteArray} {e : Int} (h0 : 0 < s.size) : (dOf n s e).Ok ↔ (NatS s ∧ s.size ≤ 20 ∧ (s[0]'h0).toNat ≠ 48 ∧ (s[s.size - 1]'(by omega)).toNat ≠ 48 ∧ -99 ≤ e + s.size - 1 ∧ e + s.size - 1 ≤ 99) := by
  have hl := size_list s
  have hne : s.data.toList ≠ [] := fun g => by rw [g] at hl; simp at hl; omega
  have hh := head_at s h0
  have hla := last_at s h0
  have c48 : ∀ x : UInt8, x = 48 ↔ x.toNat = 48 := fun x => ⟨fun e => by rw [e]; rfl, fun e => UInt8.toNat_inj.1 (by show x.toNat = 48; exact e)⟩
  constructor
  · rintro (h | ⟨h1, h2, h3, h4, h5, h6, h7⟩)
    · exact absurd (congrArg DecV.dig h) hne
    · change Digs s.data.toList at h1
      change s.data.toList.length ≤ 20 at h3
      change s.data.toList.head? ≠ some 48 at h4
      change s.data.toList.getLast? ≠ some 48 at h5
      change -99 ≤ e + (s.data.toList.length : Int) - 1 at h6
      change e + (s.data.toList.length : Int) - 1 ≤ 99 at h7
      rw [hl] at h3 h6 h7
      rw [hh] at h4
      rw [hla] at h5
      exact ⟨⟨⟨hne, .inr (by rw [hh]; exact h4)⟩, h1, by omega⟩, h3, fun g => h4 (by rw [(c48 _).2 g]), fun g => h5 (by rw [(c48 _).2 g]), h6, h7⟩
  · rintro ⟨h1, h3, h4, h5, h6, h7⟩
    refine .inr ⟨h1.2.1, ?_, ?_, ?_, ?_, ?_, ?_⟩
    · show 1 ≤ s.data.toList.length; omega
    · show s.data.toList.length ≤ 20; omega
    · show s.data.toList.head? ≠ some 48
      rw [hh]; intro g; exact h4 ((c48 _).1 (Option.some.inj g))
    · show s.data.toList.getLast? ≠ some 48
      rw [hla]; intro g; exact h5 ((c48 _).1 (Option.some.inj g))
    · show -99 ≤ e + (s.data.toList.length : Int) - 1; rw [hl]; exact h6
    · show e + (s.data.toList.length : Int) - 1 ≤ 99; rw [hl]; exact h7
theorem ok_nil {n : Bool} {s : ByteArray} {e : Int} (h0 : s.size = 0) : (dOf n s e).Ok ↔ (n = false ∧ e = 0) := by
  have h1 : s.toList = [] := toList_nil.2 h0
  constructor
  · rintro (h | ⟨_, h2, _⟩)
    · have := dOf_zero.1 h; exact ⟨this.1, this.2.2⟩
    · change 1 ≤ s.data.toList.length at h2
      rw [size_list] at h2; omega
  · rintro ⟨rfl, rfl⟩
    exact .inl (dOf_zero.2 ⟨rfl, h1, rfl⟩)

set_option maxHeartbeats 1000000 in
set_option maxRecDepth 100000 in
theorem specDecOk (n : Bool) (s : ByteArray) (e : Int) (w : World) (hs : s.size ≤ 1048576) (b1 : -9223372036854775808 ≤ e) (b2 : e ≤ 9223372036854775807) :
    Calls Tryz.prog 7 #[.agg #[.bool n, .string s, .int .i64 e]] w (AnsB (dOf n s e).Ok w) := by
  have B : ∀ n, Below w.heap.size w (w.alloc (.cells #[.bool n, .string s, .int .i64 e] 25)) := fun n => (Below.refl _ _).alloc (Nat.le_refl _) _
  by_cases h0 : s.size = 0
  · have hnil := toList_nil.2 h0
    rw [ok_nil h0]
    cases n
    · by_cases c : e = 0
      · subst c
        go_enter Tryz.func7, Tryz.ntmps7
        go_wp2
        go_ret
        exact ⟨_, rfl, by simp, B _⟩
      · go_enter Tryz.func7, Tryz.ntmps7
        go_wp2
        go_ret
        exact ⟨_, rfl, by simp [c], B _⟩
    · go_enter Tryz.func7, Tryz.ntmps7
      go_wp2
      go_ret
      exact ⟨_, rfl, by simp, B _⟩
  · have hpos : 0 < s.size := by omega
    have hnil : s.toList.isEmpty = false := by rw [List.isEmpty_eq_false_iff]; exact fun h => h0 (toList_nil.1 h)
    obtain ⟨P, HP⟩ : ∃ P : Prop, Hid (P = (dOf n s e).Ok) := ⟨_, rfl⟩
    rw [← HP.out]
    have HI := Lib.hid (ok_iff (n := n) (e := e) hpos)
    rw [← HP.out] at HI
    clear HP h0
    obtain ⟨x, hx⟩ : ∃ x, s[0]'hpos = x := ⟨_, rfl⟩
    obtain ⟨y, hy⟩ : ∃ y, s[s.size - 1]'(by omega) = y := ⟨_, rfl⟩
    rw [hx, hy] at HI
    have cN := fun W => specNatOk s W hs
    obtain ⟨m, hm⟩ : ∃ m : Nat, s.size - 1 = m := ⟨_, rfl⟩
    have hmi : (s.size : Int) - 1 = (m : Int) := by omega
    have hml : m < s.size := by omega
    have hy' : s[m] = y := by rw [← hy]; congr 1; exact hm.symm
    clear hy
    by_cases c1 : s.size ≤ 20
    · by_cases c2 : x.toNat = 48
      · clear cN
        go_enter Tryz.func7, Tryz.ntmps7
        go_wp2
        go_ret
        exact ⟨_, rfl, ⟨fun h => (by cases h), fun h => absurd c2 (HI.out.1 h).2.2.1⟩, B _⟩
      · by_cases c3 : y.toNat = 48
        · clear cN
          go_enter Tryz.func7, Tryz.ntmps7
          go_wp2
          go_ret
          exact ⟨_, rfl, ⟨fun h => (by cases h), fun h => absurd c3 (HI.out.1 h).2.2.2.1⟩, B _⟩
        · go_enter Tryz.func7, Tryz.ntmps7
          go_wp2_with fail
          refine (cN _).mono ?_
          intro r w1 hr
          obtain ⟨hb, B1⟩ := AnsB.get hr
          obtain ⟨k0, k1, k2⟩ := ((DecAt.new w n s e).belowS B1).cell
          have D := (B n).trans (B1.mono (B n).size)
          clear cN B1 hr
          have g1 : decide ((20 : Int) < (s.size : Int)) = false := decide_eq_false (by omega)
          have g2 : ((x.toNat : Int) == 48) = false := beq_eq_false_iff_ne.2 (by omega)
          have g3 : ((y.toNat : Int) == 48) = false := beq_eq_false_iff_ne.2 (by omega)
          rcases hb with ⟨rfl, hb⟩ | ⟨rfl, hb⟩
          · have HB := Lib.hid hb
            clear hb
            by_cases c4 : -99 - (s.size : Int) + 1 ≤ e
            · by_cases c5 : e ≤ 99 - (s.size : Int) + 1
              · go_wp2
                go_ret
                exact ⟨_, rfl, ⟨fun _ => HI.out.2 ⟨HB.out, c1, c2, c3, by omega, by omega⟩, fun _ => by first | rfl | exact decide_eq_true c5⟩, D⟩
              · go_wp2
                go_ret
                exact ⟨_, rfl, ⟨fun h => absurd (of_decide_eq_true h) (by omega), fun h => by have := (HI.out.1 h).2.2.2.2; omega⟩, D⟩
            · go_wp2
              go_ret
              exact ⟨_, rfl, ⟨fun h => (by cases h), fun h => by have := (HI.out.1 h).2.2.2.2; omega⟩, D⟩
          · have HB := Lib.hid hb
            clear hb
            go_wp2
            go_ret
            exact ⟨_, rfl, ⟨fun h => (by cases h), fun h => absurd (HI.out.1 h).1 HB.out⟩, D⟩
    · clear cN
      go_enter Tryz.func7, Tryz.ntmps7
      go_wp2
      go_ret
      exact ⟨_, rfl, ⟨fun h => (by cases h), fun h => absurd (HI.out.1 h).2.1 c1⟩, B _⟩

end Go.Proofs.YthijeckcjfnbcaaGreatDoor
