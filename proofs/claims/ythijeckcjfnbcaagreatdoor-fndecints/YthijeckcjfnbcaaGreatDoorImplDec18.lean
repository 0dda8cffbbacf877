/- impl.DecWhole. Conditions: at most 1048576 digits; strconv's table of powers and its two errors lie as Go's text lays them. -/
import Derived.Test.YthijeckcjfnbcaaGreatDoorImplDec16
import Derived.Test.YthijeckcjfnbcaaGreatDoorSpecDec17
import Derived.Lib.AtoiErrMem
namespace Go.Proofs.YthijeckcjfnbcaaGreatDoor
set_option linter.unusedVariables false
open Go.RowKit

/-- An error, or none, lies in a variable's block. -/
def ErrAt (w : World) (g : Nat) : Prop := ∃ ev : Value, w.cell? ⟨g, 0, none⟩ = some ev ∧ (ev = .nilIface ∨ ∃ te pe, ev = .iface te pe)
theorem ErrAt.below {w w' : World} {g : Nat} (h : ErrAt w g) (hb : Below w.heap.size w w') : ErrAt w' g := by
  obtain ⟨ev, h1, h2⟩ := h
  exact ⟨ev, cell_kept h1 hb, h2⟩
theorem text_len (d : DecV) : (textR d).length ≤ 400 := by
  unfold textR
  split
  · next ok =>
    have hl := ok.len
    have he := ok.exps
    have hm : d.mag = d.exp + d.dig.length - 1 := rfl
    split
    · simp
    · split
      · have h1 : (natOf d.mag.natAbs).length ≤ 30 := nat20 (n := d.mag) (by omega) (by omega)
        unfold signOf sciOf
        split <;> split <;> split <;> simp <;> omega
      · unfold signOf plainOf
        split <;> split <;> (try split) <;> simp <;> omega
  · simp

/-- What Atoi answers, whatever it reads: the number and whether there is an error. -/
theorem implAtoi (t : ByteArray) (w : World) (ht : t.size ≤ 1048576) (h1 : ErrAt w 1) (h2 : ErrAt w 2) :
    Calls Tryz.prog 46 #[.string t] w fun r w' => ∃ v ev, r = .returned (.tuple #[.int .i64 v, ev]) ∧ Below w.heap.size w w' ∧
      ((ev = .nilIface ∧ Lib.atoiAll t.data.toList = .ok v) ∨ ((∃ te pe, ev = .iface te pe) ∧ wholeI t.data.toList = (0, false))) := by
  cases ha : Lib.atoiAll t.data.toList with
  | ok v =>
    refine (Tryz.strconv_Atoi_ok t (by omega) v ha w).mono ?_
    rintro r w' ⟨rfl, h⟩
    refine ⟨v, .nilIface, rfl, ?_, .inl ⟨rfl, rfl⟩⟩
    rcases h with rfl | ⟨u, rfl⟩
    · exact Below.refl _ _
    · exact Lib.bytesWorld_below _ _ _
  | «syntax» =>
    obtain ⟨ev, e1, e2⟩ := h1
    refine (Tryz.strconv_Atoi_syntax t (by omega) ha ev w e1 e2).mono ?_
    rintro r w' ⟨N, rfl, _, _, hb⟩
    exact ⟨_, _, rfl, hb, .inr ⟨⟨_, _, rfl⟩, by unfold wholeI; rw [ha]⟩⟩
  | range =>
    obtain ⟨ev, e1, e2⟩ := h2
    refine (Tryz.strconv_Atoi_range t (by omega) ha ev w e1 e2).mono ?_
    rintro r w' ⟨N, rfl, _, _, hb⟩
    exact ⟨_, _, rfl, hb, .inr ⟨⟨_, _, rfl⟩, by unfold wholeI; rw [ha]⟩⟩

set_option maxHeartbeats 2000000 in
set_option maxRecDepth 100000 in
theorem implDecWhole (n : Bool) (s : ByteArray) (e : Int) (w : World) (hs : s.size ≤ 1048576) (b1 : -9223372036854775808 ≤ e) (b2 : e ≤ 9223372036854775807)
    (hT : Lib.TabBelow Tryz.prog w.heap.size w "internal/strconv.uint64pow10" .u64 Lib.pow10Tab) (h1 : ErrAt w 1) (h2 : ErrAt w 2) :
    Calls Tryz.prog 18 #[.agg #[.bool n, .string s, .int .i64 e]] w (AnsIB (wholeR (dOf n s e)) w) := by
  rw [← whole_text]
  have KA0 := DecAt.new w n s e
  have B0 : Below w.heap.size w (w.alloc (.cells #[.bool n, .string s, .int .i64 e] 25)) := (Below.refl _ _).alloc (Nat.le_refl _) _
  have cT : ∀ W, Below w.heap.size w W → Calls Tryz.prog 47 #[.agg #[.bool n, .string s, .int .i64 e]] W (AnsS (textR (dOf n s e)) W) := fun W hW => implDecText n s e W hs b1 b2 (fun V hV => hT V (below_kept hW (Nat.le_refl _) hV))
  have hlen := text_len (dOf n s e)
  obtain ⟨t, ht⟩ : ∃ t : ByteArray, ⟨(textR (dOf n s e)).toArray⟩ = t := ⟨_, rfl⟩
  have lt : t.data.toList = textR (dOf n s e) := by rw [← ht]
  have zt : t.size ≤ 400 := by rw [← size_list, lt]; exact hlen
  unfold AnsS at cT
  rw [ht] at cT
  rw [← lt]
  have cA := fun W h h' => implAtoi t W (by omega) h h'
  obtain ⟨k0, k1, k2⟩ := KA0.cell
  clear ht lt hlen hT
  unfold AnsIB
  go_enter Tryz.func18, Tryz.ntmps18
  go_wp2_with fail
  refine (cT _ B0).mono ?_
  rintro r w1 ⟨rfl, B1⟩
  have D1 := below_kept B0 (Nat.le_refl _) B1
  clear cT B1 B0 KA0 k0 k1 k2
  go_wp2_with fail
  refine (cA _ (h1.below D1) (h2.below D1)).mono ?_
  rintro r w2 ⟨v, ev, rfl, B2, hc⟩
  have D2 := below_kept D1 (Nat.le_refl _) B2
  clear cA B2 D1 h1 h2
  rcases hc with ⟨rfl, ha⟩ | ⟨⟨te, pe, rfl⟩, hw⟩
  · have HW : Hid (wholeI t.data.toList = if v < -1000000000000000000 ∨ 1000000000000000000 < v then (0, false) else (v, true)) := by show _ = _; unfold wholeI; rw [ha]
    clear ha
    by_cases c1 : v < -1000000000000000000
    · have HV : Hid (wholeI t.data.toList = (0, false)) := by show _ = _; rw [HW.out, if_pos (.inl c1)]
      clear HW
      go_wp2
      go_ret2
      exact ⟨by rw [HV.out]; rfl, D2⟩
    · by_cases c2 : 1000000000000000000 < v
      · have HV : Hid (wholeI t.data.toList = (0, false)) := by show _ = _; rw [HW.out, if_pos (.inr c2)]
        clear HW
        go_wp2
        go_ret2
        exact ⟨by rw [HV.out]; rfl, D2⟩
      · have HV : Hid (wholeI t.data.toList = (v, true)) := by show _ = _; rw [HW.out, if_neg (by omega)]
        clear HW
        go_wp2
        go_ret2
        exact ⟨by rw [HV.out]; rfl, D2⟩
  · have HV := Lib.hid hw
    clear hw
    go_wp2
    go_ret2
    exact ⟨by rw [HV.out]; rfl, D2⟩

end Go.Proofs.YthijeckcjfnbcaaGreatDoor
