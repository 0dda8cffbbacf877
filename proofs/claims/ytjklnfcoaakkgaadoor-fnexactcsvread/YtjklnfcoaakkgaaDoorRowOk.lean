/- spec.RowsOk and impl.RowsOk tell whether rows can be written. Conditions: at most 1048576 elements in all; for the program utf8's two tables hold what Go's text lays. -/
import Derived.Test.YtjklnfcoaakkgaaDoorRwMem
import Derived.Test.YtjklnfcoaakkgaaDoorSpecJoin
namespace Go.Proofs.YtjklnfcoaakkgaaDoor
set_option linter.unusedVariables false
open Go.RowKit

/-- Are these the cells of a row? -/
def rowOkB (xs : List ByteArray) : Bool := (decide (1 ≤ xs.length) && decide (xs.length ≤ 100)) && xs.all fun x => (runesOf x).isSome
def rowsOkB (rs : List (List ByteArray)) : Bool := rs.all rowOkB
theorem rowOk_short {xs : List ByteArray} (h : ¬ (1 ≤ xs.length ∧ xs.length ≤ 100)) : rowOkB xs = false := by
  unfold rowOkB
  by_cases h1 : 1 ≤ xs.length
  · rw [decide_eq_true h1, decide_eq_false (by omega)]; rfl
  · rw [decide_eq_false h1]; rfl
theorem rowOk_in {xs : List ByteArray} (h : 1 ≤ xs.length ∧ xs.length ≤ 100) : rowOkB xs = xs.all fun x => (runesOf x).isSome := by
  unfold rowOkB
  rw [decide_eq_true h.1, decide_eq_true h.2]; rfl
theorem all_drop {α : Type} {p : α → Bool} {l : List α} {k : Nat} (h : k < l.length) : (l.drop k).all p = (p l[k] && (l.drop (k + 1)).all p) := by
  rw [List.drop_eq_getElem_cons h, List.all_cons]
theorem all_end {α : Type} {p : α → Bool} {l : List α} {k : Nat} (h : l.length ≤ k) : (l.drop k).all p = true := by
  rw [List.drop_eq_nil_of_le h]; rfl

def OkRel (xs : List ByteArray) (R : Bool) (w : World) (i : Value) (wr : World) : Prop :=
  ∃ k : Nat, k ≤ xs.length ∧ i = .int .i64 k ∧ (xs.drop k).all (fun x => (runesOf x).isSome) = R ∧ Below w.heap.size w wr

set_option maxHeartbeats 2000000 in
set_option maxRecDepth 100000 in
theorem implRowOk (A : Option Addr) (c : Nat) (xs : List ByteArray) (w : World) (hlen : xs.length ≤ 1048576) (hsz : ∀ x ∈ xs, x.size ≤ 1048576) (hN : Strs w w.heap.size A xs) (hT : Tabs w) :
    Calls Tryd.prog 42 #[.agg #[.slice A xs.length c]] w (BoolIs (rowOkB xs) w) := by
  have B0 : Below w.heap.size w (w.alloc (.cells #[.slice A xs.length c] 46)) := (Below.refl _ _).alloc (Nat.le_refl _) _
  obtain ⟨R, hR⟩ : ∃ R, rowOkB xs = R := ⟨_, rfl⟩
  rw [hR]
  by_cases hin : 1 ≤ xs.length ∧ xs.length ≤ 100
  · have HR := Lib.hid ((rowOk_in hin).symm.trans hR)
    obtain ⟨h1, h2⟩ := hin
    have h1z : ¬ (xs.length : Int) < 1 := by omega
    have h2z : ¬ (100 : Int) < (xs.length : Int) := by omega
    have HN := Lib.hid hN
    have HT := Lib.hid hT
    have HS := Lib.hid hsz
    have HB0 := Lib.hid B0
    clear hR hN hT hsz B0
    go_enter Tryd.func42, Tryd.ntmps42
    go_wp2
    clear h1z h2z
    go_loopw [18] (fun i wr => OkRel xs R w i wr) (fun i _ => xs.length - (intOf i).toNat)
    case atStart => exact ⟨0, Nat.zero_le _, rfl, HR.out, HB0.out⟩
    case round =>
      obtain ⟨k, hk, rfl, hgo, hbel⟩ := hrel
      have HG := Lib.hid hgo; clear hgo
      by_cases hlt : k < xs.length
      · obtain ⟨b, o, rfl, hb, hc0⟩ := HN.out k hlt
        have hcr := (hbel.cell (p := ⟨b, o + k, none⟩) hb).trans hc0
        have cX := implTextOk xs[k] wr (HS.out _ (List.getElem_mem hlt)) (HT.out.below hbel)
        have HA := Lib.hid (all_drop (p := fun x => (runesOf x).isSome) hlt)
        obtain ⟨x, hx⟩ : ∃ x, xs[k] = x := ⟨_, rfl⟩
        rw [hx] at hcr cX HA
        clear hc0 hx
        cases htx : (runesOf x).isSome with
        | false =>
          rw [htx] at cX HA
          clear htx
          go_wp2_with (go_at_call 62; refine cX.mono ?_; rintro e w2 ⟨rfl, b2⟩)
          go_ret
          exact ⟨by rw [← HG.out, HA.out]; rfl, hbel.trans (b2.mono hbel.size)⟩
        | true =>
          rw [htx] at cX HA
          clear htx
          go_wp2_with (go_at_call 62; refine cX.mono ?_; rintro e w2 ⟨rfl, b2⟩)
          have B2 := hbel.trans (b2.mono hbel.size)
          clear cX b2 hcr
          go_roundw
          case rel => exact ⟨k + 1, hlt, by go_num, by rw [← HG.out, HA.out]; simp, B2⟩
          case measure => simp [intOf]; omega
      · have HE := Lib.hid (HG.out.symm.trans (all_end (by omega)))
        go_wp2
        go_ret
        exact ⟨by rw [HE.out] <;> rfl, hbel⟩
  · have HR := Lib.hid (hR.symm.trans (rowOk_short hin))
    clear hR hN hT hsz
    by_cases h1 : 1 ≤ xs.length
    · have h1z : ¬ (xs.length : Int) < 1 := by omega
      have h2z : (100 : Int) < (xs.length : Int) := by omega
      go_enter Tryd.func42, Tryd.ntmps42
      go_wp2
      go_ret
      exact ⟨by rw [HR.out] <;> rfl, B0⟩
    · have h1z : (xs.length : Int) < 1 := by omega
      go_enter Tryd.func42, Tryd.ntmps42
      go_wp2
      go_ret
      exact ⟨by rw [HR.out] <;> rfl, B0⟩

/-- What comes in is small enough to be copied. -/
def SmallR (rs : List (List ByteArray)) : Prop := rs.length ≤ 1048576 ∧ ∀ xs ∈ rs, xs.length ≤ 1048576 ∧ ∀ x ∈ xs, x.size ≤ 1048576
theorem needs_small {rs : List (List ByteArray)} (h : rs.length + needsR rs ≤ 1048576) : SmallR rs := by
  refine ⟨by omega, fun xs hxs => ?_⟩
  obtain ⟨k, hk, rfl⟩ := List.mem_iff_getElem.1 hxs
  have h1 := needsR_one hk
  unfold needR at h1
  exact ⟨by omega, fun x hx => by have := sizesS_mem hx; omega⟩

def OksRel (rs : List (List ByteArray)) (R : Bool) (w : World) (i : Value) (wr : World) : Prop :=
  ∃ k : Nat, k ≤ rs.length ∧ i = .int .i64 k ∧ (rs.drop k).all rowOkB = R ∧ Below w.heap.size w wr

set_option maxHeartbeats 2000000 in
set_option maxRecDepth 100000 in
theorem implRowsOk (A : Option Addr) (c : Nat) (rs : List (List ByteArray)) (w : World) (hS : SmallR rs) (hN : Rws w w.heap.size A rs) (hT : Tabs w) :
    Calls Tryd.prog 22 #[.slice A rs.length c] w (BoolIs (rowsOkB rs) w) := by
  have hl := hS.1
  obtain ⟨R, hR⟩ : ∃ R, rowsOkB rs = R := ⟨_, rfl⟩
  rw [hR]
  have HR := Lib.hid hR
  have HN := Lib.hid hN
  have HT := Lib.hid hT
  have HS := Lib.hid hS
  clear hR hN hT hS
  go_enter Tryd.func22, Tryd.ntmps22
  go_wp2
  go_loopw [7] (fun i wr => OksRel rs R w i wr) (fun i _ => rs.length - (intOf i).toNat)
  case atStart => exact ⟨0, Nat.zero_le _, rfl, HR.out, Below.refl _ _⟩
  case round =>
    obtain ⟨k, hk, rfl, hgo, hbel⟩ := hrel
    have HG := Lib.hid hgo; clear hgo
    by_cases hlt : k < rs.length
    · obtain ⟨b, o, A1, c1, rfl, hb, hc0, hs⟩ := HN.out k hlt
      have hcr := (hbel.cell (p := ⟨b, o + k, none⟩) hb).trans hc0
      have f := HS.out.2 _ (List.getElem_mem hlt)
      have cX : ∀ W, Below wr.heap.size wr W → Calls Tryd.prog 42 #[.agg #[.slice A1 rs[k].length c1]] W (BoolIs (rowOkB rs[k]) W) := fun W hW =>
        have hB := hbel.trans (hW.mono hbel.size)
        implRowOk A1 c1 rs[k] W f.1 f.2 ((hs.below hB).up hB.size) (HT.out.below hB)
      have HA := Lib.hid (all_drop (p := rowOkB) hlt)
      obtain ⟨xs, hx⟩ : ∃ xs, rs[k] = xs := ⟨_, rfl⟩
      rw [hx] at hcr cX HA
      have HB := Lib.hid hbel
      have hz := hbel.size
      clear hc0 hx hs f hbel
      cases htx : rowOkB xs with
      | false =>
        rw [htx] at cX HA
        clear htx
        go_wp2_with (go_at_call 42; refine (cX _ ((Below.refl _ _).alloc (Nat.le_refl _) _)).mono ?_; rintro e w2 ⟨rfl, b2⟩)
        go_ret
        exact ⟨by rw [← HG.out, HA.out]; rfl, HB.out.trans ((((Below.refl _ _).alloc (Nat.le_refl _) _).trans (b2.mono (by simp))).mono hz)⟩
      | true =>
        rw [htx] at cX HA
        clear htx
        go_wp2_with (go_at_call 42; refine (cX _ ((Below.refl _ _).alloc (Nat.le_refl _) _)).mono ?_; rintro e w2 ⟨rfl, b2⟩)
        have B2 : Below w.heap.size w w2 := HB.out.trans ((((Below.refl _ _).alloc (Nat.le_refl _) _).trans (b2.mono (by simp))).mono hz)
        have HB2 := Lib.hid B2
        clear cX b2 hcr B2
        go_roundw
        case rel => exact ⟨k + 1, hlt, by go_num, by rw [← HG.out, HA.out]; simp, HB2.out⟩
        case measure => simp [intOf]; omega
    · have HE := Lib.hid (HG.out.symm.trans (all_end (by omega)))
      go_wp2
      go_ret
      exact ⟨by rw [HE.out] <;> rfl, hbel⟩

set_option maxHeartbeats 2000000 in
set_option maxRecDepth 100000 in
theorem specRowsOk (A : Option Addr) (c : Nat) (rs : List (List ByteArray)) (w : World) (hS : SmallR rs) (hN : Rws w w.heap.size A rs) :
    Calls Tryd.prog 21 #[.slice A rs.length c] w (BoolIs (rowsOkB rs) w) := by
  have hl := hS.1
  obtain ⟨R, hR⟩ : ∃ R, rowsOkB rs = R := ⟨_, rfl⟩
  rw [hR]
  have HR := Lib.hid hR
  have HN := Lib.hid hN
  have HS := Lib.hid hS
  clear hR hN hS
  go_enter Tryd.func21, Tryd.ntmps21
  go_wp2
  go_loopw [3] (fun i wr => OksRel rs R w i wr) (fun i _ => rs.length - (intOf i).toNat)
  case atStart => exact ⟨0, Nat.zero_le _, rfl, HR.out, Below.refl _ _⟩
  case round =>
    obtain ⟨k, hk, rfl, hgo, hbel⟩ := hrel
    have HG := Lib.hid hgo; clear hgo
    by_cases hlt : k < rs.length
    · obtain ⟨b, o, A1, c1, rfl, hb, hc0, hs⟩ := HN.out k hlt
      have hcW : Hid (∀ W, Below w.heap.size w W → W.cell? ⟨b, o + k, none⟩ = some (.slice A1 rs[k].length c1)) := fun W h => (h.cell (p := ⟨b, o + k, none⟩) hb).trans hc0
      have f := HS.out.2 _ (List.getElem_mem hlt)
      have HA := Lib.hid (all_drop (p := rowOkB) hlt)
      obtain ⟨xs, hx⟩ : ∃ xs, rs[k] = xs := ⟨_, rfl⟩
      rw [hx] at hcW HA f hs
      have hcr := hcW.out wr hbel
      have hltz : (k : Int) < (rs.length : Int) := by omega
      have hxl := f.1
      have HF := Lib.hid f.2
      have HSt := Lib.hid hs
      clear hc0 hx f hs
      by_cases hin : 1 ≤ xs.length ∧ xs.length ≤ 100
      · have HO := Lib.hid (rowOk_in hin)
        have cB : ∀ W, Calls Tryd.prog 40 #[.int .i64 xs.length, .int .i64 1, .int .i64 100] W fun e w' => e = .returned (.bool true) ∧ W = w' := fun W => by
          have := between_any xs.length 1 100 W
          rw [show decide ((1 : Int) ≤ (xs.length : Int) ∧ (xs.length : Int) ≤ 100) = true by simp; omega] at this
          exact this
        clear hin
        go_wp2_with (go_at_call 40; refine (cB _).mono ?_; rintro e w' ⟨rfl, rfl⟩)
        clear cB
        go_loopw [4] (fun i wq => OkRel xs (rowOkB xs) w i wq) (fun i _ => xs.length - (intOf i).toNat)
        case atStart => exact ⟨0, Nat.zero_le _, rfl, HO.out.symm, hbel⟩
        case round =>
          clear hbel hcr
          obtain ⟨q, hq, rfl, hgo2, hbel⟩ := hrel
          have HG2 := Lib.hid hgo2; clear hgo2
          have hcr := hcW.out _ hbel
          by_cases hlt2 : q < xs.length
          · obtain ⟨b2, o2, rfl, hb2, hc2⟩ := HSt.out q hlt2
            have hcx := (hbel.cell (p := ⟨b2, o2 + q, none⟩) hb2).trans hc2
            have cX := specTextOkJ xs[q] wr (HF.out _ (List.getElem_mem hlt2))
            have HA2 := Lib.hid (all_drop (p := fun x => (runesOf x).isSome) hlt2)
            obtain ⟨x, hx⟩ : ∃ x, xs[q] = x := ⟨_, rfl⟩
            rw [hx] at hcx cX HA2
            have hltz2 : (q : Int) < (xs.length : Int) := by omega
            clear hc2 hx
            cases htx : (runesOf x).isSome with
            | false =>
              rw [htx] at cX HA2
              clear htx
              go_wp2_with (go_at_call 41; refine cX.mono ?_; rintro e w2 ⟨rfl, b2⟩)
              go_ret
              exact ⟨by rw [← HG.out, HA.out, ← HG2.out, HA2.out]; rfl, hbel.trans (b2.mono hbel.size)⟩
            | true =>
              rw [htx] at cX HA2
              clear htx
              go_wp2_with (go_at_call 41; refine cX.mono ?_; rintro e w2 ⟨rfl, b2⟩)
              have B2 := hbel.trans (b2.mono hbel.size)
              clear cX b2 hcr hcx
              go_roundw
              case rel => exact ⟨q + 1, hlt2, by go_num, by rw [← HG2.out, HA2.out]; simp, B2⟩
              case measure => simp [intOf]; omega
          · have HE := Lib.hid (HG2.out.symm.trans (all_end (by omega)))
            have hltz2 : ¬ (q : Int) < (xs.length : Int) := by omega
            go_wp2
            go_roundw
            case rel => exact ⟨k + 1, hlt, by go_num, by rw [← HG.out, HA.out, HE.out]; simp, hbel⟩
            case measure => simp [intOf]; omega
      · have HO := Lib.hid (rowOk_short hin)
        have cB : ∀ W, Calls Tryd.prog 40 #[.int .i64 xs.length, .int .i64 1, .int .i64 100] W fun e w' => e = .returned (.bool false) ∧ W = w' := fun W => by
          have := between_any xs.length 1 100 W
          rw [show decide ((1 : Int) ≤ (xs.length : Int) ∧ (xs.length : Int) ≤ 100) = false by simp; omega] at this
          exact this
        clear hin
        go_wp2_with (go_at_call 40; refine (cB _).mono ?_; rintro e w' ⟨rfl, rfl⟩)
        go_ret
        exact ⟨by rw [← HG.out, HA.out, HO.out]; rfl, hbel⟩
    · have HE := Lib.hid (HG.out.symm.trans (all_end (by omega)))
      go_wp2
      go_ret
      exact ⟨by rw [HE.out] <;> rfl, hbel⟩

end Go.Proofs.YtjklnfcoaakkgaaDoor
