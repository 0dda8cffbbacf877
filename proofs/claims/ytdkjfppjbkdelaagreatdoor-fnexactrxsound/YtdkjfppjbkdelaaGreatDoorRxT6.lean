/- spec.RxSound answers as the plain function. Conditions: at most 1048576 elements in all; numbers are ints. -/
import Derived.Test.YtdkjfppjbkdelaaGreatDoorRxT5
import Derived.Test.YtdkjfppjbkdelaaGreatDoorRxS14
import Derived.Test.YtdkjfppjbkdelaaGreatDoorRxTxtA
import Derived.Test.YtdkjfppjbkdelaaGreatDoorRxW10
namespace Go.Proofs.YtdkjfppjbkdelaaGreatDoor
set_option linter.unusedVariables false
open Go.RowKit

theorem textsS_small {ns : List Nd} : ∀ (l : List Nd) (z z' : List (List UInt8)), textsS ns l z = some z' → (∀ t ∈ z, t.length ≤ 1000) → ∀ t ∈ z', t.length ≤ 1000
  | [], z, z', h, hz => by cases h; exact hz
  | n :: r, z, z', h, hz => by
    rw [textsS] at h
    obtain ⟨t, h1, h2⟩ := Option.bind_eq_some_iff.1 h
    refine textsS_small r (z ++ [t]) z' h2 fun x hx => ?_
    rcases List.mem_append.1 hx with hx | hx
    · exact hz x hx
    · simp at hx
      subst hx
      unfold nodeS at h1
      obtain ⟨b, _, h3⟩ := Option.bind_eq_some_iff.1 h1
      unfold capT at h3
      split at h3
      · cases h3
      · cases h3; omega
theorem textS_len (ns : List Nd) : (textS ns).length ≤ 1000 := by
  unfold textS
  split
  · cases hq : textsS ns ns [] with
    | none => simp
    | some z =>
      simp only [Option.map_some, Option.getD_some]
      rw [List.getD_eq_getElem?_getD]
      cases hz : z[ns.length - 1]? with
      | none => simp
      | some t => exact textsS_small ns [] z hq (fun t ht => by cases ht) t (List.mem_of_getElem? hz)
  · simp
theorem soundB_tree {ns : List Nd} (h : isTreeR ns = false) : soundB ns = false := soundB_not fun hp => by
  have := ((sound_iff ns).1 hp).2.1
  rw [h] at this
  cases this
theorem soundB_bad {ns : List Nd} {c : Int} {q : Nat} (h : rxR (bytesT (textS ns)) 1000 = .err c q) : soundB ns = false := soundB_not fun hp => by
  obtain ⟨_, _, n, j, e⟩ := (sound_iff ns).1 hp
  have e2 := h.symm.trans e
  cases e2
theorem soundB_same {ns o : List Nd} {n : Int} {j : Nat} (hl : ns.length ≤ 400) (ht : isTreeR ns = true) (h : rxR (bytesT (textS ns)) 1000 = .ok n j o) : eqNs ns o = soundB ns := by
  rw [Bool.eq_iff_iff, soundB_iff, sound_iff, eqNs_iff]
  constructor
  · rintro rfl
    exact ⟨hl, ht, n, j, h⟩
  · rintro ⟨_, _, n', j', e⟩
    have e2 := h.symm.trans e
    cases e2
    rfl
theorem rxR_ok_bulk {t : ByteArray} {n : Int} {j : Nat} {o : List Nd} (h : rxR t 1000 = .ok n j o) : o.length + bulks o ≤ 20000 := by
  unfold rxR at h
  cases hl : runesOf t with
  | none => rw [hl] at h; cases h
  | some l =>
    rw [hl] at h
    have h2 := (runes_small hl).2
    simp only at h
    rw [if_neg (by omega)] at h
    exact rx_bulk h2 h

set_option maxHeartbeats 8000000 in
set_option maxRecDepth 100000 in
theorem specSoundC (A : Option Addr) (c : Nat) (ns : List Nd) (w : World) (hlen : ns.length + bulks ns ≤ 1048576) (hN : Nodes w w.heap.size A ns) (hB : ∀ n ∈ ns, I64 n.lo ∧ I64 n.hi) :
    Calls Tryz.prog 40 #[.agg #[.slice A ns.length c]] w fun e w' => e = .returned (.bool (soundB ns)) ∧ Below w.heap.size w w' := by
  obtain ⟨w0, hw0⟩ : ∃ w0, w.alloc (.cells #[.slice A ns.length c] 27) = w0 := ⟨_, rfl⟩
  have b0 : Below w.heap.size w w0 := by rw [← hw0]; exact (Below.refl _ _).alloc (Nat.le_refl _) _
  have hz0 : w0.heap.size = w.heap.size + 1 := by rw [← hw0, alloc_size1]
  have x0 : w0.cell? ⟨w.heap.size, 0, none⟩ = some (.slice A ns.length c) := by rw [← hw0, cell_of_row _ _ _ _ _ _ (heap_alloc_new w _)]; rfl
  have box : ∀ W, Below w0.heap.size w0 W → W.cell? ⟨w.heap.size, 0, none⟩ = some (.slice A ns.length c) ∧ Below w.heap.size w W := fun W h => ⟨(h.cell (p := ⟨w.heap.size, 0, none⟩) (by show w.heap.size < _; omega)).trans x0, b0.trans (h.mono (by omega))⟩
  have BX := Lib.hid box
  have HN := Lib.hid hN
  have HB := Lib.hid hB
  have HB0 := Lib.hid b0
  have HL := Lib.hid hlen
  by_cases h400 : ns.length ≤ 400
  · have hz4 : ¬ (400 : Int) < (ns.length : Int) := by omega
    have cT := specTree A c ns w0 hlen ((hN.below b0).up (by omega))
    have HZ := Lib.hid hz0
    have H4 := Lib.hid h400
    rw [← hw0] at x0 cT
    have HW := Lib.hid hw0
    clear hN hB box b0 hz0 h400 hlen hw0
    cases ht : isTreeR ns with
    | false =>
      rw [ht] at cT
      have hR := Lib.hid (soundB_tree ht)
      clear ht
      go_enter Tryz.func40, Tryz.ntmps40
      go_wp2_with (go_at_call 65; refine cT.mono ?_; rintro e w1 ⟨rfl, b1⟩; rw [HW.out] at b1; obtain ⟨x1, B1⟩ := BX.out _ b1)
      go_ret
      exact ⟨by rw [hR.out]; rfl, B1⟩
    | true =>
      rw [ht] at cT
      have HT := Lib.hid ht
      have hne : 0 < ns.length := List.length_pos_iff.2 (tree_kids ht).1
      clear ht
      go_enter Tryz.func40, Tryz.ntmps40
      go_wp2_with (go_at_call 65; refine cT.mono ?_; rintro e w1 ⟨rfl, b1⟩; rw [HW.out] at b1; obtain ⟨x1, B1⟩ := BX.out _ b1; clear cT x0)
      have cX := specTextC A c ns w1 HL.out ((HN.out.below B1).up B1.size) HB.out
      have HBb := Lib.hid b1
      clear b1 B1
      refine cX.mono ?_
      rintro e w2 ⟨rfl, b2⟩
      have b12 : Below w0.heap.size w0 w2 := HBb.out.trans (b2.mono HBb.out.size)
      obtain ⟨x2, B2⟩ := BX.out _ b12
      obtain ⟨r, hr⟩ : ∃ r, rxR (bytesT (textS ns)) 1000 = r := ⟨_, rfl⟩
      have cR := sread_any (bytesT (textS ns)) 1000 w2 (by have := textS_len ns; show (textS ns).toArray.size ≤ _; rw [List.size_toArray]; omega) (by omega) r (Lib.hid hr)
      have HR := Lib.hid hr
      have HB12 := Lib.hid b12
      clear cX b2 b12 x1 hr B2
      go_wp2_with fail
      refine cR.mono ?_
      intro e w3 hpost
      obtain ⟨nv, xs, rfl, hO, k3⟩ := hpost.one
      obtain ⟨A3, c3, rfl⟩ := own_form hO.row
      have HYes : Hid ((rxCode r == 0) = true → eqNs ns (rxNs r) = soundB ns) := fun h => by
        cases hr : r with
        | ok n j o => rw [hr] at HR; exact soundB_same H4.out HT.out HR.out
        | err c q => rw [hr] at HR; rw [soundB_bad HR.out]; exact eqNs_len (by show ns.length ≠ 0; omega)
      have HNo : Hid ((rxCode r == 0) = false → soundB ns = false) := fun h => by
        cases hr : r with
        | ok n j o => rw [hr] at h; exact absurd h (by simp [rxCode])
        | err c q => rw [hr] at HR; exact soundB_bad HR.out
      have hbo : (rxNs r).length + bulks (rxNs r) ≤ 1048576 := by
        cases hr : r with
        | ok n j o => rw [hr] at HR; have := rxR_ok_bulk HR.out; show o.length + bulks o ≤ _; omega
        | err c q => show ([] : List Nd).length + bulks [] ≤ _; simp [bulks]
      have N3 := hO.at
      have b3 : Below w0.heap.size w0 w3 := HB12.out.trans (k3.low.mono HB12.out.size)
      obtain ⟨o, ho⟩ : ∃ o, rxNs r = o := ⟨_, rfl⟩
      obtain ⟨cd, hcd⟩ : ∃ cd, rxCode r = cd := ⟨_, rfl⟩
      obtain ⟨qa, hqa⟩ : ∃ qa, rxAt r = qa := ⟨_, rfl⟩
      rw [ho] at N3 hbo HYes
      rw [hcd] at HYes HNo
      rw [ho, hcd, hqa]
      have B4 : Below w0.heap.size w0 (w3.alloc (.cells #[.slice A3 o.length c3] 27)) := b3.alloc b3.size _
      have a4 : Below w3.heap.size w3 (w3.alloc (.cells #[.slice A3 o.length c3] 27)) := (Below.refl _ _).alloc (Nat.le_refl _) _
      obtain ⟨x4, D4⟩ := BX.out _ B4
      have y4 : (w3.alloc (.cells #[.slice A3 o.length c3] 27)).cell? ⟨w3.heap.size, 0, none⟩ = some (.slice A3 o.length c3) := by rw [cell_of_row _ _ _ _ _ _ (heap_alloc_new w3 _)]; rfl
      have cSm := same_any A A3 c c3 ns o (w3.alloc (.cells #[.slice A3 o.length c3] 27)) HL.out hbo ((HN.out.below D4).up D4.size) ((N3.below a4).up a4.size)
      have HD4 := Lib.hid D4
      clear hO k3 hpost N3 b3 B4 a4 ho hcd hqa HR cR D4 x2 hbo
      cases hc : (cd == 0) with
      | true =>
        have hR : Hid (eqNs ns o = soundB ns) := HYes.out hc
        generalize eqNs ns o = eb at cSm hR
        go_wp2_with (go_at_call 88; refine cSm.mono ?_; rintro e w5 ⟨rfl, b5⟩)
        go_ret
        exact ⟨by rw [← hR.out]; rfl, HD4.out.trans (b5.mono HD4.out.size)⟩
      | false =>
        have hR : Hid (soundB ns = false) := HNo.out hc
        clear cSm
        go_wp2
        go_ret
        exact ⟨by rw [hR.out]; rfl, HD4.out⟩
  · have hz4 : (400 : Int) < (ns.length : Int) := by omega
    have hS : Hid (soundB ns = false) := soundB_big (by omega)
    rw [← hw0] at x0
    have HW := Lib.hid hw0
    clear hN hB box b0 hz0 BX hw0
    go_enter Tryz.func40, Tryz.ntmps40
    go_wp2
    go_ret
    exact ⟨by rw [hS.out]; rfl, by rw [HW.out]; exact HB0.out⟩

end Go.Proofs.YtdkjfppjbkdelaaGreatDoor
