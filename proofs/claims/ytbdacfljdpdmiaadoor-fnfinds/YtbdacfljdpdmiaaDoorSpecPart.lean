/- spec.Part hands back a part of a text by code points. Condition: at most 1048576 bytes; the numbers are ints. -/
import Derived.Test.YtbdacfljdpdmiaaDoorSpecText
import Derived.Test.YtbdacfljdpdmiaaDoorPartMath
namespace Go.Proofs.YtbdacfljdpdmiaaDoor
open Go.RowKit
open Go.Lib (encodeRuneZ encodeRune byteCells runeCells encodeRuneZ_length)

set_option maxHeartbeats 2000000 in
set_option maxRecDepth 100000 in
theorem specPart (s : ByteArray) (fr ct : Int) (w : World) (hs : s.size ≤ 1048576) (f0 : -9223372036854775808 ≤ fr) (f1 : fr ≤ 9223372036854775807) (c0 : -9223372036854775808 ≤ ct) (c1 : ct ≤ 9223372036854775807) :
    Calls Tryd.prog 27 #[.string s, .int .i64 fr, .int .i64 ct] w (StrIs (partOf s fr ct) w) := by
  obtain ⟨i0, hi, hz0, hz1, hz2⟩ := info_parts Tryd.infoInt
  have cR := specRunes s w hs
  cases ho : runesOf s with
  | none =>
    have HE := Lib.hid (show partOf s fr ct = [] by unfold partOf; rw [ho]; split <;> rfl)
    rw [ho] at cR
    clear ho
    go_enter Tryd.func27, Tryd.ntmps27
    go_wp2_with fail
    refine cR.mono ?_
    rintro e w1 ⟨v, rfl, hown, hb⟩
    clear cR hown
    go_wp2
    go_ret
    exact ⟨by rw [HE.out]; rfl, hb⟩
  | some l =>
    obtain ⟨hcat, hpts, hsz⟩ := text_cat ho
    have hll : l.length ≤ 1048576 := by
      have := cat_length_ge l
      rw [hcat] at this
      have e : s.data.toList.length = s.size := Array.length_toList
      omega
    have HP := Lib.hid hpts
    rw [ho] at cR
    by_cases hct : ct < 1
    · have HE := Lib.hid (show partOf s fr ct = [] by unfold partOf; rw [if_pos hct])
      clear ho hcat hpts
      go_enter Tryd.func27, Tryd.ntmps27
      go_wp2_with fail
      refine cR.mono ?_
      rintro e w1 ⟨v, rfl, hown, hb⟩
      clear cR hown
      go_wp2
      go_ret
      exact ⟨by rw [HE.out]; rfl, hb⟩
    · have HE := Lib.hid (show partOf s fr ct = cat (seg l (loOf fr) (hiOf fr ct)) by unfold partOf; rw [if_neg hct, ho]; rfl)
      clear ho hcat hpts
      go_enter Tryd.func27, Tryd.ntmps27
      go_wp2_with fail
      refine cR.mono ?_
      rintro e w1 ⟨v, rfl, hown, hb⟩
      obtain ⟨A1, k1, rfl⟩ := own_form hown
      have hN := Nums.own hown
      have hz := hb.size
      clear cR hown
      go_wp2
      go_loopw [9, 10] (fun v i wr => ∃ k : Nat, k ≤ l.length ∧ i = .int .i64 ((k : Int) + 1) ∧ wr.ownsRow w1.heap.size 3 1 v (seg l (loOf fr) (min k (hiOf fr ct))).length ((seg l (loOf fr) (min k (hiOf fr ct))).map (Value.int .i64)) ∧ (seg l (loOf fr) (min k (hiOf fr ct))).length ≤ k ∧ Below w1.heap.size w1 wr) (fun _ i _ => l.length + 1 - (intOf i).toNat)
      case atStart => exact ⟨0, Nat.zero_le _, rfl, by rw [seg_zero]; exact own_empty w1 w1 _ (Nat.le_refl _), by rw [seg_zero]; simp, (Below.refl _ _).alloc (Nat.le_refl _) _⟩
      case round =>
        obtain ⟨k, hk, rfl, hown, hsl, hbel⟩ := hrel
        obtain ⟨acc, hacc⟩ : ∃ acc, seg l (loOf fr) (min k (hiOf fr ct)) = acc := ⟨_, rfl⟩
        rw [hacc] at hown hsl
        obtain ⟨A2, k2, rfl⟩ := own_form hown
        have HAc := Lib.hid hacc; clear hacc
        by_cases hlt : k < l.length
        · obtain ⟨b, o, rfl, hbb, hc0⟩ := hN k hlt
          obtain ⟨z, hz⟩ : ∃ z, l[k] = z := ⟨_, rfl⟩
          have hcr : wr.cell? ⟨b, o + k, none⟩ = some (.int .i64 z) := by rw [← hz]; exact (hbel.cell (p := ⟨b, o + k, none⟩) hbb).trans hc0
          have e1 : loOf fr ≤ k ↔ fr ≤ (k : Int) + 1 := by unfold loOf; omega
          have e2 : k < hiOf fr ct ↔ (k : Int) + 1 - ct < fr := by unfold hiOf; omega
          by_cases hin : fr ≤ (k : Int) + 1 ∧ (k : Int) + 1 - ct < fr
          · have i1 := hin.1
            have i2 := hin.2
            have HS := Lib.hid (seg_in hlt (e1.2 i1) (e2.2 i2))
            rw [hz, HAc.out] at HS
            clear hc0 hz hN e1 e2 hin
            go_wp2_with (at_builtin; refine wpList_append_own _ rfl _ _ 25 rfl w1.heap.size 3 i0 (.int .i64 0) 1 8 Tryd.underlying25 hi hz0 hz1 hz2 rfl (by decide) _ _ _ rfl (hown.alloc _) ⟨wr.heap.size, 0, none⟩ _ _ [.int .i64 z] rfl rfl (new_int wr z 3) (one_int z) (by unfold maxLen; omega) (by omega) (by have := hbel.size; simp; omega) ?_; intro v' w2 hown2 hgrow2 _; obtain ⟨A3, k3, rfl⟩ := own_form hown2)
            have hb3 : Below w1.heap.size w1 w2 := (hbel.alloc hbel.size _).grown hgrow2 (by have := hbel.size; simp; omega) (own_block hown)
            have O2 := Lib.hid hown2
            clear hown2 hgrow2 hown hbel
            go_roundw
            case rel => exact ⟨k + 1, hlt, by go_num, by rw [HS.out]; simpa using O2.out, by rw [HS.out]; simp; omega, hb3⟩
            case measure => simp [intOf]; omega
          · have HS := Lib.hid (seg_out (l := l) (lo := loOf fr) (hi := hiOf fr ct) (k := k) (by rw [e1, e2]; exact hin))
            rw [HAc.out] at HS
            have O2 := Lib.hid hown
            clear hc0 hz hN e1 e2 hown
            by_cases i1 : fr ≤ (k : Int) + 1
            all_goals
              go_wp2
              go_roundw
              case rel => exact ⟨k + 1, hlt, by go_num, by rw [HS.out]; exact O2.out, by rw [HS.out]; omega, hbel⟩
              case measure => simp [intOf]; omega
        · have HX := Lib.hid (seg_end (l := l) (lo := loOf fr) (hi := hiOf fr ct) (k := k) (by omega))
          rw [HAc.out] at HX
          have hN2 := Nums.own hown
          have hpa : ∀ z ∈ acc, pt z = true := fun z hz => HP.out z (seg_mem (by rw [← HX.out]; exact hz))
          have cT := specText A2 k2 acc wr (by omega) hN2 hpa
          clear hN hown hN2 hpa
          go_wp2_with (go_at_call 49; refine cT.mono ?_; rintro e w2 ⟨rfl, hb2⟩)
          go_ret
          exact ⟨by rw [HE.out, ← HX.out]; rfl, hb.trans ((hbel.mono hz).trans (hb2.mono (by have := hbel.size; omega)))⟩

end Go.Proofs.YtbdacfljdpdmiaaDoor
