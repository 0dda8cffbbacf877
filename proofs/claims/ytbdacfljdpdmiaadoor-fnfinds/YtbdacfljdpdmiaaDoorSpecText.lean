/- spec.l01Text makes the text of code points. Conditions: each is one; at most 1048576 of them. -/
import Derived.Test.YtbdacfljdpdmiaaDoorSpecRunes
import Derived.Test.YtbdacfljdpdmiaaDoorTextMath
namespace Go.Proofs.YtbdacfljdpdmiaaDoor
open Go.RowKit
open Go.Lib (encodeRuneZ encodeRune byteCells runeCells encodeRuneZ_length)

def StrIs (l : List UInt8) (w : World) (e : Ending) (w' : World) : Prop := e = .returned (.string ⟨l.toArray⟩) ∧ Below w.heap.size w w'

theorem cat_take (zs : List Int) (k : Nat) (h : k < zs.length) : cat (zs.take (k + 1)) = cat (zs.take k) ++ encodeRune zs[k] := by
  rw [List.take_succ_eq_append_getElem h, cat_snoc]

set_option maxHeartbeats 2000000 in
set_option maxRecDepth 100000 in
theorem specText (A : Option Addr) (c : Nat) (zs : List Int) (w : World) (hlen : zs.length ≤ 1048576) (hN : Nums .i64 w w.heap.size A zs) (hp : ∀ z ∈ zs, pt z = true) :
    Calls Tryd.prog 49 #[.slice A zs.length c] w (StrIs (cat zs) w) := by
  obtain ⟨i0, hi, hz0, hz1, hz2⟩ := info_parts Tryd.infoByte
  have HP := Lib.hid hp; clear hp
  go_enter Tryd.func49, Tryd.ntmps49
  go_wp2
  go_loopw [3, 4] (fun v i wr => ∃ k : Nat, k ≤ zs.length ∧ i = .int .i64 k ∧ wr.ownsRow w.heap.size 5 1 v (cat (zs.take k)).length (byteCells (cat (zs.take k))) ∧ Below w.heap.size w wr) (fun _ i _ => zs.length - (intOf i).toNat)
  case atStart => exact ⟨0, Nat.zero_le _, rfl, own_empty w w _ (Nat.le_refl _), (Below.refl _ _).alloc (Nat.le_refl _) _⟩
  case round =>
    obtain ⟨k, hk, rfl, hown, hbel⟩ := hrel
    have hcl := cat_length_le (zs.take k)
    have htl : (zs.take k).length = k := by simp; omega
    rw [htl] at hcl
    clear htl
    by_cases hlt : k < zs.length
    · obtain ⟨b, o, rfl, hb, hc0⟩ := hN k hlt
      obtain ⟨z, hz⟩ : ∃ z, zs[k] = z := ⟨_, rfl⟩
      have hcr : wr.cell? ⟨b, o + k, none⟩ = some (.int .i64 z) := by rw [← hz]; exact (hbel.cell (p := ⟨b, o + k, none⟩) hb).trans hc0
      have hp : pt z = true := HP.out z (by rw [← hz]; exact List.getElem_mem hlt)
      have HC := Lib.hid (cat_take zs k hlt)
      rw [hz] at HC
      clear hz hc0 hN
      obtain ⟨a, ha⟩ : ∃ a, cat (zs.take k) = a := ⟨_, rfl⟩
      rw [ha] at hown hcl HC
      clear ha
      have hm := encodeRuneZ_length z
      obtain ⟨A1, c1, rfl⟩ := own_form hown
      go_wp2_with (first
        | (go_at_call 56; refine (bytes_any _ _ hp).mono ?_; rintro e w' ⟨rfl, rfl⟩)
        | (at_builtin; refine wpList_append_own _ rfl _ _ 22 rfl w.heap.size 5 i0 (.int .u8 0) 1 1 Tryd.underlying22 hi hz0 hz1 hz2 rfl (by decide) _ _ _ rfl (hown.alloc _) ⟨wr.heap.size, 0, none⟩ _ _ ((encodeRuneZ z).map (Value.int .u8)) rfl (by simp) (new_cells wr z 5) (new_one z) (by unfold maxLen; omega) (by omega) (by have := hbel.size; simp; omega) ?_; intro v' w1 hown1 hgrow1 _; obtain ⟨A2, c2, rfl⟩ := own_form hown1))
      have hb1 : Below w.heap.size w w1 := (hbel.alloc hbel.size _).grown hgrow1 (by have := hbel.size; simp; omega) (own_block hown)
      have hown2 := own_more hown1
      clear hown1 hgrow1 hown hbel
      go_roundw
      case rel => exact ⟨k + 1, hlt, by go_num, by rw [HC.out]; simpa [encZ_length] using hown2, hb1⟩
      case measure => simp [intOf]; omega
    · have hcv := conv_own (P := Tryd.prog) (dst := 9) Tryd.underlying22 Tryd.underlying5 Tryd.underlying9 hown
      have HE := Lib.hid (show cat (zs.take k) = cat zs by rw [List.take_of_length_le (by omega)])
      clear hN
      go_wp2
      go_ret
      exact ⟨by rw [← HE.out]; rfl, hbel⟩

end Go.Proofs.YtbdacfljdpdmiaaDoor
