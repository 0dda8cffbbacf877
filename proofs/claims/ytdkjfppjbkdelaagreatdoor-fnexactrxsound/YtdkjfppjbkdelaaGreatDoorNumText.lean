/- spec.NumText writes an int in decimal. No condition but that the number is an int's. -/
import Derived.Test.YtdkjfppjbkdelaaGreatDoorSpecRunesA
import Derived.Lib.ItoaNum
import Derived.Lib.ItoaLen
namespace Go.Proofs.YtdkjfppjbkdelaaGreatDoor
open Go.RowKit
open Go.Lib (encodeRuneZ encodeRune byteCells runeCells encodeRuneZ_length decDigits itoa)

/-- The digits of what is left, ahead of those that are written. -/
def digOn (m : Int) (acc : List UInt8) : List UInt8 := if m = 0 then acc else decDigits m.natAbs ++ acc

theorem tmod_nat (m : Int) : (m.tmod 10).natAbs = m.natAbs % 10 := Int.natAbs_tmod m 10
theorem tdiv_nat (m : Int) : (m.tdiv 10).natAbs = m.natAbs / 10 := Int.natAbs_tdiv m 10

theorem digOn_step (m : Int) (acc : List UInt8) (hm : m ≠ 0) (d : Nat) (hd : d = m.natAbs % 10) : digOn m acc = digOn (m.tdiv 10) (UInt8.ofNat (48 + d) :: acc) := by
  subst hd
  unfold digOn
  rw [if_neg hm]
  have h1 := tdiv_nat m
  by_cases h : m.natAbs < 10
  · rw [if_pos (by omega), decDigits, dif_pos h, Nat.mod_eq_of_lt h]
    rfl
  · rw [if_neg (by omega), decDigits, dif_neg h, h1]
    simp

theorem one_byte (w : World) (c : Int) (e : TypeId) (B : Nat) (hB : B ≤ w.heap.size) : (w.alloc (.cells #[.int .u8 c] e)).ownsRow B e 1 (.slice (some ⟨w.heap.size, 0, none⟩) 1 1) 1 [.int .u8 c] :=
  World.ownsRow_lit w #[.int .u8 c] 1 hB (by unfold maxLen; omega) rfl

theorem bytes_one (l : List UInt8) : ∀ u ∈ byteCells l, u.oneCell' = true := by
  intro u hu
  simp only [byteCells, List.mem_map] at hu
  obtain ⟨x, _, rfl⟩ := hu
  rfl

theorem ahead {w : World} {B : Nat} {e : TypeId} {v : Value} {acc : List UInt8} {d : Nat} (hd : d < 200) (h : w.ownsRow B e 1 v (1 + acc.length) ([.int .u8 (48 + (d : Int))] ++ byteCells acc)) :
    w.ownsRow B e 1 v (UInt8.ofNat (48 + d) :: acc).length (byteCells (UInt8.ofNat (48 + d) :: acc)) := by
  have e1 : byteCells (UInt8.ofNat (48 + d) :: acc) = [.int .u8 (48 + (d : Int))] ++ byteCells acc := by
    simp [byteCells]; omega
  rw [e1, List.length_cons, Nat.add_comm]
  exact h

theorem own_some {w : World} {base : Nat} {e : TypeId} {size : Nat} {v : Value} {n : Nat} {xs : List Value} (h : w.ownsRow base e size v n xs) (hn : 0 < n) : ∃ g c, v = .slice (some ⟨g, 0, none⟩) n c := by
  rcases h.2 with ⟨_, h0⟩ | ⟨g, cap, cur, rfl, _⟩
  · omega
  · exact ⟨_, _, rfl⟩

def NumRel (n : Int) (w : World) (v m : Value) (wr : World) : Prop :=
  ∃ (k : Int) (acc : List UInt8) (g c : Nat), m = .int .i64 k ∧ -9223372036854775808 ≤ k ∧ k ≤ 9223372036854775807 ∧ v = .slice (some ⟨g, 0, none⟩) acc.length c ∧
    wr.ownsRow w.heap.size 5 1 (.slice (some ⟨g, 0, none⟩) acc.length c) acc.length (byteCells acc) ∧ digOn k acc = decDigits n.natAbs ∧ acc.length + (if k = 0 then 0 else Lib.nDigits k.natAbs) ≤ 100 ∧ Below w.heap.size w wr

theorem num_len (k : Int) (hk : k ≠ 0) (a : Nat) (h : a + (if k = 0 then 0 else Lib.nDigits k.natAbs) ≤ 100) : a + 1 + (if k.tdiv 10 = 0 then 0 else Lib.nDigits (k.tdiv 10).natAbs) ≤ 100 := by
  rw [if_neg hk] at h
  have h1 := tdiv_nat k
  by_cases h0 : k.natAbs < 10
  · rw [if_pos (by omega)]
    rw [Lib.nDigits_small h0] at h
    omega
  · rw [if_neg (by omega), h1]
    rw [Lib.nDigits_big h0] at h
    omega

theorem digit_of (k : Int) : ∃ d : Nat, d < 10 ∧ d = k.natAbs % 10 ∧ ((k.tmod 10 < 0 ∧ -(k.tmod 10) = (d : Int)) ∨ (¬ k.tmod 10 < 0 ∧ k.tmod 10 = (d : Int))) := by
  have h1 := tmod_nat k
  refine ⟨k.natAbs % 10, by omega, rfl, ?_⟩
  omega

set_option maxHeartbeats 2000000 in
set_option maxRecDepth 100000 in
theorem specNumText (n : Int) (w : World) (h0 : -9223372036854775808 ≤ n) (h1 : n ≤ 9223372036854775807) : Calls Tryz.prog 112 #[.int .i64 n] w (StrIs (itoa n) w) := by
  obtain ⟨i0, hi, hz0, hz1, hz2⟩ := info_parts Tryz.infoByte
  by_cases hn : n = 0
  · subst hn
    go_enter Tryz.func112, Tryz.ntmps112
    go_wp2
    go_ret
    have e : itoa 0 = [48] := by simp [itoa, decDigits]
    exact ⟨by rw [e]; rfl, Below.refl _ _⟩
  · have hnb : (n == 0) = false := by simpa using hn
    go_enter Tryz.func112, Tryz.ntmps112
    go_wp2
    go_loopw [3, 4] (fun v m wr => NumRel n w v m wr) (fun _ m _ => (intOf m).natAbs)
    case atStart =>
      refine ⟨n, [], w.heap.size, 0, rfl, h0, h1, rfl, own_empty w w _ (Nat.le_refl _), by unfold digOn; rw [if_neg hn]; simp, ?_, (Below.refl _ _).alloc (Nat.le_refl _) _⟩
      rw [if_neg hn]
      have := Lib.nDigits_le20 n.natAbs (by omega)
      simp
      omega
    case round =>
      obtain ⟨k, acc, g, c, rfl, hk0, hk1, rfl, hown, hdig, hlen, hbel⟩ := hrel
      have HD := Lib.hid hdig; clear hdig
      have HL := Lib.hid hlen
      have hacc : acc.length ≤ 100 := by omega
      clear hlen
      by_cases hk : k = 0
      · subst hk
        have HA := Lib.hid (show acc = decDigits n.natAbs by rw [← HD.out]; rfl)
        by_cases hneg : n < 0
        · have HI := Lib.hid (show itoa n = 45 :: acc by unfold itoa; rw [if_pos hneg, HA.out])
          have cv : ∀ W A c, W.ownsRow w.heap.size 5 1 (.slice A (1 + acc.length) c) (1 + acc.length) ([.int .u8 45] ++ byteCells acc) → (convert 22 9 (.slice A (1 + acc.length) c)).run Tryz.prog W = .ok (.string ⟨(45 :: acc).toArray⟩) W := fun W A c h => by
            have e1 : byteCells (45 :: acc) = [.int .u8 45] ++ byteCells acc := by simp [byteCells]
            have h2 : W.ownsRow w.heap.size 5 1 (.slice A (1 + acc.length) c) (45 :: acc).length (byteCells (45 :: acc)) := by rw [e1, List.length_cons, Nat.add_comm]; rw [Nat.add_comm] at h; exact h
            exact conv_own (P := Tryz.prog) (dst := 9) Tryz.underlying22 Tryz.underlying5 Tryz.underlying9 h2
          have CV := Lib.hid cv; clear cv
          go_wp2_with (at_builtin; refine wpList_append_own _ rfl (.tmp 28) (.tmp 29) 22 rfl w.heap.size 5 i0 (.int .u8 0) 1 1 Tryz.underlying22 hi hz0 hz1 hz2 rfl (by decide) _ 1 [.int .u8 (45)] rfl (one_byte wr _ _ _ hbel.size) ⟨g, 0, none⟩ acc.length c (byteCells acc) rfl (by simp [byteCells]) ((hown.alloc _).cells (g := g) rfl) (bytes_one acc) (by unfold maxLen; omega) (by omega) (by have := hbel.size; simp; omega) ?_; intro v' w1 hown1 hgrow1 _; obtain ⟨A2, c2, rfl⟩ := own_form hown1; have hcv := CV.out _ _ _ hown1)
          have hb1 : Below w.heap.size w w1 := (hbel.alloc hbel.size _).grown hgrow1 (by have := hbel.size; simp; omega) (fun k hk => by have := hbel.size; cases hk; exact this)
          clear hown1 hgrow1 hown hbel
          go_wp2
          go_ret
          exact ⟨by rw [HI.out]; rfl, hb1⟩
        · have HI := Lib.hid (show itoa n = acc by unfold itoa; rw [if_neg hneg, HA.out]; congr 1; omega)
          have hcv := conv_own (P := Tryz.prog) (dst := 9) Tryz.underlying22 Tryz.underlying5 Tryz.underlying9 hown
          go_wp2
          go_ret
          exact ⟨by rw [HI.out]; rfl, hbel⟩
      · have hkb : (k != 0) = true := by simpa using hk
        obtain ⟨d, hd1, hd2, hd3⟩ := digit_of k
        have HS := Lib.hid (digOn_step k acc hk d hd2)
        have HN := Lib.hid (num_len k hk acc.length HL.out)
        have hq := Lib.hid (show (k.tdiv 10).natAbs < k.natAbs ∧ -9223372036854775808 ≤ k.tdiv 10 ∧ k.tdiv 10 ≤ 9223372036854775807 by have := tdiv_nat k; omega)
        clear hd2
        rcases hd3 with ⟨g1, g2⟩ | ⟨g1, g2⟩
        all_goals
          go_wp2_with (at_builtin; refine wpList_append_own _ rfl (.tmp 23) (.tmp 24) 22 rfl w.heap.size 5 i0 (.int .u8 0) 1 1 Tryz.underlying22 hi hz0 hz1 hz2 rfl (by decide) _ 1 [.int .u8 (48 + (d : Int))] rfl (one_byte wr _ _ _ hbel.size) ⟨g, 0, none⟩ acc.length c (byteCells acc) rfl (by simp [byteCells]) ((hown.alloc _).cells (g := g) rfl) (bytes_one acc) (by unfold maxLen; omega) (by omega) (by have := hbel.size; simp; omega) ?_; intro v' w1 hown1 hgrow1 _; obtain ⟨g2', c2, rfl⟩ := own_some hown1 (by omega))
          have hb1 : Below w.heap.size w w1 := (hbel.alloc hbel.size _).grown hgrow1 (by have := hbel.size; simp; omega) (fun k hk => by have := hbel.size; cases hk; exact this)
          have O1 := Lib.hid (ahead (by omega) hown1)
          clear hown1 hgrow1 hown hbel
          go_wp2
          go_roundw
          case rel => exact ⟨k.tdiv 10, UInt8.ofNat (48 + d) :: acc, g2', c2, rfl, hq.out.2.1, hq.out.2.2, by simp; omega, by have := O1.out; simpa [Nat.add_comm] using this, by rw [← HS.out]; exact HD.out, by simpa using HN.out, hb1⟩
          case measure => exact hq.out.1

end Go.Proofs.YtdkjfppjbkdelaaGreatDoor
