/- impl's subtract; impl.NatSub. Conditions: at most 1048576 bytes. -/
import Derived.Test.YthijeckcjfnbcaaGreatDoorImplNat6
namespace Go.Proofs.YthijeckcjfnbcaaGreatDoor
set_option linter.unusedVariables false
open Go.RowKit
open Go.Lib (byteCells)

theorem dgt_of_div {v a q : Nat} (h : v / 10 ^ q = a / 10 ^ q) : dgt v q = dgt a q := by unfold dgt; rw [h]
/-- One digit turned: what becomes of the number. -/
theorem turn_digit {v x d q : Nat} (hx : dgt v q = x) (hd : d < 10) : ∃ v', v' + x * 10 ^ q = v + d * 10 ^ q ∧ dgt v' q = d ∧ (∀ i, i ≠ q → dgt v' i = dgt v i) ∧ v' / 10 ^ (q + 1) = v / 10 ^ (q + 1) := by
  have e := apart_at v q
  have hl := Nat.mod_lt v (pow_pos' q)
  have hx9 := dgt_lt v q
  rw [hx] at e hx9
  generalize v / 10 ^ (q + 1) = h at *
  generalize v % 10 ^ q = l at *
  refine ⟨h * 10 ^ (q + 1) + d * 10 ^ q + l, by omega, dgt_at hd hl, fun i hi => ?_, ?_⟩
  · rw [e]; exact dgt_same hd hx9 hl hi
  · have hlt : d * 10 ^ q + l < 10 ^ (q + 1) := by rw [Nat.add_comm]; exact put_lt hl hd
    rw [Nat.add_assoc, Nat.mul_comm, Nat.mul_add_div (pow_pos' _), Nat.div_eq_of_lt hlt, Nat.add_zero]
theorem sub_step {v v' a b x y d o o' q : Nat} (h : v + b % 10 ^ q = a + o * 10 ^ q) (hv : v' + x * 10 ^ q = v + d * 10 ^ q) (hy : dgt b q = y) (he : d + (y + o) = x + 10 * o') :
    v' + b % 10 ^ (q + 1) = a + o' * 10 ^ (q + 1) := by
  rw [mod_succ, hy, Nat.pow_succ]
  generalize b % 10 ^ q = r at *
  generalize 10 ^ q = T at *
  have h1 : o' * (T * 10) = 10 * o' * T := by rw [Nat.mul_comm T 10, ← Nat.mul_assoc, Nat.mul_comm o' 10]
  have h2 : (d + (y + o)) * T = (x + 10 * o') * T := by rw [he]
  rw [Nat.add_mul, Nat.add_mul, Nat.add_mul] at h2
  omega
theorem sub_end {v a b o N : Nat} (h : v + b % 10 ^ N = a + o * 10 ^ N) (hd : v / 10 ^ N = a / 10 ^ N) (ha : a < 10 ^ N) (hb : b ≤ a) : v = a - b ∧ v < 10 ^ N := by
  rw [Nat.mod_eq_of_lt (by omega)] at h
  rw [Nat.div_eq_of_lt ha] at hd
  have hv : v < 10 ^ N := by
    rcases Nat.lt_or_ge v (10 ^ N) with h1 | h1
    · exact h1
    · exact absurd (Nat.div_pos h1 (pow_pos' N)) (by omega)
  have h0 : o = 0 := by
    rcases Nat.eq_zero_or_pos o with h2 | h2
    · exact h2
    · have : 1 * 10 ^ N ≤ o * 10 ^ N := Nat.mul_le_mul_right _ h2
      omega
  subst h0
  omega
theorem turn_lt {v v' q : Nat} (h : v' / 10 ^ (q + 1) = v / 10 ^ (q + 1)) (hv : v < TOP) (hq : q < 601) : v' < TOP := by
  have key : ∀ {T : Nat}, q < T → v < topOf T → v' < topOf T := fun {T} hq hv => by
    unfold topOf at *
    obtain ⟨j, rfl⟩ : ∃ j, T = q + 1 + j := ⟨T - q - 1, by omega⟩
    rw [Nat.pow_add 10 (q + 1) j] at hv ⊢
    have h1 : v / 10 ^ (q + 1) < 10 ^ j := by rw [Nat.div_lt_iff_lt_mul (pow_pos' _), Nat.mul_comm]; exact hv
    rw [← h, Nat.div_lt_iff_lt_mul (pow_pos' _), Nat.mul_comm] at h1
    exact h1
  exact key hq hv

def MinusRel (w : World) (g k a b N m : Nat) (ov i : Value) (wr : World) : Prop :=
  ∃ q o v : Nat, q ≤ N ∧ i = .int .i64 (q : Int) ∧ ov = .int .u8 (o : Int) ∧ o ≤ 1 ∧ v + b % 10 ^ q = a + o * 10 ^ q ∧ v / 10 ^ q = a / 10 ^ q ∧ NatAt wr g v N ∧ NatAt wr k b m ∧ w.grownBy wr (some g) ∧ wr.heap.size = w.heap.size

set_option maxHeartbeats 2000000 in
set_option maxRecDepth 100000 in
theorem implSubtract (g k a b : Nat) (w : World) (hA : NatAt w g a (len a)) (hB : NatAt w k b (len b)) (hgk : k ≠ g) (hle : b ≤ a) :
    Calls Tryz.prog 31 #[.pointer (some ⟨g, 0, none⟩), .pointer (some ⟨k, 0, none⟩)] w (Left g (a - b) (len (a - b)) w) := by
  have hN6 : len a ≤ 601 := by obtain ⟨C, _, hI⟩ := hA; exact len_top hI.lt
  have HLT := Lib.hid (lt_len a)
  have HLE := Lib.hid hle
  have HGK := Lib.hid hgk
  obtain ⟨N, hN⟩ : ∃ N, len a = N := ⟨_, rfl⟩
  obtain ⟨m, hm⟩ : ∃ m, len b = m := ⟨_, rfl⟩
  rw [hN] at hA hN6 HLT
  rw [hm] at hB
  obtain ⟨_, a2, _⟩ := hA.cells
  clear hN hm hle hgk
  go_enter Tryz.func31, Tryz.ntmps31
  go_wp2
  go_loopw [4, 11] (fun ov i wr => MinusRel w g k a b N m ov i wr) (fun _ i _ => N - (intOf i).toNat)
  case atStart => exact ⟨0, 0, a, Nat.zero_le _, rfl, rfl, by omega, by simp [Nat.mod_one], rfl, hA, hB, grefl _ _, rfl⟩
  case round =>
    clear a2 hA hB
    obtain ⟨q, o, v, hq, rfl, rfl, ho, hv, hdiv, RA, RB, hG, hZ⟩ := hrel
    by_cases hlt : q < N
    · obtain ⟨y, hy⟩ : ∃ y, dgt b q = y := ⟨_, rfl⟩
      obtain ⟨x, hx⟩ : ∃ x, dgt v q = x := ⟨_, rfl⟩
      have HVT : Hid (v < TOP) := by obtain ⟨C, _, hI⟩ := RA; exact hI.lt
      obtain ⟨ca, _, fa⟩ := RA.cells
      have cx := ca q (by omega)
      have fx := fa q
      have cy := RB.cells.1 q (by omega)
      have hx9 := dgt_lt v q
      have hy9 := dgt_lt b q
      rw [hx] at cx hx9
      rw [hy] at cy hy9
      obtain ⟨L, hL⟩ : ∃ L : Nat, (y : Int) + (o : Int) = (L : Int) := ⟨y + o, by omega⟩
      have hL10 : L ≤ 10 := by omega
      have u1 := IntWalk.u8_in (L : Int) ⟨by omega, by omega⟩
      have hq6 : (q : Int) < 601 := by omega
      have hq0 : (0 : Int) ≤ (q : Int) := by omega
      clear ca fa
      by_cases hxl : x < L
      · obtain ⟨v', e1, e2, e3, e4⟩ := turn_digit (d := x + 10 - L) hx (by omega)
        have HY := Lib.hid (sub_step (o' := 1) hv e1 hy (by omega))
        have HQ := Lib.hid (show v' / 10 ^ (q + 1) = a / 10 ^ (q + 1) by rw [e4, Nat.pow_succ, ← Nat.div_div_eq_div_mul, hdiv, Nat.div_div_eq_div_mul])
        have HT := Lib.hid (turn_lt e4 HVT.out (by omega))
        have HE := Lib.hid (And.intro e2 e3)
        obtain ⟨d, hd⟩ : ∃ d, x + 10 - L = d := ⟨_, rfl⟩
        rw [hd] at HE
        have hxi : (x : Int) < (L : Int) := by omega
        obtain ⟨X, hX⟩ : ∃ X : Nat, (x : Int) + 10 = (X : Int) := ⟨x + 10, by omega⟩
        have hXL : (X : Int) - (L : Int) = (d : Int) := by omega
        have u2 := IntWalk.u8_in (X : Int) ⟨by omega, by omega⟩
        have u3 := IntWalk.u8_in (d : Int) ⟨by omega, by omega⟩
        clear e1 e2 e3 e4 hv hdiv hd hx hy
        go_wp2
        go_still_tail 10, (by kernel_rfl)
        change wpList _ _ _ _ _ wr.drew
        have cx2 : wr.drew.cell? ⟨g, q, none⟩ = _ := cx
        have fx2 : wr.drew.frozen? ⟨g, q, none⟩ = _ := fx
        have RA2 : NatAt wr.drew g v N := RA
        have RB2 : NatAt wr.drew k b m := RB
        have G2 := gdrew hG
        have Z2 : wr.drew.heap.size = w.heap.size := hZ
        clear cx fx cy RA RB hG hZ
        generalize wr.drew = w5 at *
        have cx3 : (w5.setCell ⟨g, q, none⟩ (.int .u8 (X : Int))).cell? ⟨g, q, none⟩ = some (.int .u8 (X : Int)) := World.cell?_setCell_same _ _ _ cx2
        have fx3 : (w5.setCell ⟨g, q, none⟩ (.int .u8 (X : Int))).frozen? ⟨g, q, none⟩ = false := by rw [World.frozen?_setCell]; exact fx2
        have P2 := RA2.put2 (.int .u8 (X : Int)) (by omega) HE.out.1.symm HE.out.2 HT.out
        have PB := (RB2.setOther (i := q) (.int .u8 (X : Int)) HGK.out).setOther (i := q) (.int .u8 (d : Int)) HGK.out
        have G3 := gset (i := q) G2 (.int .u8 (X : Int))
        have Z3 := (setCell_sizeN w5 ⟨g, q, none⟩ (.int .u8 (X : Int))).trans Z2
        go_wp2
        clear cx2 fx2 RA2 RB2 G2 Z2
        generalize w5.setCell ⟨g, q, none⟩ (.int .u8 (X : Int)) = w6 at *
        go_still_tail 11, (by kernel_rfl)
        change wpList _ _ _ _ _ w6.drew
        have cx4 : w6.drew.cell? ⟨g, q, none⟩ = _ := cx3
        have fx4 : w6.drew.frozen? ⟨g, q, none⟩ = _ := fx3
        have P4 : NatAt (w6.drew.setCell ⟨g, q, none⟩ (.int .u8 (d : Int))) g v' N := P2
        have PB4 : NatAt (w6.drew.setCell ⟨g, q, none⟩ (.int .u8 (d : Int))) k b m := PB
        have G4 := gdrew G3
        have Z4 : w6.drew.heap.size = w.heap.size := Z3
        clear cx3 fx3 P2 PB G3 Z3
        generalize w6.drew = w7 at *
        go_wp2
        go_roundw
        case rel => exact ⟨q + 1, 1, v', hlt, by go_num, rfl, by omega, HY.out, HQ.out, P4, PB4, gset G4 _, (setCell_sizeN _ _ _).trans Z4⟩
        case measure => simp [intOf]; omega
      · obtain ⟨v', e1, e2, e3, e4⟩ := turn_digit (d := x - L) hx (by omega)
        have HY := Lib.hid (sub_step (o' := 0) hv e1 hy (by omega))
        have HQ := Lib.hid (show v' / 10 ^ (q + 1) = a / 10 ^ (q + 1) by rw [e4, Nat.pow_succ, ← Nat.div_div_eq_div_mul, hdiv, Nat.div_div_eq_div_mul])
        have HT := Lib.hid (turn_lt e4 HVT.out (by omega))
        have HE := Lib.hid (And.intro e2 e3)
        obtain ⟨d, hd⟩ : ∃ d, x - L = d := ⟨_, rfl⟩
        rw [hd] at HE
        have hxi : ¬ (x : Int) < (L : Int) := by omega
        have hXL : (x : Int) - (L : Int) = (d : Int) := by omega
        have u3 := IntWalk.u8_in (d : Int) ⟨by omega, by omega⟩
        clear e1 e2 e3 e4 hv hdiv hd hx hy
        go_wp2
        go_still_tail 11, (by kernel_rfl)
        change wpList _ _ _ _ _ wr.drew
        have cx2 : wr.drew.cell? ⟨g, q, none⟩ = _ := cx
        have fx2 : wr.drew.frozen? ⟨g, q, none⟩ = _ := fx
        have RA2 : NatAt wr.drew g v N := RA
        have RB2 : NatAt wr.drew k b m := RB
        have G2 := gdrew hG
        have Z2 : wr.drew.heap.size = w.heap.size := hZ
        clear cx fx cy RA RB hG hZ
        generalize wr.drew = w5 at *
        go_wp2
        go_roundw
        case rel => exact ⟨q + 1, 0, v', hlt, by go_num, rfl, by omega, HY.out, HQ.out, RA2.put (by omega) HE.out.1.symm HE.out.2 HT.out, RB2.setOther _ HGK.out, gset G2 _, (setCell_sizeN _ _ _).trans Z2⟩
        case measure => simp [intOf]; omega
    · have hqN : q = N := by omega
      subst hqN
      obtain ⟨e1, e2⟩ := sub_end hv hdiv HLT.out HLE.out
      subst e1
      have cT := fun W h => implTrim g (a - b) q W h e2 hN6
      unfold Left at cT
      clear hv hdiv e2
      go_wp2_with fail
      refine (cT _ RA).mono ?_
      rintro e w3 ⟨rfl, N3, G3, S3⟩
      clear cT
      go_wp2
      go_end0
      exact ⟨rfl, N3, gtrans hG G3, S3.trans hZ⟩

end Go.Proofs.YthijeckcjfnbcaaGreatDoor
