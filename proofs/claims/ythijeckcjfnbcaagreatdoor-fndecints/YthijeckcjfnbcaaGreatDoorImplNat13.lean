/- impl's times. Conditions: naturals with at most 601 digits together. -/
import Derived.Test.YthijeckcjfnbcaaGreatDoorImplNat9
namespace Go.Proofs.YthijeckcjfnbcaaGreatDoor
set_option linter.unusedVariables false
open Go.RowKit
open Go.Lib (byteCells)

theorem mul_step {V V' P x y c D i q b : Nat} (h : V + c * 10 ^ (i + q) = P + x * 10 ^ i * (b % 10 ^ q)) (hv : V' + D * 10 ^ (i + q) = V + (D + x * y + c) % 10 * 10 ^ (i + q)) (hy : dgt b q = y) :
    V' + (D + x * y + c) / 10 * 10 ^ (i + (q + 1)) = P + x * 10 ^ i * (b % 10 ^ (q + 1)) := by
  rw [mod_succ, hy, Nat.mul_add, show i + (q + 1) = i + q + 1 by omega, Nat.pow_succ 10 (i + q)]
  have e1 : x * 10 ^ i * (y * 10 ^ q) = x * y * 10 ^ (i + q) := by
    rw [Nat.pow_add, Nat.mul_assoc, Nat.mul_left_comm (10 ^ i) y, ← Nat.mul_assoc, ← Nat.mul_assoc]
  rw [e1]
  generalize x * 10 ^ i * (b % 10 ^ q) = Z at *
  generalize x * y = XY at *
  generalize 10 ^ (i + q) = T at *
  have h1 : (D + XY + c) / 10 * (T * 10) = (D + XY + c) / 10 * 10 * T := by rw [Nat.mul_comm T 10, Nat.mul_assoc]
  have h2 : (D + XY + c) % 10 * T + (D + XY + c) / 10 * 10 * T = (D + XY + c) * T := by rw [← Nat.add_mul]; congr 1; omega
  have h3 : (D + XY + c) * T = D * T + XY * T + c * T := by rw [Nat.add_mul, Nat.add_mul]
  omega
theorem turn_below {V V' q M : Nat} (h : V' / 10 ^ (q + 1) = V / 10 ^ (q + 1)) (hq : q < M) (hV : V < 10 ^ M) : V' < 10 ^ M := by
  obtain ⟨j, rfl⟩ : ∃ j, M = q + 1 + j := ⟨M - q - 1, by omega⟩
  rw [Nat.pow_add 10 (q + 1) j] at hV ⊢
  have h1 : V / 10 ^ (q + 1) < 10 ^ j := by rw [Nat.div_lt_iff_lt_mul (pow_pos' _), Nat.mul_comm]; exact hV
  rw [← h, Nat.div_lt_iff_lt_mul (pow_pos' _), Nat.mul_comm] at h1
  exact h1
theorem mul_row {V c P x i M a b : Nat} (h : V + c * 10 ^ (i + M) = P + x * 10 ^ i * (b % 10 ^ M)) (hb : b < 10 ^ M) (hP : P = a % 10 ^ i * b) (hx : dgt a i = x) : V + c * 10 ^ (i + M) = a % 10 ^ (i + 1) * b := by
  rw [h, Nat.mod_eq_of_lt hb, mod_succ, hx, hP, Nat.add_mul, Nat.add_comm]

def RowRel (w : World) (g k a b N M : Nat) (iv : Value) (wr : World) : Prop :=
  ∃ i : Nat, i ≤ N ∧ iv = .int .i64 (i : Int) ∧ a % 10 ^ i * b < 10 ^ (i + M) ∧ NatAt wr (w.heap.size + 1) (a % 10 ^ i * b) 0 ∧ NatAt wr w.heap.size 0 0 ∧ NatAt wr g a N ∧ NatAt wr k b M ∧ Below w.heap.size w wr
def CellRel (w : World) (g k a b N M i P x : Nat) (cv qv : Value) (wr : World) : Prop :=
  ∃ q c V : Nat, q ≤ M ∧ qv = .int .i64 (q : Int) ∧ cv = .int .u8 (c : Int) ∧ c < 10 ∧ V < 10 ^ (i + M) ∧ V + c * 10 ^ (i + q) = P + x * 10 ^ i * (b % 10 ^ q) ∧ NatAt wr (w.heap.size + 1) V 0 ∧ NatAt wr w.heap.size 0 0 ∧ NatAt wr g a N ∧ NatAt wr k b M ∧ Below w.heap.size w wr

set_option maxHeartbeats 2000000 in
set_option maxRecDepth 100000 in
theorem implTimes (g k a b : Nat) (w : World) (hA : NatAt w g a (len a)) (hB : NatAt w k b (len b)) (h6 : len a + len b ≤ 601) :
    Calls Tryz.prog 37 #[.pointer (some ⟨g, 0, none⟩), .pointer (some ⟨k, 0, none⟩)] w (AnsOne (a * b) w) := by
  have hz := Tryz.zeroNat
  have hgl := hA.lt
  have hkl := hB.lt
  have HLA := Lib.hid (lt_len a)
  have HLB := Lib.hid (lt_len b)
  obtain ⟨N, hN⟩ : ∃ N, len a = N := ⟨_, rfl⟩
  obtain ⟨M, hM⟩ : ∃ M, len b = M := ⟨_, rfl⟩
  rw [hN] at hA h6 HLA
  rw [hM] at hB h6 HLB
  have N0 := (NatAt.new w zero_is).alloc (.cells zeroCells 45)
  have N1 := NatAt.new (w.alloc (.cells zeroCells 45)) zero_is
  have hsz : (w.alloc (.cells zeroCells 45)).heap.size = w.heap.size + 1 := by simp
  rw [hsz] at N1
  have MA := (hA.alloc (.cells zeroCells 45)).alloc (.cells zeroCells 45)
  have MB := (hB.alloc (.cells zeroCells 45)).alloc (.cells zeroCells 45)
  have D0 : Below w.heap.size w ((w.alloc (.cells zeroCells 45)).alloc (.cells zeroCells 45)) := ((Below.refl _ _).alloc (Nat.le_refl _) _).alloc (by simp) _
  have a2 := MA.cells.2.1
  clear hsz hN hM hA hB
  go_enter Tryz.func37, Tryz.ntmps37
  go_wp2
  generalize (w.alloc (.cells zeroCells 45)).alloc (.cells zeroCells 45) = w0 at *
  go_loopw [14] (fun iv wr => RowRel w g k a b N M iv wr) (fun i _ => N - (intOf i).toNat)
  case atStart => exact ⟨0, Nat.zero_le _, rfl, by rw [Nat.pow_zero, Nat.mod_one, Nat.zero_mul]; exact pow_pos' _, by rw [Nat.pow_zero, Nat.mod_one, Nat.zero_mul]; exact N1, N0, MA, MB, D0⟩
  case round =>
    clear N0 N1 MA MB D0 a2
    obtain ⟨i, hi, rfl, hPlt, RP, R0, RA, RB, hbel⟩ := hrel
    by_cases hlt : i < N
    · obtain ⟨P, hP⟩ : ∃ P, a % 10 ^ i * b = P := ⟨_, rfl⟩
      rw [hP] at hPlt RP
      obtain ⟨x, hx⟩ : ∃ x, dgt a i = x := ⟨_, rfl⟩
      have hx9 := dgt_lt a i
      rw [hx] at hx9
      have HR := Lib.hid (fun (V c : Nat) h => mul_row (V := V) (c := c) h HLB.out hP.symm hx)
      have HX := Lib.hid hx
      have b2 := RB.cells.2.1
      have hPL := Lib.hid hPlt
      clear hP hx hPlt
      go_wp2
      go_loopw [7, 21] (fun cv qv wr => CellRel w g k a b N M i P x cv qv wr) (fun _ q _ => M - (intOf q).toNat)
      case atStart => exact ⟨0, 0, P, Nat.zero_le _, rfl, rfl, by omega, hPL.out, by simp [Nat.mod_one], RP, R0, RA, RB, hbel⟩
      case round =>
        clear RP R0 RA RB hbel b2
        obtain ⟨q, c, V, hq, rfl, rfl, hc, hV, hsum, RP, R0, RA, RB, hbel⟩ := hrel
        by_cases hql : q < M
        · obtain ⟨y, hy⟩ : ∃ y, dgt b q = y := ⟨_, rfl⟩
          obtain ⟨D, hD⟩ : ∃ D, dgt V (i + q) = D := ⟨_, rfl⟩
          have hy9 := dgt_lt b q
          have hD9 := dgt_lt V (i + q)
          have cb := RB.cells.1 q (by omega)
          have ca := RA.cells.1 i (by omega)
          have cv := RP.cells.1 (i + q) (by omega)
          have fv := RP.cells.2.2 (i + q)
          rw [hy] at cb hy9
          rw [HX.out] at ca
          rw [hD] at cv hD9
          have hxy : x * y ≤ 81 := Nat.le_trans (Nat.mul_le_mul (show x ≤ 9 by omega) (show y ≤ 9 by omega)) (by omega)
          obtain ⟨V', e1, e2, e3, e4⟩ := turn_digit (d := (D + x * y + c) % 10) hD (by omega)
          have HY := Lib.hid (mul_step hsum e1 hy)
          have HT := Lib.hid (turn_below e4 (show i + q < i + M by omega) hV)
          have HE := Lib.hid (And.intro e2 e3)
          clear e1 e2 e3 e4 hsum hy hD
          obtain ⟨XY, hXY⟩ : ∃ XY, x * y = XY := ⟨_, rfl⟩
          have hXYi : (x : Int) * (y : Int) = (XY : Int) := by rw [← hXY]; exact (Int.natCast_mul x y).symm
          rw [hXY] at hxy HY HE
          obtain ⟨d, hd⟩ : ∃ d, (D + XY + c) % 10 = d := ⟨_, rfl⟩
          obtain ⟨c', hc'⟩ : ∃ c', (D + XY + c) / 10 = c' := ⟨_, rfl⟩
          rw [hc'] at HY
          rw [hd] at HE
          have hd10 : d < 10 := by omega
          have hc10 : c' < 10 := by omega
          have hdi : ((D : Int) + (XY : Int) + (c : Int)) % 10 = (d : Int) := by omega
          have hci : ((D : Int) + (XY : Int) + (c : Int)) / 10 = (c' : Int) := by omega
          have u0 := IntWalk.u8_in (XY : Int) ⟨by omega, by omega⟩
          have u1 := IntWalk.u8_in ((D : Int) + (XY : Int)) ⟨by omega, by omega⟩
          have u2 := IntWalk.u8_in ((D : Int) + (XY : Int) + (c : Int)) ⟨by omega, by omega⟩
          obtain ⟨r, hr⟩ : ∃ r, i + q = r := ⟨_, rfl⟩
          rw [hr] at cv fv HE
          have hri : (i : Int) + (q : Int) = (r : Int) := by omega
          have hr6 : (r : Int) < 601 := by omega
          have hr0 : (0 : Int) ≤ (r : Int) := by omega
          have v0 := IntWalk.i64_in (r : Int) ⟨by omega, by omega⟩
          have hi6 : (i : Int) < 601 := by omega
          have hq6 : (q : Int) < 601 := by omega
          have HRR := Lib.hid hr
          clear hd hc' hXY hr
          go_wp2
          go_quiet (fail)
          go_wp2
          go_roundw
          case rel => exact ⟨q + 1, c', V', hql, by go_num, by rw [hci], hc10, HT.out, HY.out, (RP.drewN _).put (by omega) HE.out.1.symm HE.out.2 (lt_top HT.out (by omega)), (R0.drewN _).setOther _ (by omega), (RA.drewN _).setOther _ (by omega), (RB.drewN _).setOther _ (by omega), (belowDrewN hbel _).setCell (Nat.le_succ _) _⟩
          case measure => simp [intOf]; omega
        · have hqM : q = M := by omega
          subst hqM
          have HY := Lib.hid (HR.out V c hsum)
          have HP := Lib.hid (put_top hV hc)
          have HL := Lib.hid (put_lt hV hc)
          have b2 := RB.cells.2.1
          have cv := RP.cells.1 (i + q) (by omega)
          have fv := RP.cells.2.2 (i + q)
          obtain ⟨r, hr⟩ : ∃ r, i + q = r := ⟨_, rfl⟩
          rw [hr] at cv fv HP HL HY
          have hri : (i : Int) + (q : Int) = (r : Int) := by omega
          have hr6 : (r : Int) < 601 := by omega
          have hr0 : (0 : Int) ≤ (r : Int) := by omega
          have v0 := IntWalk.i64_in (r : Int) ⟨by omega, by omega⟩
          have HRR := Lib.hid (show i + 1 + q = r + 1 by omega)
          have hc256 : (c : Int) < 256 := by omega
          clear hsum hV hr HR
          go_wp2
          go_roundw
          case rel => exact ⟨i + 1, hlt, by go_num, by rw [← HY.out, HRR.out]; exact HL.out, by rw [← HY.out]; exact RP.put (by omega) HP.out.1.symm HP.out.2 (lt_top HL.out (by omega)), R0.setOther _ (by omega), RA.setOther _ (by omega), RB.setOther _ (by omega), hbel.setCell (Nat.le_succ _) _⟩
          case measure => simp [intOf]; omega
    · have hiN : i = N := by omega
      subst hiN
      rw [Nat.mod_eq_of_lt HLA.out] at hPlt RP
      have a2 := RA.cells.2.1
      have b2 := RB.cells.2.1
      have c2 := RP.cells.2.1
      have f2 := RP.cells.2.2 601
      obtain ⟨r, hr⟩ : ∃ r, i + M = r := ⟨_, rfl⟩
      rw [hr] at hPlt h6
      have hri : (i : Int) + (M : Int) = (r : Int) := by omega
      have v0 := IntWalk.i64_in (r : Int) ⟨by omega, by omega⟩
      have cT := fun W h => implTrim (w.heap.size + 1) (a * b) r W h hPlt h6
      unfold Left at cT
      clear hr hPlt
      go_wp2
      go_still_tail 10, (by kernel_rfl)
      change wpList _ _ _ _ _ wr.drew
      have c3 : wr.drew.cell? ⟨w.heap.size + 1, 601, none⟩ = _ := c2
      have f3 : wr.drew.frozen? ⟨w.heap.size + 1, 601, none⟩ = _ := f2
      have P1 : NatAt wr.drew (w.heap.size + 1) (a * b) 0 := RP
      have P0 : NatAt wr.drew w.heap.size 0 0 := R0
      have D1 := hbel.drew
      clear c2 f2 RP R0 RA RB hbel a2 b2
      generalize wr.drew = w5 at *
      have Q1 := P1.setLen r
      have Q0 := P0.setOther (k := w.heap.size + 1) (i := 601) (.int .i64 (r : Int)) (by omega)
      have D2 : Below w.heap.size w (w5.setCell ⟨w.heap.size + 1, 601, none⟩ (.int .i64 (r : Int))) := D1.setCell (Nat.le_succ _) _
      clear P1 P0 D1
      go_wp2_with fail
      refine (cT _ Q1).mono ?_
      rintro e w6 ⟨rfl, N6, G6, S6⟩
      have M0 := Q0.grown G6 (by omega)
      have D3 := D2.grown G6 D2.size (fun k hk => by injection hk with hk; omega)
      clear cT Q1 Q0 G6 S6 D2
      obtain ⟨C0, h0, I0⟩ := M0
      obtain ⟨C1, h1', I1⟩ := N6
      go_wp2_with (first | (refine load_nat (w.heap.size + 1) rfl h1' I1 ?_) | (refine store_nat w.heap.size rfl rfl h0 I0 I1 ?_))
      refine bodyPost_ret (results_nat1 rfl _ _ rfl (setRow_heap _ _ _ _ _ _ h0) I1) rfl ?_
      exact ⟨C1, rfl, I1, below_row D3 (Nat.le_refl _) _⟩

end Go.Proofs.YthijeckcjfnbcaaGreatDoor
