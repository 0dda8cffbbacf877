/- impl's plus; impl.NatAdd. Conditions: at most 1048576 bytes. -/
import Derived.Test.YthijeckcjfnbcaaGreatDoorImplNatA
namespace Go.Proofs.YthijeckcjfnbcaaGreatDoor
set_option linter.unusedVariables false
open Go.RowKit
open Go.Lib (byteCells)

theorem put_top {s d k : Nat} (hs : s < 10 ^ k) (hd : d < 10) : dgt (s + d * 10 ^ k) k = d ∧ ∀ i, i ≠ k → dgt (s + d * 10 ^ k) i = dgt s i := by
  have e1 : s + d * 10 ^ k = 0 * 10 ^ (k + 1) + d * 10 ^ k + s := by omega
  have e2 : s = 0 * 10 ^ (k + 1) + 0 * 10 ^ k + s := by omega
  refine ⟨by rw [e1]; exact dgt_at hd hs, fun i hi => ?_⟩
  rw [e1, dgt_same hd (by omega : 0 < 10) hs hi, ← e2]
theorem put_lt {s d k : Nat} (hs : s < 10 ^ k) (hd : d < 10) : s + d * 10 ^ k < 10 ^ (k + 1) := by
  rw [Nat.pow_succ]
  have : d * 10 ^ k ≤ 9 * 10 ^ k := Nat.mul_le_mul_right _ (by omega)
  omega
theorem add_step {s c a b k : Nat} (h : s + c * 10 ^ k = a % 10 ^ k + b % 10 ^ k) :
    s + (dgt a k + dgt b k + c) % 10 * 10 ^ k + (dgt a k + dgt b k + c) / 10 * 10 ^ (k + 1) = a % 10 ^ (k + 1) + b % 10 ^ (k + 1) := by
  rw [mod_succ a k, mod_succ b k, Nat.pow_succ]
  generalize dgt a k = x
  generalize dgt b k = y
  generalize 10 ^ k = T at *
  have h1 : (x + y + c) / 10 * (T * 10) = (x + y + c) / 10 * 10 * T := by rw [Nat.mul_comm T 10, Nat.mul_assoc]
  have h2 : (x + y + c) % 10 * T + (x + y + c) / 10 * 10 * T = (x + y + c) * T := by rw [← Nat.add_mul]; congr 1; omega
  have h3 : (x + y + c) * T = x * T + y * T + c * T := by rw [Nat.add_mul, Nat.add_mul]
  omega
theorem add_end {s c a b S : Nat} (hs : s < 10 ^ S) (hc : s + c * 10 ^ S = a % 10 ^ S + b % 10 ^ S) (hS : S = max (len a) (len b) + 1) : s = a + b ∧ a + b < 10 ^ S := by
  have ha := lt_len a
  have hb := lt_len b
  have ha2 : a < 10 ^ (S - 1) := Nat.lt_of_lt_of_le ha (Nat.pow_le_pow_right (by omega) (by omega))
  have hb2 : b < 10 ^ (S - 1) := Nat.lt_of_lt_of_le hb (Nat.pow_le_pow_right (by omega) (by omega))
  have e : 10 ^ S = 10 ^ (S - 1) * 10 := by rw [← Nat.pow_succ]; congr 1; omega
  rw [Nat.mod_eq_of_lt (by omega), Nat.mod_eq_of_lt (by omega)] at hc
  have h0 : c = 0 := by
    rcases Nat.eq_zero_or_pos c with h | h
    · exact h
    · have : 1 * 10 ^ S ≤ c * 10 ^ S := Nat.mul_le_mul_right _ h
      omega
  subst h0
  omega

def PlusRel (w : World) (g k a b n m S : Nat) (cv i : Value) (wr : World) : Prop :=
  ∃ q c s : Nat, q ≤ S ∧ i = .int .i64 (q : Int) ∧ cv = .int .u8 (c : Int) ∧ c ≤ 1 ∧ s < 10 ^ q ∧ s + c * 10 ^ q = a % 10 ^ q + b % 10 ^ q ∧ NatAt wr (w.heap.size + 1) s S ∧ NatAt wr w.heap.size 0 0 ∧ NatAt wr g a n ∧ NatAt wr k b m ∧ Below w.heap.size w wr
def AnsOne (v : Nat) (w : World) (e : Ending) (w' : World) : Prop := ∃ C, e = .returned (.agg C) ∧ IsNat C v (len v) ∧ Below w.heap.size w w'

set_option maxHeartbeats 2000000 in
set_option maxRecDepth 100000 in
theorem implPlus (g k a b : Nat) (w : World) (hA : NatAt w g a (len a)) (hB : NatAt w k b (len b)) (ha6 : len a ≤ 600) (hb6 : len b ≤ 600) :
    Calls Tryz.prog 27 #[.pointer (some ⟨g, 0, none⟩), .pointer (some ⟨k, 0, none⟩)] w (AnsOne (a + b) w) := by
  have hz := Tryz.zeroNat
  have hgl := hA.lt
  have hkl := hB.lt
  obtain ⟨n, hn⟩ : ∃ n, len a = n := ⟨_, rfl⟩
  obtain ⟨m, hm⟩ : ∃ m, len b = m := ⟨_, rfl⟩
  rw [hn] at hA ha6
  rw [hm] at hB hb6
  obtain ⟨S, hS⟩ : ∃ S : Nat, max n m + 1 = S := ⟨_, rfl⟩
  have HS : Hid (S = max (len a) (len b) + 1) := by show _ = _; rw [hn, hm, hS]
  have hS2 : S ≤ 601 := by omega
  have N0 := (NatAt.new w zero_is).alloc (.cells zeroCells 45)
  have N1 := NatAt.new (w.alloc (.cells zeroCells 45)) zero_is
  have hsz : (w.alloc (.cells zeroCells 45)).heap.size = w.heap.size + 1 := by simp
  rw [hsz] at N1
  have MA := (hA.alloc (.cells zeroCells 45)).alloc (.cells zeroCells 45)
  have MB := (hB.alloc (.cells zeroCells 45)).alloc (.cells zeroCells 45)
  have D0 : Below w.heap.size w ((w.alloc (.cells zeroCells 45)).alloc (.cells zeroCells 45)) := ((Below.refl _ _).alloc (Nat.le_refl _) _).alloc (by simp) _
  clear hsz hn hm
  go_enter Tryz.func27, Tryz.ntmps27
  go_wp2
  generalize (w.alloc (.cells zeroCells 45)).alloc (.cells zeroCells 45) = w0 at *
  obtain ⟨_, a2, _⟩ := MA.cells
  obtain ⟨_, b2, _⟩ := MB.cells
  obtain ⟨_, c2, c3⟩ := N1.cells
  have f2 := c3 601
  clear c3
  have v1 := IntWalk.i64_in (S : Int) ⟨by omega, by omega⟩
  have eM : (if n < m then (m : Int) else (n : Int)) = (S : Int) - 1 := by split <;> omega
  have eS : (S : Int) - 1 + 1 = (S : Int) := by omega
  go_still_tail 11, (by kernel_rfl)
  change wpList _ _ _ _ _ w0.drew
  have c2' : w0.drew.cell? ⟨w.heap.size + 1, 601, none⟩ = _ := c2
  have f2' : w0.drew.frozen? ⟨w.heap.size + 1, 601, none⟩ = _ := f2
  have P0 : NatAt w0.drew w.heap.size 0 0 := N0
  have P1 : NatAt w0.drew (w.heap.size + 1) 0 0 := N1
  have PA : NatAt w0.drew g a n := MA
  have PB : NatAt w0.drew k b m := MB
  have D1 := D0.drew
  clear c2 f2 N0 N1 MA MB D0 a2 b2
  generalize w0.drew = w1 at *
  have Q0 := P0.setOther (k := w.heap.size + 1) (i := 601) (.int .i64 (S : Int)) (by omega)
  have Q1 := P1.setLen S
  have QA := PA.setOther (k := w.heap.size + 1) (i := 601) (.int .i64 (S : Int)) (by omega)
  have QB := PB.setOther (k := w.heap.size + 1) (i := 601) (.int .i64 (S : Int)) (by omega)
  have D2 : Below w.heap.size w (w1.setCell ⟨w.heap.size + 1, 601, none⟩ (.int .i64 (S : Int))) := D1.setCell (Nat.le_succ _) _
  have cS : (w1.setCell ⟨w.heap.size + 1, 601, none⟩ (.int .i64 (S : Int))).cell? ⟨w.heap.size + 1, 601, none⟩ = some (.int .i64 (S : Int)) := Q1.cells.2.1
  clear P0 P1 PA PB D1
  go_wp2
  go_loopw [6, 22] (fun cv i wr => PlusRel w g k a b n m S cv i wr) (fun _ i _ => S - (intOf i).toNat)
  case atStart => exact ⟨0, 0, 0, Nat.zero_le _, rfl, rfl, by omega, by simp, by simp [Nat.mod_one], Q1, Q0, QA, QB, D2⟩
  case round =>
    clear Q0 Q1 QA QB D2 cS c2' f2'
    obtain ⟨q, c, s, hq, rfl, rfl, hc, hs, hsum, R1, R0, RA, RB, hbel⟩ := hrel
    by_cases hlt : q < S
    · have HX := Lib.hid (And.intro hs hsum)
      clear hs hsum
      obtain ⟨x, hx⟩ : ∃ x, dgt a q = x := ⟨_, rfl⟩
      obtain ⟨y, hy⟩ : ∃ y, dgt b q = y := ⟨_, rfl⟩
      have ca := RA.cells.1 q (by omega)
      have cb := RB.cells.1 q (by omega)
      have cr := R1.cells.1 q (by omega)
      have fr := R1.cells.2.2 q
      have HY := Lib.hid (add_step HX.out.2)
      have hx9 := dgt_lt a q
      have hy9 := dgt_lt b q
      rw [hx] at ca hx9 HY
      rw [hy] at cb hy9 HY
      clear hx hy
      obtain ⟨d, hd⟩ : ∃ d, (x + y + c) % 10 = d := ⟨_, rfl⟩
      obtain ⟨c', hc'⟩ : ∃ c', (x + y + c) / 10 = c' := ⟨_, rfl⟩
      rw [hd, hc'] at HY
      have hd10 : d < 10 := by omega
      have hdi : ((x : Int) + (y : Int) + (c : Int)) % 10 = (d : Int) := by omega
      have hci : ((x : Int) + (y : Int) + (c : Int)) / 10 = (c' : Int) := by omega
      have hc1 : c' ≤ 1 := by omega
      have HP := Lib.hid (put_top HX.out.1 hd10)
      have HL := Lib.hid (put_lt HX.out.1 hd10)
      have u1 := IntWalk.u8_in ((x : Int) + (y : Int)) ⟨by omega, by omega⟩
      have u2 := IntWalk.u8_in ((x : Int) + (y : Int) + (c : Int)) ⟨by omega, by omega⟩
      have hq6 : (q : Int) < 601 := by omega
      clear hd hc'
      go_wp2
      go_quiet (fail)
      go_wp2
      go_roundw
      case rel => exact ⟨q + 1, c', s + d * 10 ^ q, hlt, by go_num, by rw [hci], hc1, HL.out, HY.out, (R1.drewN _).put (by omega) HP.out.1.symm HP.out.2 (lt_top HL.out (by omega)), (R0.drewN _).setOther _ (by omega), (RA.drewN _).setOther _ (by omega), (RB.drewN _).setOther _ (by omega), (belowDrewN hbel _).setCell (Nat.le_succ _) _⟩
      case measure => simp [intOf]; omega
    · have hqS : q = S := by omega
      subst hqS
      obtain ⟨es, el⟩ := add_end hs hsum HS.out
      subst es
      have cT := fun W h => implTrim (w.heap.size + 1) (a + b) q W h el hS2
      unfold Left at cT
      clear hs hsum el
      go_wp2_with fail
      refine (cT _ R1).mono ?_
      rintro e w3 ⟨rfl, N3, G3, S3⟩
      have M0 := R0.grown G3 (by omega)
      have D3 := hbel.grown G3 hbel.size (fun k hk => by injection hk with hk; omega)
      clear cT R1 R0 RA RB G3 S3 hbel
      obtain ⟨C0, h0, I0⟩ := M0
      obtain ⟨C1, h1', I1⟩ := N3
      go_wp2_with (first | (refine load_nat (w.heap.size + 1) rfl h1' I1 ?_) | (refine store_nat w.heap.size rfl rfl h0 I0 I1 ?_))
      refine bodyPost_ret (results_nat1 rfl _ _ rfl (setRow_heap _ _ _ _ _ _ h0) I1) rfl ?_
      exact ⟨C1, rfl, I1, below_row D3 (Nat.le_refl _) _⟩

theorem nat_len {s : ByteArray} (h : NatS s) : len (nv s) ≤ 600 := by
  have h1 := val_lt h.2.1
  exact Nat.le_trans (len_le_of h1) (by rw [size_list]; exact h.2.2)
theorem ofV_len (s : ByteArray) : len (ofV s) ≤ 600 := by
  unfold ofV
  split
  · next h => exact nat_len h
  · exact Nat.zero_le _

/-- A natural that came by value, laid into a variable. -/
theorem one_is {w w1 : World} {C : Array Value} {v n : Nat} (B : Below w.heap.size w w1) (IC : IsNat C v n) :
    NatAt ((w1.alloc (.cells zeroCells 45)).setRow w1.heap.size C) w1.heap.size v n ∧ Below w.heap.size w ((w1.alloc (.cells zeroCells 45)).setRow w1.heap.size C) :=
  ⟨(NatAt.new w1 zero_is).row IC, below_row (B.alloc B.size _) B.size _⟩

set_option maxHeartbeats 2000000 in
set_option maxRecDepth 100000 in
theorem implNatAdd (s t : ByteArray) (w : World) (hs : s.size ≤ 1048576) (ht : t.size ≤ 1048576) : Calls Tryz.prog 90 #[.string s, .string t] w (Ans2 (addOf s t) w) := by
  have cN := fun W => implNaturalsOf s t W hs ht
  have hz := Tryz.zeroNat
  unfold AnsNats at cN
  clear hs ht
  have HV : Hid ((okS s && okS t) = true → addOf s t = fits (ofV s + ofV t)) := fun h => by
    obtain ⟨g1, g2⟩ := ofV_bad h
    unfold addOf; rw [if_pos ⟨g1, g2⟩, ofV_eq g1, ofV_eq g2]
  have HW : Hid ((okS s && okS t) = false → addOf s t = ([], false)) := fun h => by
    unfold addOf; rw [if_neg (ofV_not h)]
  have l1 := ofV_len s
  have l2 := ofV_len t
  generalize ofV s = va at *
  generalize ofV t = vb at *
  generalize (okS s && okS t) = ok at *
  go_enter Tryz.func90, Tryz.ntmps90
  go_wp2_with fail
  refine (cN _).mono ?_
  rintro e w1 ⟨C, D, rfl, IC, ID, B1⟩
  clear cN
  have H1 := two_first w1
  have H2 := two_second w1 C
  obtain ⟨N1, N2, D1, _⟩ := two_is B1 IC ID
  cases ok
  · have HE := Lib.hid (HW.out rfl)
    clear HW HV
    go_wp2_with (first | (refine store_nat w1.heap.size rfl rfl H1 zero_is IC ?_) | (refine store_nat (w1.heap.size + 1) rfl rfl H2 zero_is ID ?_))
    go_ret2
    exact ⟨by rw [HE.out]; rfl, D1⟩
  · have HE := Lib.hid (HV.out rfl)
    clear HW HV
    have cC := implPlus _ _ _ _ _ N1 N2 l1 l2
    unfold AnsOne at cC
    go_wp2_with (first | (refine store_nat w1.heap.size rfl rfl H1 zero_is IC ?_) | (refine store_nat (w1.heap.size + 1) rfl rfl H2 zero_is ID ?_))
    refine cC.mono ?_
    rintro e w3 ⟨E, rfl, IE, B3⟩
    have D3 := D1.trans (B3.mono D1.size)
    obtain ⟨N4, D4⟩ := one_is D3 IE
    have cR := implResult _ _ _ N4
    unfold Ans2 at cR
    clear N4 N1 N2 D1 D3 B3 B1 H1 H2 cC
    have H5 := heap_alloc_new w3 (.cells zeroCells 45)
    go_wp2_with (refine store_nat w3.heap.size rfl rfl H5 zero_is IE ?_)
    refine cR.mono ?_
    rintro e w5 ⟨rfl, B5⟩
    have D5 := D4.trans (B5.mono D4.size)
    clear cR B5 D4
    generalize fits (va + vb) = f at *
    go_wp2
    go_ret2
    exact ⟨by rw [HE.out]; rfl, D5⟩

end Go.Proofs.YthijeckcjfnbcaaGreatDoor
