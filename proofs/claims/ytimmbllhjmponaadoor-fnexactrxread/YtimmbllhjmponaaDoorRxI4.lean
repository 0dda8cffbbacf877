/- The program's reader of patterns: times, braces, repetition. Conditions: at most 1000 code points. -/
import Derived.Test.YtimmbllhjmponaaDoorRxI1
import Derived.Deep.DeepMust
namespace Go.Proofs.YtimmbllhjmponaaDoor
set_option linter.unusedVariables false
open Go.RowKit

/-- Where the reader at block p stands. -/
def atOf (p : Nat) (w : World) : Nat := match w.cell? ⟨p, 1, none⟩ with | some (.int _ x) => x.toNat | _ => 0
theorem Rs.atOf {w : World} {p : Nat} {s : List Int} {PA : Option Addr} {pc i d : Nat} {nv : Value} (h : Rs w p s PA pc i d nv) : atOf p w = i := by
  unfold Go.Proofs.YtimmbllhjmponaaDoor.atOf
  rw [h.cell.2.1]
  simp

theorem digs_big {s : List Int} : ∀ {f a : Nat} {n : Int}, 60 < n → (digs s f a n).1 = n
  | 0, a, n, h => rfl
  | f + 1, a, n, h => by
    rw [digs]
    split
    · rw [if_neg (by omega)]; exact digs_big h
    · rfl

def TimesRel (s : List Int) (i : Nat) (w : World) (p : Nat) (PA : Option Addr) (pc d : Nat) (nv : Value) (v : Value) (wr : World) : Prop :=
  ∃ (n : Int) (a f : Nat), v = .int .i64 n ∧ i ≤ a ∧ a ≤ s.length ∧ s.length < a + f ∧ digs s f a n = digs s (s.length + 1) i 0 ∧ 0 ≤ n ∧ n ≤ 609 ∧ Keep [p] w wr ∧ Rs wr p s PA pc a d nv

theorem numR_digs {s : List Int} {i : Nat} {n : Int} {a : Nat} (h : digs s (s.length + 1) i 0 = (n, a)) : numR s i = if i < a ∧ n ≤ 60 ∧ ¬ (pk s i = 48 ∧ i + 1 < a) then some (n, a) else none := by
  unfold numR
  rw [h]
theorem numR_big {s : List Int} {i : Nat} {n : Int} {f a : Nat} (h : digs s f a n = digs s (s.length + 1) i 0) (hn : 60 < n) : numR s i = none := by
  unfold numR
  rw [if_neg]
  rw [← h, digs_big hn]
  omega

/-- What reading a number of times leaves. -/
def TimesIs (w : World) (p : Nat) (s : List Int) (PA : Option Addr) (pc i d : Nat) (nv : Value) (e : Ending) (w' : World) : Prop :=
  ∃ (n' : Int) (j' : Nat), e = .returned (.tuple #[.int .i64 n', .bool (numR s i).isSome]) ∧ Keep [p] w w' ∧ Rs w' p s PA pc j' d nv ∧ j' ≤ s.length ∧ ∀ n j, numR s i = some (n, j) → n' = n ∧ j' = j

theorem tup_is {n : Int} {b c : Bool} (h : b = c) : Ending.returned (.tuple #[.int .i64 n, .bool b]) = Ending.returned (.tuple #[.int .i64 n, .bool c]) := by rw [h]

set_option maxHeartbeats 4000000 in
set_option maxRecDepth 100000 in
theorem times_any (w : World) (p : Nat) (s : List Int) (PA : Option Addr) (pc i d : Nat) (nv : Value) (h : Rs w p s PA pc i d nv) (hs : s.length ≤ 1000) (hi : i ≤ s.length) (hP : Pos s) :
    Calls Tryd.prog 69 #[.pointer (some ⟨p, 0, none⟩)] w (TimesIs w p s PA pc i d nv) := by
  obtain ⟨c0, c1, c2, c3⟩ := h.cell
  have HR := Lib.hid h
  clear h
  go_enter Tryd.func69, Tryd.ntmps69
  go_wp2
  go_loopw [5] (TimesRel s i w p PA pc d nv) (fun _ wr => s.length - atOf p wr)
  case atStart => exact ⟨0, i, s.length + 1, rfl, Nat.le_refl _, hi, by omega, rfl, by omega, by omega, Keep.refl _ _, HR.out⟩
  case round =>
    obtain ⟨n, a, f, rfl, hia, hal, hf, hd, n0, n1, hk, hr⟩ := hrel
    have HM := Lib.hid hr.atOf
    clear c0 c1 c2 c3
    obtain ⟨f, rfl⟩ : ∃ g, f = g + 1 := ⟨f - 1, by omega⟩
    rw [digs] at hd
    obtain ⟨x, hx⟩ : ∃ x, pk s a = x := ⟨_, rfl⟩
    have HX := Lib.hid hx
    have hxb := hP.bound a
    rw [hx] at hd hxb
    have x0 := hxb.1
    have x1 := hxb.2
    have HK := Lib.hid hk
    clear hx hxb hk
    have cA := ahead0 wr p s PA pc a d nv hr hs (by omega)
    rw [HX.out] at cA
    have HRr := Lib.hid hr
    have HDD := Lib.hid hd
    clear hr hd
    go_wp2_with fail
    refine cA.mono ?_
    rintro e w1 ⟨rfl, k1, r1⟩
    have K1 := Lib.hid (HK.out.tr k1.nil)
    have R1 := Lib.hid r1
    clear cA k1 r1
    go_wp2_with fail
    refine (isDigit_any x _).mono ?_
    rintro e w1' ⟨rfl, rfl⟩
    cases hdg : isDig x with
    | true =>
      have hdd := HDD.out
      rw [if_pos (by rw [hdg])] at hdd
      by_cases h60 : n ≤ 60
      · rw [if_pos h60] at hdd
        have HD := Lib.hid hdd
        have hxd : 48 ≤ x ∧ x ≤ 57 := by simpa [isDig] using hdg
        have xd0 := hxd.1
        have xd1 := hxd.2
        have hal' : a < s.length := lt_of_pk (by rw [HX.out]; omega)
        have HA := Lib.hid hal'
        clear hdd hxd hdg hal'
        have cA := ahead0 w1 p s PA pc a d nv R1.out hs (by omega)
        rw [HX.out] at cA
        go_wp2_with fail
        refine cA.mono ?_
        rintro e w2 ⟨rfl, k2, r2⟩
        obtain ⟨c0, c1, c2, c3⟩ := r2.cell
        have f1 := r2.frozen 1
        have R2 := Lib.hid (r2.set1 (a + 1))
        have K2 := Lib.hid ((K1.out.tr (k2.nil (G := [p]))).setCell (p := p) (j := 1) (.inl (by simp)) (.int .i64 ((a + 1 : Nat) : Int)))
        have hz0 : (a : Int) + 1 = ((a + 1 : Nat) : Int) := by omega
        obtain ⟨m, hm⟩ : ∃ m, a + 1 = m := ⟨_, rfl⟩
        rw [hm] at hz0 R2 K2
        rw [hm] at HD
        have HM2 := Lib.hid hm
        clear cA k2 r2 hm
        obtain ⟨y, hy⟩ : ∃ y, 10 * n + x - 48 = y := ⟨_, rfl⟩
        have hy0 : 0 ≤ y := by omega
        have hy1 : y ≤ 609 := by omega
        rw [hy] at HD
        go_wp2
        go_roundw
        case rel => exact ⟨y, m, f, by first | rfl | (congr 1), by have := HM2.out; omega, by have := HM2.out; have := HA.out; omega, by have := HM2.out; omega, HD.out, hy0, hy1, K2.out, R2.out⟩
        case measure => rw [R2.out.atOf, HM.out]; have := HM2.out; have := HA.out; omega
      · have hn := numR_big (s := s) (i := i) (f := f + 1) (a := a) (n := n) (by rw [digs, HX.out]; exact HDD.out) (by omega)
        have HN := Lib.hid hn
        obtain ⟨c0, c1, c2, c3⟩ := R1.out.cell
        have hsz : (a : Int) - i = ((a - i : Nat) : Int) := by omega
        obtain ⟨z, hz⟩ : ∃ z, a - i = z := ⟨_, rfl⟩
        rw [hz] at hsz
        have HZ := Lib.hid hz
        clear hn hdd hdg hz HDD
        by_cases hz1 : z ≤ 1
        · have hzi : ¬ (1 : Int) < z := by omega
          by_cases hz0 : z = 0
          · have hzj : ¬ (0 : Int) < z := by omega
            go_wp2
            go_ret2
            exact ⟨n, a, by rw [HN.out]; exact tup_is (by first | rfl | (simp; done) | (simp; omega) | (simp [hy48]; done) | (simp [hy48]; omega)), K1.out, R1.out, hal, fun _ _ e => by rw [HN.out] at e; cases e⟩
          · have hzj : (0 : Int) < z := by omega
            go_wp2
            go_ret2
            exact ⟨n, a, by rw [HN.out]; exact tup_is (by first | rfl | (simp; done) | (simp; omega) | (simp [hy48]; done) | (simp [hy48]; omega)), K1.out, R1.out, hal, fun _ _ e => by rw [HN.out] at e; cases e⟩
        · have hzi : (1 : Int) < z := by omega
          have hzj : (0 : Int) < z := by omega
          obtain ⟨b, o, rfl, hb, hc⟩ := R1.out.nums i (by have := HZ.out; omega)
          have hil : i < s.length := by have := HZ.out; omega
          obtain ⟨y, hy⟩ : ∃ y, s[i] = y := ⟨_, rfl⟩
          rw [hy] at hc
          clear hy
          by_cases hy48 : y = 48
          · go_wp2
            go_ret2
            exact ⟨n, a, by rw [HN.out]; exact tup_is (by first | rfl | (simp; done) | (simp; omega) | (simp [hy48]; done) | (simp [hy48]; omega)), K1.out, R1.out, hal, fun _ _ e => by rw [HN.out] at e; cases e⟩
          · go_wp2
            go_ret2
            exact ⟨n, a, by rw [HN.out]; exact tup_is (by first | rfl | (simp; done) | (simp; omega) | (simp [hy48]; done) | (simp [hy48]; omega)), K1.out, R1.out, hal, fun _ _ e => by rw [HN.out] at e; cases e⟩
    | false =>
      have hdd := HDD.out
      rw [if_neg (by rw [hdg]; simp)] at hdd
      have hn := numR_digs hdd.symm
      have HN := Lib.hid hn
      obtain ⟨c0, c1, c2, c3⟩ := R1.out.cell
      have hsz : (a : Int) - i = ((a - i : Nat) : Int) := by omega
      obtain ⟨z, hz⟩ : ∃ z, a - i = z := ⟨_, rfl⟩
      rw [hz] at hsz
      have HZ := Lib.hid hz
      clear hn hdd hdg hz HDD
      by_cases hz1 : z ≤ 1
      · have hzi : ¬ (1 : Int) < z := by omega
        by_cases hz0 : z = 0
        · have hzj : ¬ (0 : Int) < z := by omega
          have hN : numR s i = none := by rw [HN.out, if_neg (by have := HZ.out; omega)]
          have HN2 := Lib.hid hN
          clear hN
          go_wp2
          go_ret2
          exact ⟨n, a, by rw [HN2.out]; exact tup_is (by first | rfl | (simp; done) | (simp; omega) | (simp [hy48]; done) | (simp [hy48]; omega)), K1.out, R1.out, hal, fun _ _ e => by rw [HN2.out] at e; cases e⟩
        · have hzj : (0 : Int) < z := by omega
          by_cases h60 : n ≤ 60
          · have hN : numR s i = some (n, a) := by rw [HN.out, if_pos (by have := HZ.out; omega)]
            have HN2 := Lib.hid hN
            clear hN
            go_wp2
            go_ret2
            exact ⟨n, a, by rw [HN2.out]; exact tup_is (by first | rfl | (simp; done) | (simp; omega) | (simp [hy48]; done) | (simp [hy48]; omega)), K1.out, R1.out, hal, fun _ _ e => by rw [HN2.out] at e; cases e; exact ⟨rfl, rfl⟩⟩
          · have hN : numR s i = none := by rw [HN.out, if_neg (by omega)]
            have HN2 := Lib.hid hN
            clear hN
            go_wp2
            go_ret2
            exact ⟨n, a, by rw [HN2.out]; exact tup_is (by first | rfl | (simp; done) | (simp; omega) | (simp [hy48]; done) | (simp [hy48]; omega)), K1.out, R1.out, hal, fun _ _ e => by rw [HN2.out] at e; cases e⟩
      · have hzi : (1 : Int) < z := by omega
        have hzj : (0 : Int) < z := by omega
        have hil : i < s.length := by have := HZ.out; omega
        obtain ⟨b, o, rfl, hb, hc⟩ := R1.out.nums i hil
        obtain ⟨y, hy⟩ : ∃ y, s[i] = y := ⟨_, rfl⟩
        have HY : Hid (pk s i = y) := (pk_lt hil).trans hy
        rw [hy] at hc
        clear hy
        by_cases hy48 : y = 48
        · have hN : numR s i = none := by rw [HN.out, if_neg (by have := HZ.out; have := HY.out; omega)]
          have HN2 := Lib.hid hN
          clear hN
          go_wp2
          go_ret2
          exact ⟨n, a, by rw [HN2.out]; exact tup_is (by first | rfl | (simp; done) | (simp; omega) | (simp [hy48]; done) | (simp [hy48]; omega)), K1.out, R1.out, hal, fun _ _ e => by rw [HN2.out] at e; cases e⟩
        · by_cases h60 : n ≤ 60
          · have hN : numR s i = some (n, a) := by rw [HN.out, if_pos (by have := HZ.out; have := HY.out; omega)]
            have HN2 := Lib.hid hN
            clear hN
            go_wp2
            go_ret2
            exact ⟨n, a, by rw [HN2.out]; exact tup_is (by first | rfl | (simp; done) | (simp; omega) | (simp [hy48]; done) | (simp [hy48]; omega)), K1.out, R1.out, hal, fun _ _ e => by rw [HN2.out] at e; cases e; exact ⟨rfl, rfl⟩⟩
          · have hN : numR s i = none := by rw [HN.out, if_neg (by omega)]
            have HN2 := Lib.hid hN
            clear hN
            go_wp2
            go_ret2
            exact ⟨n, a, by rw [HN2.out]; exact tup_is (by first | rfl | (simp; done) | (simp; omega) | (simp [hy48]; done) | (simp [hy48]; omega)), K1.out, R1.out, hal, fun _ _ e => by rw [HN2.out] at e; cases e⟩

end Go.Proofs.YtimmbllhjmponaaDoor
