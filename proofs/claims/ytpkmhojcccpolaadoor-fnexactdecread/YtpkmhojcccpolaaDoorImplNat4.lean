/- cmp.Compare at int and byte; impl's compare; impl.NatCmp. Conditions: at most 1048576 bytes. -/
import Derived.Test.YtpkmhojcccpolaaDoorImplNat3
namespace Go.Proofs.YtpkmhojcccpolaaDoor
set_option linter.unusedVariables false
open Go.RowKit
open Go.Lib (byteCells)

def sgnI (x y : Int) : Int := if x < y then -1 else if x = y then 0 else 1

set_option maxHeartbeats 1000000 in
set_option maxRecDepth 100000 in
theorem cmpInt (x y : Int) (w : World) : Calls Tryd.prog 87 #[.int .i64 x, .int .i64 y] w fun e w' => e = .returned (.int .i64 (sgnI x y)) ∧ w' = w := by
  rcases Int.lt_trichotomy x y with h | h | h
  · have HS : Hid (sgnI x y = -1) := by show _ = _; unfold sgnI; rw [if_pos h]
    go_enter Tryd.func87, Tryd.ntmps87
    go_wp2
    go_ret
    exact ⟨by rw [HS.out]; rfl, rfl⟩
  · subst h
    have HS : Hid (sgnI x x = 0) := by show _ = _; unfold sgnI; rw [if_neg (by omega), if_pos rfl]
    go_enter Tryd.func87, Tryd.ntmps87
    go_wp2
    go_ret
    exact ⟨by rw [HS.out]; rfl, rfl⟩
  · have HS : Hid (sgnI x y = 1) := by show _ = _; unfold sgnI; rw [if_neg (by omega), if_neg (by omega)]
    have h2 : ¬ x < y := by omega
    go_enter Tryd.func87, Tryd.ntmps87
    go_wp2
    go_ret
    exact ⟨by rw [HS.out]; rfl, rfl⟩
set_option maxHeartbeats 1000000 in
set_option maxRecDepth 100000 in
theorem cmpByte (x y : Int) (w : World) : Calls Tryd.prog 88 #[.int .u8 x, .int .u8 y] w fun e w' => e = .returned (.int .i64 (sgnI x y)) ∧ w' = w := by
  rcases Int.lt_trichotomy x y with h | h | h
  · have HS : Hid (sgnI x y = -1) := by show _ = _; unfold sgnI; rw [if_pos h]
    go_enter Tryd.func88, Tryd.ntmps88
    go_wp2
    go_ret
    exact ⟨by rw [HS.out]; rfl, rfl⟩
  · subst h
    have HS : Hid (sgnI x x = 0) := by show _ = _; unfold sgnI; rw [if_neg (by omega), if_pos rfl]
    go_enter Tryd.func88, Tryd.ntmps88
    go_wp2
    go_ret
    exact ⟨by rw [HS.out]; rfl, rfl⟩
  · have HS : Hid (sgnI x y = 1) := by show _ = _; unfold sgnI; rw [if_neg (by omega), if_neg (by omega)]
    have h2 : ¬ x < y := by omega
    go_enter Tryd.func88, Tryd.ntmps88
    go_wp2
    go_ret
    exact ⟨by rw [HS.out]; rfl, rfl⟩

theorem len_less {a b : Nat} (h : len a < len b) : a < b := by
  have h1 := lt_len a
  have h0 : b ≠ 0 := fun e => by subst e; rw [len_zero] at h; omega
  have h2 := le_of_len h0
  have h3 : 10 ^ len a ≤ 10 ^ (len b - 1) := Nat.pow_le_pow_right (by omega) (by omega)
  omega
theorem sgn_len {a b : Nat} (h : len a ≠ len b) : sgnI (len a : Int) (len b : Int) = cmpN a b := by
  unfold sgnI cmpN
  rcases Nat.lt_or_gt_of_ne h with h1 | h1
  · rw [if_pos (by omega), if_pos (len_less h1)]
  · have := len_less h1
    rw [if_neg (by omega), if_neg (by omega), if_neg (by omega), if_neg (by omega)]
theorem dgt_div (v p : Nat) : v / 10 ^ p = 10 * (v / 10 ^ (p + 1)) + dgt v p := by
  unfold dgt
  rw [Nat.pow_succ, ← Nat.div_div_eq_div_mul]
  omega
theorem sgn_dgt {a b p : Nat} (h : a / 10 ^ (p + 1) = b / 10 ^ (p + 1)) (hd : dgt a p ≠ dgt b p) : sgnI (dgt a p : Int) (dgt b p : Int) = cmpN a b := by
  have ha := dgt_div a p
  have hb := dgt_div b p
  have lt_of : ∀ {x y : Nat}, x / 10 ^ p < y / 10 ^ p → x < y := fun {x y} h => by
    rcases Nat.lt_or_ge x y with h1 | h1
    · exact h1
    · exact absurd (Nat.div_le_div_right (c := 10 ^ p) h1) (by omega)
  unfold sgnI cmpN
  rcases Nat.lt_or_gt_of_ne hd with h1 | h1
  · rw [if_pos (by omega), if_pos (lt_of (by omega))]
  · have := lt_of (x := b) (y := a) (by omega)
    rw [if_neg (by omega), if_neg (by omega), if_neg (by omega), if_neg (by omega)]

set_option maxHeartbeats 2000000 in
set_option maxRecDepth 100000 in
theorem implCompare (g k a b : Nat) (w : World) (hA : NatAt w g a (len a)) (hB : NatAt w k b (len b)) :
    Calls Tryd.prog 56 #[.pointer (some ⟨g, 0, none⟩), .pointer (some ⟨k, 0, none⟩)] w (AnsN (cmpN a b) w) := by
  obtain ⟨a1, a2, _⟩ := hA.cells
  obtain ⟨b1, b2, _⟩ := hB.cells
  have hla : len a ≤ 601 := by obtain ⟨C, _, hI⟩ := hA; exact len_top hI.lt
  obtain ⟨n, hn⟩ : ∃ n, len a = n := ⟨_, rfl⟩
  obtain ⟨m, hm⟩ : ∃ m, len b = m := ⟨_, rfl⟩
  rw [hn] at a2 hla
  rw [hm] at b2
  by_cases he : n = m
  · subst he
    have HP := Lib.hid (And.intro (lt_len a) (lt_len b))
    rw [hn, hm] at HP
    have HC := Lib.hid (And.intro a1 b1)
    clear a1 b1 hn hm hA hB
    go_enter Tryd.func56, Tryd.ntmps56
    go_wp2
    go_quiet (fail)
    go_wp2
    go_loopg [5] n (fun q i wr => i = .int .i64 ((q : Int) - 1) ∧ q ≤ n ∧ a / 10 ^ q = b / 10 ^ q ∧ Below w.heap.size w wr ∧ wr.heap = w.heap)
    case atStart => exact ⟨by first | rfl | go_num, Nat.le_refl _, by rw [Nat.div_eq_of_lt HP.out.1, Nat.div_eq_of_lt HP.out.2], belowDrewN (Below.refl _ _) _, rfl⟩
    case round =>
      obtain ⟨rfl, hqn, hdiv, hbel, hheap⟩ := hrel
      cases gk with
      | zero =>
        have HE : Hid (cmpN a b = 0) := by
          show _ = _
          simp only [Nat.pow_zero, Nat.div_one] at hdiv
          unfold cmpN
          rw [if_neg (by omega), if_pos hdiv]
        clear hdiv HC HP hheap
        go_wp2
        go_ret
        exact ⟨by rw [HE.out]; rfl, hbel⟩
      | succ p =>
        have HD := Lib.hid hdiv
        have kA : wr.cell? ⟨g, p, none⟩ = w.cell? ⟨g, p, none⟩ := World.cell?_of_block (by rw [hheap])
        have kB : wr.cell? ⟨k, p, none⟩ = w.cell? ⟨k, p, none⟩ := World.cell?_of_block (by rw [hheap])
        rw [HC.out.1 p (by omega)] at kA
        rw [HC.out.2 p (by omega)] at kB
        have HH := Lib.hid hheap
        have hp1 : (p : Int) < 601 := by omega
        have ee : (((p + 1 : Nat) : Int) - 1) = (p : Int) := by omega
        rw [ee]
        have h0 : (0 : Int) ≤ (p : Int) := by omega
        clear hdiv hheap a2 b2 ee
        by_cases hd : dgt a p = dgt b p
        · have HN : Hid (a / 10 ^ p = b / 10 ^ p) := by
            show _ = _
            rw [dgt_div a p, dgt_div b p, HD.out, hd]
          rw [hd] at kA
          clear hd
          generalize dgt b p = d at kA kB
          go_wp2
          go_quiet (fail)
          go_wp2
          go_roundg p
          case measure => omega
          case rel => exact ⟨by first | rfl | go_num, by omega, HN.out, belowDrewN hbel _, HH.out⟩
        · have HS := Lib.hid (sgn_dgt HD.out hd)
          obtain ⟨x, hx⟩ : ∃ x, dgt a p = x := ⟨_, rfl⟩
          obtain ⟨y, hy⟩ : ∃ y, dgt b p = y := ⟨_, rfl⟩
          rw [hx] at kA hd HS
          rw [hy] at kB hd HS
          have hb : (((x : Nat) : Int) != ((y : Nat) : Int)) = true := by simp; omega
          clear hx hy hd
          go_wp2
          go_quiet (fail)
          have kA2 : (wr.drewN nq).cell? ⟨g, p, none⟩ = _ := kA
          have kB2 : (wr.drewN nq).cell? ⟨k, p, none⟩ = _ := kB
          have hb2 := belowDrewN hbel nq
          clear kA kB hbel HH
          generalize wr.drewN nq = w5 at *
          go_wp2
          go_quiet ((go_at_call 88; refine Calls.quiet_of_same (cmpByte _ _ _)))
          go_wp2
          go_ret
          exact ⟨by rw [← HS.out]; rfl, belowDrewN hb2 _⟩
  · have HS := Lib.hid (sgn_len (a := a) (b := b) (by rw [hn, hm]; exact he))
    rw [hn, hm] at HS
    have hb : ((n : Int) != (m : Int)) = true := by simp; omega
    clear he hn hm a1 b1 hla hA hB
    go_enter Tryd.func56, Tryd.ntmps56
    go_wp2
    go_quiet (fail)
    have kA2 : (w.drewN nq).cell? ⟨g, 601, none⟩ = _ := a2
    have kB2 : (w.drewN nq).cell? ⟨k, 601, none⟩ = _ := b2
    have hb2 := belowDrewN (Below.refl w.heap.size w) nq
    clear a2 b2
    generalize w.drewN nq = w5 at *
    go_wp2
    go_quiet ((go_at_call 87; refine Calls.quiet_of_same (cmpInt _ _ _)))
    go_wp2
    go_ret
    exact ⟨by rw [← HS.out]; rfl, belowDrewN hb2 _⟩

/-- Two naturals that came by value, laid into two variables. -/
def two (w : World) (C D : Array Value) : World := (((w.alloc (.cells zeroCells 63)).alloc (.cells zeroCells 63)).setRow w.heap.size C).setRow (w.heap.size + 1) D
theorem two_first (w : World) : ((w.alloc (.cells zeroCells 63)).alloc (.cells zeroCells 63)).heap[w.heap.size]? = some (.cells zeroCells 63 (0, 0)) := heap_alloc2_old w _ _
theorem two_second (w : World) (C : Array Value) : (((w.alloc (.cells zeroCells 63)).alloc (.cells zeroCells 63)).setRow w.heap.size C).heap[w.heap.size + 1]? = some (.cells zeroCells 63 (0, 0)) :=
  (setRow_other _ _ _ _ (by omega)).trans (heap_alloc2_new w _ _)
theorem two_is {w w1 : World} {C D : Array Value} {a n b m : Nat} (B : Below w.heap.size w w1) (IC : IsNat C a n) (ID : IsNat D b m) :
    NatAt (two w1 C D) w1.heap.size a n ∧ NatAt (two w1 C D) (w1.heap.size + 1) b m ∧ Below w.heap.size w (two w1 C D) ∧ (two w1 C D).heap.size = w1.heap.size + 2 := by
  have hs := B.size
  refine ⟨⟨C, ?_, IC⟩, ⟨D, setRow_heap _ _ _ _ _ _ (two_second w1 C), ID⟩, below_row (below_row ((B.alloc hs _).alloc (by simp; omega) _) hs _) (by omega) _, by simp [two]⟩
  exact (setRow_other _ _ _ _ (by omega)).trans (setRow_heap _ _ _ _ _ _ (two_first w1))

theorem ofV_bad {s t : ByteArray} (h : (okS s && okS t) = true) : NatS s ∧ NatS t := by
  simp only [Bool.and_eq_true] at h
  exact ⟨of_decide_eq_true h.1, of_decide_eq_true h.2⟩
theorem ofV_not {s t : ByteArray} (h : (okS s && okS t) = false) : ¬ (NatS s ∧ NatS t) := fun g => by
  unfold okS at h
  rw [decide_eq_true g.1, decide_eq_true g.2] at h
  cases h
theorem ofV_eq {s : ByteArray} (h : NatS s) : ofV s = nv s := by unfold ofV; rw [if_pos h]


end Go.Proofs.YtpkmhojcccpolaaDoor
