/- impl's dividedBy. Conditions: naturals of at most 600 digits, the second not 0. -/
import Derived.Test.YthijeckcjfnbcaaGreatDoorImplNat9
namespace Go.Proofs.YthijeckcjfnbcaaGreatDoor
set_option linter.unusedVariables false
open Go.RowKit
open Go.Lib (byteCells)

theorem results_nat2 {fn : Func} {p q : Tmp} (h : fn.results = #[.cell p 45, .cell q 45]) (tmps : Array Value) (w : World) {g k : Nat} {C D : Array Value} {v n v' n' : Nat}
    (hp : tmps.getD p undef = .pointer (some ⟨g, 0, none⟩)) (hq : tmps.getD q undef = .pointer (some ⟨k, 0, none⟩))
    (hg : w.heap[g]? = some (.cells C 45 (0, 0))) (hI : IsNat C v n) (hk : w.heap[k]? = some (.cells D 45 (0, 0))) (hJ : IsNat D v' n') :
    (results fn tmps).run Tryz.prog w = .ok (.tuple #[.agg C, .agg D]) w := by
  have hl := run_loadVar_row (P := Tryz.prog) w g 45 45 C (0, 0) _ hg Tryz.underlying45 rfl (by rw [hI.size]; exact Tryz.sizeNat)
  have hm := run_loadVar_row (P := Tryz.prog) w k 45 45 D (0, 0) _ hk Tryz.underlying45 rfl (by rw [hJ.size]; exact Tryz.sizeNat)
  have hp' : tmps[p]?.getD undef = .pointer (some ⟨g, 0, none⟩) := by simpa using hp
  have hq' : tmps[q]?.getD undef = .pointer (some ⟨k, 0, none⟩) := by simpa using hq
  simp [results, h, hp', hq', asAddr, hl, hm]

/-- What stands still while a division goes on. -/
structure DivEnv (w wr : World) (g k a N b : Nat) : Prop where
  r0 : NatAt wr w.heap.size 0 0
  r1 : NatAt wr (w.heap.size + 1) 0 0
  fa : NatAt wr g a N
  fb : NatAt wr k b (len b)
  bel : Below w.heap.size w wr
  gl : g < w.heap.size
  kl : k < w.heap.size
theorem DivEnv.grown {w wr w' : World} {g k a N b j : Nat} (h : DivEnv w wr g k a N b) (hG : wr.grownBy w' (some j)) (hj : w.heap.size + 2 ≤ j) : DivEnv w w' g k a N b :=
  have h1 := h.gl
  have h2 := h.kl
  ⟨h.r0.grown hG (by omega), h.r1.grown hG (by omega), h.fa.grown hG (by omega), h.fb.grown hG (by omega), h.bel.grown hG h.bel.size (fun k hk => by injection hk with hk; omega), h1, h2⟩
theorem DivEnv.below {w wr w' : World} {g k a N b : Nat} (h : DivEnv w wr g k a N b) (hB : Below wr.heap.size wr w') : DivEnv w w' g k a N b :=
  ⟨h.r0.below hB h.r0.lt, h.r1.below hB h.r1.lt, h.fa.below hB h.fa.lt, h.fb.below hB h.fb.lt, h.bel.trans (hB.mono h.bel.size), h.gl, h.kl⟩

def QuotRel (w : World) (g k a N b : Nat) (q : Nat) (i : Value) (wr : World) : Prop :=
  i = .int .i64 ((q : Int) - 1) ∧ q ≤ N ∧ DivEnv w wr g k a N b ∧ NatAt wr (w.heap.size + 2) (a / 10 ^ q / b) (len (a / 10 ^ q / b)) ∧ NatAt wr (w.heap.size + 3) (a / 10 ^ q % b) (len (a / 10 ^ q % b))
def OffRel (w : World) (g k a N b Y Q : Nat) (z : Nat) (dv : Value) (wr : World) : Prop :=
  ∃ d : Nat, dv = .int .u8 (d : Int) ∧ z + d * b = Y ∧ DivEnv w wr g k a N b ∧ NatAt wr (w.heap.size + 2) Q (len Q) ∧ NatAt wr (w.heap.size + 3) z (len z)

theorem len_mono {a b : Nat} (h : a ≤ b) : len a ≤ len b := len_le_of (Nat.lt_of_le_of_lt h (lt_len b))
theorem cmpN_neg {a b : Nat} : cmpN a b < 0 ↔ a < b := by
  unfold cmpN
  by_cases h : a < b
  · rw [if_pos h]; simp [h]
  · rw [if_neg h]; simp only [h, iff_false]; split <;> omega
theorem div_next {a b p x Q R d z : Nat} (hb : 0 < b) (hx : dgt a p = x) (hQ : a / 10 ^ (p + 1) / b = Q) (hR : a / 10 ^ (p + 1) % b = R) (hz : z + d * b = 10 * R + x) (hl : z < b) :
    10 * Q + d = a / 10 ^ p / b ∧ z = a / 10 ^ p % b ∧ d < 10 := by
  have e := dgt_div a p
  rw [hx] at e
  have h1 := Nat.div_add_mod (a / 10 ^ (p + 1)) b
  rw [hQ, hR] at h1
  have h2 : R < b := by rw [← hR]; exact Nat.mod_lt _ hb
  have hx9 := dgt_lt a p
  rw [hx] at hx9
  have e2 : a / 10 ^ p = b * (10 * Q + d) + z := by
    rw [e, ← h1, Nat.mul_add, Nat.mul_add, Nat.mul_left_comm b 10, Nat.mul_comm b d]; omega
  refine ⟨?_, ?_, ?_⟩
  · rw [e2, Nat.mul_add_div hb, Nat.div_eq_of_lt hl, Nat.add_zero]
  · rw [e2, Nat.mul_add_mod, Nat.mod_eq_of_lt hl]
  · rcases Nat.lt_or_ge d 10 with h | h
    · exact h
    · have : 10 * b ≤ d * b := Nat.mul_le_mul_right _ h
      omega

def AnsTwo (p q : Nat) (w : World) (e : Ending) (w' : World) : Prop := ∃ C D, e = .returned (.tuple #[.agg C, .agg D]) ∧ IsNat C p (len p) ∧ IsNat D q (len q) ∧ Below w.heap.size w w'

set_option maxHeartbeats 2000000 in
set_option maxRecDepth 100000 in
theorem implDividedBy (g k a b : Nat) (w : World) (hA : NatAt w g a (len a)) (hB : NatAt w k b (len b)) (ha6 : len a ≤ 600) (hb6 : len b ≤ 600) (hb0 : 0 < b) :
    Calls Tryz.prog 48 #[.pointer (some ⟨g, 0, none⟩), .pointer (some ⟨k, 0, none⟩)] w (AnsTwo (a / b) (a % b) w) := by
  have hz := Tryz.zeroNat
  have hgl := hA.lt
  have hkl := hB.lt
  have HLT := Lib.hid (lt_len a)
  have HA6 := Lib.hid ha6
  have HB := Lib.hid (And.intro hb0 hb6)
  obtain ⟨N, hN⟩ : ∃ N, len a = N := ⟨_, rfl⟩
  rw [hN] at hA ha6 HLT
  clear hN hb0 hb6
  obtain ⟨_, a2, _⟩ := hA.cells
  have hs1 : (w.alloc (.cells zeroCells 45)).heap.size = w.heap.size + 1 := by simp
  have hs2 : ((w.alloc (.cells zeroCells 45)).alloc (.cells zeroCells 45)).heap.size = w.heap.size + 2 := by simp
  have hs3 : (((w.alloc (.cells zeroCells 45)).alloc (.cells zeroCells 45)).alloc (.cells zeroCells 45)).heap.size = w.heap.size + 3 := by simp
  have z0 := (((NatAt.new w zero_is).alloc (.cells zeroCells 45)).alloc (.cells zeroCells 45)).alloc (.cells zeroCells 45)
  have z1 := ((NatAt.new (w.alloc (.cells zeroCells 45)) zero_is).alloc (.cells zeroCells 45)).alloc (.cells zeroCells 45)
  have z2 := (NatAt.new ((w.alloc (.cells zeroCells 45)).alloc (.cells zeroCells 45)) zero_is).alloc (.cells zeroCells 45)
  have z3 := NatAt.new (((w.alloc (.cells zeroCells 45)).alloc (.cells zeroCells 45)).alloc (.cells zeroCells 45)) zero_is
  rw [hs1] at z1
  rw [hs2] at z2
  rw [hs3] at z3
  have MA := (((hA.alloc (.cells zeroCells 45)).alloc (.cells zeroCells 45)).alloc (.cells zeroCells 45)).alloc (.cells zeroCells 45)
  have MB := (((hB.alloc (.cells zeroCells 45)).alloc (.cells zeroCells 45)).alloc (.cells zeroCells 45)).alloc (.cells zeroCells 45)
  have D0 : Below w.heap.size w _ := ((((Below.refl w.heap.size w).alloc (Nat.le_refl _) (.cells zeroCells 45)).alloc (by omega) (.cells zeroCells 45)).alloc (by omega) (.cells zeroCells 45)).alloc (by omega) (.cells zeroCells 45)
  have E0 : DivEnv w _ g k a N b := ⟨z0, z1, MA, MB, D0, hgl, hkl⟩
  have a2' := MA.cells.2.1
  clear z0 z1 MA MB D0 hs1 hs2 hs3 hA hB a2
  go_enter Tryz.func48, Tryz.ntmps48
  go_wp2
  generalize (((w.alloc (.cells zeroCells 45)).alloc (.cells zeroCells 45)).alloc (.cells zeroCells 45)).alloc (.cells zeroCells 45) = w0 at *
  go_loopg [8] N (fun q i wr => QuotRel w g k a N b q i wr)
  case atStart =>
    refine ⟨by first | rfl | go_num, Nat.le_refl _, E0, ?_, ?_⟩
    · rw [Nat.div_eq_of_lt HLT.out, Nat.zero_div]; exact z2
    · rw [Nat.div_eq_of_lt HLT.out, Nat.zero_mod]; exact z3
  case round =>
    clear z2 z3 E0 a2'
    obtain ⟨rfl, hqN, E, NQ, NR⟩ := hrel
    cases gk with
    | zero =>
      simp only [Nat.pow_zero, Nat.div_one] at NQ NR
      obtain ⟨CQ, h2, I2⟩ := NQ
      obtain ⟨CR, h3, I3⟩ := NR
      obtain ⟨C0, h0, I0⟩ := E.r0
      obtain ⟨C1, h1, I1⟩ := E.r1
      have D3 := E.bel
      clear E
      go_wp2
      have k1 : ∀ {V : World}, V.heap[w.heap.size + 2]? = some (.cells CQ 45 (0, 0)) → (V.setRow w.heap.size CQ).heap[w.heap.size + 2]? = some (.cells CQ 45 (0, 0)) := fun h => (setRow_other _ _ _ _ (by omega)).trans h
      have k2 : ∀ {V : World}, V.heap[w.heap.size + 3]? = some (.cells CR 45 (0, 0)) → (V.setRow w.heap.size CQ).heap[w.heap.size + 3]? = some (.cells CR 45 (0, 0)) := fun h => (setRow_other _ _ _ _ (by omega)).trans h
      have k3 : ∀ {V : World}, V.heap[w.heap.size + 2]? = some (.cells CQ 45 (0, 0)) → (V.setRow (w.heap.size + 1) CR).heap[w.heap.size + 2]? = some (.cells CQ 45 (0, 0)) := fun h => (setRow_other _ _ _ _ (by omega)).trans h
      have k4 : ∀ {V : World}, V.heap[w.heap.size + 3]? = some (.cells CR 45 (0, 0)) → (V.setRow (w.heap.size + 1) CR).heap[w.heap.size + 3]? = some (.cells CR 45 (0, 0)) := fun h => (setRow_other _ _ _ _ (by omega)).trans h
      have h1' : ∀ {V : World}, V.heap[w.heap.size + 1]? = some (.cells C1 45 (0, 0)) → (V.setRow w.heap.size CQ).heap[w.heap.size + 1]? = some (.cells C1 45 (0, 0)) := fun h => (setRow_other _ _ _ _ (by omega)).trans h
      have hfin : ∀ {V : World}, V.heap[w.heap.size]? = some (.cells C0 45 (0, 0)) → ((V.setRow w.heap.size CQ).setRow (w.heap.size + 1) CR).heap[w.heap.size]? = some (.cells CQ 45 (0, 0)) := fun h => (setRow_other _ _ _ _ (by omega)).trans (setRow_heap _ _ _ _ _ _ h)
      have D4 : Below w.heap.size w ((wr.setRow w.heap.size CQ).setRow (w.heap.size + 1) CR) := below_row (below_row D3 (Nat.le_refl _) _) (Nat.le_succ _) _
      refine wp_region_held (S := fun W => W.heap[w.heap.size + 2]? = some (.cells CQ 45 (0, 0)) ∧ W.heap[w.heap.size + 3]? = some (.cells CR 45 (0, 0))) (by kernel_rfl) (?_ : wpAnyH _ _ _ _ _ 4 #[false, false, false, false] _ _)
      refine take_held 0 rfl (by kernel_rfl) (by kernel_rfl) (by kernel_rfl) (fun _ _ _ h => h) (yields_load (w.heap.size + 2) rfl (fun _ h => h.1) I2) ⟨h2, h3⟩ ?_
      simp only [Act.put, List.setIfInBounds_toArray, List.set_cons_zero, List.set_cons_succ]
      refine take_held 1 rfl (by kernel_rfl) (by kernel_rfl) (by kernel_rfl) (fun _ _ _ h => h) (yields_load (w.heap.size + 3) rfl (fun _ h => h.2) I3) ⟨h2, h3⟩ ?_
      simp only [Act.put, List.setIfInBounds_toArray, List.set_cons_zero, List.set_cons_succ]
      refine held_store 2 w.heap.size (by kernel_rfl) rfl rfl rfl h0 I0 I2 ⟨k1 h2, k2 h3⟩ ?_
      simp only [Act.put, List.setIfInBounds_toArray, List.set_cons_zero, List.set_cons_succ]
      refine held_store 3 (w.heap.size + 1) (by kernel_rfl) rfl rfl rfl (h1' h1) I1 I3 ⟨k3 (k1 h2), k4 (k2 h3)⟩ ?_
      simp only [Act.put, List.setIfInBounds_toArray, List.set_cons_zero, List.set_cons_succ]
      refine wpAnyH_done (by kernel_rfl) ?_ _
      go_wp2
      refine bodyPost_ret (results_nat2 rfl _ _ rfl rfl (hfin h0) I2 (setRow_heap _ _ _ _ _ _ (h1' h1)) I3) rfl ?_
      exact ⟨CQ, CR, rfl, I2, I3, ⟨D4.os, D4.tape, D4.output, D4.size, D4.block⟩⟩
    | succ p =>
      obtain ⟨x, hx⟩ : ∃ x, dgt a p = x := ⟨_, rfl⟩
      obtain ⟨Q, hQ⟩ : ∃ Q, a / 10 ^ (p + 1) / b = Q := ⟨_, rfl⟩
      obtain ⟨R, hR⟩ : ∃ R, a / 10 ^ (p + 1) % b = R := ⟨_, rfl⟩
      rw [hQ] at NQ
      rw [hR] at NR
      have hx9 := dgt_lt a p
      rw [hx] at hx9
      have cx := E.fa.cells.1 p (by omega)
      rw [hx] at cx
      have hR6 : len R ≤ 600 := Nat.le_trans (len_mono (show R ≤ b by rw [← hR]; exact Nat.le_of_lt (Nat.mod_lt _ HB.out.1))) HB.out.2
      have hQ6 : len Q ≤ 600 := Nat.le_trans (len_mono (show Q ≤ a by rw [← hQ]; exact Nat.le_trans (Nat.div_le_self _ _) (Nat.div_le_self _ _))) HA6.out
      have HN := Lib.hid (fun (d z : Nat) => div_next (d := d) (z := z) HB.out.1 hx hQ hR)
      have ee : (((p + 1 : Nat) : Int) - 1) = (p : Int) := by omega
      rw [ee]
      have hp1 : (p : Int) < 601 := by omega
      have hp0 : (0 : Int) ≤ (p : Int) := by omega
      have cP := fun W h => implPush (w.heap.size + 3) R x W h hR6 hx9
      have cQ := fun W h d hd => implPush (w.heap.size + 2) Q d W h hQ6 hd
      unfold Left at cP cQ
      clear ee
      obtain ⟨Y, hY⟩ : ∃ Y, 10 * R + x = Y := ⟨_, rfl⟩
      rw [hY] at cP HN
      have HYB : Hid (Y < 10 * b) := by
        have h1 : R < b := by rw [← hR]; exact Nat.mod_lt _ HB.out.1
        show Y < 10 * b
        omega
      clear hY hx hQ hR
      go_wp2_with fail
      refine (cP _ NR).mono ?_
      rintro e w1 ⟨rfl, NY, G1, Z1⟩
      have NQ1 := NQ.grown G1 (by omega)
      have E1 := E.grown G1 (by omega)
      clear cP NR NQ E G1 Z1 cx
      go_wp2
      go_loopg [9] Y (fun z dv wr => OffRel w g k a N b Y Q z dv wr)
      case atStart => exact ⟨0, rfl, by omega, E1, NQ1, NY⟩
      case round =>
        clear NY NQ1 E1
        obtain ⟨d, rfl, hz, E, NQ, NZ⟩ := hrel
        have cC := fun W h1 h2 => implCompare (w.heap.size + 3) k gk b W h1 h2
        unfold AnsN at cC
        go_wp2_with fail
        refine (cC _ NZ E.fb).mono ?_
        rintro e w2 ⟨rfl, B2⟩
        have E2 := E.below B2
        have NQ2 := NQ.below B2 NQ.lt
        have NZ2 := NZ.below B2 NZ.lt
        clear cC E NQ NZ B2
        by_cases hl : gk < b
        · obtain ⟨e1, e2, hd10⟩ := HN.out d gk hz hl
          have hc : ¬ (0 : Int) ≤ cmpN gk b := by have := cmpN_neg.2 hl; omega
          have HE := Lib.hid (And.intro e1 e2)
          clear e1 e2 hz HN
          have cQ1 := fun W h => cQ W h d hd10
          clear cQ
          go_wp2_with fail
          refine (cQ1 _ NQ2).mono ?_
          rintro e w3 ⟨rfl, NQ3, G3, Z3⟩
          have NZ3 := NZ2.grown G3 (by omega)
          have E3 := E2.grown G3 (Nat.le_refl _)
          rw [HE.out.1] at NQ3
          rw [HE.out.2] at NZ3
          clear cQ1 NQ2 NZ2 E2 G3 Z3
          go_wp2
          go_roundg p
          case measure => omega
          case rel => exact ⟨by first | rfl | go_num, by omega, E3, NQ3, NZ3⟩
        · have hc : (0 : Int) ≤ cmpN gk b := by have := mt cmpN_neg.1 hl; omega
          have cS := implSubtract _ _ _ _ _ NZ2 E2.fb (by have := E2.kl; omega) (by omega)
          unfold Left at cS
          have hdb : d < 10 := by
            rcases Nat.lt_or_ge d 10 with h | h
            · exact h
            · have h1 : 10 * b ≤ d * b := Nat.mul_le_mul_right _ h
              have h2 := HYB.out
              omega
          have v1 := IntWalk.u8_in ((d : Int) + 1) ⟨by omega, by omega⟩
          have HZ := Lib.hid (show gk - b + (d + 1) * b = Y by rw [Nat.add_mul, Nat.one_mul]; omega)
          have HB0 := Lib.hid HB.out.1
          clear hz HN HYB
          clear cQ
          go_wp2_with fail
          refine cS.mono ?_
          rintro e w3 ⟨rfl, NZ3, G3, Z3⟩
          have NQ3 := NQ2.grown G3 (by omega)
          have E3 := E2.grown G3 (by omega)
          clear cS NZ2 NQ2 E2 G3 Z3
          go_wp2
          go_roundg (gk - b)
          case measure => have := HB0.out; omega
          case rel => exact ⟨d + 1, by first | rfl | go_num, HZ.out, E3, NQ3, NZ3⟩

end Go.Proofs.YthijeckcjfnbcaaGreatDoor
