/- spec.DecPow where the power is not negative. Condition: a valid decimal. -/
import Derived.Test.YtpkmhojcccpolabGreatDoorPwOf
import Derived.Test.YtpkmhojcccpolabGreatDoorPwTail
import Derived.Test.YtpkmhojcccpolabGreatDoorPwSpec
import Derived.Test.YtpkmhojcccpolabGreatDoorPwImpl
namespace Go.Proofs.YtpkmhojcccpolabGreatDoor
set_option linter.unusedVariables false
open Go.RowKit

theorem results_dc {fn : Func} {p u : Tmp} (h : fn.results = #[.cell p 25, .tmp u]) (tmps : Array Value) (w : World) {g : Nat} {n : Bool} {s : ByteArray} {e : Int} {x : Value}
    (hp : tmps.getD p undef = .pointer (some ⟨g, 0, none⟩)) (hu : tmps.getD u undef = x) (hg : DecAt w g n s e) : (results fn tmps).run Tryz.prog w = .ok (.tuple #[.agg (row3 n s e), x]) w := by
  have hl := run_loadVar_row (P := Tryz.prog) w g 25 25 (row3 n s e) (0, 0) _ hg Tryz.underlying25 rfl Tryz.sizeDec
  rw [results_cell_tmp h, hp, hu]
  simp [asAddr, Result.andThen, hl]
theorem specMulV {X Y : DecV} (hX : X.Ok) (hY : Y.Ok) (W : World) : Calls Tryz.prog 13 #[.agg (row3 X.neg X.bs X.exp), .agg (row3 Y.neg Y.bs Y.exp)] W (AnsDC (mulR X Y) W) := by
  have h1 := bs_size hX
  have h2 := bs_size hY
  have e1 := hX.exps
  have e2 := hY.exps
  exact specDecMul X.neg X.bs X.exp Y.neg Y.bs Y.exp W (by omega) (by omega) (by omega) (by omega) (by omega) (by omega)
theorem specDivV {X Y : DecV} (hX : X.Ok) (hY : Y.Ok) (W : World) : Calls Tryz.prog 11 #[.agg (row3 X.neg X.bs X.exp), .agg (row3 Y.neg Y.bs Y.exp)] W (AnsDC (divR X Y) W) := by
  have h1 := bs_size hX
  have h2 := bs_size hY
  have e1 := hX.exps
  have e2 := hY.exps
  exact specDecDiv X.neg X.bs X.exp Y.neg Y.bs Y.exp W (by omega) (by omega) (by omega) (by omega) (by omega) (by omega)
/-- An answer of decimal and code, its parts. -/
theorem ansDC_eq (p : DecV × Int) (w : World) : AnsDC p w = fun r w' => r = .returned (.tuple #[.agg (row3 p.1.neg p.1.bs p.1.exp), .int .i64 p.2]) ∧ Below w.heap.size w w' := rfl
theorem ansD_eq (d : DecV) (w : World) : AnsD d w = fun r w' => r = .returned (.agg (row3 d.neg d.bs d.exp)) ∧ Below w.heap.size w w' := rfl

/-- In the loop: the power so far, its code, the counter. -/
def PowRel (w : World) (n : Bool) (s : ByteArray) (e : Int) (a : DecV) (N g : Nat) (cv kv : Value) (wr : World) : Prop :=
  ∃ k : Nat, k ≤ N ∧ kv = .int .i64 k ∧ cv = .int .i64 (powN a k).2 ∧ DecAt wr g (powN a k).1.neg (powN a k).1.bs (powN a k).1.exp ∧ DecAt wr w.heap.size n s e ∧ DecAt wr (w.heap.size + 1) false ⟨#[]⟩ 0 ∧ Below w.heap.size w wr

set_option maxHeartbeats 4000000 in
set_option maxRecDepth 100000 in
theorem specPowPos (n : Bool) (s : ByteArray) (e : Int) (N : Nat) (M : Int) (w : World) (ok : (dOf n s e).Ok) (hN : N ≤ 99) (hM : M = (N : Int)) :
    Calls Tryz.prog 5 #[.agg #[.bool n, .string s, .int .i64 e], .int .i64 M] w (AnsDC (powN (dOf n s e) N) w) := by
  obtain ⟨d1, q1, x1, x2⟩ := ok_size ok
  have hs : s.size ≤ 1048576 := by omega
  have b1 : -9223372036854775808 ≤ e := by omega
  have b2 : e ≤ 9223372036854775807 := by omega
  have KA0 := (DecAt.new w n s e).alloc (.cells #[.bool false, .string ⟨#[]⟩, .int .i64 0] 25)
  have KR0 := DecAt.new (w.alloc (.cells #[.bool n, .string s, .int .i64 e] 25)) false ⟨#[]⟩ 0
  rw [show (w.alloc (.cells #[.bool n, .string s, .int .i64 e] 25)).heap.size = w.heap.size + 1 by simp] at KR0
  have B0 : Below w.heap.size w ((w.alloc (.cells #[.bool n, .string s, .int .i64 e] 25)).alloc (.cells #[.bool false, .string ⟨#[]⟩, .int .i64 0] 25)) := ((Below.refl _ _).alloc (Nat.le_refl _) _).alloc (by simp) _
  obtain ⟨a, ha⟩ : ∃ a, dOf n s e = a := ⟨_, rfl⟩
  have HA : Hid (a.Ok ∧ n = a.neg ∧ s = a.bs ∧ e = a.exp) := by rw [← ha]; exact ⟨ok, rfl, bs_of.symm, rfl⟩
  have cO := fun W => specDecOk n s e W hs b1 b2
  rw [ha] at cO ⊢
  have c1 := fun W => specDecOf 1 W (by omega) (by omega)
  rw [one_eq] at c1
  simp only [ansD_eq] at c1
  rw [ansDC_eq]
  clear ha d1 ok
  go_enter Tryz.func5, Tryz.ntmps5
  go_wp2_with fail
  refine (cO _).mono ?_
  intro r w1 hr
  obtain ⟨hb, B1⟩ := AnsB.get hr
  have L1 := held3 ⟨KA0, KR0, B0⟩ B1
  clear B1 hr B0 KA0 KR0 cO
  obtain ⟨KA, KR, D⟩ := L1
  rcases hb with ⟨rfl, hb⟩ | ⟨rfl, hb⟩
  · have hbt : decide ((-99 : Int) ≤ M ∧ M ≤ 99) = true := decide_eq_true (by omega)
    have hng : ¬ M < 0 := by omega
    have HM := Lib.hid hM
    clear hb hM
    go_wp2_with fail
    refine (betweenN _ _ _ _).mono ?_
    rintro r w2 ⟨rfl, rfl⟩
    go_wp2_with fail
    refine (c1 _).mono ?_
    rintro r w3 ⟨rfl, B3⟩
    have L3 := held3 ⟨KA, KR, D⟩ B3
    clear c1 B3 KA KR D
    have N3 := DecAt.new w3 false ⟨#[]⟩ 0
    have N4 : DecAt ((w3.alloc (.cells (row3 false ⟨#[]⟩ 0) 25)).setRow w3.heap.size (row3 oneD.neg oneD.bs oneD.exp)) w3.heap.size oneD.neg oneD.bs oneD.exp := N3.row
    have L4 := held3row (g := w3.heap.size) (row3 oneD.neg oneD.bs oneD.exp) (held3 L3 ((Below.refl _ _).alloc (Nat.le_refl _) (.cells (row3 false ⟨#[]⟩ 0) 25))) (Nat.ne_of_lt L3.1.lt) (Nat.ne_of_lt L3.2.1.lt) L3.2.2.size
    have hg0 : w.heap.size + 1 < w3.heap.size := L3.2.1.lt
    clear L3
    go_wp2_with (first | (with_reducible show wpList _ _ _ (⟨_, .store _ _ _, _, _, _, _⟩ :: _) _ _; first | refine store_dec w3.heap.size rfl rfl N3 ?_))
    clear N3
    generalize (w3.alloc (.cells (row3 false ⟨#[]⟩ 0) 25)).setRow w3.heap.size (row3 oneD.neg oneD.bs oneD.exp) = w4 at *
    generalize w3.heap.size = g at *
    go_loopw [9, 10] (fun cv kv wr => PowRel w n s e a N g cv kv wr) (fun _ kv _ => N - (intOf kv).toNat)
    case atStart => exact ⟨0, Nat.zero_le _, rfl, rfl, N4, L4.1, L4.2.1, L4.2.2⟩
    case round =>
      clear N4 L4
      obtain ⟨k, hk, rfl, rfl, NX, KA, KR, D⟩ := hrel
      have okX := pow_ok HA.out.1 k
      by_cases hlt : k < N
      · have hlti : (k : Int) < M := by have := HM.out; omega
        by_cases hc : (powN a k).2 = 0
        · have hcb : ((powN a k).2 == 0) = true := by rw [beq_iff_eq]; exact hc
          by_cases h0 : k = 0
          · subst h0
            have HS : Hid (powN a (0 + 1) = (a, 0)) := pow_one HA.out.1
            have NX2 : DecAt _ g n s e := NX.row (n' := n) (s' := s) (e' := e)
            have L2 := held3row (g := g) (row3 n s e) ⟨KA, KR, D⟩ (by omega) (by omega) (by omega)
            go_wp2_with (first | (with_reducible show wpList _ _ _ (⟨_, .load _ _, _, _, _, _⟩ :: _) _ _; first | refine load_dec w.heap.size rfl KA ?_) | (with_reducible show wpList _ _ _ (⟨_, .store _ _ _, _, _, _, _⟩ :: _) _ _; first | refine store_dec g rfl rfl NX ?_))
            go_roundw
            case rel =>
              refine ⟨0 + 1, hlt, by go_num, ?_, ?_, L2⟩
              · rw [HS.out]
              · rw [HS.out]
                dsimp only
                rw [← HA.out.2.1, ← HA.out.2.2.1, ← HA.out.2.2.2]
                exact NX2
            case measure => simp [intOf]; omega
          · have hk0 : ((k : Int) == 0) = false := by rw [beq_eq_false_iff_ne]; omega
            have HS : Hid (powN a (k + 1) = mulR (powN a k).1 a) := pow_step hc
            have cM := fun W => specMulV okX HA.out.1 W
            simp only [ansDC_eq] at cM
            rw [← HS.out, ← HA.out.2.1, ← HA.out.2.2.1, ← HA.out.2.2.2] at cM
            obtain ⟨X, hX⟩ : ∃ X, (powN a k).1 = X := ⟨_, rfl⟩
            obtain ⟨Y, hY⟩ : ∃ Y, powN a (k + 1) = Y := ⟨_, rfl⟩
            rw [hX, hY] at cM
            rw [hX] at NX
            have HY := Lib.hid hY
            clear hX hY okX HS
            go_wp2_with (first | (with_reducible show wpList _ _ _ (⟨_, .load _ _, _, _, _, _⟩ :: _) _ _; first | refine load_dec g rfl NX ?_ | refine load_dec w.heap.size rfl KA ?_))
            refine (cM _).mono ?_
            rintro r w5 ⟨rfl, B5⟩
            have NX5 := NX.belowS B5
            have L5 := held3 ⟨KA, KR, D⟩ B5
            have NX6 : DecAt (w5.setRow g (row3 Y.1.neg Y.1.bs Y.1.exp)) g Y.1.neg Y.1.bs Y.1.exp := NX5.row
            have L6 := held3row (g := g) (row3 Y.1.neg Y.1.bs Y.1.exp) L5 (by omega) (by omega) (by omega)
            clear cM B5 NX KA KR D L5
            go_wp2_with (first | (with_reducible show wpList _ _ _ (⟨_, .store _ _ _, _, _, _, _⟩ :: _) _ _; first | refine store_dec g rfl rfl NX5 ?_))
            go_roundw
            case rel => exact ⟨k + 1, hlt, by go_num, by rw [HY.out], by rw [HY.out]; exact NX6, L6⟩
            case measure => simp [intOf]; omega
        · have hcb : ((powN a k).2 == 0) = false := by rw [beq_eq_false_iff_ne]; exact hc
          have HS : Hid (powN a N = powN a k) := by
            have := pow_stuck hc (N - k)
            rwa [show k + (N - k) = N by omega] at this
          go_wp2_with (first | (with_reducible show wpList _ _ _ (⟨_, .load _ _, _, _, _, _⟩ :: _) _ _; first | refine load_dec g rfl NX ?_) | (with_reducible show wpList _ _ _ (⟨_, .store _ _ _, _, _, _, _⟩ :: _) _ _; first | refine store_dec (w.heap.size + 1) rfl rfl KR ?_))
          refine bodyPost_ret (results_dc rfl _ _ rfl rfl KR.row) rfl ⟨by rw [HS.out]; rfl, below_row3 D (Nat.le_succ _) _⟩
      · have hlti : ¬ (k : Int) < M := by have := HM.out; omega
        obtain rfl : k = N := by omega
        go_wp2_with (first | (with_reducible show wpList _ _ _ (⟨_, .load _ _, _, _, _, _⟩ :: _) _ _; first | refine load_dec g rfl NX ?_) | (with_reducible show wpList _ _ _ (⟨_, .store _ _ _, _, _, _, _⟩ :: _) _ _; first | refine store_dec (w.heap.size + 1) rfl rfl KR ?_))
        refine bodyPost_ret (results_dc rfl _ _ rfl rfl KR.row) rfl ⟨rfl, below_row3 D (Nat.le_succ _) _⟩
  · exact absurd HA.out.1 hb

end Go.Proofs.YtpkmhojcccpolabGreatDoor

/- spec.DecPow. Condition: at most 1048576 digits. -/
namespace Go.Proofs.YtpkmhojcccpolabGreatDoor
set_option linter.unusedVariables false
open Go.RowKit

set_option maxHeartbeats 4000000 in
set_option maxRecDepth 100000 in
theorem specDecPow (n : Bool) (s : ByteArray) (e : Int) (m : Int) (w : World) (hs : s.size ≤ 1048576) (b1 : -9223372036854775808 ≤ e) (b2 : e ≤ 9223372036854775807) :
    Calls Tryz.prog 5 #[.agg #[.bool n, .string s, .int .i64 e], .int .i64 m] w (AnsDC (powR (dOf n s e) m) w) := by
  obtain ⟨R, hR⟩ : ∃ R, powR (dOf n s e) m = R := ⟨_, rfl⟩
  by_cases ok : (dOf n s e).Ok
  · by_cases hm : -99 ≤ m ∧ m ≤ 99
    · by_cases hng : m < 0
      · rw [hR]
        unfold powR at hR
        rw [if_pos ⟨ok, hm⟩, if_pos hng] at hR
        obtain ⟨N, hN⟩ : ∃ N : Nat, m.natAbs = N := ⟨_, rfl⟩
        rw [hN] at hR
        have cP := fun W => specPowPos n s e N (-m) W ok (by omega) (by omega)
        have okX := pow_ok ok N
        have HC := Lib.hid (pow_code ok N)
        obtain ⟨X, hX⟩ : ∃ X, powN (dOf n s e) N = X := ⟨_, rfl⟩
        rw [hX] at hR cP okX HC
        simp only [ansDC_eq] at cP
        have cV := fun W => specDivV one_ok okX W
        simp only [ansDC_eq] at cV
        have c1 := fun W => specDecOf 1 W (by omega) (by omega)
        rw [one_eq] at c1
        simp only [ansD_eq] at c1
        have HR := Lib.hid hR
        have HO := Lib.hid ok
        have KA0 := (DecAt.new w n s e).alloc (.cells #[.bool false, .string ⟨#[]⟩, .int .i64 0] 25)
        have KR0 := DecAt.new (w.alloc (.cells #[.bool n, .string s, .int .i64 e] 25)) false ⟨#[]⟩ 0
        rw [show (w.alloc (.cells #[.bool n, .string s, .int .i64 e] 25)).heap.size = w.heap.size + 1 by simp] at KR0
        have B0 : Below w.heap.size w ((w.alloc (.cells #[.bool n, .string s, .int .i64 e] 25)).alloc (.cells #[.bool false, .string ⟨#[]⟩, .int .i64 0] 25)) := ((Below.refl _ _).alloc (Nat.le_refl _) _).alloc (by simp) _
        have cO := fun W => specDecOk n s e W hs b1 b2
        rw [ansDC_eq]
        obtain ⟨O, hO⟩ : ∃ O, oneD = O := ⟨_, rfl⟩
        rw [hO] at c1 cV
        have HONE := Lib.hid hO
        clear hR hX hN ok hO okX
        go_enter Tryz.func5, Tryz.ntmps5
        go_wp2_with fail
        refine (cO _).mono ?_
        intro r w1 hr
        obtain ⟨hb, B1⟩ := AnsB.get hr
        have L1 := held3 ⟨KA0, KR0, B0⟩ B1
        clear B1 hr B0 KA0 KR0 cO
        obtain ⟨KA, KR, D⟩ := L1
        rcases hb with ⟨rfl, hb⟩ | ⟨rfl, hb⟩
        · clear hb
          have hbt : decide ((-99 : Int) ≤ m ∧ m ≤ 99) = true := decide_eq_true hm
          go_wp2_with fail
          refine (betweenN _ _ _ _).mono ?_
          rintro r w2 ⟨rfl, rfl⟩
          go_wp2_with (first | (with_reducible show wpList _ _ _ (⟨_, .load _ _, _, _, _, _⟩ :: _) _ _; first | refine load_dec w.heap.size rfl KA ?_))
          refine (cP _).mono ?_
          rintro r w3 ⟨rfl, B3⟩
          have L3 := held3 ⟨KA, KR, D⟩ B3
          clear cP B3 KA KR D
          have N3 := DecAt.new w3 false ⟨#[]⟩ 0
          have N4 : DecAt ((w3.alloc (.cells (row3 false ⟨#[]⟩ 0) 25)).setRow w3.heap.size (row3 X.1.neg X.1.bs X.1.exp)) w3.heap.size X.1.neg X.1.bs X.1.exp := N3.row
          have L4 := held3row (g := w3.heap.size) (row3 X.1.neg X.1.bs X.1.exp) (held3 L3 ((Below.refl _ _).alloc (Nat.le_refl _) (.cells (row3 false ⟨#[]⟩ 0) 25))) (Nat.ne_of_lt L3.1.lt) (Nat.ne_of_lt L3.2.1.lt) L3.2.2.size
          have hg0 : w.heap.size + 1 < w3.heap.size := L3.2.1.lt
          clear L3
          obtain ⟨KA, KR, D⟩ := L4
          by_cases hc : X.2 = 0
          · have hcb : (X.2 == 0) = true := by rw [beq_iff_eq]; exact hc
            have HV : Hid (R = divR O X.1) := by show _ = _; rw [← HR.out, if_pos hc, HONE.out]
            rw [← HV.out] at cV
            clear HR HV HC
            go_wp2_with (first | (with_reducible show wpList _ _ _ (⟨_, .store _ _ _, _, _, _, _⟩ :: _) _ _; first | refine store_dec w3.heap.size rfl rfl N3 ?_))
            clear N3
            generalize (w3.alloc (.cells (row3 false ⟨#[]⟩ 0) 25)).setRow w3.heap.size (row3 X.1.neg X.1.bs X.1.exp) = w4 at *
            generalize w3.heap.size = g at *
            refine wp_region_kept 5 (fun w' => DecAt w' w.heap.size n s e ∧ DecAt w' (w.heap.size + 1) false ⟨#[]⟩ 0 ∧ DecAt w' g X.1.neg X.1.bs X.1.exp ∧ Below w.heap.size w w') (by kernel_rfl) (by kernel_rfl) (fun _ _ d _ _ h => by cases d <;> exact h) ⟨KA, KR, N4, D.drew⟩ ?_
            simp only [List.take_succ_cons, List.take_zero, List.drop_succ_cons, List.drop_zero]
            (refine kept_step (fun K hK => ?_); go_simp; refine ⟨_, fun W hW => .inr (.inr ⟨_, _, ?_, (c1 W).mono (fun r w' h => ⟨h.1, ⟨hW.1.belowS h.2, hW.2.1.belowS h.2, hW.2.2.1.belowS h.2, below_kept hW.2.2.2 (Nat.le_refl _) h.2⟩⟩)⟩), hK _ ?_⟩; (· first | (go_simp; done) | (go_simp; rfl)); clear hK K)
            (refine kept_step (fun K hK => ?_); go_simp; refine ⟨_, fun W hW => .inl (by obtain ⟨h0, h1, h2⟩ := hW.2.2.1.cell; go_simp; exact rfl), hK _ ?_⟩; clear hK K)
            (refine kept_step (fun K hK => ?_); go_simp; refine ⟨_, fun W hW => .inr (.inr ⟨_, _, ?_, (cV W).mono (fun r w' h => ⟨h.1, ⟨hW.1.belowS h.2, hW.2.1.belowS h.2, hW.2.2.1.belowS h.2, below_kept hW.2.2.2 (Nat.le_refl _) h.2⟩⟩)⟩), hK _ ?_⟩; (· first | (go_simp; done) | (go_simp; rfl)); clear hK K)
            (refine kept_step (fun K hK => ?_); go_simp; refine ⟨_, fun W hW => .inl (by go_simp; exact rfl), hK _ ?_⟩; clear hK K)
            (refine kept_step (fun K hK => ?_); go_simp; refine ⟨_, fun W hW => .inl (by go_simp; exact rfl), hK _ ?_⟩; clear hK K)
            refine kept_nil ?_
            rintro W ⟨h0, h1, h2, h3⟩
            clear KA KR D N4 c1 cV
            go_wp2_with (first | (with_reducible show wpList _ _ _ (⟨_, .store _ _ _, _, _, _, _⟩ :: _) _ _; first | refine store_dec (w.heap.size + 1) rfl rfl h1 ?_))
            exact bodyPost_ret (results_dc rfl _ _ rfl rfl h1.row) rfl ⟨rfl, below_row3 h3 (Nat.le_succ _) _⟩
          · have hcb : (X.2 == 0) = false := by rw [beq_eq_false_iff_ne]; exact hc
            have HV : Hid (R = (DecV.zero, X.2)) := by show _ = _; rw [← HR.out, if_neg hc]
            clear HR HC c1 cV
            go_wp2_with (first | (with_reducible show wpList _ _ _ (⟨_, .store _ _ _, _, _, _, _⟩ :: _) _ _; first | refine store_dec w3.heap.size rfl rfl N3 ?_ | refine store_dec (w.heap.size + 1) rfl rfl KR ?_))
            refine bodyPost_ret (results_dc rfl _ _ rfl rfl KR.row) rfl ⟨?_, below_row3 D (Nat.le_succ _) _⟩
            rw [HV.out]; rfl
        · exact absurd HO.out hb
      · rw [show powR (dOf n s e) m = powN (dOf n s e) m.natAbs by unfold powR; rw [if_pos ⟨ok, hm⟩, if_neg hng]]
        exact specPowPos n s e m.natAbs m w ok (by omega) (by omega)
    · rw [hR]
      have HV : Hid (R = (DecV.zero, 3)) := by show _ = _; rw [← hR]; unfold powR; rw [if_neg (fun h => hm h.2)]
      have HO := Lib.hid ok
      have hbt : decide ((-99 : Int) ≤ m ∧ m ≤ 99) = false := decide_eq_false hm
      clear hR ok hm
      have KA0 := (DecAt.new w n s e).alloc (.cells #[.bool false, .string ⟨#[]⟩, .int .i64 0] 25)
      have KR0 := DecAt.new (w.alloc (.cells #[.bool n, .string s, .int .i64 e] 25)) false ⟨#[]⟩ 0
      rw [show (w.alloc (.cells #[.bool n, .string s, .int .i64 e] 25)).heap.size = w.heap.size + 1 by simp] at KR0
      have B0 : Below w.heap.size w ((w.alloc (.cells #[.bool n, .string s, .int .i64 e] 25)).alloc (.cells #[.bool false, .string ⟨#[]⟩, .int .i64 0] 25)) := ((Below.refl _ _).alloc (Nat.le_refl _) _).alloc (by simp) _
      have cO := fun W => specDecOk n s e W hs b1 b2
      go_enter Tryz.func5, Tryz.ntmps5
      go_wp2_with fail
      refine (cO _).mono ?_
      intro r w1 hr
      obtain ⟨hb, B1⟩ := AnsB.get hr
      have L1 := held3 ⟨KA0, KR0, B0⟩ B1
      clear B1 hr B0 KA0 KR0 cO
      obtain ⟨KA, KR, D⟩ := L1
      rcases hb with ⟨rfl, hb⟩ | ⟨rfl, hb⟩
      · clear hb
        go_wp2_with fail
        refine (betweenN _ _ _ _).mono ?_
        rintro r w2 ⟨rfl, rfl⟩
        go_wp2_with (first | (with_reducible show wpList _ _ _ (⟨_, .store _ _ _, _, _, _, _⟩ :: _) _ _; first | refine store_dec (w.heap.size + 1) rfl rfl KR ?_))
        refine bodyPost_ret (results_dc rfl _ _ rfl rfl KR.row) rfl ⟨?_, below_row3 D (Nat.le_succ _) _⟩
        rw [HV.out]; rfl
      · exact absurd HO.out hb
  · rw [hR]
    have HV : Hid (R = (DecV.zero, 3)) := by show _ = _; rw [← hR]; unfold powR; rw [if_neg (fun h => ok h.1)]
    have HO := Lib.hid ok
    clear hR ok
    have KA0 := (DecAt.new w n s e).alloc (.cells #[.bool false, .string ⟨#[]⟩, .int .i64 0] 25)
    have KR0 := DecAt.new (w.alloc (.cells #[.bool n, .string s, .int .i64 e] 25)) false ⟨#[]⟩ 0
    rw [show (w.alloc (.cells #[.bool n, .string s, .int .i64 e] 25)).heap.size = w.heap.size + 1 by simp] at KR0
    have B0 : Below w.heap.size w ((w.alloc (.cells #[.bool n, .string s, .int .i64 e] 25)).alloc (.cells #[.bool false, .string ⟨#[]⟩, .int .i64 0] 25)) := ((Below.refl _ _).alloc (Nat.le_refl _) _).alloc (by simp) _
    have cO := fun W => specDecOk n s e W hs b1 b2
    go_enter Tryz.func5, Tryz.ntmps5
    go_wp2_with fail
    refine (cO _).mono ?_
    intro r w1 hr
    obtain ⟨hb, B1⟩ := AnsB.get hr
    have L1 := held3 ⟨KA0, KR0, B0⟩ B1
    clear B1 hr B0 KA0 KR0 cO
    obtain ⟨KA, KR, D⟩ := L1
    rcases hb with ⟨rfl, hb⟩ | ⟨rfl, hb⟩
    · exact absurd hb HO.out
    · clear hb
      go_wp2_with (first | (with_reducible show wpList _ _ _ (⟨_, .store _ _ _, _, _, _, _⟩ :: _) _ _; first | refine store_dec (w.heap.size + 1) rfl rfl KR ?_))
      refine bodyPost_ret (results_dc rfl _ _ rfl rfl KR.row) rfl ⟨?_, below_row3 D (Nat.le_succ _) _⟩
      rw [HV.out]; rfl

end Go.Proofs.YtpkmhojcccpolabGreatDoor

/- impl.DecPow. Condition: at most 1048576 digits. -/
namespace Go.Proofs.YtpkmhojcccpolabGreatDoor
set_option linter.unusedVariables false
open Go.RowKit

theorem implMulV {X Y : DecV} (hX : X.Ok) (hY : Y.Ok) (W : World) : Calls Tryz.prog 17 #[.agg (row3 X.neg X.bs X.exp), .agg (row3 Y.neg Y.bs Y.exp)] W (AnsDC (mulR X Y) W) := by
  have h1 := bs_size hX
  have h2 := bs_size hY
  have e1 := hX.exps
  have e2 := hY.exps
  exact implDecMul X.neg X.bs X.exp Y.neg Y.bs Y.exp W (by omega) (by omega) (by omega) (by omega) (by omega) (by omega)
theorem implDivV {X Y : DecV} (hX : X.Ok) (hY : Y.Ok) (W : World) : Calls Tryz.prog 16 #[.agg (row3 X.neg X.bs X.exp), .agg (row3 Y.neg Y.bs Y.exp)] W (AnsDC (divR X Y) W) := by
  have h1 := bs_size hX
  have h2 := bs_size hY
  have e1 := hX.exps
  have e2 := hY.exps
  exact implDecDiv X.neg X.bs X.exp Y.neg Y.bs Y.exp W (by omega) (by omega) (by omega) (by omega) (by omega) (by omega)
theorem implOne (W : World) : Calls Tryz.prog 15 #[.int .i64 1] W fun r w' => r = .returned (.agg (row3 oneD.neg oneD.bs oneD.exp)) ∧ Below W.heap.size W w' := by
  have := implDecOf 1 W (by omega) (by omega) ⟨(Lib.itoa 1).toArray⟩ rfl (fun V _ => by
    refine (Tryz.strconv_Itoa_small 1 (by omega) V).mono ?_
    intro r w' h
    obtain ⟨h1, h2⟩ := h
    subst h2
    exact ⟨h1, Below.refl _ _⟩)
  rw [one_eq] at this
  exact this

/-- In the loop: the power so far, the counter. -/
def PowRelI (w : World) (n : Bool) (s : ByteArray) (e : Int) (a : DecV) (N g : Nat) (kv : Value) (wr : World) : Prop :=
  ∃ k : Nat, k ≤ N ∧ kv = .int .i64 k ∧ (powN a k).2 = 0 ∧ DecAt wr g (powN a k).1.neg (powN a k).1.bs (powN a k).1.exp ∧ DecAt wr w.heap.size n s e ∧ DecAt wr (w.heap.size + 1) false ⟨#[]⟩ 0 ∧ Below w.heap.size w wr

set_option maxHeartbeats 4000000 in
set_option maxRecDepth 100000 in
theorem implPowPos (n : Bool) (s : ByteArray) (e : Int) (N : Nat) (M : Int) (w : World) (ok : (dOf n s e).Ok) (hN : N ≤ 99) (hM : M = (N : Int)) :
    Calls Tryz.prog 7 #[.agg #[.bool n, .string s, .int .i64 e], .int .i64 M] w (AnsDC (powN (dOf n s e) N) w) := by
  obtain ⟨d1, q1, x1, x2⟩ := ok_size ok
  have hs : s.size ≤ 1048576 := by omega
  have b1 : -9223372036854775808 ≤ e := by omega
  have b2 : e ≤ 9223372036854775807 := by omega
  have KA0 := (DecAt.new w n s e).alloc (.cells #[.bool false, .string ⟨#[]⟩, .int .i64 0] 25)
  have KR0 := DecAt.new (w.alloc (.cells #[.bool n, .string s, .int .i64 e] 25)) false ⟨#[]⟩ 0
  rw [show (w.alloc (.cells #[.bool n, .string s, .int .i64 e] 25)).heap.size = w.heap.size + 1 by simp] at KR0
  have B0 : Below w.heap.size w ((w.alloc (.cells #[.bool n, .string s, .int .i64 e] 25)).alloc (.cells #[.bool false, .string ⟨#[]⟩, .int .i64 0] 25)) := ((Below.refl _ _).alloc (Nat.le_refl _) _).alloc (by simp) _
  obtain ⟨a, ha⟩ : ∃ a, dOf n s e = a := ⟨_, rfl⟩
  have HA : Hid (a.Ok ∧ n = a.neg ∧ s = a.bs ∧ e = a.exp) := by rw [← ha]; exact ⟨ok, rfl, bs_of.symm, rfl⟩
  have cO := fun W => implDecOk n s e W hs b1 b2
  rw [ha] at cO ⊢
  have c1 := fun W => implOne W
  obtain ⟨O, hO⟩ : ∃ O, oneD = O := ⟨_, rfl⟩
  rw [hO] at c1
  have HONE := Lib.hid hO
  rw [ansDC_eq]
  clear ha d1 ok hO
  go_enter Tryz.func7, Tryz.ntmps7
  go_wp2_with fail
  refine (cO _).mono ?_
  intro r w1 hr
  obtain ⟨hb, B1⟩ := AnsB.get hr
  have L1 := held3 ⟨KA0, KR0, B0⟩ B1
  clear B1 hr B0 KA0 KR0 cO
  obtain ⟨KA, KR, D⟩ := L1
  rcases hb with ⟨rfl, hb⟩ | ⟨rfl, hb⟩
  · have hm1 : ¬ M < -99 := by omega
    have hm2 : ¬ 99 < M := by omega
    have hng : ¬ M < 0 := by omega
    have HM := Lib.hid hM
    clear hb hM
    go_wp2_with fail
    refine (c1 _).mono ?_
    rintro r w3 ⟨rfl, B3⟩
    have L3 := held3 ⟨KA, KR, D⟩ B3
    clear c1 B3 KA KR D
    have N3 := DecAt.new w3 false ⟨#[]⟩ 0
    have N4 : DecAt ((w3.alloc (.cells (row3 false ⟨#[]⟩ 0) 25)).setRow w3.heap.size (row3 O.neg O.bs O.exp)) w3.heap.size O.neg O.bs O.exp := N3.row
    have L4 := held3row (g := w3.heap.size) (row3 O.neg O.bs O.exp) (held3 L3 ((Below.refl _ _).alloc (Nat.le_refl _) (.cells (row3 false ⟨#[]⟩ 0) 25))) (Nat.ne_of_lt L3.1.lt) (Nat.ne_of_lt L3.2.1.lt) L3.2.2.size
    have hg0 : w.heap.size + 1 < w3.heap.size := L3.2.1.lt
    clear L3
    have N5 := DecAt.new ((w3.alloc (.cells (row3 false ⟨#[]⟩ 0) 25)).setRow w3.heap.size (row3 O.neg O.bs O.exp)) false ⟨#[]⟩ 0
    rw [show ((w3.alloc (.cells (row3 false ⟨#[]⟩ 0) 25)).setRow w3.heap.size (row3 O.neg O.bs O.exp)).heap.size = w3.heap.size + 1 by simp] at N5
    have N6 : DecAt ((((w3.alloc (.cells (row3 false ⟨#[]⟩ 0) 25)).setRow w3.heap.size (row3 O.neg O.bs O.exp)).alloc (.cells (row3 false ⟨#[]⟩ 0) 25)).setRow (w3.heap.size + 1) (row3 O.neg O.bs O.exp)) (w3.heap.size + 1) O.neg O.bs O.exp := N5.row
    have L6 := held3row (g := w3.heap.size + 1) (row3 O.neg O.bs O.exp) (held3 L4 ((Below.refl _ _).alloc (Nat.le_refl _) (.cells (row3 false ⟨#[]⟩ 0) 25))) (by omega) (by omega) (by omega)
    have hg1 : w.heap.size + 1 < w3.heap.size + 1 := by omega
    clear L4
    go_wp2_with (first | (with_reducible show wpList _ _ _ (⟨_, .load _ _, _, _, _, _⟩ :: _) _ _; first | refine load_dec w3.heap.size rfl N4 ?_) | (with_reducible show wpList _ _ _ (⟨_, .store _ _ _, _, _, _, _⟩ :: _) _ _; first | refine store_dec w3.heap.size rfl rfl N3 ?_ | refine store_dec (w3.heap.size + 1) rfl rfl N5 ?_))
    clear N3 N4 N5 hg0
    generalize (((w3.alloc (.cells (row3 false ⟨#[]⟩ 0) 25)).setRow w3.heap.size (row3 O.neg O.bs O.exp)).alloc (.cells (row3 false ⟨#[]⟩ 0) 25)).setRow (w3.heap.size + 1) (row3 O.neg O.bs O.exp) = w6 at *
    generalize w3.heap.size + 1 = g at *
    go_loopw [45] (fun kv wr => PowRelI w n s e a N g kv wr) (fun kv _ => N - (intOf kv).toNat)
    case atStart => exact ⟨0, Nat.zero_le _, rfl, rfl, by have := N6; rw [← HONE.out] at this; exact this, L6.1, L6.2.1, L6.2.2⟩
    case round =>
      clear N6 L6
      obtain ⟨k, hk, rfl, hc, NX, KA, KR, D⟩ := hrel
      have okX := pow_ok HA.out.1 k
      by_cases hlt : k < N
      · have hlti : (k : Int) < M := by have := HM.out; omega
        have HS : Hid (powN a (k + 1) = mulR (powN a k).1 a) := pow_step hc
        have cM := fun W => implMulV okX HA.out.1 W
        simp only [ansDC_eq] at cM
        rw [← HS.out, ← HA.out.2.1, ← HA.out.2.2.1, ← HA.out.2.2.2] at cM
        have HC := Lib.hid (pow_code HA.out.1 (k + 1))
        have HT : Hid ((powN a (k + 1)).2 ≠ 0 → powN a N = powN a (k + 1)) := fun h => by
          have := pow_stuck h (N - (k + 1))
          rwa [show k + 1 + (N - (k + 1)) = N by omega] at this
        obtain ⟨X, hX⟩ : ∃ X, (powN a k).1 = X := ⟨_, rfl⟩
        obtain ⟨Y, hY⟩ : ∃ Y, powN a (k + 1) = Y := ⟨_, rfl⟩
        rw [hX, hY] at cM
        rw [hY] at HC HT
        rw [hX] at NX
        have HY := Lib.hid hY
        clear hX hY okX HS hc
        go_wp2_with (first | (with_reducible show wpList _ _ _ (⟨_, .load _ _, _, _, _, _⟩ :: _) _ _; first | refine load_dec g rfl NX ?_ | refine load_dec w.heap.size rfl KA ?_))
        refine (cM _).mono ?_
        rintro r w5 ⟨rfl, B5⟩
        have NX5 := NX.belowS B5
        have L5 := held3 ⟨KA, KR, D⟩ B5
        have P5 := DecAt.new w5 false ⟨#[]⟩ 0
        have P6 : DecAt ((w5.alloc (.cells (row3 false ⟨#[]⟩ 0) 25)).setRow w5.heap.size (row3 Y.1.neg Y.1.bs Y.1.exp)) w5.heap.size Y.1.neg Y.1.bs Y.1.exp := P5.row
        have L6 := held3row (g := w5.heap.size) (row3 Y.1.neg Y.1.bs Y.1.exp) (held3 L5 ((Below.refl _ _).alloc (Nat.le_refl _) (.cells (row3 false ⟨#[]⟩ 0) 25))) (Nat.ne_of_lt L5.1.lt) (Nat.ne_of_lt L5.2.1.lt) L5.2.2.size
        have NX6 : DecAt ((w5.alloc (.cells (row3 false ⟨#[]⟩ 0) 25)).setRow w5.heap.size (row3 Y.1.neg Y.1.bs Y.1.exp)) g X.neg X.bs X.exp := (NX5.alloc _).rowO (Nat.ne_of_lt NX5.lt) _
        clear cM B5 NX KA KR D L5 NX5
        by_cases hcy : Y.2 = 0
        · have hcb : (Y.2 == 0) = true := by rw [beq_iff_eq]; exact hcy
          have NX7 : DecAt (((w5.alloc (.cells (row3 false ⟨#[]⟩ 0) 25)).setRow w5.heap.size (row3 Y.1.neg Y.1.bs Y.1.exp)).setRow g (row3 Y.1.neg Y.1.bs Y.1.exp)) g Y.1.neg Y.1.bs Y.1.exp := NX6.row
          have L7 := held3row (g := g) (row3 Y.1.neg Y.1.bs Y.1.exp) L6 (by omega) (by omega) (by omega)
          clear HC HT
          go_wp2_with (first | (with_reducible show wpList _ _ _ (⟨_, .load _ _, _, _, _, _⟩ :: _) _ _; first | refine load_dec w5.heap.size rfl P6 ?_) | (with_reducible show wpList _ _ _ (⟨_, .store _ _ _, _, _, _, _⟩ :: _) _ _; first | refine store_dec w5.heap.size rfl rfl P5 ?_ | refine store_dec g rfl rfl NX6 ?_))
          go_roundw
          case rel => exact ⟨k + 1, hlt, by go_num, by rw [HY.out]; exact hcy, by rw [HY.out]; exact NX7, L7⟩
          case measure => simp [intOf]; omega
        · have hcb : (Y.2 == 0) = false := by rw [beq_eq_false_iff_ne]; exact hcy
          have HV : Hid (powN a N = (DecV.zero, Y.2)) := by
            show _ = _
            rw [HT.out hcy]
            rcases HC.out with h | h
            · exact absurd h hcy
            · rw [h]
          obtain ⟨KA, KR, D⟩ := L6
          go_wp2_with (first | (with_reducible show wpList _ _ _ (⟨_, .store _ _ _, _, _, _, _⟩ :: _) _ _; first | refine store_dec w5.heap.size rfl rfl P5 ?_ | refine store_dec (w.heap.size + 1) rfl rfl KR ?_))
          refine bodyPost_ret (results_dc rfl _ _ rfl rfl KR.row) rfl ⟨?_, below_row3 D (Nat.le_succ _) _⟩
          rw [HV.out]; rfl
      · have hlti : ¬ (k : Int) < M := by have := HM.out; omega
        obtain rfl : k = N := by omega
        go_wp2_with (first | (with_reducible show wpList _ _ _ (⟨_, .load _ _, _, _, _, _⟩ :: _) _ _; first | refine load_dec g rfl NX ?_) | (with_reducible show wpList _ _ _ (⟨_, .store _ _ _, _, _, _, _⟩ :: _) _ _; first | refine store_dec (w.heap.size + 1) rfl rfl KR ?_))
        refine bodyPost_ret (results_dc rfl _ _ rfl rfl KR.row) rfl ⟨?_, below_row3 D (Nat.le_succ _) _⟩
        rfl
  · exact absurd HA.out.1 hb

set_option maxHeartbeats 4000000 in
set_option maxRecDepth 100000 in
theorem implDecPow (n : Bool) (s : ByteArray) (e : Int) (m : Int) (w : World) (hs : s.size ≤ 1048576) (b1 : -9223372036854775808 ≤ e) (b2 : e ≤ 9223372036854775807) :
    Calls Tryz.prog 7 #[.agg #[.bool n, .string s, .int .i64 e], .int .i64 m] w (AnsDC (powR (dOf n s e) m) w) := by
  obtain ⟨R, hR⟩ : ∃ R, powR (dOf n s e) m = R := ⟨_, rfl⟩
  by_cases ok : (dOf n s e).Ok
  · by_cases hm : -99 ≤ m ∧ m ≤ 99
    · by_cases hng : m < 0
      · rw [hR]
        unfold powR at hR
        rw [if_pos ⟨ok, hm⟩, if_pos hng] at hR
        obtain ⟨N, hN⟩ : ∃ N : Nat, m.natAbs = N := ⟨_, rfl⟩
        rw [hN] at hR
        have cP := fun W => implPowPos n s e N (-m) W ok (by omega) (by omega)
        have okX := pow_ok ok N
        have HC := Lib.hid (pow_code ok N)
        obtain ⟨X, hX⟩ : ∃ X, powN (dOf n s e) N = X := ⟨_, rfl⟩
        rw [hX] at hR cP okX HC
        simp only [ansDC_eq] at cP
        have cV := fun W => implDivV one_ok okX W
        simp only [ansDC_eq] at cV
        have c1 := fun W => implOne W
        have HR := Lib.hid hR
        have HO := Lib.hid ok
        have KA0 := (DecAt.new w n s e).alloc (.cells #[.bool false, .string ⟨#[]⟩, .int .i64 0] 25)
        have KR0 := DecAt.new (w.alloc (.cells #[.bool n, .string s, .int .i64 e] 25)) false ⟨#[]⟩ 0
        rw [show (w.alloc (.cells #[.bool n, .string s, .int .i64 e] 25)).heap.size = w.heap.size + 1 by simp] at KR0
        have B0 : Below w.heap.size w ((w.alloc (.cells #[.bool n, .string s, .int .i64 e] 25)).alloc (.cells #[.bool false, .string ⟨#[]⟩, .int .i64 0] 25)) := ((Below.refl _ _).alloc (Nat.le_refl _) _).alloc (by simp) _
        have cO := fun W => implDecOk n s e W hs b1 b2
        rw [ansDC_eq]
        obtain ⟨O, hO⟩ : ∃ O, oneD = O := ⟨_, rfl⟩
        rw [hO] at c1 cV
        have HONE := Lib.hid hO
        have hm1 : ¬ m < -99 := by omega
        have hm2 : ¬ 99 < m := by omega
        clear hR hX hN ok hO okX hm
        go_enter Tryz.func7, Tryz.ntmps7
        go_wp2_with fail
        refine (cO _).mono ?_
        intro r w1 hr
        obtain ⟨hb, B1⟩ := AnsB.get hr
        have L1 := held3 ⟨KA0, KR0, B0⟩ B1
        clear B1 hr B0 KA0 KR0 cO
        obtain ⟨KA, KR, D⟩ := L1
        rcases hb with ⟨rfl, hb⟩ | ⟨rfl, hb⟩
        · clear hb
          go_wp2_with fail
          refine (c1 _).mono ?_
          rintro r w3 ⟨rfl, B3⟩
          have L3 := held3 ⟨KA, KR, D⟩ B3
          clear c1 B3 KA KR D
          have N3 := DecAt.new w3 false ⟨#[]⟩ 0
          have N4 : DecAt ((w3.alloc (.cells (row3 false ⟨#[]⟩ 0) 25)).setRow w3.heap.size (row3 O.neg O.bs O.exp)) w3.heap.size O.neg O.bs O.exp := N3.row
          have L4 := held3row (g := w3.heap.size) (row3 O.neg O.bs O.exp) (held3 L3 ((Below.refl _ _).alloc (Nat.le_refl _) (.cells (row3 false ⟨#[]⟩ 0) 25))) (Nat.ne_of_lt L3.1.lt) (Nat.ne_of_lt L3.2.1.lt) L3.2.2.size
          have hg0 : w.heap.size + 1 < w3.heap.size := L3.2.1.lt
          clear L3
          go_wp2_with (first | (with_reducible show wpList _ _ _ (⟨_, .load _ _, _, _, _, _⟩ :: _) _ _; first | refine load_dec w.heap.size rfl L4.1 ?_) | (with_reducible show wpList _ _ _ (⟨_, .store _ _ _, _, _, _, _⟩ :: _) _ _; first | refine store_dec w3.heap.size rfl rfl N3 ?_))
          clear N3
          generalize (w3.alloc (.cells (row3 false ⟨#[]⟩ 0) 25)).setRow w3.heap.size (row3 O.neg O.bs O.exp) = w4 at *
          generalize w3.heap.size = g1 at *
          obtain ⟨KA, KR, D⟩ := L4
          refine (cP _).mono ?_
          rintro r w5 ⟨rfl, B5⟩
          have N5 := N4.belowS B5
          have L5 := held3 ⟨KA, KR, D⟩ B5
          clear cP B5 KA KR D N4
          have P5 := DecAt.new w5 false ⟨#[]⟩ 0
          have P6 : DecAt ((w5.alloc (.cells (row3 false ⟨#[]⟩ 0) 25)).setRow w5.heap.size (row3 X.1.neg X.1.bs X.1.exp)) w5.heap.size X.1.neg X.1.bs X.1.exp := P5.row
          have N6 : DecAt ((w5.alloc (.cells (row3 false ⟨#[]⟩ 0) 25)).setRow w5.heap.size (row3 X.1.neg X.1.bs X.1.exp)) g1 O.neg O.bs O.exp := (N5.alloc _).rowO (Nat.ne_of_lt N5.lt) _
          have L6 := held3row (g := w5.heap.size) (row3 X.1.neg X.1.bs X.1.exp) (held3 L5 ((Below.refl _ _).alloc (Nat.le_refl _) (.cells (row3 false ⟨#[]⟩ 0) 25))) (Nat.ne_of_lt L5.1.lt) (Nat.ne_of_lt L5.2.1.lt) L5.2.2.size
          clear L5 N5
          obtain ⟨KA, KR, D⟩ := L6
          by_cases hc : X.2 = 0
          · have hcb : (X.2 == 0) = true := by rw [beq_iff_eq]; exact hc
            have HV : Hid (R = divR O X.1) := by show _ = _; rw [← HR.out, if_pos hc, HONE.out]
            rw [← HV.out] at cV
            clear HR HV HC
            go_wp2_with (first | (with_reducible show wpList _ _ _ (⟨_, .load _ _, _, _, _, _⟩ :: _) _ _; first | refine load_dec g1 rfl N6 ?_ | refine load_dec w5.heap.size rfl P6 ?_) | (with_reducible show wpList _ _ _ (⟨_, .store _ _ _, _, _, _, _⟩ :: _) _ _; first | refine store_dec w5.heap.size rfl rfl P5 ?_))
            refine (cV _).mono ?_
            rintro r w7 ⟨rfl, B7⟩
            have L7 := held3 ⟨KA, KR, D⟩ B7
            clear cV B7 KA KR D N6 P6 P5
            obtain ⟨KA, KR, D⟩ := L7
            go_wp2_with (first | (with_reducible show wpList _ _ _ (⟨_, .store _ _ _, _, _, _, _⟩ :: _) _ _; first | refine store_dec (w.heap.size + 1) rfl rfl KR ?_))
            exact bodyPost_ret (results_dc rfl _ _ rfl rfl KR.row) rfl ⟨rfl, below_row3 D (Nat.le_succ _) _⟩
          · have hcb : (X.2 == 0) = false := by rw [beq_eq_false_iff_ne]; exact hc
            have HV : Hid (R = (DecV.zero, X.2)) := by show _ = _; rw [← HR.out, if_neg hc]
            clear HR HC cV
            go_wp2_with (first | (with_reducible show wpList _ _ _ (⟨_, .store _ _ _, _, _, _, _⟩ :: _) _ _; first | refine store_dec w5.heap.size rfl rfl P5 ?_ | refine store_dec (w.heap.size + 1) rfl rfl KR ?_))
            refine bodyPost_ret (results_dc rfl _ _ rfl rfl KR.row) rfl ⟨?_, below_row3 D (Nat.le_succ _) _⟩
            rw [HV.out]; rfl
        · exact absurd HO.out hb
      · rw [show powR (dOf n s e) m = powN (dOf n s e) m.natAbs by unfold powR; rw [if_pos ⟨ok, hm⟩, if_neg hng]]
        exact implPowPos n s e m.natAbs m w ok (by omega) (by omega)
    · rw [hR]
      have HV : Hid (R = (DecV.zero, 3)) := by show _ = _; rw [← hR]; unfold powR; rw [if_neg (fun h => hm h.2)]
      have HO := Lib.hid ok
      clear hR ok
      have KA0 := (DecAt.new w n s e).alloc (.cells #[.bool false, .string ⟨#[]⟩, .int .i64 0] 25)
      have KR0 := DecAt.new (w.alloc (.cells #[.bool n, .string s, .int .i64 e] 25)) false ⟨#[]⟩ 0
      rw [show (w.alloc (.cells #[.bool n, .string s, .int .i64 e] 25)).heap.size = w.heap.size + 1 by simp] at KR0
      have B0 : Below w.heap.size w ((w.alloc (.cells #[.bool n, .string s, .int .i64 e] 25)).alloc (.cells #[.bool false, .string ⟨#[]⟩, .int .i64 0] 25)) := ((Below.refl _ _).alloc (Nat.le_refl _) _).alloc (by simp) _
      have cO := fun W => implDecOk n s e W hs b1 b2
      by_cases hm1 : m < -99
      · clear hm
        go_enter Tryz.func7, Tryz.ntmps7
        go_wp2_with fail
        refine (cO _).mono ?_
        intro r w1 hr
        obtain ⟨hb, B1⟩ := AnsB.get hr
        have L1 := held3 ⟨KA0, KR0, B0⟩ B1
        clear B1 hr B0 KA0 KR0 cO
        obtain ⟨KA, KR, D⟩ := L1
        rcases hb with ⟨rfl, hb⟩ | ⟨rfl, hb⟩
        · clear hb
          go_wp2_with (first | (with_reducible show wpList _ _ _ (⟨_, .store _ _ _, _, _, _, _⟩ :: _) _ _; first | refine store_dec (w.heap.size + 1) rfl rfl KR ?_))
          refine bodyPost_ret (results_dc rfl _ _ rfl rfl KR.row) rfl ⟨?_, below_row3 D (Nat.le_succ _) _⟩
          rw [HV.out]; rfl
        · exact absurd HO.out hb
      · have hm2 : 99 < m := by omega
        clear hm
        go_enter Tryz.func7, Tryz.ntmps7
        go_wp2_with fail
        refine (cO _).mono ?_
        intro r w1 hr
        obtain ⟨hb, B1⟩ := AnsB.get hr
        have L1 := held3 ⟨KA0, KR0, B0⟩ B1
        clear B1 hr B0 KA0 KR0 cO
        obtain ⟨KA, KR, D⟩ := L1
        rcases hb with ⟨rfl, hb⟩ | ⟨rfl, hb⟩
        · clear hb
          go_wp2_with (first | (with_reducible show wpList _ _ _ (⟨_, .store _ _ _, _, _, _, _⟩ :: _) _ _; first | refine store_dec (w.heap.size + 1) rfl rfl KR ?_))
          refine bodyPost_ret (results_dc rfl _ _ rfl rfl KR.row) rfl ⟨?_, below_row3 D (Nat.le_succ _) _⟩
          rw [HV.out]; rfl
        · exact absurd HO.out hb
  · rw [hR]
    have HV : Hid (R = (DecV.zero, 3)) := by show _ = _; rw [← hR]; unfold powR; rw [if_neg (fun h => ok h.1)]
    have HO := Lib.hid ok
    clear hR ok
    have KA0 := (DecAt.new w n s e).alloc (.cells #[.bool false, .string ⟨#[]⟩, .int .i64 0] 25)
    have KR0 := DecAt.new (w.alloc (.cells #[.bool n, .string s, .int .i64 e] 25)) false ⟨#[]⟩ 0
    rw [show (w.alloc (.cells #[.bool n, .string s, .int .i64 e] 25)).heap.size = w.heap.size + 1 by simp] at KR0
    have B0 : Below w.heap.size w ((w.alloc (.cells #[.bool n, .string s, .int .i64 e] 25)).alloc (.cells #[.bool false, .string ⟨#[]⟩, .int .i64 0] 25)) := ((Below.refl _ _).alloc (Nat.le_refl _) _).alloc (by simp) _
    have cO := fun W => implDecOk n s e W hs b1 b2
    go_enter Tryz.func7, Tryz.ntmps7
    go_wp2_with fail
    refine (cO _).mono ?_
    intro r w1 hr
    obtain ⟨hb, B1⟩ := AnsB.get hr
    have L1 := held3 ⟨KA0, KR0, B0⟩ B1
    clear B1 hr B0 KA0 KR0 cO
    obtain ⟨KA, KR, D⟩ := L1
    rcases hb with ⟨rfl, hb⟩ | ⟨rfl, hb⟩
    · exact absurd hb HO.out
    · clear hb
      go_wp2_with (first | (with_reducible show wpList _ _ _ (⟨_, .store _ _ _, _, _, _, _⟩ :: _) _ _; first | refine store_dec (w.heap.size + 1) rfl rfl KR ?_))
      refine bodyPost_ret (results_dc rfl _ _ rfl rfl KR.row) rfl ⟨?_, below_row3 D (Nat.le_succ _) _⟩
      rw [HV.out]; rfl

end Go.Proofs.YtpkmhojcccpolabGreatDoor
