/- For every two codes: the ints drawn from them are computed as decimals as ints are. No condition. -/
import Derived.Test.YthijeckcjfnbcaaGreatDoorIntMathA
import Derived.Test.YthijeckcjfnbcaaGreatDoorLawPickG
import Derived.Test.YthijeckcjfnbcaaGreatDoorRowOpen
import Derived.Test.YthijeckcjfnbcaaGreatDoorImplDec7
import Derived.Test.YthijeckcjfnbcaaGreatDoorImplDec8
import Derived.Test.YthijeckcjfnbcaaGreatDoorImplDec10
import Derived.Test.YthijeckcjfnbcaaGreatDoorImplDec11
import Derived.Test.YthijeckcjfnbcaaGreatDoorImplDec12
import Derived.Test.YthijeckcjfnbcaaGreatDoorImplDec13
import Derived.Test.YthijeckcjfnbcaaGreatDoorImplDec18
import Derived.Test.YthijeckcjfnbcaaGreatDoorLaidI
import Derived.Deep.RegionWith
import Derived.Deep.DeepCutAuto
import Derived.Deep.DeepMust
namespace Go.Proofs.YthijeckcjfnbcaaGreatDoor.fnDecInts
open Go.ChangeShapes Go.WideShapes Go.ChangeAt Go.RowKit Go.Shelf
open Go.ChangeMaps (open_string shut_string)
open Go.Proofs.YthijeckcjfnbcaaGreatDoor.Num
set_option linter.unusedVariables false

theorem laidOut : laidOutB Tryz.prog = true := by kernel_rfl
theorem nums_up {w W : World} {a : Option Addr} {zs : List Int} (h : Nums .u8 w w.heap.size a zs) (hb : Below w.heap.size w W) : Nums .u8 W W.heap.size a zs := (h.below hb).up hb.size

theorem ansDC {f : FuncId} {args : Array Value} {R : DecV × Int} {rn : Bool} {rs : ByteArray} {re rc : Int} (hR : R = (dOf rn rs re, rc)) (h : ∀ W, Calls Tryz.prog f args W (AnsDC R W)) :
    ∀ W, Calls Tryz.prog f args W fun e w' => e = .returned (.tuple #[.agg (row3 rn rs re), .int .i64 rc]) ∧ Below W.heap.size W w' := fun W => by
  have := h W
  unfold AnsDC at this
  rw [hR, ans_dec] at this
  exact this
theorem ansD1 {f : FuncId} {args : Array Value} {R : DecV} {rn : Bool} {rs : ByteArray} {re : Int} {W : World} (hR : R = dOf rn rs re) (h : Calls Tryz.prog f args W (AnsD R W)) :
    Calls Tryz.prog f args W fun e w' => e = .returned (.agg (row3 rn rs re)) ∧ Below W.heap.size W w' := by
  unfold AnsD at h
  rw [hR, ans_dec] at h
  exact h
theorem ansD {f : FuncId} {args : Array Value} {R : DecV} {rn : Bool} {rs : ByteArray} {re : Int} (hR : R = dOf rn rs re) (h : ∀ W, Calls Tryz.prog f args W (AnsD R W)) :
    ∀ W, Calls Tryz.prog f args W fun e w' => e = .returned (.agg (row3 rn rs re)) ∧ Below W.heap.size W w' := fun W => ansD1 hR (h W)
theorem fields (d : DecV) : ∃ (n : Bool) (s : ByteArray) (e : Int), d = dOf n s e ∧ s.size = d.dig.length := ⟨d.neg, ⟨d.dig.toArray⟩, d.exp, rfl, rfl⟩
/-- The table of factors. -/
abbrev o3 : Obj := .cells #[.int .i64 1, .int .i64 7, .int .i64 1000] 3
def t3 (j : Nat) : Int := [1, 7, 1000].getD j 0
def Tab3 (W : World) (b : Nat) : Prop := W.heap[b]? = some o3
theorem tab_new (W : World) : Tab3 (W.alloc o3) W.heap.size := heap_alloc_new W _
theorem tab_newD (W : World) : Tab3 (W.alloc o3).drew W.heap.size := heap_alloc_new W _
theorem tab_keep {W W' : World} {b : Nat} (hb : Below W.heap.size W W') (h : Tab3 W b) : Tab3 W' b := (hb.block b (Array.getElem?_eq_some_iff.1 h).1).trans h
theorem tab_at {W : World} {b : Nat} (h : Tab3 W b) {j : Nat} (hj : (j : Int) < 3) : W.cell? ⟨b, j, none⟩ = some (.int .i64 (t3 j)) := by
  have hj3 : j < 3 := by omega
  unfold Tab3 at h
  rw [cell_of_row W b j _ _ _ h]
  rcases j with _ | _ | _ | j
  · rfl
  · rfl
  · rfl
  · omega
theorem t3_bound (j : Nat) (hj : (j : Int) < 3) : 1 ≤ t3 j ∧ t3 j ≤ 1000 := by
  rcases j with _ | _ | _ | j
  · decide
  · decide
  · decide
  · omega
theorem al {w0 W : World} {o : Obj} (h : Below w0.heap.size w0 W) : Below w0.heap.size w0 (W.alloc o) := h.alloc h.size _
theorem dr {w0 W : World} (h : Below w0.heap.size w0 W) : Below w0.heap.size w0 W.drew := h.drew

set_option maxHeartbeats 400000000 in
set_option maxRecDepth 100000 in
theorem walk (a : Option Addr) (len cap : Nat) (z : List Int) (a2 : Option Addr) (len2 cap2 : Nat) (z2 : List Int) (w : World) (hR : IsRow .u8 w a len cap z) (hR2 : IsRow .u8 w a2 len2 cap2 z2) (hT : WholeLaid w) :
    Calls Tryz.prog 4 #[.slice a len cap, .slice a2 len2 cap2] w fun e w' => e = .returned (.bool true) ∧ Below w.heap.size w w' := by
  obtain ⟨zs, rfl, hN, hZ⟩ := bytes_of_row hR
  obtain ⟨zs2, rfl, hN2, hZ2⟩ := bytes_of_row hR2
  clear hR hR2
  by_cases hlen : zs.length ≤ 1048576
  · have cB := big_any a zs.length cap w hlen
    by_cases hlen2 : zs2.length ≤ 1048576
    · have cB2 := big_any a2 zs2.length cap2 w hlen2
      have cP1 := lawPickG 1 1999 (by omega) (by omega) (by omega) a cap zs w hlen hN hZ
      have cP2 := fun W hb => lawPickG 5 1000 (by omega) (by omega) (by omega) a cap zs W hlen (nums_up hN hb) hZ
      have cQ1 : ∀ W, Below w.heap.size w W → Calls Tryz.prog 16 #[.slice a2 zs2.length cap2, .int .i64 2, .int .i64 1999] W fun e w' => ∃ x : Nat, (x : Int) < 1999 ∧ e = .returned (.int .i64 x) ∧ Below w.heap.size w w' ∧ Below W.heap.size W w' := fun W hb => (lawPickG 2 1999 (by omega) (by omega) (by omega) a2 cap2 zs2 W hlen2 (nums_up hN2 hb) hZ2).mono fun e w' ⟨x, h1, h2, h3⟩ => ⟨x, by omega, h2, below_kept hb (Nat.le_refl _) h3, h3⟩
      have cQ2 : ∀ W, Below w.heap.size w W → Calls Tryz.prog 16 #[.slice a2 zs2.length cap2, .int .i64 9, .int .i64 3] W fun e w' => ∃ x : Nat, (x : Int) < 3 ∧ e = .returned (.int .i64 x) ∧ Below w.heap.size w w' ∧ Below W.heap.size W w' := fun W hb => (lawPickG 9 3 (by omega) (by omega) (by omega) a2 cap2 zs2 W hlen2 (nums_up hN2 hb) hZ2).mono fun e w' ⟨x, h1, h2, h3⟩ => ⟨x, by omega, h2, below_kept hb (Nat.le_refl _) h3, h3⟩
      have cQ3 : ∀ W, Below w.heap.size w W → Calls Tryz.prog 16 #[.slice a2 zs2.length cap2, .int .i64 6, .int .i64 1000] W fun e w' => ∃ x : Nat, (x : Int) < 1000 ∧ e = .returned (.int .i64 x) ∧ Below w.heap.size w w' ∧ Below W.heap.size W w' := fun W hb => (lawPickG 6 1000 (by omega) (by omega) (by omega) a2 cap2 zs2 W hlen2 (nums_up hN2 hb) hZ2).mono fun e w' ⟨x, h1, h2, h3⟩ => ⟨x, by omega, h2, below_kept hb (Nat.le_refl _) h3, h3⟩
      clear hN hZ hN2 hZ2
      go_enter Tryz.func4, Tryz.ntmps4
      go_wp2_with fail
      refine cB.mono ?_
      rintro e w0 ⟨rfl, rfl⟩
      clear cB
      go_wp2_with fail
      refine cB2.mono ?_
      rintro e w0 ⟨rfl, rfl⟩
      clear cB2
      go_wp2_with fail
      refine cP1.mono ?_
      rintro e w1 ⟨i1, hi1, rfl, B1⟩
      clear cP1
      go_wp2_with fail
      refine (cP2 _ B1).mono ?_
      rintro e w2 ⟨i2, hi2, rfl, R2⟩
      have B2 := below_kept B1 (Nat.le_refl _) R2
      clear cP2 R2 B1
      obtain ⟨x, hx⟩ : ∃ x : Int, (i1 : Int) * 1000 + (i2 : Int) - 999500 = x := ⟨_, rfl⟩
      have hx1 : -1000000 < x := by omega
      have hx2 : x < 1000000 := by omega
      have hfresh : ∀ (W : World) (j : Nat), (j : Int) < 3 → (W.alloc o3).cell? ⟨W.heap.size, j, none⟩ = some (.int .i64 (t3 j)) := fun W j hj => tab_at (tab_new W) hj
      go_upto_region 4 with fail
      clear hx hi1 hi2
      go_cut [6] (fun s6 wx => ∃ y : Int, s6 = .int .i64 y ∧ -2000000 < y ∧ y < 2000000 ∧ Below w0.heap.size w0 wx)
      case first =>
        go_region_with (first | (go_at_call 16; with_reducible refine (cQ1 _ ?hb).mono ?_; (case hb => (first | assumption | exact dr (by assumption) | exact al (by assumption) | exact al (dr (by assumption)) | exact dr (al (by assumption)))); rintro e W1 ⟨j1, hj1, rfl, E1, R1⟩; (first | have TB := tab_keep R1 (tab_new _) | have TB := tab_keep R1 (tab_newD _) | have TB := tab_keep R1 (by assumption) | skip); skip) | (go_at_call 16; with_reducible refine (cQ2 _ ?hb).mono ?_; (case hb => (first | assumption | exact dr (by assumption) | exact al (by assumption) | exact al (dr (by assumption)) | exact dr (al (by assumption)))); rintro e W2 ⟨j2, hj2, rfl, E2, R2⟩; (first | have TB := tab_keep R2 (tab_new _) | have TB := tab_keep R2 (tab_newD _) | have TB := tab_keep R2 (by assumption) | skip); obtain ⟨v, hv⟩ : ∃ v : Int, t3 j2 = v := ⟨_, rfl⟩; have vb := t3_bound j2 hj2; rw [hv] at vb; obtain ⟨pr, hpr⟩ : ∃ q : Int, (j1 : Int) * v = q := ⟨_, rfl⟩; have pr0 : 0 ≤ pr := (by rw [← hpr]; exact Int.mul_nonneg (by omega) (by omega)); have pr1 : pr ≤ 1998000 := (by rw [← hpr]; exact Int.le_trans (Int.mul_le_mul (by omega : (j1 : Int) ≤ 1998) vb.2 (by omega) (by omega)) (by omega)); (try (have hcl := tab_at (by assumption) hj2; rw [hv] at hcl)); (try (rw [show w2.drew.heap.size = w2.heap.size from rfl] at hcl)); have hf2 := hfresh W2 j2 hj2; rw [hv] at hf2; unfold o3 at hf2) | (go_at_call 16; with_reducible refine (cQ3 _ ?hb).mono ?_; (case hb => (first | assumption | exact dr (by assumption) | exact al (by assumption) | exact al (dr (by assumption)) | exact dr (al (by assumption)))); rintro e W3 ⟨j3, hj3, rfl, E3, R3⟩; (first | have TB := tab_keep R3 (tab_new _) | have TB := tab_keep R3 (tab_newD _) | have TB := tab_keep R3 (by assumption) | skip); (try (have hcm := tab_at (by assumption) hj2; rw [hv] at hcm)); (try (rw [show w2.drew.heap.size = w2.heap.size from rfl] at hcm)); have hf3 := hfresh W3 j2 hj2; rw [hv] at hf3; unfold o3 at hf3))
        all_goals
          go_wp2_with fail
          go_meet
          have z1 := IntWalk.i64_in pr ⟨by omega, by omega⟩
          have z2 := IntWalk.i64_in (pr + (j3 : Int)) ⟨by omega, by omega⟩
          have z3 := IntWalk.i64_in (pr + (j3 : Int) - 500) ⟨by omega, by omega⟩
          refine ⟨pr + (j3 : Int) - 500, ?_, by omega, by omega, ?_⟩
          · first | rfl | rw [z1, z2, z3] | rw [z2, z3] | rw [z3]
          · first | exact E3 | exact al E3
      case rest =>
        obtain ⟨y, rfl, hy1, hy2, D3⟩ := hcut
        have hrow : ∀ d : DecV, d.Ok → ∃ (n : Bool) (s : ByteArray) (e : Int), d = dOf n s e ∧ s.size ≤ 20 ∧ -9223372036854775808 ≤ e ∧ e ≤ 9223372036854775807 := fun d hd => by
          obtain ⟨n, s, e, h, hz⟩ := fields d
          have hx := hd.exps
          have hl := hd.len
          rw [h] at hx
          exact ⟨n, s, e, h, by omega, by have : -118 ≤ e := hx.1; omega, by have : e ≤ 99 := hx.2; omega⟩
        have cOf : ∀ (n : Int), -9223372036854775808 ≤ n → n ≤ 9223372036854775807 → ∀ W, Below w0.heap.size w0 W → Calls Tryz.prog 17 #[.int .i64 n] W (AnsD (decOfV n) W) := fun n b1 b2 W hW =>
          implDecOf n W b1 b2 _ rfl fun V hV => by
            refine (Tryz.strconv_Itoa n b1 b2 V (tab_below hT.1 (below_kept hW (Nat.le_refl _) hV))).mono ?_
            rintro e w' ⟨rfl, k, os, rfl⟩
            exact ⟨rfl, Lib.below_grow _ V (Nat.le_refl _) k os⟩
        have ax : x.natAbs < 10 ^ 7 := by omega
        have ay : y.natAbs < 10 ^ 7 := by omega
        obtain ⟨sxy, hsxy⟩ : ∃ q : Int, x + y = q := ⟨_, rfl⟩
        have s1 : -3000000 < sxy := by omega
        have s2 : sxy < 3000000 := by omega
        obtain ⟨pxy, hpxy⟩ : ∃ q : Int, x * y = q := ⟨_, rfl⟩
        have ap : pxy.natAbs < 10 ^ 14 := by
          rw [← hpxy, Int.natAbs_mul]
          have := Nat.mul_lt_mul'' ax ay
          rwa [← Nat.pow_add] at this
        have p1 : -100000000000000 < pxy := by omega
        have p2 : pxy < 100000000000000 := by omega
        have wsx := IntWalk.i64_in sxy ⟨by omega, by omega⟩
        have wpx := IntWalk.i64_in pxy ⟨by omega, by omega⟩
        obtain ⟨xn, xs, xe, hX, xz, x1, x2⟩ := hrow (decOfV x) (int_dec (by omega)).1
        obtain ⟨yn, ys, ye, hY, yz, y1, y2⟩ := hrow (decOfV y) (int_dec (by omega)).1
        obtain ⟨sn, ss, se, hS, sz, sb1, sb2⟩ := hrow (decOfV sxy) (int_dec (by omega)).1
        obtain ⟨pn, ps, pe, hP, pz, pb1, pb2⟩ := hrow (decOfV pxy) (int_dec (by omega)).1
        have cX := fun W hb => ansD1 hX (cOf x (by omega) (by omega) W hb)
        have cY := fun W hb => ansD1 hY (cOf y (by omega) (by omega) W hb)
        have cS := fun W hb => ansD1 hS (cOf sxy (by omega) (by omega) W hb)
        have cP := fun W hb => ansD1 hP (cOf pxy (by omega) (by omega) W hb)
        have cAdd := ansDC (rn := sn) (rs := ss) (re := se) (rc := 0) (by rw [← hX, ← hY, int_add (by omega) (by omega), hsxy, hS]) (fun W => implDecAdd xn xs xe yn ys ye W (by omega) (by omega) x1 x2 y1 y2)
        have cMul := ansDC (rn := pn) (rs := ps) (re := pe) (rc := 0) (by rw [← hX, ← hY, int_mul (by omega) (by omega), hpxy, hP]) (fun W => implDecMul xn xs xe yn ys ye W (by omega) (by omega) x1 x2 y1 y2)
        have cW : ∀ W, Below w0.heap.size w0 W → Calls Tryz.prog 18 #[.agg #[.bool sn, .string ss, .int .i64 se]] W fun e w' => e = .returned (.tuple #[.int .i64 sxy, .bool true]) ∧ Below W.heap.size W w' := fun W hW => by
          have := implDecWhole sn ss se W (by omega) sb1 sb2 (fun V hV => tab_below hT.1 (below_kept hW (Nat.le_refl _) hV)) (hT.2.1.below hW) (hT.2.2.below hW)
          unfold AnsIB at this
          obtain ⟨i1, i2⟩ := int_whole (n := sxy) (by omega)
          have hw : wholeR (dOf sn ss se) = (sxy, true) := by
            rw [← hS]
            unfold wholeR
            rw [if_pos ⟨(int_dec (by omega)).1, (int_dec (by omega)).2.1, i1⟩, i2]
          rw [hw] at this
          exact this
        go_wp2_with fail
        refine (cX _ D3).mono ?_
        rintro r w4 ⟨rfl, R4⟩
        have D4 := below_kept D3 (Nat.le_refl _) R4
        clear R4 D3 cX
        go_wp2_with fail
        refine (cY _ D4).mono ?_
        rintro r w5 ⟨rfl, R5⟩
        have D5 := below_kept D4 (Nat.le_refl _) R5
        clear R5 D4 cY
        have hB5 := D5.size
        have X0 : DecAt (w5.alloc (.cells (row3 false ⟨#[]⟩ 0) 25)) w5.heap.size false ⟨#[]⟩ 0 := DecAt.new w5 false ⟨#[]⟩ 0
        obtain ⟨wa, hwa⟩ : ∃ q, w5.alloc (.cells (row3 false ⟨#[]⟩ 0) 25) = q := ⟨_, rfl⟩
        have hsa : wa.heap.size = w5.heap.size + 1 := by rw [← hwa]; simp
        rw [hwa] at X0
        obtain ⟨wb, hwb⟩ : ∃ q, wa.alloc (.cells (row3 false ⟨#[]⟩ 0) 25) = q := ⟨_, rfl⟩
        have X1 : DecAt wb w5.heap.size false ⟨#[]⟩ 0 := by rw [← hwb]; exact X0.alloc _
        have Y1 : DecAt wb (w5.heap.size + 1) false ⟨#[]⟩ 0 := by rw [← hwb, ← hsa]; exact DecAt.new wa false ⟨#[]⟩ 0
        have E1 : Below w0.heap.size w0 wb := by rw [← hwb]; exact Below.alloc (by rw [← hwa]; exact D5.alloc hB5 _) (by omega) _
        have X2 : DecAt (wb.setRow w5.heap.size (row3 xn xs xe)) w5.heap.size xn xs xe := X1.row
        have Y2 : DecAt (wb.setRow w5.heap.size (row3 xn xs xe)) (w5.heap.size + 1) false ⟨#[]⟩ 0 := Y1.rowO (by omega) _
        have E2 : Below w0.heap.size w0 (wb.setRow w5.heap.size (row3 xn xs xe)) := below_row3 E1 hB5 _
        have A7 : DecAt ((wb.setRow w5.heap.size (row3 xn xs xe)).setRow (w5.heap.size + 1) (row3 yn ys ye)) w5.heap.size xn xs xe := X2.rowO (by omega) _
        have B7 : DecAt ((wb.setRow w5.heap.size (row3 xn xs xe)).setRow (w5.heap.size + 1) (row3 yn ys ye)) (w5.heap.size + 1) yn ys ye := Y2.row
        have D7 : Below w0.heap.size w0 ((wb.setRow w5.heap.size (row3 xn xs xe)).setRow (w5.heap.size + 1) (row3 yn ys ye)) := below_row3 E2 (by omega) _
        clear X0 E1 X2 E2 D5
        go_wp2_with (first | (with_reducible show wpList _ _ _ (⟨_, .store _ _ _, _, _, _, _⟩ :: _) _ _; first | refine store_dec w5.heap.size rfl rfl X1 ?_ | refine store_dec (w5.heap.size + 1) rfl rfl Y2 ?_) | (with_reducible show wpList _ _ _ (⟨_, .load _ _, _, _, _, _⟩ :: _) _ _; first | refine load_dec w5.heap.size rfl A7 ?_ | refine load_dec (w5.heap.size + 1) rfl B7 ?_))
        clear X1 Y1 Y2 hwa hwb
        refine (cAdd _).mono ?_
        rintro r w8 ⟨rfl, R8⟩
        have A8 := A7.belowS R8
        have B8 := B7.belowS R8
        have D8 := below_kept D7 (Nat.le_refl _) R8
        clear R8 A7 B7 D7
        have S0_9 := DecAt.new w8 false ⟨#[]⟩ 0
        have S9 : DecAt ((w8.alloc (.cells (row3 false ⟨#[]⟩ 0) 25)).setRow w8.heap.size (row3 sn ss se)) w8.heap.size sn ss se := S0_9.row
        have neAS : w5.heap.size ≠ w8.heap.size := Nat.ne_of_lt A8.lt
        have A9 : DecAt ((w8.alloc (.cells (row3 false ⟨#[]⟩ 0) 25)).setRow w8.heap.size (row3 sn ss se)) w5.heap.size xn xs xe := (A8.alloc _).rowO neAS _
        have neBS : w5.heap.size + 1 ≠ w8.heap.size := Nat.ne_of_lt B8.lt
        have B9 : DecAt ((w8.alloc (.cells (row3 false ⟨#[]⟩ 0) 25)).setRow w8.heap.size (row3 sn ss se)) (w5.heap.size + 1) yn ys ye := (B8.alloc _).rowO neBS _
        have D9 := below_row3 (D8.alloc D8.size (.cells (row3 false ⟨#[]⟩ 0) 25)) (g := w8.heap.size) D8.size (row3 sn ss se)
        have leS : w0.heap.size ≤ w8.heap.size := D8.size
        clear A8 B8 D8
        go_wp2_with (first | (with_reducible show wpList _ _ _ (⟨_, .store _ _ _, _, _, _, _⟩ :: _) _ _; refine store_dec w8.heap.size rfl rfl S0_9 ?_) | (with_reducible show wpList _ _ _ (⟨_, .load _ _, _, _, _, _⟩ :: _) _ _; first | refine load_dec w5.heap.size rfl A9 ?_ | refine load_dec (w5.heap.size + 1) rfl B9 ?_ | refine load_dec w8.heap.size rfl S9 ?_))
        refine (cMul _).mono ?_
        rintro r w10 ⟨rfl, R10⟩
        have A10 := A9.belowS R10
        have B10 := B9.belowS R10
        have S10 := S9.belowS R10
        have D10 := below_kept D9 (Nat.le_refl _) R10
        clear R10 A9 B9 S9 D9
        have P0_11 := DecAt.new w10 false ⟨#[]⟩ 0
        have P11 : DecAt ((w10.alloc (.cells (row3 false ⟨#[]⟩ 0) 25)).setRow w10.heap.size (row3 pn ps pe)) w10.heap.size pn ps pe := P0_11.row
        have neAP : w5.heap.size ≠ w10.heap.size := Nat.ne_of_lt A10.lt
        have A11 : DecAt ((w10.alloc (.cells (row3 false ⟨#[]⟩ 0) 25)).setRow w10.heap.size (row3 pn ps pe)) w5.heap.size xn xs xe := (A10.alloc _).rowO neAP _
        have neBP : w5.heap.size + 1 ≠ w10.heap.size := Nat.ne_of_lt B10.lt
        have B11 : DecAt ((w10.alloc (.cells (row3 false ⟨#[]⟩ 0) 25)).setRow w10.heap.size (row3 pn ps pe)) (w5.heap.size + 1) yn ys ye := (B10.alloc _).rowO neBP _
        have neSP : w8.heap.size ≠ w10.heap.size := Nat.ne_of_lt S10.lt
        have S11 : DecAt ((w10.alloc (.cells (row3 false ⟨#[]⟩ 0) 25)).setRow w10.heap.size (row3 pn ps pe)) w8.heap.size sn ss se := (S10.alloc _).rowO neSP _
        have D11 := below_row3 (D10.alloc D10.size (.cells (row3 false ⟨#[]⟩ 0) 25)) (g := w10.heap.size) D10.size (row3 pn ps pe)
        have leP : w0.heap.size ≤ w10.heap.size := D10.size
        clear A10 B10 S10 D10
        go_wp2_with (first | (with_reducible show wpList _ _ _ (⟨_, .store _ _ _, _, _, _, _⟩ :: _) _ _; refine store_dec w10.heap.size rfl rfl P0_11 ?_) | (with_reducible show wpList _ _ _ (⟨_, .load _ _, _, _, _, _⟩ :: _) _ _; first | refine load_dec w5.heap.size rfl A11 ?_ | refine load_dec (w5.heap.size + 1) rfl B11 ?_ | refine load_dec w8.heap.size rfl S11 ?_ | refine load_dec w10.heap.size rfl P11 ?_))
        have SST11 : Stable (fun W => DecAt W w8.heap.size sn ss se ∧ DecAt W w10.heap.size pn ps pe ∧ DecAt W w5.heap.size xn xs xe ∧ DecAt W (w5.heap.size + 1) yn ys ye ∧ Below w0.heap.size w0 W) := fun _ _ h hb => ⟨h.1.belowS hb, h.2.1.belowS hb, h.2.2.1.belowS hb, h.2.2.2.1.belowS hb, below_kept h.2.2.2.2 (Nat.le_refl _) hb⟩
        refine wp_region_grows 22 (fun W => DecAt W w8.heap.size sn ss se ∧ DecAt W w10.heap.size pn ps pe ∧ DecAt W w5.heap.size xn xs xe ∧ DecAt W (w5.heap.size + 1) yn ys ye ∧ Below w0.heap.size w0 W) (fun _ => True) SST11 (fun _ _ _ _ => trivial) (by kernel_rfl) (by kernel_rfl) (fun _ _ d _ _ h => by cases d <;> exact h) ⟨S11, P11, A11, B11, D11.drew⟩ trivial ?_
        simp only [List.take_succ_cons, List.take_zero]
        (refine grows_step (fun K hK => ?_); go_simp; refine ⟨_, fun W hW => .inl (by obtain ⟨y0, y1, y2⟩ := hW.1.cell; obtain ⟨y3, y4, y5⟩ := hW.2.1.cell; first | (go_simp; exact rfl) | (go_simp; rw [if_neg (by omega)])), hK _ ?_⟩; clear hK K)
        (refine grows_step (fun K hK => ?_); go_simp; refine ⟨_, fun W hW => .inl (by obtain ⟨y0, y1, y2⟩ := hW.1.cell; obtain ⟨y3, y4, y5⟩ := hW.2.1.cell; first | (go_simp; exact rfl) | (go_simp; rw [if_neg (by omega)])), hK _ ?_⟩; clear hK K)
        (refine grows_step (fun K hK => ?_); go_simp; refine ⟨_, fun W hW => .inl (by obtain ⟨y0, y1, y2⟩ := hW.1.cell; obtain ⟨y3, y4, y5⟩ := hW.2.1.cell; first | (go_simp; exact rfl) | (go_simp; rw [if_neg (by omega)])), hK _ ?_⟩; clear hK K)
        (refine grows_step (fun K hK => ?_); go_simp; refine ⟨_, fun W hW => .inl (by obtain ⟨y0, y1, y2⟩ := hW.1.cell; obtain ⟨y3, y4, y5⟩ := hW.2.1.cell; first | (go_simp; exact rfl) | (go_simp; rw [if_neg (by omega)])), hK _ ?_⟩; clear hK K)
        (refine grows_step (fun K hK => ?_); go_simp; refine ⟨_, fun W hW => .inl (by obtain ⟨y0, y1, y2⟩ := hW.1.cell; obtain ⟨y3, y4, y5⟩ := hW.2.1.cell; first | (go_simp; exact rfl) | (go_simp; rw [if_neg (by omega)])), hK _ ?_⟩; clear hK K)
        (refine grows_step (fun K hK => ?_); go_simp; refine ⟨_, fun W hW => .inl (by obtain ⟨y0, y1, y2⟩ := hW.1.cell; obtain ⟨y3, y4, y5⟩ := hW.2.1.cell; first | (go_simp; exact rfl) | (go_simp; rw [if_neg (by omega)])), hK _ ?_⟩; clear hK K)
        (refine grows_step (fun K hK => ?_); go_simp; refine ⟨_, fun W hW => .inl (by obtain ⟨y0, y1, y2⟩ := hW.1.cell; obtain ⟨y3, y4, y5⟩ := hW.2.1.cell; first | (go_simp; exact rfl) | (go_simp; rw [if_neg (by omega)])), hK _ ?_⟩; clear hK K)
        (refine grows_step (fun K hK => ?_); go_simp; refine ⟨_, fun W hW => .inl (by obtain ⟨y0, y1, y2⟩ := hW.1.cell; obtain ⟨y3, y4, y5⟩ := hW.2.1.cell; first | (go_simp; exact rfl) | (go_simp; rw [if_neg (by omega)])), hK _ ?_⟩; clear hK K)
        (refine grows_step (fun K hK => ?_); go_simp; refine ⟨_, fun W hW => .inl (by obtain ⟨y0, y1, y2⟩ := hW.1.cell; obtain ⟨y3, y4, y5⟩ := hW.2.1.cell; first | (go_simp; exact rfl) | (go_simp; rw [if_neg (by omega)])), hK _ ?_⟩; clear hK K)
        (refine grows_step (fun K hK => ?_); go_simp; refine ⟨_, fun W hW => .inl (by obtain ⟨y0, y1, y2⟩ := hW.1.cell; obtain ⟨y3, y4, y5⟩ := hW.2.1.cell; first | (go_simp; exact rfl) | (go_simp; rw [if_neg (by omega)])), hK _ ?_⟩; clear hK K)
        (refine grows_step (fun K hK => ?_); go_simp; refine ⟨_, fun W hW => .inl (by obtain ⟨y0, y1, y2⟩ := hW.1.cell; obtain ⟨y3, y4, y5⟩ := hW.2.1.cell; first | (go_simp; exact rfl) | (go_simp; rw [if_neg (by omega)])), hK _ ?_⟩; clear hK K)
        (refine grows_step (fun K hK => ?_); go_simp; refine ⟨_, fun W hW => .inr (.inr ⟨_, _, ?_, cS W hW.2.2.2.2⟩), hK _ ?_⟩; (· first | (go_simp; done) | (go_simp; rfl)); clear hK K)
        (refine grows_step (fun K hK => ?_); go_simp; refine ⟨_, fun W hW => .inl (by obtain ⟨y0, y1, y2⟩ := hW.1.cell; obtain ⟨y3, y4, y5⟩ := hW.2.1.cell; first | (go_simp; exact rfl) | (go_simp; rw [if_neg (by omega)])), hK _ ?_⟩; clear hK K)
        (refine grows_step (fun K hK => ?_); go_simp; refine ⟨_, fun W hW => .inl (by obtain ⟨y0, y1, y2⟩ := hW.1.cell; obtain ⟨y3, y4, y5⟩ := hW.2.1.cell; first | (go_simp; exact rfl) | (go_simp; rw [if_neg (by omega)])), hK _ ?_⟩; clear hK K)
        (refine grows_step (fun K hK => ?_); go_simp; refine ⟨_, fun W hW => .inl (by obtain ⟨y0, y1, y2⟩ := hW.1.cell; obtain ⟨y3, y4, y5⟩ := hW.2.1.cell; first | (go_simp; exact rfl) | (go_simp; rw [if_neg (by omega)])), hK _ ?_⟩; clear hK K)
        (refine grows_step (fun K hK => ?_); go_simp; refine ⟨_, fun W hW => .inl (by obtain ⟨y0, y1, y2⟩ := hW.1.cell; obtain ⟨y3, y4, y5⟩ := hW.2.1.cell; first | (go_simp; exact rfl) | (go_simp; rw [if_neg (by omega)])), hK _ ?_⟩; clear hK K)
        (refine grows_step (fun K hK => ?_); go_simp; refine ⟨_, fun W hW => .inl (by obtain ⟨y0, y1, y2⟩ := hW.1.cell; obtain ⟨y3, y4, y5⟩ := hW.2.1.cell; first | (go_simp; exact rfl) | (go_simp; rw [if_neg (by omega)])), hK _ ?_⟩; clear hK K)
        (refine grows_step (fun K hK => ?_); go_simp; refine ⟨_, fun W hW => .inl (by obtain ⟨y0, y1, y2⟩ := hW.1.cell; obtain ⟨y3, y4, y5⟩ := hW.2.1.cell; first | (go_simp; exact rfl) | (go_simp; rw [if_neg (by omega)])), hK _ ?_⟩; clear hK K)
        (refine grows_step (fun K hK => ?_); go_simp; refine ⟨_, fun W hW => .inl (by obtain ⟨y0, y1, y2⟩ := hW.1.cell; obtain ⟨y3, y4, y5⟩ := hW.2.1.cell; first | (go_simp; exact rfl) | (go_simp; rw [if_neg (by omega)])), hK _ ?_⟩; clear hK K)
        (refine grows_step (fun K hK => ?_); go_simp; refine ⟨_, fun W hW => .inr (.inr ⟨_, _, ?_, cP W hW.2.2.2.2⟩), hK _ ?_⟩; (· first | (go_simp; done) | (go_simp; rfl)); clear hK K)
        (refine grows_step (fun K hK => ?_); go_simp; refine ⟨_, fun W hW => .inl (by obtain ⟨y0, y1, y2⟩ := hW.1.cell; obtain ⟨y3, y4, y5⟩ := hW.2.1.cell; first | (go_simp; exact rfl) | (go_simp; rw [if_neg (by omega)])), hK _ ?_⟩; clear hK K)
        (refine grows_step (fun K hK => ?_); go_simp; refine ⟨_, fun W hW => .inl (by obtain ⟨y0, y1, y2⟩ := hW.1.cell; obtain ⟨y3, y4, y5⟩ := hW.2.1.cell; first | (go_simp; exact rfl) | (go_simp; rw [if_neg (by omega)])), hK _ ?_⟩; clear hK K)
        refine grows_nil ?_
        change Orders2 _ _ _ _ _ 0 _ _ _
        refine Orders2.done (by kernel_rfl) ?_
        clear SST11 A11 B11 S11 P11 D11
        rintro w12 ⟨S12, P12, A12, B12, D12⟩ _
        go_wp2_with (first | (with_reducible show wpList _ _ _ (⟨_, .load _ _, _, _, _, _⟩ :: _) _ _; first | refine load_dec w8.heap.size rfl S12 ?_ | refine load_dec w10.heap.size rfl P12 ?_ | refine load_dec w5.heap.size rfl A12 ?_ | refine load_dec (w5.heap.size + 1) rfl B12 ?_))
        refine (cW _ D12).mono ?_
        rintro r w13 ⟨rfl, R13⟩
        have S13 := S12.belowS R13
        have P13 := P12.belowS R13
        have A13 := A12.belowS R13
        have B13 := B12.belowS R13
        have D13 := below_kept D12 (Nat.le_refl _) R13
        clear R13 S12 P12 A12 B12 D12
        by_cases hy0 : y = 0
        · have cDz := ansDC (rn := false) (rs := ⟨#[]⟩) (re := 0) (rc := 2) (by rw [← hX, ← hY, hy0]; unfold divR; rw [if_pos ⟨(int_dec (by omega)).1, (int_dec (by decide)).1⟩, if_pos (by unfold decOfV; rw [show (0 : Int).natAbs = 0 from rfl, form_zero]; rfl)]; rfl) (fun W => implDecDiv xn xs xe yn ys ye W (by omega) (by omega) x1 x2 y1 y2)
          have hyb : (y == 0) = true := by rw [beq_iff_eq]; exact hy0
          go_wp2_with (first | (with_reducible show wpList _ _ _ (⟨_, .load _ _, _, _, _, _⟩ :: _) _ _; first | refine load_dec w8.heap.size rfl S13 ?_ | refine load_dec w10.heap.size rfl P13 ?_ | refine load_dec w5.heap.size rfl A13 ?_ | refine load_dec (w5.heap.size + 1) rfl B13 ?_))
          refine (cDz _).mono ?_
          rintro r w14 ⟨rfl, R14⟩
          have S14 := S13.belowS R14
          have P14 := P13.belowS R14
          have A14 := A13.belowS R14
          have B14 := B13.belowS R14
          have D14 := below_kept D13 (Nat.le_refl _) R14
          clear R14 S13 P13 A13 B13 D13
          have V0_15 := DecAt.new w14 false ⟨#[]⟩ 0
          have V15 : DecAt ((w14.alloc (.cells (row3 false ⟨#[]⟩ 0) 25)).setRow w14.heap.size (row3 false ⟨#[]⟩ 0)) w14.heap.size false ⟨#[]⟩ 0 := V0_15.row
          have neSV : w8.heap.size ≠ w14.heap.size := Nat.ne_of_lt S14.lt
          have S15 : DecAt ((w14.alloc (.cells (row3 false ⟨#[]⟩ 0) 25)).setRow w14.heap.size (row3 false ⟨#[]⟩ 0)) w8.heap.size sn ss se := (S14.alloc _).rowO neSV _
          have nePV : w10.heap.size ≠ w14.heap.size := Nat.ne_of_lt P14.lt
          have P15 : DecAt ((w14.alloc (.cells (row3 false ⟨#[]⟩ 0) 25)).setRow w14.heap.size (row3 false ⟨#[]⟩ 0)) w10.heap.size pn ps pe := (P14.alloc _).rowO nePV _
          have neAV : w5.heap.size ≠ w14.heap.size := Nat.ne_of_lt A14.lt
          have A15 : DecAt ((w14.alloc (.cells (row3 false ⟨#[]⟩ 0) 25)).setRow w14.heap.size (row3 false ⟨#[]⟩ 0)) w5.heap.size xn xs xe := (A14.alloc _).rowO neAV _
          have neBV : w5.heap.size + 1 ≠ w14.heap.size := Nat.ne_of_lt B14.lt
          have B15 : DecAt ((w14.alloc (.cells (row3 false ⟨#[]⟩ 0) 25)).setRow w14.heap.size (row3 false ⟨#[]⟩ 0)) (w5.heap.size + 1) yn ys ye := (B14.alloc _).rowO neBV _
          have D15 := below_row3 (D14.alloc D14.size (.cells (row3 false ⟨#[]⟩ 0) 25)) (g := w14.heap.size) D14.size (row3 false ⟨#[]⟩ 0)
          have leV : w0.heap.size ≤ w14.heap.size := D14.size
          clear S14 P14 A14 B14 D14
          go_wp2_with (first | (with_reducible show wpList _ _ _ (⟨_, .store _ _ _, _, _, _, _⟩ :: _) _ _; refine store_dec w14.heap.size rfl rfl V0_15 ?_) | (with_reducible show wpList _ _ _ (⟨_, .load _ _, _, _, _, _⟩ :: _) _ _; first | refine load_dec w8.heap.size rfl S15 ?_ | refine load_dec w10.heap.size rfl P15 ?_ | refine load_dec w5.heap.size rfl A15 ?_ | refine load_dec (w5.heap.size + 1) rfl B15 ?_ | refine load_dec w14.heap.size rfl V15 ?_))
          go_ret
          exact ⟨rfl, D15⟩
        · obtain ⟨d, hd1, hd2⟩ := int_quot ax ay hy0
          have hyb : (y == 0) = false := by rw [beq_eq_false_iff_ne]; exact hy0
          obtain ⟨mxy, hmxy⟩ : ∃ q : Int, x.tmod y = q := ⟨_, rfl⟩
          obtain ⟨qxy, hqxy⟩ : ∃ q : Int, x.tdiv y = q := ⟨_, rfl⟩
          have am : mxy.natAbs < 10 ^ 7 := by rw [← hmxy, Int.natAbs_tmod]; exact Nat.lt_of_le_of_lt (Nat.mod_le _ _) ax
          have aq : qxy.natAbs < 10 ^ 7 := by rw [← hqxy, Int.natAbs_tdiv]; exact Nat.lt_of_le_of_lt (Nat.div_le_self _ _) ax
          have wmx := IntWalk.i64_in mxy ⟨by omega, by omega⟩
          have wqx := IntWalk.i64_in qxy ⟨by omega, by omega⟩
          have hdo : d.Ok := by
            have e0 : (divR (decOfV x) (decOfV y)).1 = d := by rw [hd1]
            rw [← e0]
            unfold divR
            rw [if_pos ⟨(int_dec (by omega)).1, (int_dec (by omega)).1⟩, if_neg ((int_dec (n := y) (by omega)).2.2.2.1 hy0).2]
            exact form_ok _ _ _
          obtain ⟨dn, ds, de, hDd, dz, d1, d2⟩ := hrow d hdo
          obtain ⟨mn, ms, me, hM, mz, m1, m2⟩ := hrow (decOfV mxy) (int_dec (by omega)).1
          obtain ⟨un, us, ue, hI, uz, u1, u2⟩ := hrow (decOfV qxy) (int_dec (by omega)).1
          have cM := fun W hb => ansD1 hM (cOf mxy (by omega) (by omega) W hb)
          have cI := fun W hb => ansD1 hI (cOf qxy (by omega) (by omega) W hb)
          have cMod := ansDC (rn := mn) (rs := ms) (re := me) (rc := 0) (by rw [← hX, ← hY, int_mod (by omega) (by omega) hy0, hmxy, hM]) (fun W => implDecMod xn xs xe yn ys ye W (by omega) (by omega) x1 x2 y1 y2)
          have cDiv := ansDC (rn := dn) (rs := ds) (re := de) (rc := 0) (by rw [← hX, ← hY, hd1, hDd]) (fun W => implDecDiv xn xs xe yn ys ye W (by omega) (by omega) x1 x2 y1 y2)
          have cInt := ansD (rn := un) (rs := us) (re := ue) (by rw [← hDd, hd2, hqxy, hI]) (fun W => implDecInt dn ds de W (by omega) d1 d2)
          clear hd1 hd2 hdo hDd hM hI
          go_wp2_with (first | (with_reducible show wpList _ _ _ (⟨_, .load _ _, _, _, _, _⟩ :: _) _ _; first | refine load_dec w8.heap.size rfl S13 ?_ | refine load_dec w10.heap.size rfl P13 ?_ | refine load_dec w5.heap.size rfl A13 ?_ | refine load_dec (w5.heap.size + 1) rfl B13 ?_))
          refine (cMod _).mono ?_
          rintro r w14 ⟨rfl, R14⟩
          have S14 := S13.belowS R14
          have P14 := P13.belowS R14
          have A14 := A13.belowS R14
          have B14 := B13.belowS R14
          have D14 := below_kept D13 (Nat.le_refl _) R14
          clear R14 S13 P13 A13 B13 D13
          have M0_15 := DecAt.new w14 false ⟨#[]⟩ 0
          have M15 : DecAt ((w14.alloc (.cells (row3 false ⟨#[]⟩ 0) 25)).setRow w14.heap.size (row3 mn ms me)) w14.heap.size mn ms me := M0_15.row
          have neSM : w8.heap.size ≠ w14.heap.size := Nat.ne_of_lt S14.lt
          have S15 : DecAt ((w14.alloc (.cells (row3 false ⟨#[]⟩ 0) 25)).setRow w14.heap.size (row3 mn ms me)) w8.heap.size sn ss se := (S14.alloc _).rowO neSM _
          have nePM : w10.heap.size ≠ w14.heap.size := Nat.ne_of_lt P14.lt
          have P15 : DecAt ((w14.alloc (.cells (row3 false ⟨#[]⟩ 0) 25)).setRow w14.heap.size (row3 mn ms me)) w10.heap.size pn ps pe := (P14.alloc _).rowO nePM _
          have neAM : w5.heap.size ≠ w14.heap.size := Nat.ne_of_lt A14.lt
          have A15 : DecAt ((w14.alloc (.cells (row3 false ⟨#[]⟩ 0) 25)).setRow w14.heap.size (row3 mn ms me)) w5.heap.size xn xs xe := (A14.alloc _).rowO neAM _
          have neBM : w5.heap.size + 1 ≠ w14.heap.size := Nat.ne_of_lt B14.lt
          have B15 : DecAt ((w14.alloc (.cells (row3 false ⟨#[]⟩ 0) 25)).setRow w14.heap.size (row3 mn ms me)) (w5.heap.size + 1) yn ys ye := (B14.alloc _).rowO neBM _
          have D15 := below_row3 (D14.alloc D14.size (.cells (row3 false ⟨#[]⟩ 0) 25)) (g := w14.heap.size) D14.size (row3 mn ms me)
          have leM : w0.heap.size ≤ w14.heap.size := D14.size
          clear S14 P14 A14 B14 D14
          go_wp2_with (first | (with_reducible show wpList _ _ _ (⟨_, .store _ _ _, _, _, _, _⟩ :: _) _ _; refine store_dec w14.heap.size rfl rfl M0_15 ?_) | (with_reducible show wpList _ _ _ (⟨_, .load _ _, _, _, _, _⟩ :: _) _ _; first | refine load_dec w8.heap.size rfl S15 ?_ | refine load_dec w10.heap.size rfl P15 ?_ | refine load_dec w5.heap.size rfl A15 ?_ | refine load_dec (w5.heap.size + 1) rfl B15 ?_ | refine load_dec w14.heap.size rfl M15 ?_))
          refine (cDiv _).mono ?_
          rintro r w16 ⟨rfl, R16⟩
          have S16 := S15.belowS R16
          have P16 := P15.belowS R16
          have A16 := A15.belowS R16
          have B16 := B15.belowS R16
          have M16 := M15.belowS R16
          have D16 := below_kept D15 (Nat.le_refl _) R16
          clear R16 S15 P15 A15 B15 M15 D15
          have Q0_17 := DecAt.new w16 false ⟨#[]⟩ 0
          have Q17 : DecAt ((w16.alloc (.cells (row3 false ⟨#[]⟩ 0) 25)).setRow w16.heap.size (row3 dn ds de)) w16.heap.size dn ds de := Q0_17.row
          have neSQ : w8.heap.size ≠ w16.heap.size := Nat.ne_of_lt S16.lt
          have S17 : DecAt ((w16.alloc (.cells (row3 false ⟨#[]⟩ 0) 25)).setRow w16.heap.size (row3 dn ds de)) w8.heap.size sn ss se := (S16.alloc _).rowO neSQ _
          have nePQ : w10.heap.size ≠ w16.heap.size := Nat.ne_of_lt P16.lt
          have P17 : DecAt ((w16.alloc (.cells (row3 false ⟨#[]⟩ 0) 25)).setRow w16.heap.size (row3 dn ds de)) w10.heap.size pn ps pe := (P16.alloc _).rowO nePQ _
          have neAQ : w5.heap.size ≠ w16.heap.size := Nat.ne_of_lt A16.lt
          have A17 : DecAt ((w16.alloc (.cells (row3 false ⟨#[]⟩ 0) 25)).setRow w16.heap.size (row3 dn ds de)) w5.heap.size xn xs xe := (A16.alloc _).rowO neAQ _
          have neBQ : w5.heap.size + 1 ≠ w16.heap.size := Nat.ne_of_lt B16.lt
          have B17 : DecAt ((w16.alloc (.cells (row3 false ⟨#[]⟩ 0) 25)).setRow w16.heap.size (row3 dn ds de)) (w5.heap.size + 1) yn ys ye := (B16.alloc _).rowO neBQ _
          have neMQ : w14.heap.size ≠ w16.heap.size := Nat.ne_of_lt M16.lt
          have M17 : DecAt ((w16.alloc (.cells (row3 false ⟨#[]⟩ 0) 25)).setRow w16.heap.size (row3 dn ds de)) w14.heap.size mn ms me := (M16.alloc _).rowO neMQ _
          have D17 := below_row3 (D16.alloc D16.size (.cells (row3 false ⟨#[]⟩ 0) 25)) (g := w16.heap.size) D16.size (row3 dn ds de)
          have leQ : w0.heap.size ≤ w16.heap.size := D16.size
          clear S16 P16 A16 B16 M16 D16
          go_wp2_with (first | (with_reducible show wpList _ _ _ (⟨_, .store _ _ _, _, _, _, _⟩ :: _) _ _; refine store_dec w16.heap.size rfl rfl Q0_17 ?_) | (with_reducible show wpList _ _ _ (⟨_, .load _ _, _, _, _, _⟩ :: _) _ _; first | refine load_dec w8.heap.size rfl S17 ?_ | refine load_dec w10.heap.size rfl P17 ?_ | refine load_dec w5.heap.size rfl A17 ?_ | refine load_dec (w5.heap.size + 1) rfl B17 ?_ | refine load_dec w14.heap.size rfl M17 ?_ | refine load_dec w16.heap.size rfl Q17 ?_))
          have SST17 : Stable (fun W => DecAt W w14.heap.size mn ms me ∧ DecAt W w16.heap.size dn ds de ∧ DecAt W w5.heap.size xn xs xe ∧ DecAt W (w5.heap.size + 1) yn ys ye ∧ Below w0.heap.size w0 W) := fun _ _ h hb => ⟨h.1.belowS hb, h.2.1.belowS hb, h.2.2.1.belowS hb, h.2.2.2.1.belowS hb, below_kept h.2.2.2.2 (Nat.le_refl _) hb⟩
          refine wp_region_grows 24 (fun W => DecAt W w14.heap.size mn ms me ∧ DecAt W w16.heap.size dn ds de ∧ DecAt W w5.heap.size xn xs xe ∧ DecAt W (w5.heap.size + 1) yn ys ye ∧ Below w0.heap.size w0 W) (fun _ => True) SST17 (fun _ _ _ _ => trivial) (by kernel_rfl) (by kernel_rfl) (fun _ _ d _ _ h => by cases d <;> exact h) ⟨M17, Q17, A17, B17, D17.drew⟩ trivial ?_
          simp only [List.take_succ_cons, List.take_zero]
          (refine grows_step (fun K hK => ?_); go_simp; refine ⟨_, fun W hW => .inl (by obtain ⟨y0, y1, y2⟩ := hW.1.cell; obtain ⟨y3, y4, y5⟩ := hW.2.1.cell; first | (go_simp; exact rfl) | (go_simp; rw [if_neg (by omega)])), hK _ ?_⟩; clear hK K)
          (refine grows_step (fun K hK => ?_); go_simp; refine ⟨_, fun W hW => .inl (by obtain ⟨y0, y1, y2⟩ := hW.1.cell; obtain ⟨y3, y4, y5⟩ := hW.2.1.cell; first | (go_simp; exact rfl) | (go_simp; rw [if_neg (by omega)])), hK _ ?_⟩; clear hK K)
          (refine grows_step (fun K hK => ?_); go_simp; refine ⟨_, fun W hW => .inl (by obtain ⟨y0, y1, y2⟩ := hW.1.cell; obtain ⟨y3, y4, y5⟩ := hW.2.1.cell; first | (go_simp; exact rfl) | (go_simp; rw [if_neg (by omega)])), hK _ ?_⟩; clear hK K)
          (refine grows_step (fun K hK => ?_); go_simp; refine ⟨_, fun W hW => .inl (by obtain ⟨y0, y1, y2⟩ := hW.1.cell; obtain ⟨y3, y4, y5⟩ := hW.2.1.cell; first | (go_simp; exact rfl) | (go_simp; rw [if_neg (by omega)])), hK _ ?_⟩; clear hK K)
          (refine grows_step (fun K hK => ?_); go_simp; refine ⟨_, fun W hW => .inl (by obtain ⟨y0, y1, y2⟩ := hW.1.cell; obtain ⟨y3, y4, y5⟩ := hW.2.1.cell; first | (go_simp; exact rfl) | (go_simp; rw [if_neg (by omega)])), hK _ ?_⟩; clear hK K)
          (refine grows_step (fun K hK => ?_); go_simp; refine ⟨_, fun W hW => .inl (by obtain ⟨y0, y1, y2⟩ := hW.1.cell; obtain ⟨y3, y4, y5⟩ := hW.2.1.cell; first | (go_simp; exact rfl) | (go_simp; rw [if_neg (by omega)])), hK _ ?_⟩; clear hK K)
          (refine grows_step (fun K hK => ?_); go_simp; refine ⟨_, fun W hW => .inl (by obtain ⟨y0, y1, y2⟩ := hW.1.cell; obtain ⟨y3, y4, y5⟩ := hW.2.1.cell; first | (go_simp; exact rfl) | (go_simp; rw [if_neg (by omega)])), hK _ ?_⟩; clear hK K)
          (refine grows_step (fun K hK => ?_); go_simp; refine ⟨_, fun W hW => .inl (by obtain ⟨y0, y1, y2⟩ := hW.1.cell; obtain ⟨y3, y4, y5⟩ := hW.2.1.cell; first | (go_simp; exact rfl) | (go_simp; rw [if_neg (by omega)])), hK _ ?_⟩; clear hK K)
          (refine grows_step (fun K hK => ?_); go_simp; refine ⟨_, fun W hW => .inl (by obtain ⟨y0, y1, y2⟩ := hW.1.cell; obtain ⟨y3, y4, y5⟩ := hW.2.1.cell; first | (go_simp; exact rfl) | (go_simp; rw [if_neg (by omega)])), hK _ ?_⟩; clear hK K)
          (refine grows_step (fun K hK => ?_); go_simp; refine ⟨_, fun W hW => .inl (by obtain ⟨y0, y1, y2⟩ := hW.1.cell; obtain ⟨y3, y4, y5⟩ := hW.2.1.cell; first | (go_simp; exact rfl) | (go_simp; rw [if_neg (by omega)])), hK _ ?_⟩; clear hK K)
          (refine grows_step (fun K hK => ?_); go_simp; refine ⟨_, fun W hW => .inl (by obtain ⟨y0, y1, y2⟩ := hW.1.cell; obtain ⟨y3, y4, y5⟩ := hW.2.1.cell; first | (go_simp; exact rfl) | (go_simp; rw [if_neg (by omega)])), hK _ ?_⟩; clear hK K)
          (refine grows_step (fun K hK => ?_); go_simp; refine ⟨_, fun W hW => .inr (.inr ⟨_, _, ?_, cM W hW.2.2.2.2⟩), hK _ ?_⟩; (· first | (go_simp; done) | (go_simp; rfl)); clear hK K)
          (refine grows_step (fun K hK => ?_); go_simp; refine ⟨_, fun W hW => .inl (by obtain ⟨y0, y1, y2⟩ := hW.1.cell; obtain ⟨y3, y4, y5⟩ := hW.2.1.cell; first | (go_simp; exact rfl) | (go_simp; rw [if_neg (by omega)])), hK _ ?_⟩; clear hK K)
          (refine grows_step (fun K hK => ?_); go_simp; refine ⟨_, fun W hW => .inl (by obtain ⟨y0, y1, y2⟩ := hW.1.cell; obtain ⟨y3, y4, y5⟩ := hW.2.1.cell; first | (go_simp; exact rfl) | (go_simp; rw [if_neg (by omega)])), hK _ ?_⟩; clear hK K)
          (refine grows_step (fun K hK => ?_); go_simp; refine ⟨_, fun W hW => .inl (by obtain ⟨y0, y1, y2⟩ := hW.1.cell; obtain ⟨y3, y4, y5⟩ := hW.2.1.cell; first | (go_simp; exact rfl) | (go_simp; rw [if_neg (by omega)])), hK _ ?_⟩; clear hK K)
          (refine grows_step (fun K hK => ?_); go_simp; refine ⟨_, fun W hW => .inl (by obtain ⟨y0, y1, y2⟩ := hW.1.cell; obtain ⟨y3, y4, y5⟩ := hW.2.1.cell; first | (go_simp; exact rfl) | (go_simp; rw [if_neg (by omega)])), hK _ ?_⟩; clear hK K)
          (refine grows_step (fun K hK => ?_); go_simp; refine ⟨_, fun W hW => .inr (.inr ⟨_, _, ?_, cInt W⟩), hK _ ?_⟩; (· first | (go_simp; done) | (go_simp; rfl)); clear hK K)
          (refine grows_step (fun K hK => ?_); go_simp; refine ⟨_, fun W hW => .inl (by obtain ⟨y0, y1, y2⟩ := hW.1.cell; obtain ⟨y3, y4, y5⟩ := hW.2.1.cell; first | (go_simp; exact rfl) | (go_simp; rw [if_neg (by omega)])), hK _ ?_⟩; clear hK K)
          (refine grows_step (fun K hK => ?_); go_simp; refine ⟨_, fun W hW => .inl (by obtain ⟨y0, y1, y2⟩ := hW.1.cell; obtain ⟨y3, y4, y5⟩ := hW.2.1.cell; first | (go_simp; exact rfl) | (go_simp; rw [if_neg (by omega)])), hK _ ?_⟩; clear hK K)
          (refine grows_step (fun K hK => ?_); go_simp; refine ⟨_, fun W hW => .inl (by obtain ⟨y0, y1, y2⟩ := hW.1.cell; obtain ⟨y3, y4, y5⟩ := hW.2.1.cell; first | (go_simp; exact rfl) | (go_simp; rw [if_neg (by omega)])), hK _ ?_⟩; clear hK K)
          (refine grows_step (fun K hK => ?_); go_simp; refine ⟨_, fun W hW => .inr (.inr ⟨_, _, ?_, cI W hW.2.2.2.2⟩), hK _ ?_⟩; (· first | (go_simp; done) | (go_simp; rfl)); clear hK K)
          (refine grows_step (fun K hK => ?_); go_simp; refine ⟨_, fun W hW => .inl (by obtain ⟨y0, y1, y2⟩ := hW.1.cell; obtain ⟨y3, y4, y5⟩ := hW.2.1.cell; first | (go_simp; exact rfl) | (go_simp; rw [if_neg (by omega)])), hK _ ?_⟩; clear hK K)
          (refine grows_step (fun K hK => ?_); go_simp; refine ⟨_, fun W hW => .inl (by obtain ⟨y0, y1, y2⟩ := hW.1.cell; obtain ⟨y3, y4, y5⟩ := hW.2.1.cell; first | (go_simp; exact rfl) | (go_simp; rw [if_neg (by omega)])), hK _ ?_⟩; clear hK K)
          (refine grows_step (fun K hK => ?_); go_simp; refine ⟨_, fun W hW => .inl (by obtain ⟨y0, y1, y2⟩ := hW.1.cell; obtain ⟨y3, y4, y5⟩ := hW.2.1.cell; first | (go_simp; exact rfl) | (go_simp; rw [if_neg (by omega)])), hK _ ?_⟩; clear hK K)
          refine grows_nil ?_
          change Orders2 _ _ _ _ _ 0 _ _ _
          refine Orders2.done (by kernel_rfl) ?_
          clear SST17 S17 P17 A17 B17 M17 Q17 D17
          rintro w18 ⟨M18, Q18, A18, B18, D18⟩ _
          go_wp2
          go_ret
          exact ⟨rfl, D18⟩
    · have cB2 := big_yes a2 zs2.length cap2 w hlen2
      clear hN hZ hN2 hZ2 hT
      go_enter Tryz.func4, Tryz.ntmps4
      go_wp2_with fail
      refine cB.mono ?_
      rintro e w0 ⟨rfl, rfl⟩
      clear cB
      go_wp2_with fail
      refine cB2.mono ?_
      rintro e w0 ⟨rfl, rfl⟩
      clear cB2
      go_wp2
      go_ret
      exact ⟨rfl, Below.refl _ _⟩
  · have cB := big_yes a zs.length cap w hlen
    clear hN hZ hN2 hZ2 hT
    go_enter Tryz.func4, Tryz.ntmps4
    go_wp2_with fail
    refine cB.mono ?_
    rintro e w0 ⟨rfl, rfl⟩
    clear cB
    go_wp2
    go_ret
    exact ⟨rfl, Below.refl _ _⟩

set_option maxRecDepth 100000
theorem witness_row (os : Os) {H : Type} (enc : TypeId × Value → H) :
    (OpenSpec.ofChange Rows.fnDecIntsSpec).preRow enc Tryz.prog Tryz.f4 Rows.fnDecIntsRow.domain false Rows.fnDecIntsRow.laid ((laidWorldI os).forCall (fun _ _ => 0) ⟨#[], #[.slice none 0 0, .slice none 0 0], []⟩).memory #[.slice none 0 0, .slice none 0 0] := by
  have hw : (DataW.whole enc Tryz.prog ((laidWorldI os).forCall (fun _ _ => 0) ⟨#[], #[.slice none 0 0, .slice none 0 0], []⟩).memory Tryz.f4.params.toList (OpenSpec.ofChange Rows.fnDecIntsSpec).vars false (#[.slice none 0 0, .slice none 0 0] : Array Value).toList 8).map (fun x => (x.1, x.2.1)) =
      some ([.nil, .nil], []) := by kernel_rfl
  obtain ⟨⟨x1, x2, x3⟩, hx, hx1⟩ := Option.map_eq_some_iff.1 hw
  simp only [Prod.mk.injEq] at hx1
  obtain ⟨rfl, rfl⟩ := hx1
  exact OpenSpec.preRow_of_cond 8 hx (by kernel_rfl) (fun k hk => by cases hk) (by kernel_rfl) (laid_metI os _)

set_option maxHeartbeats 2000000 in
theorem lifted (os : Os) (started : os.Started) (H : Type) (enc : TypeId × Value → H) (F : Stop.Interp) :
    ReturnsInHanded {} Tryz.checked os 4 .any ((OpenSpec.ofChange Rows.fnDecIntsSpec).preRow enc Tryz.prog Tryz.f4 Rows.fnDecIntsRow.domain false Rows.fnDecIntsRow.laid) (((OpenSpec.ofChange Rows.fnDecIntsSpec).at F).post enc Tryz.prog Tryz.f4 false true false false) := by
  refine returnsInHanded_of_row (C := Tryz.checked) (s := OpenSpec.ofChange Rows.fnDecIntsSpec) own started (by kernel_rfl) Tryz.func4
    (witness_row_atRef (enc := enc) (C := Tryz.checked) false (laidWorldI os) #[.slice none 0 0, .slice none 0 0] rfl (by kernel_rfl) (by kernel_rfl) (by kernel_rfl) (witness_row os enc)) ?_
  intro W base args ds gs before hval0 hW _ _ _ hL _ _
  have hval : ∀ (j : Nat) t v, Tryz.f4.params[j]? = some t → args[j]? = some v → Value.okWide Tryz.prog W .any base t v := hval0
  have hW' := hW
  obtain ⟨p, q, hA0, hV0, rfl, _, _⟩ := hW
  have hA : DataW.TrodAll enc Tryz.prog W 0 (fun _ => true) true Tryz.f4.params.toList args.toList ds p := hA0
  rw [Tryz.params4] at hA hval
  obtain ⟨v0, vs0, d0, ds0, p0, q0, hargs, rfl, rfl, h0, r0⟩ := trodAll_cons hA
  obtain ⟨v1, vs1, d1, ds1, p1, q1, rfl, rfl, rfl, h1, r1⟩ := trodAll_cons r0
  obtain ⟨rfl, rfl, rfl⟩ := trodAll_nil r1
  obtain rfl : args = #[v0, v1] := by cases args; simp_all
  obtain ⟨rfl, rfl⟩ := trodVars_none hV0
  obtain ⟨a0, len0, cap0, rfl⟩ := okWide_slice Tryz.underlying22 (hval 0 22 v0 rfl rfl)
  have k0 := h0
  have lt0 : ∀ x ∈ p0, x.block < W.heap.size := by obtain ⟨m, hm⟩ := k0; exact DataW.trod_lt m _ _ _ hm
  obtain ⟨z0, w0⟩ : ∃ zs, IsRow .u8 W a0 len0 cap0 zs := by
    obtain ⟨fuel, hf⟩ := h0
    rcases open_ints Tryz.underlying22 Tryz.underlying5 (by kernel_rfl) hf with ⟨hcs, _⟩ | ⟨x, l, c, zs, hcs, _, hl, hm, hz, _, hcell, hwz⟩
    · simp [Value.cells] at hcs
      obtain ⟨rfl, rfl, rfl⟩ := hcs
      exact ⟨[], .inl ⟨rfl, rfl, rfl, rfl⟩⟩
    · simp [Value.cells] at hcs
      obtain ⟨rfl, rfl, rfl⟩ := hcs
      exact ⟨zs, .inr ⟨_, rfl, hl, hm, by simpa using hz, hcell, hwz⟩⟩
  obtain ⟨a1, len1, cap1, rfl⟩ := okWide_slice Tryz.underlying22 (hval 1 22 v1 rfl rfl)
  have k1 := h1
  have lt1 : ∀ x ∈ p1, x.block < W.heap.size := by obtain ⟨m, hm⟩ := k1; exact DataW.trod_lt m _ _ _ hm
  obtain ⟨z1, w1⟩ : ∃ zs, IsRow .u8 W a1 len1 cap1 zs := by
    obtain ⟨fuel, hf⟩ := h1
    rcases open_ints Tryz.underlying22 Tryz.underlying5 (by kernel_rfl) hf with ⟨hcs, _⟩ | ⟨x, l, c, zs, hcs, _, hl, hm, hz, _, hcell, hwz⟩
    · simp [Value.cells] at hcs
      obtain ⟨rfl, rfl, rfl⟩ := hcs
      exact ⟨[], .inl ⟨rfl, rfl, rfl, rfl⟩⟩
    · simp [Value.cells] at hcs
      obtain ⟨rfl, rfl, rfl⟩ := hcs
      exact ⟨zs, .inr ⟨_, rfl, hl, hm, by simpa using hz, hcell, hwz⟩⟩
  clear hA0 hV0 hval0
  refine (walk a0 len0 cap0 z0 a1 len1 cap1 z1 W w0 w1 (tab_of_laidI hL)).mono ?_
  rintro e W' ⟨rfl, bel⟩
  exact ⟨_, rfl, _, _, _, [], _, [], hW', trodAll_mk1 (shut_bool Tryz.underlying4 _), (trodAll_cons_mk (Below.trod laidOut (by kernel_rfl) (of_decide_eq_true (by kernel_rfl)) k0 bel lt0) (trodAll_cons_mk (Below.trod laidOut (by kernel_rfl) (of_decide_eq_true (by kernel_rfl)) k1 bel lt1) trodAll_mk0)), rfl, bel.frame _, fun h => by cases h⟩

theorem over : Rows.FnDecIntsSaid :=
  OpenClaim.holds_of_cond 4 Tryz.f4 rfl rfl rfl rfl rfl rfl rfl ⟨rfl, rfl, rfl, rfl, rfl⟩ rfl rfl rfl rfl rfl (by kernel_rfl) Tryz.func4 (by kernel_rfl)
    (of_decide_eq_true (by kernel_rfl)) (by unfold Func.isWrapper; rw [if_neg (of_decide_eq_false (by kernel_rfl))]; exact ⟨rfl, rfl⟩)
    (fun os started H enc _ F0 => by rw [OpenClaim.pre_eq_preRow]; exact lifted os started H enc F0)

/-- The given statement. -/
theorem proved : Rows.FnDecIntsCardSaid :=
  Claim7.holds_tied_plain_at .later [] [.data, .data, .data, .data, .sentinel, .sentinel, .pinned] true _ true
    over (fun _ h => by cases h) (by kernel_rfl) (fun _ h => by cases h) fnDecInts_row_tie rfl ⟨rfl, rfl⟩ (by kernel_rfl) rfl
    (fun f fn hf hfn => by
      obtain rfl : f = 4 := Option.some.inj ((show Tryz.prog.funcNamed Rows.fnDecIntsRow.func = some 4 by kernel_rfl).symm.trans hf) |>.symm
      obtain rfl : fn = Tryz.f4 := (Option.some.inj (Tryz.func4.symm.trans hfn)).symm
      exact ⟨by kernel_rfl, fun j t ht => by
        rw [Tryz.params4] at ht
        rcases j with _ | j
        · obtain rfl : t = 22 := by simpa using ht.symm
          exact (show Tryz.prog.wantsStandIn 22 = false by kernel_rfl)
        · skip
          rcases j with _ | j
          · obtain rfl : t = 22 := by simpa using ht.symm
            exact (show Tryz.prog.wantsStandIn 22 = false by kernel_rfl)
          · simp at ht⟩)
    (by kernel_rfl)

end Go.Proofs.YthijeckcjfnbcaaGreatDoor.fnDecInts
