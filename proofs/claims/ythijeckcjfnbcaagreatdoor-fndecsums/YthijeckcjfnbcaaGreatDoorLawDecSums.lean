/- For every code: of the decimals drawn from it sums and products are commutative, a difference is the sum with the negated number, a number minus itself is 0, and of two one is less or they are equal. No condition. -/
import Derived.Test.YthijeckcjfnbcaaGreatDoorSumMath
import Derived.Test.YthijeckcjfnbcaaGreatDoorDrawTwo
import Derived.Test.YthijeckcjfnbcaaGreatDoorTailPair
import Derived.Test.YthijeckcjfnbcaaGreatDoorRowOpen
import Derived.Test.YthijeckcjfnbcaaGreatDoorImplDec3
import Derived.Test.YthijeckcjfnbcaaGreatDoorImplDec7
import Derived.Test.YthijeckcjfnbcaaGreatDoorImplDec8
import Derived.Test.YthijeckcjfnbcaaGreatDoorImplDec9
import Derived.Test.YthijeckcjfnbcaaGreatDoorSpecDec8
import Derived.Test.YthijeckcjfnbcaaGreatDoorSpecDec9
import Derived.Test.YthijeckcjfnbcaaGreatDoorLaidD
namespace Go.Proofs.YthijeckcjfnbcaaGreatDoor.fnDecSums
open Go.ChangeShapes Go.WideShapes Go.ChangeAt Go.RowKit Go.Shelf
open Go.ChangeMaps (open_string shut_string)
set_option linter.unusedVariables false

theorem laidOut : laidOutB Tryz.prog = true := by kernel_rfl

/-- A contract that answers a decimal and a code, by its fields. -/
theorem ansDC {f : FuncId} {args : Array Value} {R : DecV × Int} {rn : Bool} {rs : ByteArray} {re rc : Int} (hR : R = (dOf rn rs re, rc)) (h : ∀ W, Calls Tryz.prog f args W (AnsDC R W)) :
    ∀ W, Calls Tryz.prog f args W fun e w' => e = .returned (.tuple #[.agg (row3 rn rs re), .int .i64 rc]) ∧ Below W.heap.size W w' := fun W => by
  have := h W
  unfold AnsDC at this
  rw [hR, ans_dec] at this
  exact this
theorem ansD {f : FuncId} {args : Array Value} {R : DecV} {rn : Bool} {rs : ByteArray} {re : Int} (hR : R = dOf rn rs re) (h : ∀ W, Calls Tryz.prog f args W (AnsD R W)) :
    ∀ W, Calls Tryz.prog f args W fun e w' => e = .returned (.agg (row3 rn rs re)) ∧ Below W.heap.size W w' := fun W => by
  have := h W
  unfold AnsD at this
  rw [hR, ans_dec] at this
  exact this
theorem ansN {f : FuncId} {args : Array Value} {v u : Int} (hv : v = u) (h : ∀ W, Calls Tryz.prog f args W (AnsN v W)) :
    ∀ W, Calls Tryz.prog f args W fun e w' => e = .returned (.int .i64 u) ∧ Below W.heap.size W w' := fun W => by
  have := h W
  unfold AnsN at this
  rw [hv] at this
  exact this
/-- A decimal by its fields. -/
theorem fields (d : DecV) : ∃ (n : Bool) (s : ByteArray) (e : Int), d = dOf n s e ∧ s.size = d.dig.length := ⟨d.neg, ⟨d.dig.toArray⟩, d.exp, rfl, rfl⟩

set_option maxHeartbeats 8000000 in
set_option maxRecDepth 100000 in
theorem walk (a : Option Addr) (len cap : Nat) (z : List Int) (w : World) (hR : IsRow .u8 w a len cap z) (hT : True) :
    Calls Tryz.prog 3 #[.slice a len cap] w fun e w' => e = .returned (.bool true) ∧ Below w.heap.size w w' := by
  obtain ⟨zs, rfl, hN, hZ⟩ := bytes_of_row hR
  clear hR
  by_cases hlen : zs.length ≤ 1048576
  · have cB := big_any a zs.length cap w hlen
    have cD := drawTwo_add a cap zs w hlen hN hZ
    unfold DrawnTwo at cD
    clear hN hZ
    go_enter Tryz.func3, Tryz.ntmps3
    go_wp2_with fail
    refine cB.mono ?_
    rintro e w0 ⟨rfl, rfl⟩
    clear cB
    go_wp2_with fail
    refine cD.mono ?_
    rintro e w1 ⟨n, t, x, n2, t2, x2, ⟨h1, h2, h3⟩, ⟨q1, q2, q3⟩, rfl, B1⟩
    clear cD
    have hB1 := B1.size
    have X0 : DecAt (w1.alloc (.cells (row3 false ⟨#[]⟩ 0) 25)) w1.heap.size false ⟨#[]⟩ 0 := DecAt.new w1 false ⟨#[]⟩ 0
    obtain ⟨wa, hwa⟩ : ∃ q, w1.alloc (.cells (row3 false ⟨#[]⟩ 0) 25) = q := ⟨_, rfl⟩
    have hsa : wa.heap.size = w1.heap.size + 1 := by rw [← hwa]; simp
    rw [hwa] at X0
    obtain ⟨wb, hwb⟩ : ∃ q, wa.alloc (.cells (row3 false ⟨#[]⟩ 0) 25) = q := ⟨_, rfl⟩
    have X1 : DecAt wb w1.heap.size false ⟨#[]⟩ 0 := by rw [← hwb]; exact X0.alloc _
    have Y1 : DecAt wb (w1.heap.size + 1) false ⟨#[]⟩ 0 := by rw [← hwb, ← hsa]; exact DecAt.new wa false ⟨#[]⟩ 0
    have E1 : Below w0.heap.size w0 wb := by rw [← hwb]; exact Below.alloc (by rw [← hwa]; exact B1.alloc hB1 _) (by omega) _
    have X2 : DecAt (wb.setRow w1.heap.size (row3 n t x)) w1.heap.size n t x := X1.row
    have Y2 : DecAt (wb.setRow w1.heap.size (row3 n t x)) (w1.heap.size + 1) false ⟨#[]⟩ 0 := Y1.rowO (by omega) _
    have E2 : Below w0.heap.size w0 (wb.setRow w1.heap.size (row3 n t x)) := below_row3 E1 hB1 _
    have A3 : DecAt ((wb.setRow w1.heap.size (row3 n t x)).setRow (w1.heap.size + 1) (row3 n2 t2 x2)) w1.heap.size n t x := X2.rowO (by omega) _
    have B3 : DecAt ((wb.setRow w1.heap.size (row3 n t x)).setRow (w1.heap.size + 1) (row3 n2 t2 x2)) (w1.heap.size + 1) n2 t2 x2 := Y2.row
    have D3 : Below w0.heap.size w0 ((wb.setRow w1.heap.size (row3 n t x)).setRow (w1.heap.size + 1) (row3 n2 t2 x2)) := below_row3 E2 (by omega) _
    clear X0 E1 X2 E2
    have cK := fun W => specDecOk n t x W (by omega) h2 h3
    have cL := fun W => specDecOk n2 t2 x2 W (by omega) q2 q3
    unfold AnsB at cK cL
    go_wp2_with (first | (with_reducible show wpList _ _ _ (⟨_, .store _ _ _, _, _, _, _⟩ :: _) _ _; first | refine store_dec w1.heap.size rfl rfl X1 ?_ | refine store_dec (w1.heap.size + 1) rfl rfl Y2 ?_) | (with_reducible show wpList _ _ _ (⟨_, .load _ _, _, _, _, _⟩ :: _) _ _; refine load_dec w1.heap.size rfl A3 ?_))
    clear X1 Y1 Y2 hwa hwb
    by_cases hok1 : (dOf n t x).Ok
    · have cK2 : ∀ W, Calls Tryz.prog 7 #[.agg #[.bool n, .string t, .int .i64 x]] W fun e w' => e = .returned (.bool true) ∧ Below W.heap.size W w' := fun W => (cK W).mono fun e w' ⟨b, g1, g2, g3⟩ => ⟨by rw [g1, g2.2 hok1], g3⟩
      clear cK
      by_cases hok2 : (dOf n2 t2 x2).Ok
      · have cL2 : ∀ W, Calls Tryz.prog 7 #[.agg #[.bool n2, .string t2, .int .i64 x2]] W fun e w' => e = .returned (.bool true) ∧ Below W.heap.size W w' := fun W => (cL W).mono fun e w' ⟨b, g1, g2, g3⟩ => ⟨by rw [g1, g2.2 hok2], g3⟩
        clear cL
        have hrow : ∀ d : DecV, d.Ok → ∃ (n : Bool) (s : ByteArray) (e : Int), d = dOf n s e ∧ s.size ≤ 20 ∧ -9223372036854775808 ≤ e ∧ e ≤ 9223372036854775807 := fun d hd => by
          obtain ⟨n, s, e, h, hz⟩ := fields d
          have hx := hd.exps
          have hl := hd.len
          rw [h] at hx
          exact ⟨n, s, e, h, by omega, by have : -118 ≤ e := hx.1; omega, by have : e ≤ 99 := hx.2; omega⟩
        obtain ⟨pn, ps, pe, hP, hpz, hp1, hp2⟩ := hrow (addR (dOf n t x) (dOf n2 t2 x2)).1 (by unfold addR; rw [if_pos ⟨hok1, hok2⟩]; exact form_ok _ _ _)
        obtain ⟨pc, hpc⟩ : ∃ q, (addR (dOf n t x) (dOf n2 t2 x2)).2 = q := ⟨_, rfl⟩
        have eP : addR (dOf n t x) (dOf n2 t2 x2) = (dOf pn ps pe, pc) := Prod.ext hP hpc
        obtain ⟨mn, ms, me, hM, hmz, hm1, hm2⟩ := hrow (mulR (dOf n t x) (dOf n2 t2 x2)).1 (by unfold mulR; rw [if_pos ⟨hok1, hok2⟩]; exact form_ok _ _ _)
        obtain ⟨mc, hmc⟩ : ∃ q, (mulR (dOf n t x) (dOf n2 t2 x2)).2 = q := ⟨_, rfl⟩
        have eM : mulR (dOf n t x) (dOf n2 t2 x2) = (dOf mn ms me, mc) := Prod.ext hM hmc
        obtain ⟨sn, ss, se, hS, hsz, hs1, hs2⟩ := hrow (subR (dOf n t x) (dOf n2 t2 x2)).1 (by unfold subR; rw [if_pos ⟨hok1, hok2⟩]; exact form_ok _ _ _)
        obtain ⟨sc, hsc⟩ : ∃ q, (subR (dOf n t x) (dOf n2 t2 x2)).2 = q := ⟨_, rfl⟩
        have eS : subR (dOf n t x) (dOf n2 t2 x2) = (dOf sn ss se, sc) := Prod.ext hS hsc
        obtain ⟨bn, bs, be, hBn, hbz, hb1, hb2⟩ := hrow (negR (dOf n2 t2 x2)) (negR_ok hok2)
        obtain ⟨un, us, ue, hAn, haz, ha1, ha2⟩ := hrow (negR (dOf n t x)) (negR_ok hok1)
        have cA := ansDC eP (fun W => implDecAdd n t x n2 t2 x2 W (by omega) (by omega) h2 h3 q2 q3)
        have cAr := ansDC (by rw [addR_comm]; exact eP) (fun W => implDecAdd n2 t2 x2 n t x W (by omega) (by omega) q2 q3 h2 h3)
        have cAs := ansDC eP (fun W => specDecAdd n t x n2 t2 x2 W (by omega) (by omega) h2 h3 q2 q3)
        have cM := ansDC eM (fun W => implDecMul n t x n2 t2 x2 W (by omega) (by omega) h2 h3 q2 q3)
        have cMr := ansDC (by rw [mulR_comm]; exact eM) (fun W => implDecMul n2 t2 x2 n t x W (by omega) (by omega) q2 q3 h2 h3)
        have cMs := ansDC eM (fun W => specDecMul n t x n2 t2 x2 W (by omega) (by omega) h2 h3 q2 q3)
        have cS := ansDC eS (fun W => implDecSub n t x n2 t2 x2 W (by omega) (by omega) h2 h3 q2 q3)
        have cSs := ansDC eS (fun W => specDecSub n t x n2 t2 x2 W (by omega) (by omega) h2 h3 q2 q3)
        have cN := ansD hBn (fun W => implDecNeg n2 t2 x2 W (by omega) q2 q3)
        have cAn := ansDC (rn := sn) (rs := ss) (re := se) (rc := sc) (by rw [← hBn, ← subR_add _ hok2]; exact eS) (fun W => implDecAdd n t x bn bs be W (by omega) (by omega) h2 h3 hb1 hb2)
        have cZ := ansDC (rn := false) (rs := ⟨#[]⟩) (re := 0) (rc := 0) (by rw [subR_self hok1]; rfl) (fun W => implDecSub n t x n t x W (by omega) (by omega) h2 h3 h2 h3)
        have cNa := ansD hAn (fun W => implDecNeg n t x W (by omega) h2 h3)
        have cNb := ansD (rn := n) (rs := t) (re := x) (by rw [← hAn, negR_negR hok1]) (fun W => implDecNeg un us ue W (by omega) ha1 ha2)
        obtain ⟨cv, hcv⟩ : ∃ q, cmpS (dOf n t x) (dOf n2 t2 x2) = q := ⟨_, rfl⟩
        have cC := ansN (u := cv) (by unfold cmpR; rw [if_pos ⟨hok1, hok2⟩]; exact hcv) (fun W => implDecCmp n t x n2 t2 x2 W (by omega) (by omega) h2 h3 q2 q3)
        have cCr := ansN (u := -cv) (by unfold cmpR; rw [if_pos ⟨hok2, hok1⟩, cmpS_anti hok2 hok1, hcv]) (fun W => implDecCmp n2 t2 x2 n t x W (by omega) (by omega) q2 q3 h2 h3)
        have hcv3 : cv = 0 ∨ cv = -1 ∨ cv = 1 := by rw [← hcv]; unfold cmpS; split; exact .inl rfl; split; exact .inr (.inl rfl); exact .inr (.inr rfl)
        have HCE := Lib.hid (cmpS_eq hok1 hok2)
        rw [hcv] at HCE
        have HC3 := Lib.hid hcv3
        clear hrow hP hpc eP hM hmc eM hS hsc eS hBn hAn hcv hcv3 hok1 hok2 hpz hp1 hp2 hmz hm1 hm2 hsz hs1 hs2 hbz hb1 hb2 haz ha1 ha2
        refine (cK2 _).mono ?_
        rintro r w4 ⟨rfl, R4⟩
        have A4 := A3.belowS R4
        have B4 := B3.belowS R4
        have D4 := below_kept D3 (Nat.le_refl _) R4
        clear R4 A3 B3 D3
        obtain ⟨bc0, bc1, bc2⟩ := B4.cell
        go_wp2_with fail
        clear bc0 bc1 bc2
        refine (cL2 _).mono ?_
        rintro r w5 ⟨rfl, R5⟩
        have A5 := A4.belowS R5
        have B5 := B4.belowS R5
        have D5 := below_kept D4 (Nat.le_refl _) R5
        clear R5 A4 B4 D4
        go_wp2_with (first | (with_reducible show wpList _ _ _ (⟨_, .load _ _, _, _, _, _⟩ :: _) _ _; first | refine load_dec w1.heap.size rfl A5 ?_ | refine load_dec (w1.heap.size + 1) rfl B5 ?_))
        refine (cA _).mono ?_
        rintro r w6 ⟨rfl, R6⟩
        have A6 := A5.belowS R6
        have B6 := B5.belowS R6
        have D6 := below_kept D5 (Nat.le_refl _) R6
        clear R6 A5 B5 D5
        have X0_7 := DecAt.new w6 false ⟨#[]⟩ 0
        have X7 : DecAt ((w6.alloc (.cells (row3 false ⟨#[]⟩ 0) 25)).setRow w6.heap.size (row3 pn ps pe)) w6.heap.size pn ps pe := X0_7.row
        have neAX : w1.heap.size ≠ w6.heap.size := Nat.ne_of_lt A6.lt
        have A7 : DecAt ((w6.alloc (.cells (row3 false ⟨#[]⟩ 0) 25)).setRow w6.heap.size (row3 pn ps pe)) w1.heap.size n t x := (A6.alloc _).rowO neAX _
        have neBX : w1.heap.size + 1 ≠ w6.heap.size := Nat.ne_of_lt B6.lt
        have B7 : DecAt ((w6.alloc (.cells (row3 false ⟨#[]⟩ 0) 25)).setRow w6.heap.size (row3 pn ps pe)) (w1.heap.size + 1) n2 t2 x2 := (B6.alloc _).rowO neBX _
        have D7 := below_row3 (D6.alloc D6.size (.cells (row3 false ⟨#[]⟩ 0) 25)) (g := w6.heap.size) D6.size (row3 pn ps pe)
        have leX : w0.heap.size ≤ w6.heap.size := D6.size
        clear A6 B6 D6
        go_wp2_with (first | (with_reducible show wpList _ _ _ (⟨_, .store _ _ _, _, _, _, _⟩ :: _) _ _; refine store_dec w6.heap.size rfl rfl X0_7 ?_) | (with_reducible show wpList _ _ _ (⟨_, .load _ _, _, _, _, _⟩ :: _) _ _; first | refine load_dec w1.heap.size rfl A7 ?_ | refine load_dec (w1.heap.size + 1) rfl B7 ?_ | refine load_dec w6.heap.size rfl X7 ?_))
        refine (cAr _).mono ?_
        rintro r w8 ⟨rfl, R8⟩
        have A8 := A7.belowS R8
        have B8 := B7.belowS R8
        have X8 := X7.belowS R8
        have D8 := below_kept D7 (Nat.le_refl _) R8
        clear R8 A7 B7 X7 D7
        have Y0_9 := DecAt.new w8 false ⟨#[]⟩ 0
        have Y9 : DecAt ((w8.alloc (.cells (row3 false ⟨#[]⟩ 0) 25)).setRow w8.heap.size (row3 pn ps pe)) w8.heap.size pn ps pe := Y0_9.row
        have neAY : w1.heap.size ≠ w8.heap.size := Nat.ne_of_lt A8.lt
        have A9 : DecAt ((w8.alloc (.cells (row3 false ⟨#[]⟩ 0) 25)).setRow w8.heap.size (row3 pn ps pe)) w1.heap.size n t x := (A8.alloc _).rowO neAY _
        have neBY : w1.heap.size + 1 ≠ w8.heap.size := Nat.ne_of_lt B8.lt
        have B9 : DecAt ((w8.alloc (.cells (row3 false ⟨#[]⟩ 0) 25)).setRow w8.heap.size (row3 pn ps pe)) (w1.heap.size + 1) n2 t2 x2 := (B8.alloc _).rowO neBY _
        have neXY : w6.heap.size ≠ w8.heap.size := Nat.ne_of_lt X8.lt
        have X9 : DecAt ((w8.alloc (.cells (row3 false ⟨#[]⟩ 0) 25)).setRow w8.heap.size (row3 pn ps pe)) w6.heap.size pn ps pe := (X8.alloc _).rowO neXY _
        have D9 := below_row3 (D8.alloc D8.size (.cells (row3 false ⟨#[]⟩ 0) 25)) (g := w8.heap.size) D8.size (row3 pn ps pe)
        have leY : w0.heap.size ≤ w8.heap.size := D8.size
        clear A8 B8 X8 D8
        go_wp2_with (first | (with_reducible show wpList _ _ _ (⟨_, .store _ _ _, _, _, _, _⟩ :: _) _ _; refine store_dec w8.heap.size rfl rfl Y0_9 ?_) | (with_reducible show wpList _ _ _ (⟨_, .load _ _, _, _, _, _⟩ :: _) _ _; first | refine load_dec w1.heap.size rfl A9 ?_ | refine load_dec (w1.heap.size + 1) rfl B9 ?_ | refine load_dec w6.heap.size rfl X9 ?_ | refine load_dec w8.heap.size rfl Y9 ?_))
        refine (cAs _).mono ?_
        rintro r w10 ⟨rfl, R10⟩
        have A10 := A9.belowS R10
        have B10 := B9.belowS R10
        have X10 := X9.belowS R10
        have Y10 := Y9.belowS R10
        have D10 := below_kept D9 (Nat.le_refl _) R10
        clear R10 A9 B9 X9 Y9 D9
        have U0_11 := DecAt.new w10 false ⟨#[]⟩ 0
        have U11 : DecAt ((w10.alloc (.cells (row3 false ⟨#[]⟩ 0) 25)).setRow w10.heap.size (row3 pn ps pe)) w10.heap.size pn ps pe := U0_11.row
        have neAU : w1.heap.size ≠ w10.heap.size := Nat.ne_of_lt A10.lt
        have A11 : DecAt ((w10.alloc (.cells (row3 false ⟨#[]⟩ 0) 25)).setRow w10.heap.size (row3 pn ps pe)) w1.heap.size n t x := (A10.alloc _).rowO neAU _
        have neBU : w1.heap.size + 1 ≠ w10.heap.size := Nat.ne_of_lt B10.lt
        have B11 : DecAt ((w10.alloc (.cells (row3 false ⟨#[]⟩ 0) 25)).setRow w10.heap.size (row3 pn ps pe)) (w1.heap.size + 1) n2 t2 x2 := (B10.alloc _).rowO neBU _
        have neXU : w6.heap.size ≠ w10.heap.size := Nat.ne_of_lt X10.lt
        have X11 : DecAt ((w10.alloc (.cells (row3 false ⟨#[]⟩ 0) 25)).setRow w10.heap.size (row3 pn ps pe)) w6.heap.size pn ps pe := (X10.alloc _).rowO neXU _
        have neYU : w8.heap.size ≠ w10.heap.size := Nat.ne_of_lt Y10.lt
        have Y11 : DecAt ((w10.alloc (.cells (row3 false ⟨#[]⟩ 0) 25)).setRow w10.heap.size (row3 pn ps pe)) w8.heap.size pn ps pe := (Y10.alloc _).rowO neYU _
        have D11 := below_row3 (D10.alloc D10.size (.cells (row3 false ⟨#[]⟩ 0) 25)) (g := w10.heap.size) D10.size (row3 pn ps pe)
        have leU : w0.heap.size ≤ w10.heap.size := D10.size
        clear A10 B10 X10 Y10 D10
        obtain ⟨xc0, xc1, xc2⟩ := X11.cell
        obtain ⟨yc0, yc1, yc2⟩ := Y11.cell
        go_wp2_with (first | (with_reducible show wpList _ _ _ (⟨_, .store _ _ _, _, _, _, _⟩ :: _) _ _; refine store_dec w10.heap.size rfl rfl U0_11 ?_) | (with_reducible show wpList _ _ _ (⟨_, .load _ _, _, _, _, _⟩ :: _) _ _; first | refine load_dec w1.heap.size rfl A11 ?_ | refine load_dec (w1.heap.size + 1) rfl B11 ?_ | refine load_dec w6.heap.size rfl X11 ?_ | refine load_dec w8.heap.size rfl Y11 ?_ | refine load_dec w10.heap.size rfl U11 ?_))
        clear xc0 xc1 xc2 yc0 yc1 yc2
        refine (cM _).mono ?_
        rintro r w12 ⟨rfl, R12⟩
        have A12 := A11.belowS R12
        have B12 := B11.belowS R12
        have X12 := X11.belowS R12
        have Y12 := Y11.belowS R12
        have U12 := U11.belowS R12
        have D12 := below_kept D11 (Nat.le_refl _) R12
        clear R12 A11 B11 X11 Y11 U11 D11
        have X13 : DecAt (w12.setRow w6.heap.size (row3 mn ms me)) w6.heap.size mn ms me := X12.row
        have A13 : DecAt (w12.setRow w6.heap.size (row3 mn ms me)) w1.heap.size n t x := A12.rowO neAX _
        have B13 : DecAt (w12.setRow w6.heap.size (row3 mn ms me)) (w1.heap.size + 1) n2 t2 x2 := B12.rowO neBX _
        have Y13 : DecAt (w12.setRow w6.heap.size (row3 mn ms me)) w8.heap.size pn ps pe := Y12.rowO (fun q => neXY q.symm) _
        have U13 : DecAt (w12.setRow w6.heap.size (row3 mn ms me)) w10.heap.size pn ps pe := U12.rowO (fun q => neXU q.symm) _
        have D13 := below_row3 D12 (g := w6.heap.size) leX (row3 mn ms me)
        have pre13 := X12
        clear A12 B12 X12 Y12 U12 D12
        go_wp2_with (first | (with_reducible show wpList _ _ _ (⟨_, .store _ _ _, _, _, _, _⟩ :: _) _ _; refine store_dec w6.heap.size rfl rfl pre13 ?_) | (with_reducible show wpList _ _ _ (⟨_, .load _ _, _, _, _, _⟩ :: _) _ _; first | refine load_dec w1.heap.size rfl A13 ?_ | refine load_dec (w1.heap.size + 1) rfl B13 ?_ | refine load_dec w6.heap.size rfl X13 ?_ | refine load_dec w8.heap.size rfl Y13 ?_ | refine load_dec w10.heap.size rfl U13 ?_))
        clear pre13
        refine (cMr _).mono ?_
        rintro r w14 ⟨rfl, R14⟩
        have A14 := A13.belowS R14
        have B14 := B13.belowS R14
        have X14 := X13.belowS R14
        have Y14 := Y13.belowS R14
        have U14 := U13.belowS R14
        have D14 := below_kept D13 (Nat.le_refl _) R14
        clear R14 A13 B13 X13 Y13 U13 D13
        have Y15 : DecAt (w14.setRow w8.heap.size (row3 mn ms me)) w8.heap.size mn ms me := Y14.row
        have A15 : DecAt (w14.setRow w8.heap.size (row3 mn ms me)) w1.heap.size n t x := A14.rowO neAY _
        have B15 : DecAt (w14.setRow w8.heap.size (row3 mn ms me)) (w1.heap.size + 1) n2 t2 x2 := B14.rowO neBY _
        have X15 : DecAt (w14.setRow w8.heap.size (row3 mn ms me)) w6.heap.size mn ms me := X14.rowO neXY _
        have U15 : DecAt (w14.setRow w8.heap.size (row3 mn ms me)) w10.heap.size pn ps pe := U14.rowO (fun q => neYU q.symm) _
        have D15 := below_row3 D14 (g := w8.heap.size) leY (row3 mn ms me)
        have pre15 := Y14
        clear A14 B14 X14 Y14 U14 D14
        go_wp2_with (first | (with_reducible show wpList _ _ _ (⟨_, .store _ _ _, _, _, _, _⟩ :: _) _ _; refine store_dec w8.heap.size rfl rfl pre15 ?_) | (with_reducible show wpList _ _ _ (⟨_, .load _ _, _, _, _, _⟩ :: _) _ _; first | refine load_dec w1.heap.size rfl A15 ?_ | refine load_dec (w1.heap.size + 1) rfl B15 ?_ | refine load_dec w6.heap.size rfl X15 ?_ | refine load_dec w8.heap.size rfl Y15 ?_ | refine load_dec w10.heap.size rfl U15 ?_))
        clear pre15
        refine (cMs _).mono ?_
        rintro r w16 ⟨rfl, R16⟩
        have A16 := A15.belowS R16
        have B16 := B15.belowS R16
        have X16 := X15.belowS R16
        have Y16 := Y15.belowS R16
        have U16 := U15.belowS R16
        have D16 := below_kept D15 (Nat.le_refl _) R16
        clear R16 A15 B15 X15 Y15 U15 D15
        obtain ⟨xc0, xc1, xc2⟩ := X16.cell
        obtain ⟨yc0, yc1, yc2⟩ := Y16.cell
        go_wp2_with (first | (with_reducible show wpList _ _ _ (⟨_, .load _ _, _, _, _, _⟩ :: _) _ _; first | refine load_dec w1.heap.size rfl A16 ?_ | refine load_dec (w1.heap.size + 1) rfl B16 ?_ | refine load_dec w6.heap.size rfl X16 ?_ | refine load_dec w8.heap.size rfl Y16 ?_ | refine load_dec w10.heap.size rfl U16 ?_))
        clear xc0 xc1 xc2 yc0 yc1 yc2
        refine (cS _).mono ?_
        rintro r w17 ⟨rfl, R17⟩
        have A17 := A16.belowS R17
        have B17 := B16.belowS R17
        have X17 := X16.belowS R17
        have Y17 := Y16.belowS R17
        have U17 := U16.belowS R17
        have D17 := below_kept D16 (Nat.le_refl _) R17
        clear R17 A16 B16 X16 Y16 U16 D16
        have X18 : DecAt (w17.setRow w6.heap.size (row3 sn ss se)) w6.heap.size sn ss se := X17.row
        have A18 : DecAt (w17.setRow w6.heap.size (row3 sn ss se)) w1.heap.size n t x := A17.rowO neAX _
        have B18 : DecAt (w17.setRow w6.heap.size (row3 sn ss se)) (w1.heap.size + 1) n2 t2 x2 := B17.rowO neBX _
        have Y18 : DecAt (w17.setRow w6.heap.size (row3 sn ss se)) w8.heap.size mn ms me := Y17.rowO (fun q => neXY q.symm) _
        have U18 : DecAt (w17.setRow w6.heap.size (row3 sn ss se)) w10.heap.size pn ps pe := U17.rowO (fun q => neXU q.symm) _
        have D18 := below_row3 D17 (g := w6.heap.size) leX (row3 sn ss se)
        have pre18 := X17
        clear A17 B17 X17 Y17 U17 D17
        go_wp2_with (first | (with_reducible show wpList _ _ _ (⟨_, .store _ _ _, _, _, _, _⟩ :: _) _ _; refine store_dec w6.heap.size rfl rfl pre18 ?_) | (with_reducible show wpList _ _ _ (⟨_, .load _ _, _, _, _, _⟩ :: _) _ _; first | refine load_dec w1.heap.size rfl A18 ?_ | refine load_dec (w1.heap.size + 1) rfl B18 ?_ | refine load_dec w6.heap.size rfl X18 ?_ | refine load_dec w8.heap.size rfl Y18 ?_ | refine load_dec w10.heap.size rfl U18 ?_))
        clear pre18
        have SST : Stable (fun W => DecAt W w1.heap.size n t x ∧ DecAt W (w1.heap.size + 1) n2 t2 x2 ∧ DecAt W w6.heap.size sn ss se ∧ Below w0.heap.size w0 W) := fun _ _ h hb => ⟨h.1.belowS hb, h.2.1.belowS hb, h.2.2.1.belowS hb, below_kept h.2.2.2 (Nat.le_refl _) hb⟩
        have TST : Stable (fun W => DecAt W w8.heap.size mn ms me) := fun _ _ h hb => h.belowS hb
        refine wp_region_grows 6 (fun W => DecAt W w1.heap.size n t x ∧ DecAt W (w1.heap.size + 1) n2 t2 x2 ∧ DecAt W w6.heap.size sn ss se ∧ Below w0.heap.size w0 W) (fun W => DecAt W w8.heap.size mn ms me) SST TST (by kernel_rfl) (by kernel_rfl) (fun _ _ d _ _ h => by cases d <;> exact h) ⟨A18, B18, X18, D18.drew⟩ Y18 ?_
        simp only [List.take_succ_cons, List.take_zero]
        (refine grows_step (fun K hK => ?_); go_simp; refine ⟨_, fun W hW => .inl (by obtain ⟨y0, y1, y2⟩ := hW.1.cell; obtain ⟨y3, y4, y5⟩ := hW.2.1.cell; obtain ⟨y6, y7, y8⟩ := hW.2.2.1.cell; first | (go_simp; exact rfl) | (go_simp; rw [if_neg (by omega)])), hK _ ?_⟩; clear hK K)
        (refine grows_step (fun K hK => ?_); go_simp; refine ⟨_, fun W hW => .inl (by obtain ⟨y0, y1, y2⟩ := hW.1.cell; obtain ⟨y3, y4, y5⟩ := hW.2.1.cell; obtain ⟨y6, y7, y8⟩ := hW.2.2.1.cell; first | (go_simp; exact rfl) | (go_simp; rw [if_neg (by omega)])), hK _ ?_⟩; clear hK K)
        (refine grows_step (fun K hK => ?_); go_simp; refine ⟨_, fun W hW => .inr (.inr ⟨_, _, ?_, cN W⟩), hK _ ?_⟩; (· first | (go_simp; done) | (go_simp; rfl)); clear hK K)
        (refine grows_step (fun K hK => ?_); go_simp; refine ⟨_, fun W hW => .inr (.inr ⟨_, _, ?_, cAn W⟩), hK _ ?_⟩; (· first | (go_simp; done) | (go_simp; rfl)); clear hK K)
        (refine grows_step (fun K hK => ?_); go_simp; refine ⟨_, fun W hW => .inl (by obtain ⟨y0, y1, y2⟩ := hW.1.cell; obtain ⟨y3, y4, y5⟩ := hW.2.1.cell; obtain ⟨y6, y7, y8⟩ := hW.2.2.1.cell; first | (go_simp; exact rfl) | (go_simp; rw [if_neg (by omega)])), hK _ ?_⟩; clear hK K)
        (refine grows_step (fun K hK => ?_); go_simp; refine ⟨_, fun W hW => .inl (by obtain ⟨y0, y1, y2⟩ := hW.1.cell; obtain ⟨y3, y4, y5⟩ := hW.2.1.cell; obtain ⟨y6, y7, y8⟩ := hW.2.2.1.cell; first | (go_simp; exact rfl) | (go_simp; rw [if_neg (by omega)])), hK _ ?_⟩; clear hK K)
        refine grows_nil ?_
        change Orders2 _ _ _ _ _ 3 _ _ _
        refine tail_pair (k0 := 6) (k1 := 7) (k2 := 8) _ SST (fun W E s => ⟨s.1.rowO neAY _, s.2.1.rowO neBY _, s.2.2.1.rowO neXY _, below_row3 s.2.2.2 leY _⟩) rfl rfl rfl (by kernel_rfl) (by kernel_rfl) (by kernel_rfl) (by kernel_rfl) (by kernel_rfl) (by kernel_rfl) (by kernel_rfl) rfl rfl rfl rfl rfl rfl ?_
        clear A18 B18 X18 Y18 U18 D18 SST TST cN cAn
        rintro w19 ⟨A19, B19, X19, D19⟩ Y19
        simp only [Act.put, List.setIfInBounds_toArray, List.set_cons_zero, List.set_cons_succ]
        go_wp2_with (first | (with_reducible show wpList _ _ _ (⟨_, .load _ _, _, _, _, _⟩ :: _) _ _; first | refine load_dec w1.heap.size rfl A19 ?_ | refine load_dec (w1.heap.size + 1) rfl B19 ?_ | refine load_dec w6.heap.size rfl X19 ?_ | refine load_dec w8.heap.size rfl Y19 ?_))
        refine (cSs _).mono ?_
        rintro r w20 ⟨rfl, R20⟩
        have A20 := A19.belowS R20
        have B20 := B19.belowS R20
        have X20 := X19.belowS R20
        have Y20 := Y19.belowS R20
        have D20 := below_kept D19 (Nat.le_refl _) R20
        clear R20 A19 B19 X19 Y19 D19
        obtain ⟨xc0, xc1, xc2⟩ := X20.cell
        obtain ⟨yc0, yc1, yc2⟩ := Y20.cell
        go_wp2_with (first | (with_reducible show wpList _ _ _ (⟨_, .load _ _, _, _, _, _⟩ :: _) _ _; first | refine load_dec w1.heap.size rfl A20 ?_ | refine load_dec (w1.heap.size + 1) rfl B20 ?_ | refine load_dec w6.heap.size rfl X20 ?_ | refine load_dec w8.heap.size rfl Y20 ?_))
        clear xc0 xc1 xc2 yc0 yc1 yc2
        refine (cZ _).mono ?_
        rintro r w21 ⟨rfl, R21⟩
        have A21 := A20.belowS R21
        have B21 := B20.belowS R21
        have X21 := X20.belowS R21
        have Y21 := Y20.belowS R21
        have D21 := below_kept D20 (Nat.le_refl _) R21
        clear R21 A20 B20 X20 Y20 D20
        have Z0_22 := DecAt.new w21 false ⟨#[]⟩ 0
        have Z22 : DecAt ((w21.alloc (.cells (row3 false ⟨#[]⟩ 0) 25)).setRow w21.heap.size (row3 false ⟨#[]⟩ 0)) w21.heap.size false ⟨#[]⟩ 0 := Z0_22.row
        have neAZ : w1.heap.size ≠ w21.heap.size := Nat.ne_of_lt A21.lt
        have A22 : DecAt ((w21.alloc (.cells (row3 false ⟨#[]⟩ 0) 25)).setRow w21.heap.size (row3 false ⟨#[]⟩ 0)) w1.heap.size n t x := (A21.alloc _).rowO neAZ _
        have neBZ : w1.heap.size + 1 ≠ w21.heap.size := Nat.ne_of_lt B21.lt
        have B22 : DecAt ((w21.alloc (.cells (row3 false ⟨#[]⟩ 0) 25)).setRow w21.heap.size (row3 false ⟨#[]⟩ 0)) (w1.heap.size + 1) n2 t2 x2 := (B21.alloc _).rowO neBZ _
        have neXZ : w6.heap.size ≠ w21.heap.size := Nat.ne_of_lt X21.lt
        have X22 : DecAt ((w21.alloc (.cells (row3 false ⟨#[]⟩ 0) 25)).setRow w21.heap.size (row3 false ⟨#[]⟩ 0)) w6.heap.size sn ss se := (X21.alloc _).rowO neXZ _
        have neYZ : w8.heap.size ≠ w21.heap.size := Nat.ne_of_lt Y21.lt
        have Y22 : DecAt ((w21.alloc (.cells (row3 false ⟨#[]⟩ 0) 25)).setRow w21.heap.size (row3 false ⟨#[]⟩ 0)) w8.heap.size sn ss se := (Y21.alloc _).rowO neYZ _
        have D22 := below_row3 (D21.alloc D21.size (.cells (row3 false ⟨#[]⟩ 0) 25)) (g := w21.heap.size) D21.size (row3 false ⟨#[]⟩ 0)
        have leZ : w0.heap.size ≤ w21.heap.size := D21.size
        clear A21 B21 X21 Y21 D21
        go_wp2_with (first | (with_reducible show wpList _ _ _ (⟨_, .store _ _ _, _, _, _, _⟩ :: _) _ _; refine store_dec w21.heap.size rfl rfl Z0_22 ?_) | (with_reducible show wpList _ _ _ (⟨_, .load _ _, _, _, _, _⟩ :: _) _ _; first | refine load_dec w1.heap.size rfl A22 ?_ | refine load_dec (w1.heap.size + 1) rfl B22 ?_ | refine load_dec w6.heap.size rfl X22 ?_ | refine load_dec w8.heap.size rfl Y22 ?_ | refine load_dec w21.heap.size rfl Z22 ?_))
        have SST : Stable (fun W => DecAt W w1.heap.size n t x ∧ DecAt W (w1.heap.size + 1) n2 t2 x2 ∧ DecAt W w21.heap.size false ⟨#[]⟩ 0 ∧ Below w0.heap.size w0 W) := fun _ _ h hb => ⟨h.1.belowS hb, h.2.1.belowS hb, h.2.2.1.belowS hb, below_kept h.2.2.2 (Nat.le_refl _) hb⟩
        by_cases hc0 : cv = 0
        · have hEq := HCE.out.1 hc0
          obtain rfl : n = n2 := congrArg DecV.neg hEq
          obtain rfl : t = t2 := ByteArray.ext (Array.ext' (congrArg DecV.dig hEq))
          obtain rfl : x = x2 := congrArg DecV.exp hEq
          subst hc0
          clear hEq HCE HC3
          refine wp_region_grows 35 (fun W => DecAt W w1.heap.size n t x ∧ DecAt W (w1.heap.size + 1) n t x ∧ DecAt W w21.heap.size false ⟨#[]⟩ 0 ∧ Below w0.heap.size w0 W) (fun _ => True) SST (fun _ _ _ _ => trivial) (by kernel_rfl) (by kernel_rfl) (fun _ _ d _ _ h => by cases d <;> exact h) ⟨A22, B22, Z22, D22.drew⟩ trivial ?_
          simp only [List.take_succ_cons, List.take_zero]
          (refine grows_step (fun K hK => ?_); go_simp; refine ⟨_, fun W hW => .inl (by obtain ⟨y0, y1, y2⟩ := hW.1.cell; obtain ⟨y3, y4, y5⟩ := hW.2.1.cell; obtain ⟨y6, y7, y8⟩ := hW.2.2.1.cell; first | (go_simp; exact rfl) | (go_simp; rw [if_neg (by omega)])), hK _ ?_⟩; clear hK K)
          (refine grows_step (fun K hK => ?_); go_simp; refine ⟨_, fun W hW => .inl (by obtain ⟨y0, y1, y2⟩ := hW.1.cell; obtain ⟨y3, y4, y5⟩ := hW.2.1.cell; obtain ⟨y6, y7, y8⟩ := hW.2.2.1.cell; first | (go_simp; exact rfl) | (go_simp; rw [if_neg (by omega)])), hK _ ?_⟩; clear hK K)
          (refine grows_step (fun K hK => ?_); go_simp; refine ⟨_, fun W hW => .inl (by obtain ⟨y0, y1, y2⟩ := hW.1.cell; obtain ⟨y3, y4, y5⟩ := hW.2.1.cell; obtain ⟨y6, y7, y8⟩ := hW.2.2.1.cell; first | (go_simp; exact rfl) | (go_simp; rw [if_neg (by omega)])), hK _ ?_⟩; clear hK K)
          (refine grows_step (fun K hK => ?_); go_simp; refine ⟨_, fun W hW => .inl (by obtain ⟨y0, y1, y2⟩ := hW.1.cell; obtain ⟨y3, y4, y5⟩ := hW.2.1.cell; obtain ⟨y6, y7, y8⟩ := hW.2.2.1.cell; first | (go_simp; exact rfl) | (go_simp; rw [if_neg (by omega)])), hK _ ?_⟩; clear hK K)
          (refine grows_step (fun K hK => ?_); go_simp; refine ⟨_, fun W hW => .inl (by obtain ⟨y0, y1, y2⟩ := hW.1.cell; obtain ⟨y3, y4, y5⟩ := hW.2.1.cell; obtain ⟨y6, y7, y8⟩ := hW.2.2.1.cell; first | (go_simp; exact rfl) | (go_simp; rw [if_neg (by omega)])), hK _ ?_⟩; clear hK K)
          (refine grows_step (fun K hK => ?_); go_simp; refine ⟨_, fun W hW => .inl (by obtain ⟨y0, y1, y2⟩ := hW.1.cell; obtain ⟨y3, y4, y5⟩ := hW.2.1.cell; obtain ⟨y6, y7, y8⟩ := hW.2.2.1.cell; first | (go_simp; exact rfl) | (go_simp; rw [if_neg (by omega)])), hK _ ?_⟩; clear hK K)
          (refine grows_step (fun K hK => ?_); go_simp; refine ⟨_, fun W hW => .inl (by obtain ⟨y0, y1, y2⟩ := hW.1.cell; obtain ⟨y3, y4, y5⟩ := hW.2.1.cell; obtain ⟨y6, y7, y8⟩ := hW.2.2.1.cell; first | (go_simp; exact rfl) | (go_simp; rw [if_neg (by omega)])), hK _ ?_⟩; clear hK K)
          (refine grows_step (fun K hK => ?_); go_simp; refine ⟨_, fun W hW => .inl (by obtain ⟨y0, y1, y2⟩ := hW.1.cell; obtain ⟨y3, y4, y5⟩ := hW.2.1.cell; obtain ⟨y6, y7, y8⟩ := hW.2.2.1.cell; first | (go_simp; exact rfl) | (go_simp; rw [if_neg (by omega)])), hK _ ?_⟩; clear hK K)
          (refine grows_step (fun K hK => ?_); go_simp; refine ⟨_, fun W hW => .inl (by obtain ⟨y0, y1, y2⟩ := hW.1.cell; obtain ⟨y3, y4, y5⟩ := hW.2.1.cell; obtain ⟨y6, y7, y8⟩ := hW.2.2.1.cell; first | (go_simp; exact rfl) | (go_simp; rw [if_neg (by omega)])), hK _ ?_⟩; clear hK K)
          (refine grows_step (fun K hK => ?_); go_simp; refine ⟨_, fun W hW => .inl (by obtain ⟨y0, y1, y2⟩ := hW.1.cell; obtain ⟨y3, y4, y5⟩ := hW.2.1.cell; obtain ⟨y6, y7, y8⟩ := hW.2.2.1.cell; first | (go_simp; exact rfl) | (go_simp; rw [if_neg (by omega)])), hK _ ?_⟩; clear hK K)
          (refine grows_step (fun K hK => ?_); go_simp; refine ⟨_, fun W hW => .inr (.inr ⟨_, _, ?_, cC W⟩), hK _ ?_⟩; (· first | (go_simp; done) | (go_simp; rfl)); clear hK K)
          (refine grows_step (fun K hK => ?_); go_simp; refine ⟨_, fun W hW => .inl (by obtain ⟨y0, y1, y2⟩ := hW.1.cell; obtain ⟨y3, y4, y5⟩ := hW.2.1.cell; obtain ⟨y6, y7, y8⟩ := hW.2.2.1.cell; first | (go_simp; exact rfl) | (go_simp; rw [if_neg (by omega)])), hK _ ?_⟩; clear hK K)
          (refine grows_step (fun K hK => ?_); go_simp; refine ⟨_, fun W hW => .inl (by obtain ⟨y0, y1, y2⟩ := hW.1.cell; obtain ⟨y3, y4, y5⟩ := hW.2.1.cell; obtain ⟨y6, y7, y8⟩ := hW.2.2.1.cell; first | (go_simp; exact rfl) | (go_simp; rw [if_neg (by omega)])), hK _ ?_⟩; clear hK K)
          (refine grows_step (fun K hK => ?_); go_simp; refine ⟨_, fun W hW => .inr (.inr ⟨_, _, ?_, cCr W⟩), hK _ ?_⟩; (· first | (go_simp; done) | (go_simp; rfl)); clear hK K)
          (refine grows_step (fun K hK => ?_); go_simp; refine ⟨_, fun W hW => .inl (by obtain ⟨y0, y1, y2⟩ := hW.1.cell; obtain ⟨y3, y4, y5⟩ := hW.2.1.cell; obtain ⟨y6, y7, y8⟩ := hW.2.2.1.cell; first | (go_simp; exact rfl) | (go_simp; rw [if_neg (by omega)])), hK _ ?_⟩; clear hK K)
          (refine grows_step (fun K hK => ?_); go_simp; refine ⟨_, fun W hW => .inl (by obtain ⟨y0, y1, y2⟩ := hW.1.cell; obtain ⟨y3, y4, y5⟩ := hW.2.1.cell; obtain ⟨y6, y7, y8⟩ := hW.2.2.1.cell; first | (go_simp; exact rfl) | (go_simp; rw [if_neg (by omega)])), hK _ ?_⟩; clear hK K)
          (refine grows_step (fun K hK => ?_); go_simp; refine ⟨_, fun W hW => .inl (by obtain ⟨y0, y1, y2⟩ := hW.1.cell; obtain ⟨y3, y4, y5⟩ := hW.2.1.cell; obtain ⟨y6, y7, y8⟩ := hW.2.2.1.cell; first | (go_simp; exact rfl) | (go_simp; rw [if_neg (by omega)])), hK _ ?_⟩; clear hK K)
          (refine grows_step (fun K hK => ?_); go_simp; refine ⟨_, fun W hW => .inl (by obtain ⟨y0, y1, y2⟩ := hW.1.cell; obtain ⟨y3, y4, y5⟩ := hW.2.1.cell; obtain ⟨y6, y7, y8⟩ := hW.2.2.1.cell; first | (go_simp; exact rfl) | (go_simp; rw [if_neg (by omega)])), hK _ ?_⟩; clear hK K)
          (refine grows_step (fun K hK => ?_); go_simp; refine ⟨_, fun W hW => .inl (by obtain ⟨y0, y1, y2⟩ := hW.1.cell; obtain ⟨y3, y4, y5⟩ := hW.2.1.cell; obtain ⟨y6, y7, y8⟩ := hW.2.2.1.cell; first | (go_simp; exact rfl) | (go_simp; rw [if_neg (by omega)])), hK _ ?_⟩; clear hK K)
          (refine grows_step (fun K hK => ?_); go_simp; refine ⟨_, fun W hW => .inr (.inr ⟨_, _, ?_, cNa W⟩), hK _ ?_⟩; (· first | (go_simp; done) | (go_simp; rfl)); clear hK K)
          (refine grows_step (fun K hK => ?_); go_simp; refine ⟨_, fun W hW => .inr (.inr ⟨_, _, ?_, cNb W⟩), hK _ ?_⟩; (· first | (go_simp; done) | (go_simp; rfl)); clear hK K)
          (refine grows_step (fun K hK => ?_); go_simp; refine ⟨_, fun W hW => .inl (by obtain ⟨y0, y1, y2⟩ := hW.1.cell; obtain ⟨y3, y4, y5⟩ := hW.2.1.cell; obtain ⟨y6, y7, y8⟩ := hW.2.2.1.cell; first | (go_simp; exact rfl) | (go_simp; rw [if_neg (by omega)])), hK _ ?_⟩; clear hK K)
          (refine grows_step (fun K hK => ?_); go_simp; refine ⟨_, fun W hW => .inl (by obtain ⟨y0, y1, y2⟩ := hW.1.cell; obtain ⟨y3, y4, y5⟩ := hW.2.1.cell; obtain ⟨y6, y7, y8⟩ := hW.2.2.1.cell; first | (go_simp; exact rfl) | (go_simp; rw [if_neg (by omega)])), hK _ ?_⟩; clear hK K)
          (refine grows_step (fun K hK => ?_); go_simp; refine ⟨_, fun W hW => .inl (by obtain ⟨y0, y1, y2⟩ := hW.1.cell; obtain ⟨y3, y4, y5⟩ := hW.2.1.cell; obtain ⟨y6, y7, y8⟩ := hW.2.2.1.cell; first | (go_simp; exact rfl) | (go_simp; rw [if_neg (by omega)])), hK _ ?_⟩; clear hK K)
          (refine grows_step (fun K hK => ?_); go_simp; refine ⟨_, fun W hW => .inl (by obtain ⟨y0, y1, y2⟩ := hW.1.cell; obtain ⟨y3, y4, y5⟩ := hW.2.1.cell; obtain ⟨y6, y7, y8⟩ := hW.2.2.1.cell; first | (go_simp; exact rfl) | (go_simp; rw [if_neg (by omega)])), hK _ ?_⟩; clear hK K)
          (refine grows_step (fun K hK => ?_); go_simp; refine ⟨_, fun W hW => .inl (by obtain ⟨y0, y1, y2⟩ := hW.1.cell; obtain ⟨y3, y4, y5⟩ := hW.2.1.cell; obtain ⟨y6, y7, y8⟩ := hW.2.2.1.cell; first | (go_simp; exact rfl) | (go_simp; rw [if_neg (by omega)])), hK _ ?_⟩; clear hK K)
          (refine grows_step (fun K hK => ?_); go_simp; refine ⟨_, fun W hW => .inl (by obtain ⟨y0, y1, y2⟩ := hW.1.cell; obtain ⟨y3, y4, y5⟩ := hW.2.1.cell; obtain ⟨y6, y7, y8⟩ := hW.2.2.1.cell; first | (go_simp; exact rfl) | (go_simp; rw [if_neg (by omega)])), hK _ ?_⟩; clear hK K)
          (refine grows_step (fun K hK => ?_); go_simp; refine ⟨_, fun W hW => .inr (.inr ⟨_, _, ?_, cC W⟩), hK _ ?_⟩; (· first | (go_simp; done) | (go_simp; rfl)); clear hK K)
          (refine grows_step (fun K hK => ?_); go_simp; refine ⟨_, fun W hW => .inl (by obtain ⟨y0, y1, y2⟩ := hW.1.cell; obtain ⟨y3, y4, y5⟩ := hW.2.1.cell; obtain ⟨y6, y7, y8⟩ := hW.2.2.1.cell; first | (go_simp; exact rfl) | (go_simp; rw [if_neg (by omega)])), hK _ ?_⟩; clear hK K)
          (refine grows_step (fun K hK => ?_); go_simp; refine ⟨_, fun W hW => .inl (by obtain ⟨y0, y1, y2⟩ := hW.1.cell; obtain ⟨y3, y4, y5⟩ := hW.2.1.cell; obtain ⟨y6, y7, y8⟩ := hW.2.2.1.cell; first | (go_simp; exact rfl) | (go_simp; rw [if_neg (by omega)])), hK _ ?_⟩; clear hK K)
          (refine grows_step (fun K hK => ?_); go_simp; refine ⟨_, fun W hW => .inl (by obtain ⟨y0, y1, y2⟩ := hW.1.cell; obtain ⟨y3, y4, y5⟩ := hW.2.1.cell; obtain ⟨y6, y7, y8⟩ := hW.2.2.1.cell; first | (go_simp; exact rfl) | (go_simp; rw [if_neg (by omega)])), hK _ ?_⟩; clear hK K)
          (refine grows_step (fun K hK => ?_); go_simp; refine ⟨_, fun W hW => .inl (by obtain ⟨y0, y1, y2⟩ := hW.1.cell; obtain ⟨y3, y4, y5⟩ := hW.2.1.cell; obtain ⟨y6, y7, y8⟩ := hW.2.2.1.cell; first | (go_simp; exact rfl) | (go_simp; rw [if_neg (by omega)])), hK _ ?_⟩; clear hK K)
          (refine grows_step (fun K hK => ?_); go_simp; refine ⟨_, fun W hW => .inl (by obtain ⟨y0, y1, y2⟩ := hW.1.cell; obtain ⟨y3, y4, y5⟩ := hW.2.1.cell; obtain ⟨y6, y7, y8⟩ := hW.2.2.1.cell; first | (go_simp; exact rfl) | (go_simp; rw [if_neg (by omega)])), hK _ ?_⟩; clear hK K)
          (refine grows_step (fun K hK => ?_); go_simp; refine ⟨_, fun W hW => .inl (by obtain ⟨y0, y1, y2⟩ := hW.1.cell; obtain ⟨y3, y4, y5⟩ := hW.2.1.cell; obtain ⟨y6, y7, y8⟩ := hW.2.2.1.cell; first | (go_simp; exact rfl) | (go_simp; rw [if_neg (by omega)])), hK _ ?_⟩; clear hK K)
          (refine grows_step (fun K hK => ?_); go_simp; refine ⟨_, fun W hW => .inl (by obtain ⟨y0, y1, y2⟩ := hW.1.cell; obtain ⟨y3, y4, y5⟩ := hW.2.1.cell; obtain ⟨y6, y7, y8⟩ := hW.2.2.1.cell; first | (go_simp; exact rfl) | (go_simp; rw [if_neg (by omega)])), hK _ ?_⟩; clear hK K)
          refine grows_nil ?_
          change Orders2 _ _ _ _ _ 0 _ _ _
          refine Orders2.done (by kernel_rfl) (fun W sW tW => ?_)
          go_wp2
          go_ret
          exact ⟨rfl, sW.2.2.2⟩
        · have hNe : ¬ (n = n2 ∧ t = t2 ∧ x = x2) := by rintro ⟨rfl, rfl, rfl⟩; exact hc0 (HCE.out.2 rfl)
          have hpm : cv = -1 ∨ cv = 1 := by rcases HC3.out with g | g | g; exact absurd g hc0; exact .inl g; exact .inr g
          clear HCE HC3 hc0
          have hd : (n ≠ n2) ∨ (n = n2 ∧ t ≠ t2) ∨ (n = n2 ∧ t = t2 ∧ x ≠ x2) := by
            by_cases g1 : n = n2
            · by_cases g2 : t = t2
              · exact .inr (.inr ⟨g1, g2, fun g3 => hNe ⟨g1, g2, g3⟩⟩)
              · exact .inr (.inl ⟨g1, g2⟩)
            · exact .inl g1
          clear hNe
          rcases hpm with rfl | rfl
          all_goals
            rcases hd with g1 | ⟨rfl, g2⟩ | ⟨rfl, rfl, g3⟩
            · have gb : (n == n2) = false := beq_eq_false_iff_ne.2 g1
              refine wp_region_grows 35 (fun W => DecAt W w1.heap.size n t x ∧ DecAt W (w1.heap.size + 1) n2 t2 x2 ∧ DecAt W w21.heap.size false ⟨#[]⟩ 0 ∧ Below w0.heap.size w0 W) (fun _ => True) SST (fun _ _ _ _ => trivial) (by kernel_rfl) (by kernel_rfl) (fun _ _ d _ _ h => by cases d <;> exact h) ⟨A22, B22, Z22, D22.drew⟩ trivial ?_
              simp only [List.take_succ_cons, List.take_zero]
              (refine grows_step (fun K hK => ?_); go_simp; refine ⟨_, fun W hW => .inl (by obtain ⟨y0, y1, y2⟩ := hW.1.cell; obtain ⟨y3, y4, y5⟩ := hW.2.1.cell; obtain ⟨y6, y7, y8⟩ := hW.2.2.1.cell; first | (go_simp; exact rfl) | (go_simp; rw [if_neg (by omega)])), hK _ ?_⟩; clear hK K)
              (refine grows_step (fun K hK => ?_); go_simp; refine ⟨_, fun W hW => .inl (by obtain ⟨y0, y1, y2⟩ := hW.1.cell; obtain ⟨y3, y4, y5⟩ := hW.2.1.cell; obtain ⟨y6, y7, y8⟩ := hW.2.2.1.cell; first | (go_simp; exact rfl) | (go_simp; rw [if_neg (by omega)])), hK _ ?_⟩; clear hK K)
              (refine grows_step (fun K hK => ?_); go_simp; refine ⟨_, fun W hW => .inl (by obtain ⟨y0, y1, y2⟩ := hW.1.cell; obtain ⟨y3, y4, y5⟩ := hW.2.1.cell; obtain ⟨y6, y7, y8⟩ := hW.2.2.1.cell; first | (go_simp; exact rfl) | (go_simp; rw [if_neg (by omega)])), hK _ ?_⟩; clear hK K)
              (refine grows_step (fun K hK => ?_); go_simp; refine ⟨_, fun W hW => .inl (by obtain ⟨y0, y1, y2⟩ := hW.1.cell; obtain ⟨y3, y4, y5⟩ := hW.2.1.cell; obtain ⟨y6, y7, y8⟩ := hW.2.2.1.cell; first | (go_simp; exact rfl) | (go_simp; rw [if_neg (by omega)])), hK _ ?_⟩; clear hK K)
              (refine grows_step (fun K hK => ?_); go_simp; refine ⟨_, fun W hW => .inl (by obtain ⟨y0, y1, y2⟩ := hW.1.cell; obtain ⟨y3, y4, y5⟩ := hW.2.1.cell; obtain ⟨y6, y7, y8⟩ := hW.2.2.1.cell; first | (go_simp; exact rfl) | (go_simp; rw [if_neg (by omega)])), hK _ ?_⟩; clear hK K)
              (refine grows_step (fun K hK => ?_); go_simp; refine ⟨_, fun W hW => .inl (by obtain ⟨y0, y1, y2⟩ := hW.1.cell; obtain ⟨y3, y4, y5⟩ := hW.2.1.cell; obtain ⟨y6, y7, y8⟩ := hW.2.2.1.cell; first | (go_simp; exact rfl) | (go_simp; rw [if_neg (by omega)])), hK _ ?_⟩; clear hK K)
              (refine grows_step (fun K hK => ?_); go_simp; refine ⟨_, fun W hW => .inl (by obtain ⟨y0, y1, y2⟩ := hW.1.cell; obtain ⟨y3, y4, y5⟩ := hW.2.1.cell; obtain ⟨y6, y7, y8⟩ := hW.2.2.1.cell; first | (go_simp; exact rfl) | (go_simp; rw [if_neg (by omega)])), hK _ ?_⟩; clear hK K)
              (refine grows_step (fun K hK => ?_); go_simp; refine ⟨_, fun W hW => .inl (by obtain ⟨y0, y1, y2⟩ := hW.1.cell; obtain ⟨y3, y4, y5⟩ := hW.2.1.cell; obtain ⟨y6, y7, y8⟩ := hW.2.2.1.cell; first | (go_simp; exact rfl) | (go_simp; rw [if_neg (by omega)])), hK _ ?_⟩; clear hK K)
              (refine grows_step (fun K hK => ?_); go_simp; refine ⟨_, fun W hW => .inl (by obtain ⟨y0, y1, y2⟩ := hW.1.cell; obtain ⟨y3, y4, y5⟩ := hW.2.1.cell; obtain ⟨y6, y7, y8⟩ := hW.2.2.1.cell; first | (go_simp; exact rfl) | (go_simp; rw [if_neg (by omega)])), hK _ ?_⟩; clear hK K)
              (refine grows_step (fun K hK => ?_); go_simp; refine ⟨_, fun W hW => .inl (by obtain ⟨y0, y1, y2⟩ := hW.1.cell; obtain ⟨y3, y4, y5⟩ := hW.2.1.cell; obtain ⟨y6, y7, y8⟩ := hW.2.2.1.cell; first | (go_simp; exact rfl) | (go_simp; rw [if_neg (by omega)])), hK _ ?_⟩; clear hK K)
              (refine grows_step (fun K hK => ?_); go_simp; refine ⟨_, fun W hW => .inr (.inr ⟨_, _, ?_, cC W⟩), hK _ ?_⟩; (· first | (go_simp; done) | (go_simp; rfl)); clear hK K)
              (refine grows_step (fun K hK => ?_); go_simp; refine ⟨_, fun W hW => .inl (by obtain ⟨y0, y1, y2⟩ := hW.1.cell; obtain ⟨y3, y4, y5⟩ := hW.2.1.cell; obtain ⟨y6, y7, y8⟩ := hW.2.2.1.cell; first | (go_simp; exact rfl) | (go_simp; rw [if_neg (by omega)])), hK _ ?_⟩; clear hK K)
              (refine grows_step (fun K hK => ?_); go_simp; refine ⟨_, fun W hW => .inl (by obtain ⟨y0, y1, y2⟩ := hW.1.cell; obtain ⟨y3, y4, y5⟩ := hW.2.1.cell; obtain ⟨y6, y7, y8⟩ := hW.2.2.1.cell; first | (go_simp; exact rfl) | (go_simp; rw [if_neg (by omega)])), hK _ ?_⟩; clear hK K)
              (refine grows_step (fun K hK => ?_); go_simp; refine ⟨_, fun W hW => .inr (.inr ⟨_, _, ?_, cCr W⟩), hK _ ?_⟩; (· first | (go_simp; done) | (go_simp; rfl)); clear hK K)
              (refine grows_step (fun K hK => ?_); go_simp; refine ⟨_, fun W hW => .inl (by obtain ⟨y0, y1, y2⟩ := hW.1.cell; obtain ⟨y3, y4, y5⟩ := hW.2.1.cell; obtain ⟨y6, y7, y8⟩ := hW.2.2.1.cell; first | (go_simp; exact rfl) | (go_simp; rw [if_neg (by omega)])), hK _ ?_⟩; clear hK K)
              (refine grows_step (fun K hK => ?_); go_simp; refine ⟨_, fun W hW => .inl (by obtain ⟨y0, y1, y2⟩ := hW.1.cell; obtain ⟨y3, y4, y5⟩ := hW.2.1.cell; obtain ⟨y6, y7, y8⟩ := hW.2.2.1.cell; first | (go_simp; exact rfl) | (go_simp; rw [if_neg (by omega)])), hK _ ?_⟩; clear hK K)
              (refine grows_step (fun K hK => ?_); go_simp; refine ⟨_, fun W hW => .inl (by obtain ⟨y0, y1, y2⟩ := hW.1.cell; obtain ⟨y3, y4, y5⟩ := hW.2.1.cell; obtain ⟨y6, y7, y8⟩ := hW.2.2.1.cell; first | (go_simp; exact rfl) | (go_simp; rw [if_neg (by omega)])), hK _ ?_⟩; clear hK K)
              (refine grows_step (fun K hK => ?_); go_simp; refine ⟨_, fun W hW => .inl (by obtain ⟨y0, y1, y2⟩ := hW.1.cell; obtain ⟨y3, y4, y5⟩ := hW.2.1.cell; obtain ⟨y6, y7, y8⟩ := hW.2.2.1.cell; first | (go_simp; exact rfl) | (go_simp; rw [if_neg (by omega)])), hK _ ?_⟩; clear hK K)
              (refine grows_step (fun K hK => ?_); go_simp; refine ⟨_, fun W hW => .inl (by obtain ⟨y0, y1, y2⟩ := hW.1.cell; obtain ⟨y3, y4, y5⟩ := hW.2.1.cell; obtain ⟨y6, y7, y8⟩ := hW.2.2.1.cell; first | (go_simp; exact rfl) | (go_simp; rw [if_neg (by omega)])), hK _ ?_⟩; clear hK K)
              (refine grows_step (fun K hK => ?_); go_simp; refine ⟨_, fun W hW => .inr (.inr ⟨_, _, ?_, cNa W⟩), hK _ ?_⟩; (· first | (go_simp; done) | (go_simp; rfl)); clear hK K)
              (refine grows_step (fun K hK => ?_); go_simp; refine ⟨_, fun W hW => .inr (.inr ⟨_, _, ?_, cNb W⟩), hK _ ?_⟩; (· first | (go_simp; done) | (go_simp; rfl)); clear hK K)
              (refine grows_step (fun K hK => ?_); go_simp; refine ⟨_, fun W hW => .inl (by obtain ⟨y0, y1, y2⟩ := hW.1.cell; obtain ⟨y3, y4, y5⟩ := hW.2.1.cell; obtain ⟨y6, y7, y8⟩ := hW.2.2.1.cell; first | (go_simp; exact rfl) | (go_simp; rw [if_neg (by omega)])), hK _ ?_⟩; clear hK K)
              (refine grows_step (fun K hK => ?_); go_simp; refine ⟨_, fun W hW => .inl (by obtain ⟨y0, y1, y2⟩ := hW.1.cell; obtain ⟨y3, y4, y5⟩ := hW.2.1.cell; obtain ⟨y6, y7, y8⟩ := hW.2.2.1.cell; first | (go_simp; exact rfl) | (go_simp; rw [if_neg (by omega)])), hK _ ?_⟩; clear hK K)
              (refine grows_step (fun K hK => ?_); go_simp; refine ⟨_, fun W hW => .inl (by obtain ⟨y0, y1, y2⟩ := hW.1.cell; obtain ⟨y3, y4, y5⟩ := hW.2.1.cell; obtain ⟨y6, y7, y8⟩ := hW.2.2.1.cell; first | (go_simp; exact rfl) | (go_simp; rw [if_neg (by omega)])), hK _ ?_⟩; clear hK K)
              (refine grows_step (fun K hK => ?_); go_simp; refine ⟨_, fun W hW => .inl (by obtain ⟨y0, y1, y2⟩ := hW.1.cell; obtain ⟨y3, y4, y5⟩ := hW.2.1.cell; obtain ⟨y6, y7, y8⟩ := hW.2.2.1.cell; first | (go_simp; exact rfl) | (go_simp; rw [if_neg (by omega)])), hK _ ?_⟩; clear hK K)
              (refine grows_step (fun K hK => ?_); go_simp; refine ⟨_, fun W hW => .inl (by obtain ⟨y0, y1, y2⟩ := hW.1.cell; obtain ⟨y3, y4, y5⟩ := hW.2.1.cell; obtain ⟨y6, y7, y8⟩ := hW.2.2.1.cell; first | (go_simp; exact rfl) | (go_simp; rw [if_neg (by omega)])), hK _ ?_⟩; clear hK K)
              (refine grows_step (fun K hK => ?_); go_simp; refine ⟨_, fun W hW => .inl (by obtain ⟨y0, y1, y2⟩ := hW.1.cell; obtain ⟨y3, y4, y5⟩ := hW.2.1.cell; obtain ⟨y6, y7, y8⟩ := hW.2.2.1.cell; first | (go_simp; exact rfl) | (go_simp; rw [if_neg (by omega)])), hK _ ?_⟩; clear hK K)
              (refine grows_step (fun K hK => ?_); go_simp; refine ⟨_, fun W hW => .inr (.inr ⟨_, _, ?_, cC W⟩), hK _ ?_⟩; (· first | (go_simp; done) | (go_simp; rfl)); clear hK K)
              (refine grows_step (fun K hK => ?_); go_simp; refine ⟨_, fun W hW => .inl (by obtain ⟨y0, y1, y2⟩ := hW.1.cell; obtain ⟨y3, y4, y5⟩ := hW.2.1.cell; obtain ⟨y6, y7, y8⟩ := hW.2.2.1.cell; first | (go_simp; exact rfl) | (go_simp; rw [if_neg (by omega)])), hK _ ?_⟩; clear hK K)
              (refine grows_step (fun K hK => ?_); go_simp; refine ⟨_, fun W hW => .inl (by obtain ⟨y0, y1, y2⟩ := hW.1.cell; obtain ⟨y3, y4, y5⟩ := hW.2.1.cell; obtain ⟨y6, y7, y8⟩ := hW.2.2.1.cell; first | (go_simp; exact rfl) | (go_simp; rw [if_neg (by omega)])), hK _ ?_⟩; clear hK K)
              (refine grows_step (fun K hK => ?_); go_simp; refine ⟨_, fun W hW => .inl (by obtain ⟨y0, y1, y2⟩ := hW.1.cell; obtain ⟨y3, y4, y5⟩ := hW.2.1.cell; obtain ⟨y6, y7, y8⟩ := hW.2.2.1.cell; first | (go_simp; exact rfl) | (go_simp; rw [if_neg (by omega)])), hK _ ?_⟩; clear hK K)
              (refine grows_step (fun K hK => ?_); go_simp; refine ⟨_, fun W hW => .inl (by obtain ⟨y0, y1, y2⟩ := hW.1.cell; obtain ⟨y3, y4, y5⟩ := hW.2.1.cell; obtain ⟨y6, y7, y8⟩ := hW.2.2.1.cell; first | (go_simp; exact rfl) | (go_simp; rw [if_neg (by omega)])), hK _ ?_⟩; clear hK K)
              (refine grows_step (fun K hK => ?_); go_simp; refine ⟨_, fun W hW => .inl (by obtain ⟨y0, y1, y2⟩ := hW.1.cell; obtain ⟨y3, y4, y5⟩ := hW.2.1.cell; obtain ⟨y6, y7, y8⟩ := hW.2.2.1.cell; first | (go_simp; exact rfl) | (go_simp; rw [if_neg (by omega)])), hK _ ?_⟩; clear hK K)
              (refine grows_step (fun K hK => ?_); go_simp; refine ⟨_, fun W hW => .inl (by obtain ⟨y0, y1, y2⟩ := hW.1.cell; obtain ⟨y3, y4, y5⟩ := hW.2.1.cell; obtain ⟨y6, y7, y8⟩ := hW.2.2.1.cell; first | (go_simp; exact rfl) | (go_simp; rw [if_neg (by omega)])), hK _ ?_⟩; clear hK K)
              (refine grows_step (fun K hK => ?_); go_simp; refine ⟨_, fun W hW => .inl (by obtain ⟨y0, y1, y2⟩ := hW.1.cell; obtain ⟨y3, y4, y5⟩ := hW.2.1.cell; obtain ⟨y6, y7, y8⟩ := hW.2.2.1.cell; first | (go_simp; exact rfl) | (go_simp; rw [if_neg (by omega)])), hK _ ?_⟩; clear hK K)
              refine grows_nil ?_
              change Orders2 _ _ _ _ _ 0 _ _ _
              refine Orders2.done (by kernel_rfl) (fun W sW tW => ?_)
              go_wp2
              go_ret
              exact ⟨rfl, sW.2.2.2⟩
            · have gc : (t.toList == t2.toList) = false := beq_eq_false_iff_ne.2 (fun q => g2 (ByteArray.ext (Array.ext' (by rw [← ByteArray.toList_eq, ← ByteArray.toList_eq]; exact q))))
              refine wp_region_grows 35 (fun W => DecAt W w1.heap.size n t x ∧ DecAt W (w1.heap.size + 1) n t2 x2 ∧ DecAt W w21.heap.size false ⟨#[]⟩ 0 ∧ Below w0.heap.size w0 W) (fun _ => True) SST (fun _ _ _ _ => trivial) (by kernel_rfl) (by kernel_rfl) (fun _ _ d _ _ h => by cases d <;> exact h) ⟨A22, B22, Z22, D22.drew⟩ trivial ?_
              simp only [List.take_succ_cons, List.take_zero]
              (refine grows_step (fun K hK => ?_); go_simp; refine ⟨_, fun W hW => .inl (by obtain ⟨y0, y1, y2⟩ := hW.1.cell; obtain ⟨y3, y4, y5⟩ := hW.2.1.cell; obtain ⟨y6, y7, y8⟩ := hW.2.2.1.cell; first | (go_simp; exact rfl) | (go_simp; rw [if_neg (by omega)])), hK _ ?_⟩; clear hK K)
              (refine grows_step (fun K hK => ?_); go_simp; refine ⟨_, fun W hW => .inl (by obtain ⟨y0, y1, y2⟩ := hW.1.cell; obtain ⟨y3, y4, y5⟩ := hW.2.1.cell; obtain ⟨y6, y7, y8⟩ := hW.2.2.1.cell; first | (go_simp; exact rfl) | (go_simp; rw [if_neg (by omega)])), hK _ ?_⟩; clear hK K)
              (refine grows_step (fun K hK => ?_); go_simp; refine ⟨_, fun W hW => .inl (by obtain ⟨y0, y1, y2⟩ := hW.1.cell; obtain ⟨y3, y4, y5⟩ := hW.2.1.cell; obtain ⟨y6, y7, y8⟩ := hW.2.2.1.cell; first | (go_simp; exact rfl) | (go_simp; rw [if_neg (by omega)])), hK _ ?_⟩; clear hK K)
              (refine grows_step (fun K hK => ?_); go_simp; refine ⟨_, fun W hW => .inl (by obtain ⟨y0, y1, y2⟩ := hW.1.cell; obtain ⟨y3, y4, y5⟩ := hW.2.1.cell; obtain ⟨y6, y7, y8⟩ := hW.2.2.1.cell; first | (go_simp; exact rfl) | (go_simp; rw [if_neg (by omega)])), hK _ ?_⟩; clear hK K)
              (refine grows_step (fun K hK => ?_); go_simp; refine ⟨_, fun W hW => .inl (by obtain ⟨y0, y1, y2⟩ := hW.1.cell; obtain ⟨y3, y4, y5⟩ := hW.2.1.cell; obtain ⟨y6, y7, y8⟩ := hW.2.2.1.cell; first | (go_simp; exact rfl) | (go_simp; rw [if_neg (by omega)])), hK _ ?_⟩; clear hK K)
              (refine grows_step (fun K hK => ?_); go_simp; refine ⟨_, fun W hW => .inl (by obtain ⟨y0, y1, y2⟩ := hW.1.cell; obtain ⟨y3, y4, y5⟩ := hW.2.1.cell; obtain ⟨y6, y7, y8⟩ := hW.2.2.1.cell; first | (go_simp; exact rfl) | (go_simp; rw [if_neg (by omega)])), hK _ ?_⟩; clear hK K)
              (refine grows_step (fun K hK => ?_); go_simp; refine ⟨_, fun W hW => .inl (by obtain ⟨y0, y1, y2⟩ := hW.1.cell; obtain ⟨y3, y4, y5⟩ := hW.2.1.cell; obtain ⟨y6, y7, y8⟩ := hW.2.2.1.cell; first | (go_simp; exact rfl) | (go_simp; rw [if_neg (by omega)])), hK _ ?_⟩; clear hK K)
              (refine grows_step (fun K hK => ?_); go_simp; refine ⟨_, fun W hW => .inl (by obtain ⟨y0, y1, y2⟩ := hW.1.cell; obtain ⟨y3, y4, y5⟩ := hW.2.1.cell; obtain ⟨y6, y7, y8⟩ := hW.2.2.1.cell; first | (go_simp; exact rfl) | (go_simp; rw [if_neg (by omega)])), hK _ ?_⟩; clear hK K)
              (refine grows_step (fun K hK => ?_); go_simp; refine ⟨_, fun W hW => .inl (by obtain ⟨y0, y1, y2⟩ := hW.1.cell; obtain ⟨y3, y4, y5⟩ := hW.2.1.cell; obtain ⟨y6, y7, y8⟩ := hW.2.2.1.cell; first | (go_simp; exact rfl) | (go_simp; rw [if_neg (by omega)])), hK _ ?_⟩; clear hK K)
              (refine grows_step (fun K hK => ?_); go_simp; refine ⟨_, fun W hW => .inl (by obtain ⟨y0, y1, y2⟩ := hW.1.cell; obtain ⟨y3, y4, y5⟩ := hW.2.1.cell; obtain ⟨y6, y7, y8⟩ := hW.2.2.1.cell; first | (go_simp; exact rfl) | (go_simp; rw [if_neg (by omega)])), hK _ ?_⟩; clear hK K)
              (refine grows_step (fun K hK => ?_); go_simp; refine ⟨_, fun W hW => .inr (.inr ⟨_, _, ?_, cC W⟩), hK _ ?_⟩; (· first | (go_simp; done) | (go_simp; rfl)); clear hK K)
              (refine grows_step (fun K hK => ?_); go_simp; refine ⟨_, fun W hW => .inl (by obtain ⟨y0, y1, y2⟩ := hW.1.cell; obtain ⟨y3, y4, y5⟩ := hW.2.1.cell; obtain ⟨y6, y7, y8⟩ := hW.2.2.1.cell; first | (go_simp; exact rfl) | (go_simp; rw [if_neg (by omega)])), hK _ ?_⟩; clear hK K)
              (refine grows_step (fun K hK => ?_); go_simp; refine ⟨_, fun W hW => .inl (by obtain ⟨y0, y1, y2⟩ := hW.1.cell; obtain ⟨y3, y4, y5⟩ := hW.2.1.cell; obtain ⟨y6, y7, y8⟩ := hW.2.2.1.cell; first | (go_simp; exact rfl) | (go_simp; rw [if_neg (by omega)])), hK _ ?_⟩; clear hK K)
              (refine grows_step (fun K hK => ?_); go_simp; refine ⟨_, fun W hW => .inr (.inr ⟨_, _, ?_, cCr W⟩), hK _ ?_⟩; (· first | (go_simp; done) | (go_simp; rfl)); clear hK K)
              (refine grows_step (fun K hK => ?_); go_simp; refine ⟨_, fun W hW => .inl (by obtain ⟨y0, y1, y2⟩ := hW.1.cell; obtain ⟨y3, y4, y5⟩ := hW.2.1.cell; obtain ⟨y6, y7, y8⟩ := hW.2.2.1.cell; first | (go_simp; exact rfl) | (go_simp; rw [if_neg (by omega)])), hK _ ?_⟩; clear hK K)
              (refine grows_step (fun K hK => ?_); go_simp; refine ⟨_, fun W hW => .inl (by obtain ⟨y0, y1, y2⟩ := hW.1.cell; obtain ⟨y3, y4, y5⟩ := hW.2.1.cell; obtain ⟨y6, y7, y8⟩ := hW.2.2.1.cell; first | (go_simp; exact rfl) | (go_simp; rw [if_neg (by omega)])), hK _ ?_⟩; clear hK K)
              (refine grows_step (fun K hK => ?_); go_simp; refine ⟨_, fun W hW => .inl (by obtain ⟨y0, y1, y2⟩ := hW.1.cell; obtain ⟨y3, y4, y5⟩ := hW.2.1.cell; obtain ⟨y6, y7, y8⟩ := hW.2.2.1.cell; first | (go_simp; exact rfl) | (go_simp; rw [if_neg (by omega)])), hK _ ?_⟩; clear hK K)
              (refine grows_step (fun K hK => ?_); go_simp; refine ⟨_, fun W hW => .inl (by obtain ⟨y0, y1, y2⟩ := hW.1.cell; obtain ⟨y3, y4, y5⟩ := hW.2.1.cell; obtain ⟨y6, y7, y8⟩ := hW.2.2.1.cell; first | (go_simp; exact rfl) | (go_simp; rw [if_neg (by omega)])), hK _ ?_⟩; clear hK K)
              (refine grows_step (fun K hK => ?_); go_simp; refine ⟨_, fun W hW => .inl (by obtain ⟨y0, y1, y2⟩ := hW.1.cell; obtain ⟨y3, y4, y5⟩ := hW.2.1.cell; obtain ⟨y6, y7, y8⟩ := hW.2.2.1.cell; first | (go_simp; exact rfl) | (go_simp; rw [if_neg (by omega)])), hK _ ?_⟩; clear hK K)
              (refine grows_step (fun K hK => ?_); go_simp; refine ⟨_, fun W hW => .inr (.inr ⟨_, _, ?_, cNa W⟩), hK _ ?_⟩; (· first | (go_simp; done) | (go_simp; rfl)); clear hK K)
              (refine grows_step (fun K hK => ?_); go_simp; refine ⟨_, fun W hW => .inr (.inr ⟨_, _, ?_, cNb W⟩), hK _ ?_⟩; (· first | (go_simp; done) | (go_simp; rfl)); clear hK K)
              (refine grows_step (fun K hK => ?_); go_simp; refine ⟨_, fun W hW => .inl (by obtain ⟨y0, y1, y2⟩ := hW.1.cell; obtain ⟨y3, y4, y5⟩ := hW.2.1.cell; obtain ⟨y6, y7, y8⟩ := hW.2.2.1.cell; first | (go_simp; exact rfl) | (go_simp; rw [if_neg (by omega)])), hK _ ?_⟩; clear hK K)
              (refine grows_step (fun K hK => ?_); go_simp; refine ⟨_, fun W hW => .inl (by obtain ⟨y0, y1, y2⟩ := hW.1.cell; obtain ⟨y3, y4, y5⟩ := hW.2.1.cell; obtain ⟨y6, y7, y8⟩ := hW.2.2.1.cell; first | (go_simp; exact rfl) | (go_simp; rw [if_neg (by omega)])), hK _ ?_⟩; clear hK K)
              (refine grows_step (fun K hK => ?_); go_simp; refine ⟨_, fun W hW => .inl (by obtain ⟨y0, y1, y2⟩ := hW.1.cell; obtain ⟨y3, y4, y5⟩ := hW.2.1.cell; obtain ⟨y6, y7, y8⟩ := hW.2.2.1.cell; first | (go_simp; exact rfl) | (go_simp; rw [if_neg (by omega)])), hK _ ?_⟩; clear hK K)
              (refine grows_step (fun K hK => ?_); go_simp; refine ⟨_, fun W hW => .inl (by obtain ⟨y0, y1, y2⟩ := hW.1.cell; obtain ⟨y3, y4, y5⟩ := hW.2.1.cell; obtain ⟨y6, y7, y8⟩ := hW.2.2.1.cell; first | (go_simp; exact rfl) | (go_simp; rw [if_neg (by omega)])), hK _ ?_⟩; clear hK K)
              (refine grows_step (fun K hK => ?_); go_simp; refine ⟨_, fun W hW => .inl (by obtain ⟨y0, y1, y2⟩ := hW.1.cell; obtain ⟨y3, y4, y5⟩ := hW.2.1.cell; obtain ⟨y6, y7, y8⟩ := hW.2.2.1.cell; first | (go_simp; exact rfl) | (go_simp; rw [if_neg (by omega)])), hK _ ?_⟩; clear hK K)
              (refine grows_step (fun K hK => ?_); go_simp; refine ⟨_, fun W hW => .inl (by obtain ⟨y0, y1, y2⟩ := hW.1.cell; obtain ⟨y3, y4, y5⟩ := hW.2.1.cell; obtain ⟨y6, y7, y8⟩ := hW.2.2.1.cell; first | (go_simp; exact rfl) | (go_simp; rw [if_neg (by omega)])), hK _ ?_⟩; clear hK K)
              (refine grows_step (fun K hK => ?_); go_simp; refine ⟨_, fun W hW => .inr (.inr ⟨_, _, ?_, cC W⟩), hK _ ?_⟩; (· first | (go_simp; done) | (go_simp; rfl)); clear hK K)
              (refine grows_step (fun K hK => ?_); go_simp; refine ⟨_, fun W hW => .inl (by obtain ⟨y0, y1, y2⟩ := hW.1.cell; obtain ⟨y3, y4, y5⟩ := hW.2.1.cell; obtain ⟨y6, y7, y8⟩ := hW.2.2.1.cell; first | (go_simp; exact rfl) | (go_simp; rw [if_neg (by omega)])), hK _ ?_⟩; clear hK K)
              (refine grows_step (fun K hK => ?_); go_simp; refine ⟨_, fun W hW => .inl (by obtain ⟨y0, y1, y2⟩ := hW.1.cell; obtain ⟨y3, y4, y5⟩ := hW.2.1.cell; obtain ⟨y6, y7, y8⟩ := hW.2.2.1.cell; first | (go_simp; exact rfl) | (go_simp; rw [if_neg (by omega)])), hK _ ?_⟩; clear hK K)
              (refine grows_step (fun K hK => ?_); go_simp; refine ⟨_, fun W hW => .inl (by obtain ⟨y0, y1, y2⟩ := hW.1.cell; obtain ⟨y3, y4, y5⟩ := hW.2.1.cell; obtain ⟨y6, y7, y8⟩ := hW.2.2.1.cell; first | (go_simp; exact rfl) | (go_simp; rw [if_neg (by omega)])), hK _ ?_⟩; clear hK K)
              (refine grows_step (fun K hK => ?_); go_simp; refine ⟨_, fun W hW => .inl (by obtain ⟨y0, y1, y2⟩ := hW.1.cell; obtain ⟨y3, y4, y5⟩ := hW.2.1.cell; obtain ⟨y6, y7, y8⟩ := hW.2.2.1.cell; first | (go_simp; exact rfl) | (go_simp; rw [if_neg (by omega)])), hK _ ?_⟩; clear hK K)
              (refine grows_step (fun K hK => ?_); go_simp; refine ⟨_, fun W hW => .inl (by obtain ⟨y0, y1, y2⟩ := hW.1.cell; obtain ⟨y3, y4, y5⟩ := hW.2.1.cell; obtain ⟨y6, y7, y8⟩ := hW.2.2.1.cell; first | (go_simp; exact rfl) | (go_simp; rw [if_neg (by omega)])), hK _ ?_⟩; clear hK K)
              (refine grows_step (fun K hK => ?_); go_simp; refine ⟨_, fun W hW => .inl (by obtain ⟨y0, y1, y2⟩ := hW.1.cell; obtain ⟨y3, y4, y5⟩ := hW.2.1.cell; obtain ⟨y6, y7, y8⟩ := hW.2.2.1.cell; first | (go_simp; exact rfl) | (go_simp; rw [if_neg (by omega)])), hK _ ?_⟩; clear hK K)
              (refine grows_step (fun K hK => ?_); go_simp; refine ⟨_, fun W hW => .inl (by obtain ⟨y0, y1, y2⟩ := hW.1.cell; obtain ⟨y3, y4, y5⟩ := hW.2.1.cell; obtain ⟨y6, y7, y8⟩ := hW.2.2.1.cell; first | (go_simp; exact rfl) | (go_simp; rw [if_neg (by omega)])), hK _ ?_⟩; clear hK K)
              refine grows_nil ?_
              change Orders2 _ _ _ _ _ 0 _ _ _
              refine Orders2.done (by kernel_rfl) (fun W sW tW => ?_)
              go_wp2
              go_ret
              exact ⟨rfl, sW.2.2.2⟩
            · have gb : (x == x2) = false := beq_eq_false_iff_ne.2 g3
              refine wp_region_grows 35 (fun W => DecAt W w1.heap.size n t x ∧ DecAt W (w1.heap.size + 1) n t x2 ∧ DecAt W w21.heap.size false ⟨#[]⟩ 0 ∧ Below w0.heap.size w0 W) (fun _ => True) SST (fun _ _ _ _ => trivial) (by kernel_rfl) (by kernel_rfl) (fun _ _ d _ _ h => by cases d <;> exact h) ⟨A22, B22, Z22, D22.drew⟩ trivial ?_
              simp only [List.take_succ_cons, List.take_zero]
              (refine grows_step (fun K hK => ?_); go_simp; refine ⟨_, fun W hW => .inl (by obtain ⟨y0, y1, y2⟩ := hW.1.cell; obtain ⟨y3, y4, y5⟩ := hW.2.1.cell; obtain ⟨y6, y7, y8⟩ := hW.2.2.1.cell; first | (go_simp; exact rfl) | (go_simp; rw [if_neg (by omega)])), hK _ ?_⟩; clear hK K)
              (refine grows_step (fun K hK => ?_); go_simp; refine ⟨_, fun W hW => .inl (by obtain ⟨y0, y1, y2⟩ := hW.1.cell; obtain ⟨y3, y4, y5⟩ := hW.2.1.cell; obtain ⟨y6, y7, y8⟩ := hW.2.2.1.cell; first | (go_simp; exact rfl) | (go_simp; rw [if_neg (by omega)])), hK _ ?_⟩; clear hK K)
              (refine grows_step (fun K hK => ?_); go_simp; refine ⟨_, fun W hW => .inl (by obtain ⟨y0, y1, y2⟩ := hW.1.cell; obtain ⟨y3, y4, y5⟩ := hW.2.1.cell; obtain ⟨y6, y7, y8⟩ := hW.2.2.1.cell; first | (go_simp; exact rfl) | (go_simp; rw [if_neg (by omega)])), hK _ ?_⟩; clear hK K)
              (refine grows_step (fun K hK => ?_); go_simp; refine ⟨_, fun W hW => .inl (by obtain ⟨y0, y1, y2⟩ := hW.1.cell; obtain ⟨y3, y4, y5⟩ := hW.2.1.cell; obtain ⟨y6, y7, y8⟩ := hW.2.2.1.cell; first | (go_simp; exact rfl) | (go_simp; rw [if_neg (by omega)])), hK _ ?_⟩; clear hK K)
              (refine grows_step (fun K hK => ?_); go_simp; refine ⟨_, fun W hW => .inl (by obtain ⟨y0, y1, y2⟩ := hW.1.cell; obtain ⟨y3, y4, y5⟩ := hW.2.1.cell; obtain ⟨y6, y7, y8⟩ := hW.2.2.1.cell; first | (go_simp; exact rfl) | (go_simp; rw [if_neg (by omega)])), hK _ ?_⟩; clear hK K)
              (refine grows_step (fun K hK => ?_); go_simp; refine ⟨_, fun W hW => .inl (by obtain ⟨y0, y1, y2⟩ := hW.1.cell; obtain ⟨y3, y4, y5⟩ := hW.2.1.cell; obtain ⟨y6, y7, y8⟩ := hW.2.2.1.cell; first | (go_simp; exact rfl) | (go_simp; rw [if_neg (by omega)])), hK _ ?_⟩; clear hK K)
              (refine grows_step (fun K hK => ?_); go_simp; refine ⟨_, fun W hW => .inl (by obtain ⟨y0, y1, y2⟩ := hW.1.cell; obtain ⟨y3, y4, y5⟩ := hW.2.1.cell; obtain ⟨y6, y7, y8⟩ := hW.2.2.1.cell; first | (go_simp; exact rfl) | (go_simp; rw [if_neg (by omega)])), hK _ ?_⟩; clear hK K)
              (refine grows_step (fun K hK => ?_); go_simp; refine ⟨_, fun W hW => .inl (by obtain ⟨y0, y1, y2⟩ := hW.1.cell; obtain ⟨y3, y4, y5⟩ := hW.2.1.cell; obtain ⟨y6, y7, y8⟩ := hW.2.2.1.cell; first | (go_simp; exact rfl) | (go_simp; rw [if_neg (by omega)])), hK _ ?_⟩; clear hK K)
              (refine grows_step (fun K hK => ?_); go_simp; refine ⟨_, fun W hW => .inl (by obtain ⟨y0, y1, y2⟩ := hW.1.cell; obtain ⟨y3, y4, y5⟩ := hW.2.1.cell; obtain ⟨y6, y7, y8⟩ := hW.2.2.1.cell; first | (go_simp; exact rfl) | (go_simp; rw [if_neg (by omega)])), hK _ ?_⟩; clear hK K)
              (refine grows_step (fun K hK => ?_); go_simp; refine ⟨_, fun W hW => .inl (by obtain ⟨y0, y1, y2⟩ := hW.1.cell; obtain ⟨y3, y4, y5⟩ := hW.2.1.cell; obtain ⟨y6, y7, y8⟩ := hW.2.2.1.cell; first | (go_simp; exact rfl) | (go_simp; rw [if_neg (by omega)])), hK _ ?_⟩; clear hK K)
              (refine grows_step (fun K hK => ?_); go_simp; refine ⟨_, fun W hW => .inr (.inr ⟨_, _, ?_, cC W⟩), hK _ ?_⟩; (· first | (go_simp; done) | (go_simp; rfl)); clear hK K)
              (refine grows_step (fun K hK => ?_); go_simp; refine ⟨_, fun W hW => .inl (by obtain ⟨y0, y1, y2⟩ := hW.1.cell; obtain ⟨y3, y4, y5⟩ := hW.2.1.cell; obtain ⟨y6, y7, y8⟩ := hW.2.2.1.cell; first | (go_simp; exact rfl) | (go_simp; rw [if_neg (by omega)])), hK _ ?_⟩; clear hK K)
              (refine grows_step (fun K hK => ?_); go_simp; refine ⟨_, fun W hW => .inl (by obtain ⟨y0, y1, y2⟩ := hW.1.cell; obtain ⟨y3, y4, y5⟩ := hW.2.1.cell; obtain ⟨y6, y7, y8⟩ := hW.2.2.1.cell; first | (go_simp; exact rfl) | (go_simp; rw [if_neg (by omega)])), hK _ ?_⟩; clear hK K)
              (refine grows_step (fun K hK => ?_); go_simp; refine ⟨_, fun W hW => .inr (.inr ⟨_, _, ?_, cCr W⟩), hK _ ?_⟩; (· first | (go_simp; done) | (go_simp; rfl)); clear hK K)
              (refine grows_step (fun K hK => ?_); go_simp; refine ⟨_, fun W hW => .inl (by obtain ⟨y0, y1, y2⟩ := hW.1.cell; obtain ⟨y3, y4, y5⟩ := hW.2.1.cell; obtain ⟨y6, y7, y8⟩ := hW.2.2.1.cell; first | (go_simp; exact rfl) | (go_simp; rw [if_neg (by omega)])), hK _ ?_⟩; clear hK K)
              (refine grows_step (fun K hK => ?_); go_simp; refine ⟨_, fun W hW => .inl (by obtain ⟨y0, y1, y2⟩ := hW.1.cell; obtain ⟨y3, y4, y5⟩ := hW.2.1.cell; obtain ⟨y6, y7, y8⟩ := hW.2.2.1.cell; first | (go_simp; exact rfl) | (go_simp; rw [if_neg (by omega)])), hK _ ?_⟩; clear hK K)
              (refine grows_step (fun K hK => ?_); go_simp; refine ⟨_, fun W hW => .inl (by obtain ⟨y0, y1, y2⟩ := hW.1.cell; obtain ⟨y3, y4, y5⟩ := hW.2.1.cell; obtain ⟨y6, y7, y8⟩ := hW.2.2.1.cell; first | (go_simp; exact rfl) | (go_simp; rw [if_neg (by omega)])), hK _ ?_⟩; clear hK K)
              (refine grows_step (fun K hK => ?_); go_simp; refine ⟨_, fun W hW => .inl (by obtain ⟨y0, y1, y2⟩ := hW.1.cell; obtain ⟨y3, y4, y5⟩ := hW.2.1.cell; obtain ⟨y6, y7, y8⟩ := hW.2.2.1.cell; first | (go_simp; exact rfl) | (go_simp; rw [if_neg (by omega)])), hK _ ?_⟩; clear hK K)
              (refine grows_step (fun K hK => ?_); go_simp; refine ⟨_, fun W hW => .inl (by obtain ⟨y0, y1, y2⟩ := hW.1.cell; obtain ⟨y3, y4, y5⟩ := hW.2.1.cell; obtain ⟨y6, y7, y8⟩ := hW.2.2.1.cell; first | (go_simp; exact rfl) | (go_simp; rw [if_neg (by omega)])), hK _ ?_⟩; clear hK K)
              (refine grows_step (fun K hK => ?_); go_simp; refine ⟨_, fun W hW => .inr (.inr ⟨_, _, ?_, cNa W⟩), hK _ ?_⟩; (· first | (go_simp; done) | (go_simp; rfl)); clear hK K)
              (refine grows_step (fun K hK => ?_); go_simp; refine ⟨_, fun W hW => .inr (.inr ⟨_, _, ?_, cNb W⟩), hK _ ?_⟩; (· first | (go_simp; done) | (go_simp; rfl)); clear hK K)
              (refine grows_step (fun K hK => ?_); go_simp; refine ⟨_, fun W hW => .inl (by obtain ⟨y0, y1, y2⟩ := hW.1.cell; obtain ⟨y3, y4, y5⟩ := hW.2.1.cell; obtain ⟨y6, y7, y8⟩ := hW.2.2.1.cell; first | (go_simp; exact rfl) | (go_simp; rw [if_neg (by omega)])), hK _ ?_⟩; clear hK K)
              (refine grows_step (fun K hK => ?_); go_simp; refine ⟨_, fun W hW => .inl (by obtain ⟨y0, y1, y2⟩ := hW.1.cell; obtain ⟨y3, y4, y5⟩ := hW.2.1.cell; obtain ⟨y6, y7, y8⟩ := hW.2.2.1.cell; first | (go_simp; exact rfl) | (go_simp; rw [if_neg (by omega)])), hK _ ?_⟩; clear hK K)
              (refine grows_step (fun K hK => ?_); go_simp; refine ⟨_, fun W hW => .inl (by obtain ⟨y0, y1, y2⟩ := hW.1.cell; obtain ⟨y3, y4, y5⟩ := hW.2.1.cell; obtain ⟨y6, y7, y8⟩ := hW.2.2.1.cell; first | (go_simp; exact rfl) | (go_simp; rw [if_neg (by omega)])), hK _ ?_⟩; clear hK K)
              (refine grows_step (fun K hK => ?_); go_simp; refine ⟨_, fun W hW => .inl (by obtain ⟨y0, y1, y2⟩ := hW.1.cell; obtain ⟨y3, y4, y5⟩ := hW.2.1.cell; obtain ⟨y6, y7, y8⟩ := hW.2.2.1.cell; first | (go_simp; exact rfl) | (go_simp; rw [if_neg (by omega)])), hK _ ?_⟩; clear hK K)
              (refine grows_step (fun K hK => ?_); go_simp; refine ⟨_, fun W hW => .inl (by obtain ⟨y0, y1, y2⟩ := hW.1.cell; obtain ⟨y3, y4, y5⟩ := hW.2.1.cell; obtain ⟨y6, y7, y8⟩ := hW.2.2.1.cell; first | (go_simp; exact rfl) | (go_simp; rw [if_neg (by omega)])), hK _ ?_⟩; clear hK K)
              (refine grows_step (fun K hK => ?_); go_simp; refine ⟨_, fun W hW => .inl (by obtain ⟨y0, y1, y2⟩ := hW.1.cell; obtain ⟨y3, y4, y5⟩ := hW.2.1.cell; obtain ⟨y6, y7, y8⟩ := hW.2.2.1.cell; first | (go_simp; exact rfl) | (go_simp; rw [if_neg (by omega)])), hK _ ?_⟩; clear hK K)
              (refine grows_step (fun K hK => ?_); go_simp; refine ⟨_, fun W hW => .inr (.inr ⟨_, _, ?_, cC W⟩), hK _ ?_⟩; (· first | (go_simp; done) | (go_simp; rfl)); clear hK K)
              (refine grows_step (fun K hK => ?_); go_simp; refine ⟨_, fun W hW => .inl (by obtain ⟨y0, y1, y2⟩ := hW.1.cell; obtain ⟨y3, y4, y5⟩ := hW.2.1.cell; obtain ⟨y6, y7, y8⟩ := hW.2.2.1.cell; first | (go_simp; exact rfl) | (go_simp; rw [if_neg (by omega)])), hK _ ?_⟩; clear hK K)
              (refine grows_step (fun K hK => ?_); go_simp; refine ⟨_, fun W hW => .inl (by obtain ⟨y0, y1, y2⟩ := hW.1.cell; obtain ⟨y3, y4, y5⟩ := hW.2.1.cell; obtain ⟨y6, y7, y8⟩ := hW.2.2.1.cell; first | (go_simp; exact rfl) | (go_simp; rw [if_neg (by omega)])), hK _ ?_⟩; clear hK K)
              (refine grows_step (fun K hK => ?_); go_simp; refine ⟨_, fun W hW => .inl (by obtain ⟨y0, y1, y2⟩ := hW.1.cell; obtain ⟨y3, y4, y5⟩ := hW.2.1.cell; obtain ⟨y6, y7, y8⟩ := hW.2.2.1.cell; first | (go_simp; exact rfl) | (go_simp; rw [if_neg (by omega)])), hK _ ?_⟩; clear hK K)
              (refine grows_step (fun K hK => ?_); go_simp; refine ⟨_, fun W hW => .inl (by obtain ⟨y0, y1, y2⟩ := hW.1.cell; obtain ⟨y3, y4, y5⟩ := hW.2.1.cell; obtain ⟨y6, y7, y8⟩ := hW.2.2.1.cell; first | (go_simp; exact rfl) | (go_simp; rw [if_neg (by omega)])), hK _ ?_⟩; clear hK K)
              (refine grows_step (fun K hK => ?_); go_simp; refine ⟨_, fun W hW => .inl (by obtain ⟨y0, y1, y2⟩ := hW.1.cell; obtain ⟨y3, y4, y5⟩ := hW.2.1.cell; obtain ⟨y6, y7, y8⟩ := hW.2.2.1.cell; first | (go_simp; exact rfl) | (go_simp; rw [if_neg (by omega)])), hK _ ?_⟩; clear hK K)
              (refine grows_step (fun K hK => ?_); go_simp; refine ⟨_, fun W hW => .inl (by obtain ⟨y0, y1, y2⟩ := hW.1.cell; obtain ⟨y3, y4, y5⟩ := hW.2.1.cell; obtain ⟨y6, y7, y8⟩ := hW.2.2.1.cell; first | (go_simp; exact rfl) | (go_simp; rw [if_neg (by omega)])), hK _ ?_⟩; clear hK K)
              (refine grows_step (fun K hK => ?_); go_simp; refine ⟨_, fun W hW => .inl (by obtain ⟨y0, y1, y2⟩ := hW.1.cell; obtain ⟨y3, y4, y5⟩ := hW.2.1.cell; obtain ⟨y6, y7, y8⟩ := hW.2.2.1.cell; first | (go_simp; exact rfl) | (go_simp; rw [if_neg (by omega)])), hK _ ?_⟩; clear hK K)
              refine grows_nil ?_
              change Orders2 _ _ _ _ _ 0 _ _ _
              refine Orders2.done (by kernel_rfl) (fun W sW tW => ?_)
              go_wp2
              go_ret
              exact ⟨rfl, sW.2.2.2⟩
      · have cL2 : ∀ W, Calls Tryz.prog 7 #[.agg #[.bool n2, .string t2, .int .i64 x2]] W fun e w' => e = .returned (.bool false) ∧ Below W.heap.size W w' := fun W => (cL W).mono fun e w' ⟨b, g1, g2, g3⟩ => ⟨by rw [g1]; cases b; rfl; exact absurd (g2.1 rfl) hok2, g3⟩
        clear cL
        have cA := ansDC (rn := false) (rs := ⟨#[]⟩) (re := 0) (rc := 3) (by unfold addR; rw [if_neg (fun g => hok2 g.2)]; rfl) (fun W => implDecAdd n t x n2 t2 x2 W (by omega) (by omega) h2 h3 q2 q3)
        have cC := ansN (u := 2) (by unfold cmpR; rw [if_neg (fun g => hok2 g.2)]) (fun W => implDecCmp n t x n2 t2 x2 W (by omega) (by omega) h2 h3 q2 q3)
        clear hok1 hok2
        refine (cK2 _).mono ?_
        rintro r w4 ⟨rfl, R4⟩
        have A4 := A3.belowS R4
        have B4 := B3.belowS R4
        have D4 := below_kept D3 (Nat.le_refl _) R4
        clear R4 A3 B3 D3
        obtain ⟨bc0, bc1, bc2⟩ := B4.cell
        go_wp2_with fail
        clear bc0 bc1 bc2
        refine (cL2 _).mono ?_
        rintro r w5 ⟨rfl, R5⟩
        have A5 := A4.belowS R5
        have B5 := B4.belowS R5
        have D5 := below_kept D4 (Nat.le_refl _) R5
        clear R5 A4 B4 D4
        go_wp2_with (first | (with_reducible show wpList _ _ _ (⟨_, .load _ _, _, _, _, _⟩ :: _) _ _; first | refine load_dec w1.heap.size rfl A5 ?_ | refine load_dec (w1.heap.size + 1) rfl B5 ?_))
        refine (cA _).mono ?_
        rintro r w6 ⟨rfl, R6⟩
        have A6 := A5.belowS R6
        have B6 := B5.belowS R6
        have D6 := below_kept D5 (Nat.le_refl _) R6
        clear R6 A5 B5 D5
        have X0_7 := DecAt.new w6 false ⟨#[]⟩ 0
        have X7 : DecAt ((w6.alloc (.cells (row3 false ⟨#[]⟩ 0) 25)).setRow w6.heap.size (row3 false ⟨#[]⟩ 0)) w6.heap.size false ⟨#[]⟩ 0 := X0_7.row
        have neAX : w1.heap.size ≠ w6.heap.size := Nat.ne_of_lt A6.lt
        have A7 : DecAt ((w6.alloc (.cells (row3 false ⟨#[]⟩ 0) 25)).setRow w6.heap.size (row3 false ⟨#[]⟩ 0)) w1.heap.size n t x := (A6.alloc _).rowO neAX _
        have neBX : w1.heap.size + 1 ≠ w6.heap.size := Nat.ne_of_lt B6.lt
        have B7 : DecAt ((w6.alloc (.cells (row3 false ⟨#[]⟩ 0) 25)).setRow w6.heap.size (row3 false ⟨#[]⟩ 0)) (w1.heap.size + 1) n2 t2 x2 := (B6.alloc _).rowO neBX _
        have D7 := below_row3 (D6.alloc D6.size (.cells (row3 false ⟨#[]⟩ 0) 25)) (g := w6.heap.size) D6.size (row3 false ⟨#[]⟩ 0)
        have leX : w0.heap.size ≤ w6.heap.size := D6.size
        clear A6 B6 D6
        obtain ⟨ac0, ac1, ac2⟩ := A7.cell
        obtain ⟨bc0, bc1, bc2⟩ := B7.cell
        go_wp2_with (first | (with_reducible show wpList _ _ _ (⟨_, .store _ _ _, _, _, _, _⟩ :: _) _ _; refine store_dec w6.heap.size rfl rfl X0_7 ?_) | (with_reducible show wpList _ _ _ (⟨_, .load _ _, _, _, _, _⟩ :: _) _ _; first | refine load_dec w1.heap.size rfl A7 ?_ | refine load_dec (w1.heap.size + 1) rfl B7 ?_ | refine load_dec w6.heap.size rfl X7 ?_))
        clear ac0 ac1 ac2 bc0 bc1 bc2
        refine (cC _).mono ?_
        rintro r w8 ⟨rfl, R8⟩
        have A8 := A7.belowS R8
        have B8 := B7.belowS R8
        have X8 := X7.belowS R8
        have D8 := below_kept D7 (Nat.le_refl _) R8
        clear R8 A7 B7 X7 D7
        go_wp2
        go_ret
        exact ⟨rfl, D8⟩
    · have cK2 : ∀ W, Calls Tryz.prog 7 #[.agg #[.bool n, .string t, .int .i64 x]] W fun e w' => e = .returned (.bool false) ∧ Below W.heap.size W w' := fun W => (cK W).mono fun e w' ⟨b, g1, g2, g3⟩ => ⟨by rw [g1]; cases b; rfl; exact absurd (g2.1 rfl) hok1, g3⟩
      clear cK cL
      have cA := ansDC (rn := false) (rs := ⟨#[]⟩) (re := 0) (rc := 3) (by unfold addR; rw [if_neg (fun g => hok1 g.1)]; rfl) (fun W => implDecAdd n t x n2 t2 x2 W (by omega) (by omega) h2 h3 q2 q3)
      have cC := ansN (u := 2) (by unfold cmpR; rw [if_neg (fun g => hok1 g.1)]) (fun W => implDecCmp n t x n2 t2 x2 W (by omega) (by omega) h2 h3 q2 q3)
      clear hok1
      refine (cK2 _).mono ?_
      rintro r w4 ⟨rfl, R4⟩
      have A4 := A3.belowS R4
      have B4 := B3.belowS R4
      have D4 := below_kept D3 (Nat.le_refl _) R4
      clear R4 A3 B3 D3
      go_wp2_with (first | (with_reducible show wpList _ _ _ (⟨_, .load _ _, _, _, _, _⟩ :: _) _ _; first | refine load_dec w1.heap.size rfl A4 ?_ | refine load_dec (w1.heap.size + 1) rfl B4 ?_))
      refine (cA _).mono ?_
      rintro r w5 ⟨rfl, R5⟩
      have A5 := A4.belowS R5
      have B5 := B4.belowS R5
      have D5 := below_kept D4 (Nat.le_refl _) R5
      clear R5 A4 B4 D4
      have X0_6 := DecAt.new w5 false ⟨#[]⟩ 0
      have X6 : DecAt ((w5.alloc (.cells (row3 false ⟨#[]⟩ 0) 25)).setRow w5.heap.size (row3 false ⟨#[]⟩ 0)) w5.heap.size false ⟨#[]⟩ 0 := X0_6.row
      have neAX : w1.heap.size ≠ w5.heap.size := Nat.ne_of_lt A5.lt
      have A6 : DecAt ((w5.alloc (.cells (row3 false ⟨#[]⟩ 0) 25)).setRow w5.heap.size (row3 false ⟨#[]⟩ 0)) w1.heap.size n t x := (A5.alloc _).rowO neAX _
      have neBX : w1.heap.size + 1 ≠ w5.heap.size := Nat.ne_of_lt B5.lt
      have B6 : DecAt ((w5.alloc (.cells (row3 false ⟨#[]⟩ 0) 25)).setRow w5.heap.size (row3 false ⟨#[]⟩ 0)) (w1.heap.size + 1) n2 t2 x2 := (B5.alloc _).rowO neBX _
      have D6 := below_row3 (D5.alloc D5.size (.cells (row3 false ⟨#[]⟩ 0) 25)) (g := w5.heap.size) D5.size (row3 false ⟨#[]⟩ 0)
      have leX : w0.heap.size ≤ w5.heap.size := D5.size
      clear A5 B5 D5
      obtain ⟨ac0, ac1, ac2⟩ := A6.cell
      obtain ⟨bc0, bc1, bc2⟩ := B6.cell
      go_wp2_with (first | (with_reducible show wpList _ _ _ (⟨_, .store _ _ _, _, _, _, _⟩ :: _) _ _; refine store_dec w5.heap.size rfl rfl X0_6 ?_) | (with_reducible show wpList _ _ _ (⟨_, .load _ _, _, _, _, _⟩ :: _) _ _; first | refine load_dec w1.heap.size rfl A6 ?_ | refine load_dec (w1.heap.size + 1) rfl B6 ?_ | refine load_dec w5.heap.size rfl X6 ?_))
      clear ac0 ac1 ac2 bc0 bc1 bc2
      refine (cC _).mono ?_
      rintro r w7 ⟨rfl, R7⟩
      have A7 := A6.belowS R7
      have B7 := B6.belowS R7
      have X7 := X6.belowS R7
      have D7 := below_kept D6 (Nat.le_refl _) R7
      clear R7 A6 B6 X6 D6
      go_wp2
      go_ret
      exact ⟨rfl, D7⟩
  · have cB := big_yes a zs.length cap w hlen
    clear hN hZ hT
    go_enter Tryz.func3, Tryz.ntmps3
    go_wp2_with fail
    refine cB.mono ?_
    rintro e w0 ⟨rfl, rfl⟩
    clear cB
    go_wp2
    go_ret
    exact ⟨rfl, Below.refl _ _⟩

set_option maxRecDepth 100000
theorem witness_row (os : Os) {H : Type} (enc : TypeId × Value → H) :
    (OpenSpec.ofChange Rows.fnDecSumsSpec).preRow enc Tryz.prog Tryz.f3 Rows.fnDecSumsRow.domain false Rows.fnDecSumsRow.laid ((laidWorldD os).forCall (fun _ _ => 0) ⟨#[], #[.slice none 0 0], []⟩).memory #[.slice none 0 0] := by
  have hw : (DataW.whole enc Tryz.prog ((laidWorldD os).forCall (fun _ _ => 0) ⟨#[], #[.slice none 0 0], []⟩).memory Tryz.f3.params.toList (OpenSpec.ofChange Rows.fnDecSumsSpec).vars false (#[.slice none 0 0] : Array Value).toList 8).map (fun x => (x.1, x.2.1)) =
      some ([.nil], []) := by kernel_rfl
  obtain ⟨⟨x1, x2, x3⟩, hx, hx1⟩ := Option.map_eq_some_iff.1 hw
  simp only [Prod.mk.injEq] at hx1
  obtain ⟨rfl, rfl⟩ := hx1
  exact OpenSpec.preRow_of_cond 8 hx (by kernel_rfl) (fun k hk => by cases hk) (by kernel_rfl) (laid_metD os _)

set_option maxHeartbeats 2000000 in
theorem lifted (os : Os) (started : os.Started) (H : Type) (enc : TypeId × Value → H) (F : Stop.Interp) :
    ReturnsInHanded {} Tryz.checked os 3 .any ((OpenSpec.ofChange Rows.fnDecSumsSpec).preRow enc Tryz.prog Tryz.f3 Rows.fnDecSumsRow.domain false Rows.fnDecSumsRow.laid) (((OpenSpec.ofChange Rows.fnDecSumsSpec).at F).post enc Tryz.prog Tryz.f3 false true false false) := by
  refine returnsInHanded_of_row (C := Tryz.checked) (s := OpenSpec.ofChange Rows.fnDecSumsSpec) own started (by kernel_rfl) Tryz.func3
    (witness_row_atRef (enc := enc) (C := Tryz.checked) false (laidWorldD os) #[.slice none 0 0] rfl (by kernel_rfl) (by kernel_rfl) (by kernel_rfl) (witness_row os enc)) ?_
  intro W base args ds gs before hval0 hW _ _ _ hL _ _
  have hval : ∀ (j : Nat) t v, Tryz.f3.params[j]? = some t → args[j]? = some v → Value.okWide Tryz.prog W .any base t v := hval0
  have hW' := hW
  obtain ⟨p, q, hA0, hV0, rfl, _, _⟩ := hW
  have hA : DataW.TrodAll enc Tryz.prog W 0 (fun _ => true) true Tryz.f3.params.toList args.toList ds p := hA0
  rw [Tryz.params3] at hA hval
  obtain ⟨v0, vs0, d0, ds0, p0, q0, hargs, rfl, rfl, h0, r0⟩ := trodAll_cons hA
  obtain ⟨rfl, rfl, rfl⟩ := trodAll_nil r0
  obtain rfl : args = #[v0] := by cases args; simp_all
  obtain ⟨rfl, rfl⟩ := trodVars_none hV0
  obtain ⟨a0, len0, cap0, rfl⟩ := okWide_slice Tryz.underlying22 (hval 0 22 v0 rfl rfl)
  have k0 := h0
  have lt0 : ∀ x ∈ p0, x.block < W.heap.size := by obtain ⟨m, hm⟩ := k0; exact DataW.trod_lt m _ _ _ hm
  obtain ⟨z0, w0⟩ : ∃ zs, IsRow .u8 W a0 len0 cap0 zs := by
    obtain ⟨fuel, hf⟩ := h0
    rcases open_ints Tryz.underlying22 Tryz.underlying5 (by kernel_rfl) hf with ⟨hcs, _⟩ | ⟨x, l, c, zs, hcs, _, hl, hm, hz, _, hcell, hwz⟩
    · simp [Value.cells] at hcs
      obtain ⟨rfl, rfl, rfl⟩ := hcs
      exact ⟨[], .inl ⟨rfl, rfl, rfl, rfl⟩⟩
    · simp [Value.cells] at hcs
      obtain ⟨rfl, rfl, rfl⟩ := hcs
      exact ⟨zs, .inr ⟨_, rfl, hl, hm, by simpa using hz, hcell, hwz⟩⟩
  clear hA0 hV0 hval0
  refine (walk a0 len0 cap0 z0 W w0 (tab_of_laidD hL)).mono ?_
  rintro e W' ⟨rfl, bel⟩
  exact ⟨_, rfl, _, _, _, [], _, [], hW', trodAll_mk1 (shut_bool Tryz.underlying4 _), (trodAll_cons_mk (Below.trod laidOut (by kernel_rfl) (of_decide_eq_true (by kernel_rfl)) k0 bel lt0) trodAll_mk0), rfl, bel.frame _, fun h => by cases h⟩

theorem over : Rows.FnDecSumsSaid :=
  OpenClaim.holds_of_cond 3 Tryz.f3 rfl rfl rfl rfl rfl rfl rfl ⟨rfl, rfl, rfl, rfl, rfl⟩ rfl rfl rfl rfl rfl (by kernel_rfl) Tryz.func3 (by kernel_rfl)
    (of_decide_eq_true (by kernel_rfl)) (by unfold Func.isWrapper; rw [if_neg (of_decide_eq_false (by kernel_rfl))]; exact ⟨rfl, rfl⟩)
    (fun os started H enc _ F0 => by rw [OpenClaim.pre_eq_preRow]; exact lifted os started H enc F0)

/-- The given statement. -/
theorem proved : Rows.FnDecSumsCardSaid :=
  Claim7.holds_tied_plain_at .later [] [.data, .pinned] true _ true
    over (fun _ h => by cases h) (by kernel_rfl) (fun _ h => by cases h) fnDecSums_row_tie rfl ⟨rfl, rfl⟩ (by kernel_rfl) rfl
    (fun f fn hf hfn => by
      obtain rfl : f = 3 := Option.some.inj ((show Tryz.prog.funcNamed Rows.fnDecSumsRow.func = some 3 by kernel_rfl).symm.trans hf) |>.symm
      obtain rfl : fn = Tryz.f3 := (Option.some.inj (Tryz.func3.symm.trans hfn)).symm
      exact ⟨by kernel_rfl, fun j t ht => by
        rw [Tryz.params3] at ht
        rcases j with _ | j
        · obtain rfl : t = 22 := by simpa using ht.symm
          exact (show Tryz.prog.wantsStandIn 22 = false by kernel_rfl)
        · simp at ht⟩)
    (by kernel_rfl)

end Go.Proofs.YthijeckcjfnbcaaGreatDoor.fnDecSums
