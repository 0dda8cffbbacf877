/- For every code: the decimal drawn from it is recovered from its text. No condition. -/
import Derived.Test.YthijeckcjfnbcaaDoorBackMath
import Derived.Test.YthijeckcjfnbcaaDoorDrawDec2
import Derived.Test.YthijeckcjfnbcaaDoorRowOpen
import Derived.Test.YthijeckcjfnbcaaDoorImplDec16
import Derived.Test.YthijeckcjfnbcaaDoorImplDecR
import Derived.Test.YthijeckcjfnbcaaDoorLaidND
namespace Go.Proofs.YthijeckcjfnbcaaDoor.fnDecBack
open Go.ChangeShapes Go.WideShapes Go.ChangeAt Go.RowKit Go.Shelf
open Go.ChangeMaps (open_string shut_string)
open Go.Proofs.YthijeckcjfnbcaaDoor.Num
set_option linter.unusedVariables false

theorem laidOut : laidOutB Tryd.prog = true := by kernel_rfl

set_option maxHeartbeats 4000000 in
set_option maxRecDepth 100000 in
theorem walk (a : Option Addr) (len cap : Nat) (z : List Int) (w : World) (hR : IsRow .u8 w a len cap z) (hT : Lib.TabIs Tryd.prog w "internal/strconv.uint64pow10" .u64 Lib.pow10Tab) :
    Calls Tryd.prog 3 #[.slice a len cap] w fun e w' => e = .returned (.bool true) ∧ Below w.heap.size w w' := by
  obtain ⟨zs, rfl, hN, hZ⟩ := bytes_of_row hR
  clear hR
  by_cases hlen : zs.length ≤ 1048576
  · have cB := big_any a zs.length cap w hlen
    have cD := drawDecText_any a cap zs w hlen hN hZ
    unfold DrawnDec at cD
    clear hN hZ
    go_enter Tryd.func3, Tryd.ntmps3
    go_wp2_with fail
    refine cB.mono ?_
    rintro e w0 ⟨rfl, rfl⟩
    clear cB
    go_wp2_with fail
    refine cD.mono ?_
    rintro e w1 ⟨n, t, x, ht, hx1, hx2, rfl, B1⟩
    have N1 := DecAt.new w1 false ⟨#[]⟩ 0
    have N2 : DecAt ((w1.alloc (.cells (row3 false ⟨#[]⟩ 0) 25)).setRow w1.heap.size (row3 n t x)) w1.heap.size n t x := N1.row
    have D2 := below_row3 (B1.alloc B1.size (.cells (row3 false ⟨#[]⟩ 0) 25)) (g := w1.heap.size) B1.size (row3 n t x)
    clear cD B1
    have cX : ∀ W, Below w0.heap.size w0 W → Calls Tryd.prog 7 #[.agg #[.bool n, .string t, .int .i64 x]] W (AnsS (textR (dOf n t x)) W) := fun W hW =>
      implDecText n t x W (by omega) hx1 hx2 (fun V hV => tab_below hT (below_kept hW (Nat.le_refl _) hV))
    have cK := fun W => specDecOk n t x W (by omega) hx1 hx2
    have cJ := fun W => implDecOk n t x W (by omega) hx1 hx2
    unfold AnsB at cK cJ
    unfold AnsS at cX
    clear hT
    by_cases hok : (dOf n t x).Ok
    · have cK2 : ∀ W, Calls Tryd.prog 8 #[.agg #[.bool n, .string t, .int .i64 x]] W fun e w' => e = .returned (.bool true) ∧ Below W.heap.size W w' := fun W => (cK W).mono fun e w' ⟨b, h1, h2, h3⟩ => ⟨by rw [h1, h2.2 hok], h3⟩
      have cJ2 : ∀ W, Calls Tryd.prog 9 #[.agg #[.bool n, .string t, .int .i64 x]] W fun e w' => e = .returned (.bool true) ∧ Below W.heap.size W w' := fun W => (cJ W).mono fun e w' ⟨b, h1, h2, h3⟩ => ⟨by rw [h1, h2.2 hok], h3⟩
      obtain ⟨tx, htx⟩ : ∃ q : ByteArray, ⟨(textR (dOf n t x)).toArray⟩ = q := ⟨_, rfl⟩
      have htl : tx.data.toList = textR (dOf n t x) := by rw [← htx]
      have hI := text_is hok
      rw [← htl] at hI
      have htz : tx.size ≤ 100 := by have := hI.small; rw [size_list] at this; exact this
      have hrd := hI.reads
      have hne : tx.toList.isEmpty = false := list_full tx (by obtain ⟨c, u, e, _⟩ := hI.full; rw [← size_list, e]; simp)
      have cR : ∀ W, Calls Tryd.prog 10 #[.string tx] W fun e w' => e = .returned (.tuple #[.agg (row3 n t x), .int .i64 0]) ∧ Below W.heap.size W w' := fun W => by
        have := implDecRead tx W (by omega)
        unfold AnsDC at this
        rw [hrd, ans_dec] at this
        exact this
      rw [htx] at cX
      clear htx htl hI hrd cK cJ hok
      go_wp2_with (first | (with_reducible show wpList _ _ _ (⟨_, .store _ _ _, _, _, _, _⟩ :: _) _ _; refine store_dec w1.heap.size rfl rfl N1 ?_) | (with_reducible show wpList _ _ _ (⟨_, .load _ _, _, _, _, _⟩ :: _) _ _; refine load_dec w1.heap.size rfl N2 ?_))
      clear N1
      refine (cX _ D2).mono ?_
      rintro r w3 ⟨rfl, B3⟩
      have N3 := N2.belowS B3
      have D3 := below_kept D2 (Nat.le_refl _) B3
      clear B3 cX N2 D2
      go_wp2_with (with_reducible show wpList _ _ _ (⟨_, .load _ _, _, _, _, _⟩ :: _) _ _; refine load_dec w1.heap.size rfl N3 ?_)
      refine (cK2 _).mono ?_
      rintro r w4 ⟨rfl, B4⟩
      have N4 := N3.belowS B4
      have D4 := below_kept D3 (Nat.le_refl _) B4
      clear B4 cK2 N3 D3
      go_wp2_with fail
      refine (cR _).mono ?_
      rintro r w6 ⟨rfl, B6⟩
      have N6 := N4.belowS B6
      have D6 := below_kept D4 (Nat.le_refl _) B6
      have X6 := DecAt.new w6 false ⟨#[]⟩ 0
      have X7 : DecAt ((w6.alloc (.cells (row3 false ⟨#[]⟩ 0) 25)).setRow w6.heap.size (row3 n t x)) w6.heap.size n t x := X6.row
      have N7 : DecAt ((w6.alloc (.cells (row3 false ⟨#[]⟩ 0) 25)).setRow w6.heap.size (row3 n t x)) w1.heap.size n t x := (N6.alloc _).rowO (Nat.ne_of_lt N6.lt) _
      have D7 := below_row3 (D6.alloc D6.size (.cells (row3 false ⟨#[]⟩ 0) 25)) (g := w6.heap.size) D6.size (row3 n t x)
      clear cR B6 N4 N6 D4
      obtain ⟨k0, k1, k2⟩ := N7.cell
      obtain ⟨k3, k4, k5⟩ := X7.cell
      go_wp2_with (with_reducible show wpList _ _ _ (⟨_, .store _ _ _, _, _, _, _⟩ :: _) _ _; refine store_dec w6.heap.size rfl rfl X6 ?_)
      refine (cJ2 _).mono ?_
      rintro r w8 ⟨rfl, B8⟩
      have D8 := below_kept D7 (Nat.le_refl _) B8
      clear cJ2 B8 N7 X7 D7 D6 X6 k0 k1 k2 k3 k4 k5
      go_wp2
      go_ret
      exact ⟨rfl, D8⟩
    · have cK2 : ∀ W, Calls Tryd.prog 8 #[.agg #[.bool n, .string t, .int .i64 x]] W fun e w' => e = .returned (.bool false) ∧ Below W.heap.size W w' := fun W => (cK W).mono fun e w' ⟨b, h1, h2, h3⟩ => ⟨by rw [h1]; cases b; rfl; exact absurd (h2.1 rfl) hok, h3⟩
      have cJ2 : ∀ W, Calls Tryd.prog 9 #[.agg #[.bool n, .string t, .int .i64 x]] W fun e w' => e = .returned (.bool false) ∧ Below W.heap.size W w' := fun W => (cJ W).mono fun e w' ⟨b, h1, h2, h3⟩ => ⟨by rw [h1]; cases b; rfl; exact absurd (h2.1 rfl) hok, h3⟩
      have htx : (⟨(textR (dOf n t x)).toArray⟩ : ByteArray) = ⟨#[]⟩ := by unfold textR; rw [if_neg hok]
      rw [htx] at cX
      clear htx cK cJ hok
      go_wp2_with (first | (with_reducible show wpList _ _ _ (⟨_, .store _ _ _, _, _, _, _⟩ :: _) _ _; refine store_dec w1.heap.size rfl rfl N1 ?_) | (with_reducible show wpList _ _ _ (⟨_, .load _ _, _, _, _, _⟩ :: _) _ _; refine load_dec w1.heap.size rfl N2 ?_))
      clear N1
      refine (cX _ D2).mono ?_
      rintro r w3 ⟨rfl, B3⟩
      have N3 := N2.belowS B3
      have D3 := below_kept D2 (Nat.le_refl _) B3
      clear B3 cX N2 D2
      go_wp2_with (with_reducible show wpList _ _ _ (⟨_, .load _ _, _, _, _, _⟩ :: _) _ _; refine load_dec w1.heap.size rfl N3 ?_)
      refine (cK2 _).mono ?_
      rintro r w4 ⟨rfl, B4⟩
      have N4 := N3.belowS B4
      have D4 := below_kept D3 (Nat.le_refl _) B4
      clear B4 cK2 N3 D3
      obtain ⟨k0, k1, k2⟩ := N4.cell
      go_wp2_with fail
      refine (cJ2 _).mono ?_
      rintro r w5 ⟨rfl, B5⟩
      have D5 := below_kept D4 (Nat.le_refl _) B5
      clear B5 cJ2 N4 D4 k0 k1 k2
      go_wp2
      go_ret
      exact ⟨rfl, D5⟩
  · have cB := big_yes a zs.length cap w hlen
    clear hN hZ hT
    go_enter Tryd.func3, Tryd.ntmps3
    go_wp2_with fail
    refine cB.mono ?_
    rintro e w0 ⟨rfl, rfl⟩
    clear cB
    go_wp2
    go_ret
    exact ⟨rfl, Below.refl _ _⟩

set_option maxRecDepth 100000
theorem witness_row (os : Os) {H : Type} (enc : TypeId × Value → H) :
    (OpenSpec.ofChange Rows.fnDecBackSpec).preRow enc Tryd.prog Tryd.f3 Rows.fnDecBackRow.domain false Rows.fnDecBackRow.laid ((laidWorldU os).forCall (fun _ _ => 0) ⟨#[], #[.slice none 0 0], []⟩).memory #[.slice none 0 0] := by
  have hw : (DataW.whole enc Tryd.prog ((laidWorldU os).forCall (fun _ _ => 0) ⟨#[], #[.slice none 0 0], []⟩).memory Tryd.f3.params.toList (OpenSpec.ofChange Rows.fnDecBackSpec).vars false (#[.slice none 0 0] : Array Value).toList 8).map (fun x => (x.1, x.2.1)) =
      some ([.nil], []) := by kernel_rfl
  obtain ⟨⟨x1, x2, x3⟩, hx, hx1⟩ := Option.map_eq_some_iff.1 hw
  simp only [Prod.mk.injEq] at hx1
  obtain ⟨rfl, rfl⟩ := hx1
  exact OpenSpec.preRow_of_cond 8 hx (by kernel_rfl) (fun k hk => by cases hk) (by kernel_rfl) (laid_metU os _)

set_option maxHeartbeats 2000000 in
theorem lifted (os : Os) (started : os.Started) (H : Type) (enc : TypeId × Value → H) (F : Stop.Interp) :
    ReturnsInHanded {} Tryd.checked os 3 .any ((OpenSpec.ofChange Rows.fnDecBackSpec).preRow enc Tryd.prog Tryd.f3 Rows.fnDecBackRow.domain false Rows.fnDecBackRow.laid) (((OpenSpec.ofChange Rows.fnDecBackSpec).at F).post enc Tryd.prog Tryd.f3 false true false false) := by
  refine returnsInHanded_of_row (C := Tryd.checked) (s := OpenSpec.ofChange Rows.fnDecBackSpec) own started (by kernel_rfl) Tryd.func3
    (witness_row_atRef (enc := enc) (C := Tryd.checked) false (laidWorldU os) #[.slice none 0 0] rfl (by kernel_rfl) (by kernel_rfl) (by kernel_rfl) (witness_row os enc)) ?_
  intro W base args ds gs before hval0 hW _ _ _ hL _ _
  have hval : ∀ (j : Nat) t v, Tryd.f3.params[j]? = some t → args[j]? = some v → Value.okWide Tryd.prog W .any base t v := hval0
  have hW' := hW
  obtain ⟨p, q, hA0, hV0, rfl, _, _⟩ := hW
  have hA : DataW.TrodAll enc Tryd.prog W 0 (fun _ => true) true Tryd.f3.params.toList args.toList ds p := hA0
  rw [Tryd.params3] at hA hval
  obtain ⟨v0, vs0, d0, ds0, p0, q0, hargs, rfl, rfl, h0, r0⟩ := trodAll_cons hA
  obtain ⟨rfl, rfl, rfl⟩ := trodAll_nil r0
  obtain rfl : args = #[v0] := by cases args; simp_all
  obtain ⟨rfl, rfl⟩ := trodVars_none hV0
  obtain ⟨a0, len0, cap0, rfl⟩ := okWide_slice Tryd.underlying22 (hval 0 22 v0 rfl rfl)
  have k0 := h0
  have lt0 : ∀ x ∈ p0, x.block < W.heap.size := by obtain ⟨m, hm⟩ := k0; exact DataW.trod_lt m _ _ _ hm
  obtain ⟨z0, w0⟩ : ∃ zs, IsRow .u8 W a0 len0 cap0 zs := by
    obtain ⟨fuel, hf⟩ := h0
    rcases open_ints Tryd.underlying22 Tryd.underlying5 (by kernel_rfl) hf with ⟨hcs, _⟩ | ⟨x, l, c, zs, hcs, _, hl, hm, hz, _, hcell, hwz⟩
    · simp [Value.cells] at hcs
      obtain ⟨rfl, rfl, rfl⟩ := hcs
      exact ⟨[], .inl ⟨rfl, rfl, rfl, rfl⟩⟩
    · simp [Value.cells] at hcs
      obtain ⟨rfl, rfl, rfl⟩ := hcs
      exact ⟨zs, .inr ⟨_, rfl, hl, hm, by simpa using hz, hcell, hwz⟩⟩
  clear hA0 hV0 hval0
  refine (walk a0 len0 cap0 z0 W w0 (tab_of_laidU hL)).mono ?_
  rintro e W' ⟨rfl, bel⟩
  exact ⟨_, rfl, _, _, _, [], _, [], hW', trodAll_mk1 (shut_bool Tryd.underlying4 _), (trodAll_cons_mk (Below.trod laidOut (by kernel_rfl) (of_decide_eq_true (by kernel_rfl)) k0 bel lt0) trodAll_mk0), rfl, bel.frame _, fun h => by cases h⟩

theorem over : Rows.FnDecBackSaid :=
  OpenClaim.holds_of_cond 3 Tryd.f3 rfl rfl rfl rfl rfl rfl rfl ⟨rfl, rfl, rfl, rfl, rfl⟩ rfl rfl rfl rfl rfl (by kernel_rfl) Tryd.func3 (by kernel_rfl)
    (of_decide_eq_true (by kernel_rfl)) (by unfold Func.isWrapper; rw [if_neg (of_decide_eq_false (by kernel_rfl))]; exact ⟨rfl, rfl⟩)
    (fun os started H enc _ F0 => by rw [OpenClaim.pre_eq_preRow]; exact lifted os started H enc F0)

/-- The given statement. -/
theorem proved : Rows.FnDecBackCardSaid :=
  Claim7.holds_tied_plain_at .later [] [.data, .data, .data, .data, .pinned] true _ false
    over (fun _ h => by cases h) (by kernel_rfl) (fun _ h => by cases h) fnDecBack_row_tie rfl ⟨rfl, rfl⟩ (by kernel_rfl) rfl
    (fun f fn hf hfn => by
      obtain rfl : f = 3 := Option.some.inj ((show Tryd.prog.funcNamed Rows.fnDecBackRow.func = some 3 by kernel_rfl).symm.trans hf) |>.symm
      obtain rfl : fn = Tryd.f3 := (Option.some.inj (Tryd.func3.symm.trans hfn)).symm
      exact ⟨by kernel_rfl, fun j t ht => by
        rw [Tryd.params3] at ht
        rcases j with _ | j
        · obtain rfl : t = 22 := by simpa using ht.symm
          exact (show Tryd.prog.wantsStandIn 22 = false by kernel_rfl)
        · simp at ht⟩)
    (by kernel_rfl)

end Go.Proofs.YthijeckcjfnbcaaDoor.fnDecBack
