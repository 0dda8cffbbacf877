/- For every two codes: the text of the number drawn from the first, with blanks drawn from the second around it, looks like that number; followed by a letter it does not, but has the number as its beginning. No condition. -/
import Derived.Test.YtlhdolcadlabpaaDoorLikeMath
import Derived.Test.YtlhdolcadlabpaaDoorDrawDec2
import Derived.Test.YtlhdolcadlabpaaDoorSpecDec14
import Derived.Test.YtlhdolcadlabpaaDoorLaid
namespace Go.Proofs.YtlhdolcadlabpaaDoor.fnLooksLike
open Go.ChangeShapes Go.WideShapes Go.ChangeAt Go.RowKit Go.Shelf
open Go.ChangeMaps (open_string shut_string)
set_option linter.unusedVariables false

set_option maxHeartbeats 4000000 in
set_option maxRecDepth 100000 in
theorem walk (a : Option Addr) (len cap : Nat) (z : List Int) (a2 : Option Addr) (len2 cap2 : Nat) (z2 : List Int) (w : World) (hR : IsRow .u8 w a len cap z) (hR2 : IsRow .u8 w a2 len2 cap2 z2) (hT : Tabs w) :
    Calls Tryd.prog 3 #[.slice a len cap, .slice a2 len2 cap2] w fun e w' => e = .returned (.bool true) ∧ Below w.heap.size w w' := by
  obtain ⟨zs, rfl, hN, hZ⟩ := bytes_of_row hR
  obtain ⟨zs2, rfl, hN2, hZ2⟩ := bytes_of_row hR2
  clear hR hR2
  by_cases hlen : zs.length ≤ 1048576
  · have cB := big_any a zs.length cap w hlen
    by_cases hlen2 : zs2.length ≤ 1048576
    · have cB2 := big_any a2 zs2.length cap2 w hlen2
      have cD := drawDecText_any a cap zs w hlen hN hZ
      unfold DrawnDec at cD
      clear hN hZ
      go_enter Tryd.func3, Tryd.ntmps3
      go_wp2_with fail
      refine cB.mono ?_
      rintro e w0 ⟨rfl, rfl⟩
      clear cB
      go_wp2_with fail
      refine cB2.mono ?_
      rintro e w0 ⟨rfl, rfl⟩
      clear cB2
      go_wp2_with fail
      refine cD.mono ?_
      rintro e w1 ⟨n, t, x, ht, hx1, hx2, rfl, B1⟩
      have N1 := DecAt.new w1 false ⟨#[]⟩ 0
      have N2 : DecAt ((w1.alloc (.cells (row3 false ⟨#[]⟩ 0) 25)).setRow w1.heap.size (row3 n t x)) w1.heap.size n t x := N1.row
      have D2 := below_row3 (B1.alloc B1.size (.cells (row3 false ⟨#[]⟩ 0) 25)) (g := w1.heap.size) B1.size (row3 n t x)
      clear cD B1
      have cK := fun W => specDecOk n t x W (by omega) hx1 hx2
      have cX := fun W => specDecText n t x W (by omega) hx1 hx2
      unfold AnsB at cK
      unfold AnsS at cX
      go_wp2_with (first | (with_reducible show wpList _ _ _ (⟨_, .store _ _ _, _, _, _, _⟩ :: _) _ _; refine store_dec w1.heap.size rfl rfl N1 ?_) | (with_reducible show wpList _ _ _ (⟨_, .load _ _, _, _, _, _⟩ :: _) _ _; refine load_dec w1.heap.size rfl N2 ?_))
      clear N1
      by_cases hok : (dOf n t x).Ok
      · have cK2 : ∀ W, Calls Tryd.prog 9 #[.agg #[.bool n, .string t, .int .i64 x]] W fun e w' => e = .returned (.bool true) ∧ Below W.heap.size W w' := fun W => (cK W).mono fun e w' ⟨b, h1, h2, h3⟩ => ⟨by rw [h1, h2.2 hok], h3⟩
        obtain ⟨tx, htx⟩ : ∃ q : ByteArray, ⟨(textR (dOf n t x)).toArray⟩ = q := ⟨_, rfl⟩
        have htl : tx.data.toList = textR (dOf n t x) := by rw [← htx]
        rw [htx] at cX
        have htz : tx.size ≤ 100 := by have := (text_is hok).small; rw [← htl, size_list] at this; exact this
        have HTL := Lib.hid htl
        have HOK := Lib.hid hok
        clear htx htl cK hok
        refine (cK2 _).mono ?_
        rintro r w3 ⟨rfl, B3⟩
        have N3 := N2.belowS B3
        have D3 := below_kept D2 (Nat.le_refl _) B3
        clear B3 cK2 N2 D2
        go_wp2_with (with_reducible show wpList _ _ _ (⟨_, .load _ _, _, _, _, _⟩ :: _) _ _; refine load_dec w1.heap.size rfl N3 ?_)
        refine (cX _).mono ?_
        rintro r w4 ⟨rfl, B4⟩
        have N4 := N3.belowS B4
        have D4 := below_kept D3 (Nat.le_refl _) B4
        clear B4 cX N3 D3
        have hNW : Nums .u8 (w4.alloc (.cells #[.string ⟨#[]⟩, .string ⟨#[32]⟩, .string ⟨#[9]⟩, .string ⟨#[10, 32]⟩, .string ⟨#[13]⟩] 9)) (w4.alloc (.cells #[.string ⟨#[]⟩, .string ⟨#[32]⟩, .string ⟨#[9]⟩, .string ⟨#[10, 32]⟩, .string ⟨#[13]⟩] 9)).heap.size a2 zs2 := ((hN2.below D4).alloc D4.size _).up (by simp; have := D4.size; omega)
        have cP := lawPick5 a2 cap2 zs2 _ hlen2 hNW hZ2
        clear hNW hN2 hZ2
        go_wp2_with fail
        refine cP.mono ?_
        rintro r w5 ⟨i, hi, rfl, B5⟩
        have N5 := (N4.alloc _).belowS B5
        have D5 := below_kept (D4.alloc D4.size _) (Nat.le_refl _) B5
        have hblk := (B5.block w4.heap.size (by simp)).trans (heap_alloc_new w4 _)
        obtain ⟨g, hg1, hg2, hg3⟩ := gap_at hblk (by decide) i (by simp; omega)
        clear hblk cP B5 N4 D4
        have HT0 := Lib.hid hT
        have hT5 := hT.below D5
        clear hT
        obtain ⟨q0, hq0⟩ : ∃ q : ByteArray, g ++ tx = q := ⟨_, rfl⟩
        have hqz : q0.size ≤ 102 := by rw [← hq0, ByteArray.size_append]; omega
        obtain ⟨s1, hs1⟩ : ∃ q : ByteArray, q0 ++ g = q := ⟨_, rfl⟩
        obtain ⟨s2, hs2⟩ : ∃ q : ByteArray, q0 ++ ⟨#[122]⟩ = q := ⟨_, rfl⟩
        obtain ⟨l1, l2, l3⟩ := like_gap (s := s1) HOK.out HTL.out hg3 hg2 (by rw [hq0]; exact hs1)
        obtain ⟨m1, m2, m3⟩ := like_z (s := s2) HOK.out HTL.out hg3 hg2 (by rw [hq0]; exact hs2)
        have cP1 : ∀ W, Tabs W → Calls Tryd.prog 12 #[.string s1] W fun e w' => e = .returned (.tuple #[.agg (row3 n t x), .int .i64 0]) ∧ Below W.heap.size W w' := fun W h => by
          have := implPrefix s1 W (by omega) h
          unfold AnsDC at this
          rw [l2, ans_dec] at this
          exact this
        have cP2 : ∀ W, Tabs W → Calls Tryd.prog 12 #[.string s2] W fun e w' => e = .returned (.tuple #[.agg (row3 n t x), .int .i64 0]) ∧ Below W.heap.size W w' := fun W h => by
          have := implPrefix s2 W (by omega) h
          unfold AnsDC at this
          rw [m2, ans_dec] at this
          exact this
        have cL1 : ∀ W, Tabs W → Calls Tryd.prog 13 #[.string s1] W fun e w' => e = .returned (.bool true) ∧ Below W.heap.size W w' := fun W h => by
          have := implLooks s1 W (by omega) h
          unfold BoolIs at this
          rw [l3] at this
          exact this
        have cL2 : ∀ W, Tabs W → Calls Tryd.prog 13 #[.string s2] W fun e w' => e = .returned (.bool false) ∧ Below W.heap.size W w' := fun W h => by
          have := implLooks s2 W (by omega) h
          unfold BoolIs at this
          rw [m3] at this
          exact this
        clear l1 l2 l3 m1 m2 m3 HOK HTL hg3
        go_wp2_with fail
        refine (cP1 _ hT5).mono ?_
        rintro r w6 ⟨rfl, B6⟩
        have N6 := N5.belowS B6
        have D6 := below_kept D5 (Nat.le_refl _) B6
        have X6 := DecAt.new w6 false ⟨#[]⟩ 0
        have X7 : DecAt ((w6.alloc (.cells (row3 false ⟨#[]⟩ 0) 25)).setRow w6.heap.size (row3 n t x)) w6.heap.size n t x := X6.row
        have N7 : DecAt ((w6.alloc (.cells (row3 false ⟨#[]⟩ 0) 25)).setRow w6.heap.size (row3 n t x)) w1.heap.size n t x := (N6.alloc _).rowO (Nat.ne_of_lt N6.lt) _
        have D7 := below_row3 (D6.alloc D6.size (.cells (row3 false ⟨#[]⟩ 0) 25)) (g := w6.heap.size) D6.size (row3 n t x)
        clear cP1 B6 N5 N6 D5 hT5
        have hT7 : Tabs _ := Utf8Tabs_below HT0.out D7
        go_wp2_with (with_reducible show wpList _ _ _ (⟨_, .store _ _ _, _, _, _, _⟩ :: _) _ _; refine store_dec w6.heap.size rfl rfl X6 ?_)
        clear X6 D6
        refine (cP2 _ hT7).mono ?_
        rintro r w8 ⟨rfl, B8⟩
        have N8 := N7.belowS B8
        have X8 := X7.belowS B8
        have D8 := below_kept D7 (Nat.le_refl _) B8
        have Y8 := DecAt.new w8 false ⟨#[]⟩ 0
        have Y9 : DecAt ((w8.alloc (.cells (row3 false ⟨#[]⟩ 0) 25)).setRow w8.heap.size (row3 n t x)) w8.heap.size n t x := Y8.row
        have N9 : DecAt ((w8.alloc (.cells (row3 false ⟨#[]⟩ 0) 25)).setRow w8.heap.size (row3 n t x)) w1.heap.size n t x := (N8.alloc _).rowO (Nat.ne_of_lt N8.lt) _
        have X9 : DecAt ((w8.alloc (.cells (row3 false ⟨#[]⟩ 0) 25)).setRow w8.heap.size (row3 n t x)) w6.heap.size n t x := (X8.alloc _).rowO (Nat.ne_of_lt X8.lt) _
        have D9 := below_row3 (D8.alloc D8.size (.cells (row3 false ⟨#[]⟩ 0) 25)) (g := w8.heap.size) D8.size (row3 n t x)
        have hT9 : Tabs _ := Utf8Tabs_below HT0.out D9
        clear cP2 B8 N7 X7 N8 X8 D7 hT7
        go_wp2_with (with_reducible show wpList _ _ _ (⟨_, .store _ _ _, _, _, _, _⟩ :: _) _ _; refine store_dec w8.heap.size rfl rfl Y8 ?_)
        clear Y8 D8
        refine (cL1 _ hT9).mono ?_
        rintro r w10 ⟨rfl, B10⟩
        have N10 := N9.belowS B10
        have X10 := X9.belowS B10
        have Y10 := Y9.belowS B10
        have D10 := below_kept D9 (Nat.le_refl _) B10
        have hT10 : Tabs w10 := Utf8Tabs_below HT0.out D10
        clear cL1 B10 N9 X9 Y9 D9 hT9
        obtain ⟨k0, k1, k2⟩ := N10.cell
        obtain ⟨k3, k4, k5⟩ := X10.cell
        go_wp2_with fail
        clear k0 k1 k2 k3 k4 k5
        refine (cL2 _ hT10).mono ?_
        rintro r w11 ⟨rfl, B11⟩
        have N11 := N10.belowS B11
        have Y11 := Y10.belowS B11
        have D11 := below_kept D10 (Nat.le_refl _) B11
        clear cL2 B11 N10 X10 Y10 D10 hT10
        obtain ⟨k0, k1, k2⟩ := N11.cell
        obtain ⟨k3, k4, k5⟩ := Y11.cell
        go_wp2
        go_ret
        exact ⟨rfl, D11⟩
      · have cK2 : ∀ W, Calls Tryd.prog 9 #[.agg #[.bool n, .string t, .int .i64 x]] W fun e w' => e = .returned (.bool false) ∧ Below W.heap.size W w' := fun W => (cK W).mono fun e w' ⟨b, h1, h2, h3⟩ => ⟨by rw [h1]; cases b; rfl; exact absurd (h2.1 rfl) hok, h3⟩
        clear cK cX hok hT hN2 hZ2
        refine (cK2 _).mono ?_
        rintro r w3 ⟨rfl, B3⟩
        have D3 := below_kept D2 (Nat.le_refl _) B3
        clear B3 cK2 N2 D2
        go_wp2
        go_ret
        exact ⟨rfl, D3⟩
    · have cB2 := big_yes a2 zs2.length cap2 w hlen2
      clear hN hZ hN2 hZ2 hT
      go_enter Tryd.func3, Tryd.ntmps3
      go_wp2_with fail
      refine cB.mono ?_
      rintro e w0 ⟨rfl, rfl⟩
      clear cB
      go_wp2_with fail
      refine cB2.mono ?_
      rintro e w0 ⟨rfl, rfl⟩
      clear cB2
      go_wp2
      go_ret
      exact ⟨rfl, Below.refl _ _⟩
  · have cB := big_yes a zs.length cap w hlen
    clear hN hZ hN2 hZ2 hT
    go_enter Tryd.func3, Tryd.ntmps3
    go_wp2_with fail
    refine cB.mono ?_
    rintro e w0 ⟨rfl, rfl⟩
    clear cB
    go_wp2
    go_ret
    exact ⟨rfl, Below.refl _ _⟩

set_option maxRecDepth 100000
theorem witness_row (os : Os) {H : Type} (enc : TypeId × Value → H) :
    (OpenSpec.ofChange Rows.fnLooksLikeSpec).preRow enc Tryd.prog Tryd.f3 Rows.fnLooksLikeRow.domain false Rows.fnLooksLikeRow.laid ((laidWorld os).forCall (fun _ _ => 0) ⟨#[], #[.slice none 0 0, .slice none 0 0], []⟩).memory #[.slice none 0 0, .slice none 0 0] := by
  have hw : (DataW.whole enc Tryd.prog ((laidWorld os).forCall (fun _ _ => 0) ⟨#[], #[.slice none 0 0, .slice none 0 0], []⟩).memory Tryd.f3.params.toList (OpenSpec.ofChange Rows.fnLooksLikeSpec).vars false (#[.slice none 0 0, .slice none 0 0] : Array Value).toList 8).map (fun x => (x.1, x.2.1)) =
      some ([.nil, .nil], []) := by kernel_rfl
  obtain ⟨⟨x1, x2, x3⟩, hx, hx1⟩ := Option.map_eq_some_iff.1 hw
  simp only [Prod.mk.injEq] at hx1
  obtain ⟨rfl, rfl⟩ := hx1
  exact OpenSpec.preRow_of_cond 8 hx (by kernel_rfl) (fun k hk => by cases hk) (by kernel_rfl) (laid_met os _)

set_option maxHeartbeats 2000000 in
theorem lifted (os : Os) (started : os.Started) (H : Type) (enc : TypeId × Value → H) (F : Stop.Interp) :
    ReturnsInHanded {} Tryd.checked os 3 .any ((OpenSpec.ofChange Rows.fnLooksLikeSpec).preRow enc Tryd.prog Tryd.f3 Rows.fnLooksLikeRow.domain false Rows.fnLooksLikeRow.laid) (((OpenSpec.ofChange Rows.fnLooksLikeSpec).at F).post enc Tryd.prog Tryd.f3 false true false false) := by
  refine returnsInHanded_of_row (C := Tryd.checked) (s := OpenSpec.ofChange Rows.fnLooksLikeSpec) own started (by kernel_rfl) Tryd.func3
    (witness_row_atRef (enc := enc) (C := Tryd.checked) false (laidWorld os) #[.slice none 0 0, .slice none 0 0] rfl (by kernel_rfl) (by kernel_rfl) (by kernel_rfl) (witness_row os enc)) ?_
  intro W base args ds gs before hval0 hW _ _ _ hL _ _
  have hval : ∀ (j : Nat) t v, Tryd.f3.params[j]? = some t → args[j]? = some v → Value.okWide Tryd.prog W .any base t v := hval0
  have hW' := hW
  obtain ⟨p, q, hA0, hV0, rfl, _, _⟩ := hW
  have hA : DataW.TrodAll enc Tryd.prog W 0 (fun _ => true) true Tryd.f3.params.toList args.toList ds p := hA0
  rw [Tryd.params3] at hA hval
  obtain ⟨v0, vs0, d0, ds0, p0, q0, hargs, rfl, rfl, h0, r0⟩ := trodAll_cons hA
  obtain ⟨v1, vs1, d1, ds1, p1, q1, rfl, rfl, rfl, h1, r1⟩ := trodAll_cons r0
  obtain ⟨rfl, rfl, rfl⟩ := trodAll_nil r1
  obtain rfl : args = #[v0, v1] := by cases args; simp_all
  obtain ⟨rfl, rfl⟩ := trodVars_none hV0
  obtain ⟨a0, len0, cap0, rfl⟩ := okWide_slice Tryd.underlying22 (hval 0 22 v0 rfl rfl)
  have k0 := h0
  have lt0 : ∀ x ∈ p0, x.block < W.heap.size := by obtain ⟨m, hm⟩ := k0; exact DataW.trod_lt m _ _ _ hm
  obtain ⟨z0, w0⟩ : ∃ zs, IsRow .u8 W a0 len0 cap0 zs := by
    obtain ⟨fuel, hf⟩ := h0
    rcases open_ints Tryd.underlying22 Tryd.underlying5 (by kernel_rfl) hf with ⟨hcs, _⟩ | ⟨x, l, c, zs, hcs, _, hl, hm, hz, _, hcell, hwz⟩
    · simp [Value.cells] at hcs
      obtain ⟨rfl, rfl, rfl⟩ := hcs
      exact ⟨[], .inl ⟨rfl, rfl, rfl, rfl⟩⟩
    · simp [Value.cells] at hcs
      obtain ⟨rfl, rfl, rfl⟩ := hcs
      exact ⟨zs, .inr ⟨_, rfl, hl, hm, by simpa using hz, hcell, hwz⟩⟩
  obtain ⟨a1, len1, cap1, rfl⟩ := okWide_slice Tryd.underlying22 (hval 1 22 v1 rfl rfl)
  have k1 := h1
  have lt1 : ∀ x ∈ p1, x.block < W.heap.size := by obtain ⟨m, hm⟩ := k1; exact DataW.trod_lt m _ _ _ hm
  obtain ⟨z1, w1⟩ : ∃ zs, IsRow .u8 W a1 len1 cap1 zs := by
    obtain ⟨fuel, hf⟩ := h1
    rcases open_ints Tryd.underlying22 Tryd.underlying5 (by kernel_rfl) hf with ⟨hcs, _⟩ | ⟨x, l, c, zs, hcs, _, hl, hm, hz, _, hcell, hwz⟩
    · simp [Value.cells] at hcs
      obtain ⟨rfl, rfl, rfl⟩ := hcs
      exact ⟨[], .inl ⟨rfl, rfl, rfl, rfl⟩⟩
    · simp [Value.cells] at hcs
      obtain ⟨rfl, rfl, rfl⟩ := hcs
      exact ⟨zs, .inr ⟨_, rfl, hl, hm, by simpa using hz, hcell, hwz⟩⟩
  clear hA0 hV0 hval0
  refine (walk a0 len0 cap0 z0 a1 len1 cap1 z1 W w0 w1 (tabs_of_laid hL)).mono ?_
  rintro e W' ⟨rfl, bel⟩
  exact ⟨_, rfl, _, _, _, [], _, [], hW', trodAll_mk1 (shut_bool Tryd.underlying4 _), (trodAll_cons_mk (Below.trod laidOut (by kernel_rfl) (of_decide_eq_true (by kernel_rfl)) k0 bel lt0) (trodAll_cons_mk (Below.trod laidOut (by kernel_rfl) (of_decide_eq_true (by kernel_rfl)) k1 bel lt1) trodAll_mk0)), rfl, bel.frame _, fun h => by cases h⟩

theorem over : Rows.FnLooksLikeSaid :=
  OpenClaim.holds_of_cond 3 Tryd.f3 rfl rfl rfl rfl rfl rfl rfl ⟨rfl, rfl, rfl, rfl, rfl⟩ rfl rfl rfl rfl rfl (by kernel_rfl) Tryd.func3 (by kernel_rfl)
    (of_decide_eq_true (by kernel_rfl)) (by unfold Func.isWrapper; rw [if_neg (of_decide_eq_false (by kernel_rfl))]; exact ⟨rfl, rfl⟩)
    (fun os started H enc _ F0 => by rw [OpenClaim.pre_eq_preRow]; exact lifted os started H enc F0)

/-- The given statement. -/
theorem proved : Rows.FnLooksLikeCardSaid :=
  Claim7.holds_tied_plain_at .later [] [.data, .pinned] true _ false
    over (fun _ h => by cases h) (by kernel_rfl) (fun _ h => by cases h) fnLooksLike_row_tie rfl ⟨rfl, rfl⟩ (by kernel_rfl) rfl
    (fun f fn hf hfn => by
      obtain rfl : f = 3 := Option.some.inj ((show Tryd.prog.funcNamed Rows.fnLooksLikeRow.func = some 3 by kernel_rfl).symm.trans hf) |>.symm
      obtain rfl : fn = Tryd.f3 := (Option.some.inj (Tryd.func3.symm.trans hfn)).symm
      exact ⟨by kernel_rfl, fun j t ht => by
        rw [Tryd.params3] at ht
        rcases j with _ | j
        · obtain rfl : t = 22 := by simpa using ht.symm
          exact (show Tryd.prog.wantsStandIn 22 = false by kernel_rfl)
        · skip
          rcases j with _ | j
          · obtain rfl : t = 22 := by simpa using ht.symm
            exact (show Tryd.prog.wantsStandIn 22 = false by kernel_rfl)
          · simp at ht⟩)
    (by kernel_rfl)

end Go.Proofs.YtlhdolcadlabpaaDoor.fnLooksLike
