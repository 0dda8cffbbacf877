/- impl's unitsOf and digits: a decimal's digits as a natural, in units of a power of ten. Conditions: a valid decimal; at most 300 noughts behind it. -/
import Derived.Test.YthijeckcjfnbcaaGreatDoorImplDec5
import Derived.Test.YthijeckcjfnbcaaGreatDoorTailA
namespace Go.Proofs.YthijeckcjfnbcaaGreatDoor
set_option linter.unusedVariables false
open Go.RowKit

/-- The cells of a natural: there is one row of them alone. -/
def natCg (m v n : Nat) : Array Value := Array.ofFn fun i : Fin (m + 1) => if i.val < m then Value.int .u8 ((dgt v i.val : Nat) : Int) else Value.int .i64 (n : Int)
theorem natCg_size (m v n : Nat) : (natCg m v n).size = m + 1 := Array.size_ofFn
theorem natCg_at (m v n i : Nat) (h : i < m + 1) : (natCg m v n)[i]? = some (if i < m then Value.int .u8 ((dgt v i : Nat) : Int) else Value.int .i64 (n : Int)) := by
  rw [Array.getElem?_eq_getElem (by rw [natCg_size]; exact h)]
  unfold natCg
  rw [Array.getElem_ofFn]
def natC (v n : Nat) : Array Value := natCg 601 v n
theorem IsNat.eq {C : Array Value} {v n : Nat} (h : IsNat C v n) : C = natC v n := by
  apply Array.ext_getElem?
  intro i
  by_cases hi : i < 601 + 1
  · unfold natC
    rw [natCg_at 601 v n i hi]
    by_cases g : i < 601
    · rw [if_pos g]; exact h.dig i g
    · obtain rfl : i = 601 := by omega
      rw [if_neg g]; exact h.len
  · rw [Array.getElem?_eq_none (by rw [h.size]; omega), Array.getElem?_eq_none (by unfold natC; rw [natCg_size]; omega)]
theorem natC_is {v n : Nat} (hv : v < TOP) : IsNat (natC v n) v n :=
  ⟨natCg_size 601 v n, fun i hi => by unfold natC; rw [natCg_at 601 v n i (by omega), if_pos hi], by unfold natC; rw [natCg_at 601 v n 601 (by omega), if_neg (by omega)], hv⟩
/-- naturalOf, its cells named. -/
theorem implNaturalOfC (s : ByteArray) (hs : s.size ≤ 1048576) : ∃ C, IsNat C (ofV s) (len (ofV s)) ∧ ∀ W, Calls Tryz.prog 55 #[.string s] W fun r w' => r = .returned (.tuple #[.agg C, .bool (okS s)]) ∧ Below W.heap.size W w' := by
  have hv : ofV s < TOP := by
    unfold ofV
    split
    · next h => exact lt_top (val_lt h.2.1) (by have := h.2.2; rw [size_list]; omega)
    · exact top_pos
  refine ⟨natC (ofV s) (len (ofV s)), natC_is hv, fun W => (implNaturalOf s W hs).mono ?_⟩
  rintro r w' ⟨C, rfl, IC, B⟩
  rw [← IC.eq]
  exact ⟨rfl, B⟩

theorem repeat_nought (k : Nat) : Lib.repeatL [48] k = List.replicate k 48 := by
  induction k with
  | zero => rfl
  | succ k ih => simp [Lib.repeatL, ih, List.replicate_succ]

theorem heldU {w0 w w' : World} {a b : Nat} {n : Bool} {s : ByteArray} {e : Int} (h : DecAt w a n s e ∧ NatAt w b 0 0 ∧ Below w0.heap.size w0 w) (hb : Below w.heap.size w w') :
    DecAt w' a n s e ∧ NatAt w' b 0 0 ∧ Below w0.heap.size w0 w' := ⟨h.1.belowS hb, h.2.1.below hb h.2.1.lt, below_kept h.2.2 (Nat.le_refl _) hb⟩

set_option maxHeartbeats 2000000 in
set_option maxRecDepth 100000 in
theorem implUnits (n : Bool) (s : ByteArray) (e E : Int) (w : World) (ok : (dOf n s e).Ok) (h1 : E ≤ e) (h2 : e - E ≤ 300) (h3 : -1000 ≤ E) :
    Calls Tryz.prog 26 #[.agg #[.bool n, .string s, .int .i64 e], .int .i64 E] w (AnsOne (lev (dOf n s e) E) w) := by
  obtain ⟨d1, q1, b1, b2⟩ := ok_size ok
  have cZ := fun W => implIsZero n s e W
  have hz := Tryz.zeroNat
  obtain ⟨v, hv⟩ : ∃ v, lev (dOf n s e) E = v := ⟨_, rfl⟩
  rw [hv]
  have HV := Lib.hid hv
  have KA0 := (DecAt.new w n s e).alloc (.cells zeroCells 45)
  have KN0 := NatAt.new (w.alloc (.cells #[.bool n, .string s, .int .i64 e] 25)) zero_is
  rw [show (w.alloc (.cells #[.bool n, .string s, .int .i64 e] 25)).heap.size = w.heap.size + 1 by simp] at KN0
  have B0 : Below w.heap.size w ((w.alloc (.cells #[.bool n, .string s, .int .i64 e] 25)).alloc (.cells zeroCells 45)) := ((Below.refl _ _).alloc (Nat.le_refl _) _).alloc (by simp) _
  clear hv
  unfold AnsOne
  go_enter Tryz.func26, Tryz.ntmps26
  go_wp2_with fail
  refine (cZ _).mono ?_
  intro r w1 hr
  obtain ⟨hb, B1⟩ := AnsB.get hr
  have KA := KA0.belowS B1
  have KN := KN0.below B1 KN0.lt
  have D := below_kept B0 (Nat.le_refl _) B1
  clear cZ B1 hr B0 KA0 KN0
  rcases hb with ⟨rfl, hb⟩ | ⟨rfl, hb⟩
  · have HZ : Hid (v = 0) := by show _ = _; rw [← HV.out, hb]; exact lev_zero _
    clear hb
    obtain ⟨C0, g0, I0⟩ := KN
    go_wp2_with (with_reducible show wpList _ _ _ (⟨_, .store _ _ _, _, _, _, _⟩ :: _) _ _; refine store_nat (w.heap.size + 1) rfl rfl g0 I0 zero_is ?_)
    refine bodyPost_ret (results_nat1 rfl _ _ rfl (setRow_heap _ _ _ _ _ _ g0) zero_is) rfl ?_
    exact ⟨zeroCells, rfl, by rw [HZ.out]; exact zero_is, below_row D (Nat.le_succ _) _⟩
  · have hn0 : s.size ≠ 0 := fun h => hb (by
      rcases ok with g | g
      · exact g
      · have := g.2.1
        rw [show (dOf n s e).dig.length = s.size from size_list s] at this
        omega)
    have hne : s.data.toList ≠ [] := fun g => by have := size_list s; rw [g] at this; simp at this; omega
    obtain ⟨k, hk⟩ : ∃ k : Nat, (e - E).toNat = k := ⟨_, rfl⟩
    have hki : (k : Int) = e - E := by omega
    obtain ⟨z0, hz0⟩ : ∃ z : ByteArray, ⟨(Lib.repeatL [48] k).toArray⟩ = z := ⟨_, rfl⟩
    have cR : ∀ W, Calls Tryz.prog 56 #[.string ⟨#[48]⟩, .int .i64 (e - E)] W fun r w' => r = .returned (.string z0) ∧ Below W.heap.size W w' := fun W => by
      have := Tryz.strings_Repeat ⟨#[48]⟩ k W (by omega) (by show 1 * k ≤ _; omega)
      rw [hki] at this
      rw [← hz0]
      exact this
    have lz : z0.data.toList = List.replicate k 48 := by rw [← hz0, repeat_nought]
    obtain ⟨u, hu⟩ : ∃ u : ByteArray, s ++ z0 = u := ⟨_, rfl⟩
    have lu : u.data.toList = s.data.toList ++ List.replicate k 48 := by rw [← hu, ByteArray.data_append, Array.toList_append, lz]
    have su : u.size = s.size + k := by rw [← size_list, lu, List.length_append, List.length_replicate, size_list]
    have nu : NatS u := by
      refine ⟨⟨by rw [lu]; simp [hne], .inr ?_⟩, by rw [lu]; exact d1.append (val_zeros k).2, by omega⟩
      rw [lu, head_app hne]
      exact (ok.pos hne).2.1
    have ev : ofV u = v := by
      unfold ofV
      rw [if_pos nu, ← HV.out]
      show val u.data.toList = val s.data.toList * 10 ^ (e - E).toNat
      rw [lu, val_pad, hk]
    have eo : okS u = true := decide_eq_true nu
    obtain ⟨C, IC, cN⟩ := implNaturalOfC u (by omega)
    rw [eo] at cN
    rw [ev] at IC
    have zl : z0.size = k := by rw [← size_list, lz, List.length_replicate]
    have i1 := IntWalk.i64_in (e - E) ⟨by omega, by omega⟩
    have hmax : s.size + z0.size ≤ 9223372036854775807 := by omega
    clear hb hne hz0 lz lu nu ev eo d1 HV su hki
    have SST : Stable (fun w' => DecAt w' w.heap.size n s e ∧ NatAt w' (w.heap.size + 1) 0 0 ∧ Below w.heap.size w w') := fun _ _ h hb => heldU h hb
    obtain ⟨k0, k1, k2⟩ := KA.cell
    go_wp2_with fail
    refine wp_region_grows 12 (fun w' => DecAt w' w.heap.size n s e ∧ NatAt w' (w.heap.size + 1) 0 0 ∧ Below w.heap.size w w') (fun _ => True) SST (fun _ _ _ _ => trivial) (by kernel_rfl) (by kernel_rfl) (fun _ _ d _ _ h => by cases d <;> exact h) ⟨KA, KN.drewN 1, D.drew⟩ trivial ?_
    simp only [List.take_succ_cons, List.take_zero]
    iterate 6 (refine grows_step (fun K hK => ?_); go_simp; refine ⟨_, fun W hW => .inl (by obtain ⟨h0, h1, h2⟩ := hW.1.cell; first | (go_simp; exact rfl) | (go_simp; rw [if_neg (by omega)])), hK _ ?_⟩; clear hK K)
    (refine grows_step (fun K hK => ?_); go_simp; refine ⟨_, fun W hW => .inr (.inr ⟨_, _, ?_, cR W⟩), hK _ ?_⟩; (· first | (go_simp; done) | (go_simp; rfl)); clear hK K)
    (refine grows_step (fun K hK => ?_); go_simp; refine ⟨.string u, fun W hW => .inl (by first | (go_simp; done) | (go_simp; omega)), hK _ ?_⟩; clear hK K)
    (refine grows_step (fun K hK => ?_); go_simp; refine ⟨_, fun W hW => .inr (.inr ⟨_, _, ?_, cN W⟩), hK _ ?_⟩; (· first | (go_simp; done) | (go_simp; rfl)); clear hK K)
    iterate 3 (refine grows_step (fun K hK => ?_); go_simp; refine ⟨_, fun W hW => .inl (by first | (go_simp; exact rfl) | (go_simp; rw [if_neg (by omega)])), hK _ ?_⟩; clear hK K)
    refine grows_nil ?_
    change Orders2 _ _ _ _ _ 3 _ _ _
    refine Orders2.one (k := 12) (by kernel_rfl) rfl (fun W1 sW tW K hK => ?_)
    go_simp
    have ga : w.heap.size ≠ W1.heap.size := by have := sW.1.lt; omega
    have gb : w.heap.size + 1 ≠ W1.heap.size := by have := sW.2.1.lt; omega
    refine hK _ _ (fun w' => w'.heap[W1.heap.size]? = some (.cells zeroCells 45 (0, 0))) (fun w1 w2 h hb => (hb.block _ (Array.getElem?_eq_some_iff.1 h).1).trans h) (SST _ _ sW ((Below.refl _ _).alloc (Nat.le_refl _) _)) (heap_alloc_new W1 _) ?_
    have gw : w.heap.size ≤ W1.heap.size := sW.2.2.size
    clear hK K tW
    generalize W1.heap.size = g at *
    clear sW W1
    refine Orders2.one (k := 13) (by kernel_rfl) rfl (fun W2 sW2 t2 K hK => ?_)
    rw [if_pos (show Region.wanted _ _ = true from rfl)]
    refine wp_store_row 45 _ _ rfl g C rfl rfl _ zeroCells t2 (by rw [IC.size]; exact Tryz.sizeNat) (by rw [zero_is.size, IC.size]) IC.one ?_
    refine hK _ _ (fun w' => w'.heap[g]? = some (.cells C 45 (0, 0))) (fun w1 w2 h hb => (hb.block _ (Array.getElem?_eq_some_iff.1 h).1).trans h) ⟨?_, sW2.2.1.rowOther C gb, below_row sW2.2.2 (by omega) _⟩ (setRow_heap _ _ _ _ _ _ t2) ?_
    · exact (setRow_other _ _ _ _ ga).trans sW2.1
    clear hK K t2 sW2 W2
    refine Orders2.one (k := 14) (by kernel_rfl) rfl (fun W3 sW3 t3 K hK => ?_)
    go_simp
    refine hK _ _ (fun w' => w'.heap[g]? = some (.cells C 45 (0, 0))) (fun w1 w2 h hb => (hb.block _ (Array.getElem?_eq_some_iff.1 h).1).trans h) sW3 t3 ?_
    clear hK K sW3 t3 W3
    refine Orders2.done (by kernel_rfl) (fun W sW N => ?_)
    obtain ⟨sA, ⟨C0, g0, I0⟩, sB⟩ := sW
    clear cR cN KA KN D k0 k1 k2
    go_wp2_with (first | (with_reducible show wpList _ _ _ (⟨_, .load _ _, _, _, _, _⟩ :: _) _ _; refine load_nat g rfl N IC ?_) | (with_reducible show wpList _ _ _ (⟨_, .store _ _ _, _, _, _, _⟩ :: _) _ _; refine store_nat (w.heap.size + 1) rfl rfl g0 I0 IC ?_))
    refine bodyPost_ret (results_nat1 rfl _ _ rfl (setRow_heap _ _ _ _ _ _ g0) IC) rfl ?_
    exact ⟨C, rfl, IC, below_row sB (Nat.le_succ _) _⟩

/-- An answer that is one natural: its cells, the same in every world. -/
theorem one_cells {f : FuncId} {args : Array Value} {v : Nat} (hv : v < TOP) (h : ∀ W, Calls Tryz.prog f args W (AnsOne v W)) : ∃ C, IsNat C v (len v) ∧ ∀ W, Calls Tryz.prog f args W fun r w' => r = .returned (.agg C) ∧ Below W.heap.size W w' := by
  refine ⟨natC v (len v), natC_is hv, fun W => (h W).mono ?_⟩
  rintro r w' ⟨C, rfl, IC, B⟩
  rw [← IC.eq]
  exact ⟨rfl, B⟩
theorem lev_top {n : Bool} {s : ByteArray} {e E : Int} (ok : (dOf n s e).Ok) (h2 : e - E ≤ 300) : lev (dOf n s e) E < topOf 320 := by
  obtain ⟨d1, q1, b1, b2⟩ := ok_size ok
  have h1 := val_lt d1
  rw [size_list] at h1
  have h3 : lev (dOf n s e) E < 10 ^ (s.size + (e - E).toNat) := by
    rw [Nat.pow_add]
    exact Nat.mul_lt_mul_of_pos_right h1 (Nat.pow_pos (by omega))
  exact lt_topOf h3 (by omega)

set_option maxHeartbeats 1000000 in
set_option maxRecDepth 100000 in
theorem implDigits (n : Bool) (s : ByteArray) (e : Int) (w : World) (ok : (dOf n s e).Ok) :
    Calls Tryz.prog 36 #[.agg #[.bool n, .string s, .int .i64 e]] w (AnsOne (val s.data.toList) w) := by
  obtain ⟨d1, q1, b1, b2⟩ := ok_size ok
  have cU := fun W => implUnits n s e e W ok (by omega) (by omega) (by omega)
  have hl : lev (dOf n s e) e = val s.data.toList := by
    unfold lev
    show val s.data.toList * 10 ^ (e - e).toNat = _
    rw [Int.sub_self]; simp
  rw [hl] at cU
  have hz := Tryz.zeroNat
  have KA := (DecAt.new w n s e).alloc (.cells zeroCells 45)
  have KN := NatAt.new (w.alloc (.cells #[.bool n, .string s, .int .i64 e] 25)) zero_is
  rw [show (w.alloc (.cells #[.bool n, .string s, .int .i64 e] 25)).heap.size = w.heap.size + 1 by simp] at KN
  have B0 : Below w.heap.size w ((w.alloc (.cells #[.bool n, .string s, .int .i64 e] 25)).alloc (.cells zeroCells 45)) := ((Below.refl _ _).alloc (Nat.le_refl _) _).alloc (by simp) _
  obtain ⟨k0, k1, k2⟩ := KA.cell
  generalize val s.data.toList = v at *
  clear ok d1 hl
  unfold AnsOne at cU
  go_enter Tryz.func36, Tryz.ntmps36
  go_wp2_with fail
  refine (cU _).mono ?_
  rintro r w1 ⟨C, rfl, IC, B1⟩
  obtain ⟨C0, g0, I0⟩ := KN.below B1 KN.lt
  have D := below_kept B0 (Nat.le_refl _) B1
  clear cU B1 KA KN B0 k0 k1 k2
  go_wp2_with (with_reducible show wpList _ _ _ (⟨_, .store _ _ _, _, _, _, _⟩ :: _) _ _; refine store_nat (w.heap.size + 1) rfl rfl g0 I0 IC ?_)
  refine bodyPost_ret (results_nat1 rfl _ _ rfl (setRow_heap _ _ _ _ _ _ g0) IC) rfl ?_
  exact ⟨C, rfl, IC, below_row D (Nat.le_succ _) _⟩

end Go.Proofs.YthijeckcjfnbcaaGreatDoor
