/- spec.l02Mul, spec.NatMul. Conditions: naturals; at most 1048576 bytes. -/
import Derived.Test.YthijeckcjfnbcaaGreatDoorSpecNatA
import Derived.StillTailTactics
namespace Go.Proofs.YthijeckcjfnbcaaGreatDoor
set_option linter.unusedVariables false
open Go.RowKit
open Go.Lib (byteCells)

def mulOf (s t : ByteArray) : List UInt8 × Bool := if NatS s ∧ NatS t then fits (nv s * nv t) else ([], false)

theorem Tryz.infoIntN : (Tryz.prog.info? 3).map (fun i => (i.zero, i.size, i.bytes)) = some (some (.int .i64 0), 1, 8) := by kernel_rfl

set_option maxHeartbeats 2000000 in
set_option maxRecDepth 100000 in
theorem specDigitS (s : ByteArray) (k : Nat) (w : World) (hs : s.size ≤ 1048576) (hk : k ≤ 10000000) (hd : Digs s.data.toList) : Calls Tryz.prog 71 #[.string s, .int .i64 k] w fun e w' => e = .returned (.int .i64 (digAt s.data.toList k : Nat)) ∧ w' = w := by
  have hsl := size_list s
  by_cases h : k < s.size
  · obtain ⟨j, hj⟩ : ∃ j : Nat, s.size - 1 - k = j := ⟨_, rfl⟩
    have hjs : j < s.size := by omega
    obtain ⟨x, hx⟩ : ∃ x, s[j] = x := ⟨_, rfl⟩
    have hdx : IsD x := hd x (by rw [← hx]; exact List.getElem_mem (l := s.data.toList) (by rw [hsl]; exact hjs))
    have HE : Hid (digAt s.data.toList k = x.toNat - 48) := by
      show _ = _
      unfold digAt
      rw [if_pos (by rw [hsl]; exact h), hsl, hj]
      simp only [List.getD, List.getElem?_eq_getElem (show j < s.data.toList.length by rw [hsl]; exact hjs), Option.getD_some]
      rw [at_list s j hjs, hx]; rfl
    unfold IsD at hdx
    have e1 : (s.size : Int) - 1 - (k : Int) = (j : Int) := by omega
    have e2 : (x.toNat : Int) - 48 = ((x.toNat - 48 : Nat) : Int) := by omega
    obtain ⟨h48, h57⟩ := hdx
    have v1 := IntWalk.u8_in ((x.toNat : Int) - 48) ⟨by omega, by omega⟩
    clear hd hsl hj
    go_enter Tryz.func71, Tryz.ntmps71
    go_wp2
    go_ret
    exact ⟨by rw [HE.out, ← e2]; rfl, rfl⟩
  · have HE : Hid (digAt s.data.toList k = 0) := by
      show _ = _
      unfold digAt
      rw [if_neg (by rw [hsl]; exact h)]
    clear hd hsl
    go_enter Tryz.func71, Tryz.ntmps71
    go_wp2
    go_ret
    exact ⟨by rw [HE.out]; rfl, rfl⟩

def intCells (L : List Nat) : List Value := L.map fun n : Nat => Value.int .i64 (n : Int)
/-- The sums of the products of digits, so far. -/
structure Sums (la lb : List UInt8) (L : List Nat) (T B : Nat) : Prop where
  len : L.length = la.length + lb.length + 1
  sum : wsum L = T
  bound : ∀ n ∈ L, n ≤ B

theorem sums_set {la lb : List UInt8} {L : List Nat} {T B m v : Nat} (h : Sums la lb L T B) (hm : m < L.length) (hv : v ≤ 81) : Sums la lb (L.set m (L[m] + v)) (T + v * 10 ^ m) (B + 81) :=
  ⟨by rw [List.length_set]; exact h.len, by rw [wsum_set L m v hm, h.sum], fun n hn => by
    rcases List.mem_or_eq_of_mem_set hn with h1 | h1
    · exact Nat.le_trans (h.bound n h1) (by omega)
    · rw [h1]; have := h.bound _ (List.getElem_mem hm); omega⟩
theorem int_set (L : List Nat) (m v : Nat) : (intCells L).set m (.int .i64 (v : Int)) = intCells (L.set m v) := by
  unfold intCells; rw [List.map_set]

def MulRel (la lb : List UInt8) (w : World) (n : Nat) (iv : Value) (wr : World) : Prop :=
  ∃ (i : Nat) (L : List Nat), i ≤ la.length ∧ iv = .int .i64 (i : Int) ∧ Sums la lb L (low la i * val lb) (81 * 600 * i) ∧ wr.ownsRow w.heap.size 3 1 (.slice (some ⟨w.heap.size, 0, none⟩) n n) n (intCells L) ∧ Below w.heap.size w wr
def MulIn (la lb : List UInt8) (w : World) (n i x : Nat) (kv : Value) (wr : World) : Prop :=
  ∃ (k : Nat) (L : List Nat), k ≤ lb.length ∧ kv = .int .i64 (k : Int) ∧ Sums la lb L (low la i * val lb + x * 10 ^ i * low lb k) (81 * 600 * i + 81 * k) ∧ wr.ownsRow w.heap.size 3 1 (.slice (some ⟨w.heap.size, 0, none⟩) n n) n (intCells L) ∧ Below w.heap.size w wr
def MulOut (L : List Nat) (w : World) (v cv kv : Value) (wr : World) : Prop :=
  ∃ (k c : Nat) (acc : List UInt8) (g cp : Nat), k ≤ L.length ∧ kv = .int .i64 (k : Int) ∧ cv = .int .i64 (c : Int) ∧ v = .slice (some ⟨g, 0, none⟩) acc.length cp ∧ wr.ownsRow w.heap.size 5 1 v acc.length (byteCells acc) ∧
    Digs acc ∧ acc.length = k ∧ c ≤ 4000000 ∧ val acc + c * 10 ^ k = wsum (L.take k) ∧ Below w.heap.size w wr

set_option maxHeartbeats 1000000 in
set_option maxRecDepth 100000 in
theorem specMul (s t : ByteArray) (w : World) (hs : s.size ≤ 600) (ht : t.size ≤ 600) (ds : Digs s.data.toList) (dt : Digs t.data.toList) :
    Calls Tryz.prog 39 #[.string s, .string t] w (AnsS (natOf (val s.data.toList * val t.data.toList)) w) := by
  obtain ⟨i0, hi, hz0, hz1, hz2⟩ := info_parts Tryz.infoByteN
  obtain ⟨j0, ji, jz0, jz1, jz2⟩ := info_parts Tryz.infoIntN
  have hsl := size_list s
  have htl := size_list t
  have cA := fun (k : Nat) (W : World) (h : k ≤ 10000000) => specDigitS s k W (by omega) h ds
  have cB := fun (k : Nat) (W : World) (h : k ≤ 10000000) => specDigitS t k W (by omega) h dt
  have HD := Lib.hid (And.intro ds dt)
  obtain ⟨n, hn⟩ : ∃ n, s.size + t.size + 1 = n := ⟨_, rfl⟩
  have hni : (s.size : Int) + (t.size : Int) + 1 = (n : Int) := by omega
  clear ds dt
  go_enter Tryz.func39, Tryz.ntmps39
  go_wp2_with (at_make; refine wpList_make_full _ rfl _ _ 34 rfl w.heap.size 3 j0 (.int .i64 0) 1 Tryz.underlying34 ji jz0 jz1 _ _ _ _ n rfl rfl (by first | rfl | omega) (by first | rfl | omega) (by rw [jz2]; omega) (by unfold maxLen; omega) (Nat.le_refl _) ?_; intro w0 hown0 hgrow0)
  have hb0 : Below w.heap.size w w0 := (Below.refl _ _).grown hgrow0 (Nat.le_refl _) (fun k h => by cases h)
  have hown0' : w0.ownsRow w.heap.size 3 1 (.slice (some ⟨w.heap.size, 0, none⟩) n n) n (intCells (List.replicate n 0)) := by
    have e : (madeCells (Value.int IntKind.i64 0).cells (n * 1)).toList = intCells (List.replicate n 0) := by
      rw [Nat.mul_one]
      show (madeCells #[Value.int IntKind.i64 0] n).toList = _
      rw [toList_madeCells_one]
      simp [intCells]
    rw [← e]
    exact hown0
  have hS0 : Sums s.data.toList t.data.toList (List.replicate n 0) (low s.data.toList 0 * val t.data.toList) (81 * 600 * 0) :=
    ⟨by rw [List.length_replicate, hsl, htl, hn], by rw [wsum_zero, low_zero, Nat.zero_mul], fun n hn => by have := List.eq_of_mem_replicate hn; omega⟩
  clear hown0 hgrow0
  go_wp2
  go_loopw [6] (fun iv wr => MulRel s.data.toList t.data.toList w n iv wr) (fun iv _ => s.size - (intOf iv).toNat)
  case atStart => exact ⟨0, _, Nat.zero_le _, rfl, hS0, hown0', hb0⟩
  case round =>
    clear hS0 hown0' hb0
    obtain ⟨i, L, hi1, rfl, hS, hown, hbel⟩ := hrel
    rw [hsl] at hi1
    by_cases hlt : i < s.size
    · obtain ⟨x, hx⟩ : ∃ x, digAt s.data.toList i = x := ⟨_, rfl⟩
      have hx9 := digAt_lt HD.out.1 i
      have cA1 := fun W => cA i W (by omega)
      rw [hx] at cA1 hx9
      have HX := Lib.hid hx
      clear hx cA
      have HS := Lib.hid hS
      clear hS
      go_wp2
      go_loopw [7] (fun kv wr => MulIn s.data.toList t.data.toList w n i x kv wr) (fun kv _ => t.size - (intOf kv).toNat)
      case atStart => exact ⟨0, L, Nat.zero_le _, rfl, by rw [low_zero, Nat.mul_zero, Nat.add_zero]; exact HS.out, hown, hbel⟩
      case round =>
        clear hown hbel HS
        obtain ⟨k, L, hk, rfl, hS, hown, hbel⟩ := hrel
        rw [htl] at hk
        by_cases hkl : k < t.size
        · obtain ⟨y, hy⟩ : ∃ y, digAt t.data.toList k = y := ⟨_, rfl⟩
          have hy9 := digAt_lt HD.out.2 k
          have cB1 := fun W => cB k W (by omega)
          rw [hy] at cB1 hy9
          obtain ⟨m, hm⟩ : ∃ m, i + k = m := ⟨_, rfl⟩
          have hmL : m < L.length := by rw [hS.len, hsl, htl]; omega
          have hmn : m < n := by omega
          obtain ⟨u, hu⟩ : ∃ u, L[m] = u := ⟨_, rfl⟩
          have hub : u ≤ 81 * 600 * i + 81 * k := by rw [← hu]; exact hS.bound _ (List.getElem_mem hmL)
          have hxy : x * y ≤ 81 := Nat.le_trans (Nat.mul_le_mul (show x ≤ 9 by omega) (show y ≤ 9 by omega)) (by omega)
          have HS2 := Lib.hid (sums_set hS hmL hxy)
          rw [hu] at HS2
          have hcell : wr.cell? ⟨w.heap.size, m, none⟩ = some (.int .i64 (u : Int)) := by
            rw [hown.cellAt m (by omega)]
            unfold intCells
            rw [List.getElem?_map, List.getElem?_eq_getElem hmL, hu]; rfl
          have hfro : wr.frozen? ⟨w.heap.size, m, none⟩ = false := hown.frozenAt m
          obtain ⟨XY, hXY⟩ : ∃ XY, x * y = XY := ⟨_, rfl⟩
          have hXYi : (x : Int) * (y : Int) = (XY : Int) := by rw [← hXY]; exact (Int.natCast_mul x y).symm
          obtain ⟨U, hU⟩ : ∃ U, u + XY = U := ⟨_, rfl⟩
          have hUi : (u : Int) + (XY : Int) = (U : Int) := by omega
          rw [hXY] at hxy
          have HL : Hid (low s.data.toList i * val t.data.toList + x * 10 ^ i * low t.data.toList (k + 1) = low s.data.toList i * val t.data.toList + x * 10 ^ i * low t.data.toList k + XY * 10 ^ m) := by
            show _ = _
            rw [low_succ, hy, Nat.mul_add, ← hm, ← hXY, Nat.pow_add]
            have : x * 10 ^ i * (y * 10 ^ k) = x * y * (10 ^ i * 10 ^ k) := by rw [Nat.mul_assoc, Nat.mul_left_comm (10 ^ i) y, ← Nat.mul_assoc]
            omega
          rw [hXY, hU] at HS2
          have hst := (hown.stored m (.int .i64 (U : Int))).1
          rw [int_set] at hst
          have hmi : (i : Int) + (k : Int) = (m : Int) := by omega
          have hm0 : (0 : Int) ≤ (m : Int) := by omega
          have hmni : (m : Int) < (n : Int) := by omega
          have v1 := IntWalk.i64_in (m : Int) ⟨by omega, by omega⟩
          have v2 := IntWalk.i64_in (XY : Int) ⟨by omega, by omega⟩
          have v3 := IntWalk.i64_in (U : Int) ⟨by omega, by omega⟩
          clear hy hu hm hXY hU hown hS cB
          go_wp2
          refine wp_region_still_tail 19 (by kernel_rfl) (by kernel_rfl) ?_
          simp only [List.take_succ_cons, List.take_zero, List.drop_succ_cons, List.drop_zero]
          iterate 12 still_step
          refine wpStill_step (fun K hK => ?_)
          go_simp
          refine ⟨.int .i64 (x : Int), cA1 _, hK _ ?_⟩
          clear hK K
          iterate 2 still_step
          refine wpStill_step (fun K hK => ?_)
          go_simp
          refine ⟨.int .i64 (y : Int), cB1 _, hK _ ?_⟩
          clear hK K
          iterate 3 still_step
          refine wpStill_nil ?_
          change wpList _ _ _ _ _ wr.drew
          have hcell2 : wr.drew.cell? ⟨w.heap.size, m, none⟩ = _ := hcell
          have hfro2 : wr.drew.frozen? ⟨w.heap.size, m, none⟩ = _ := hfro
          have hst2 : (wr.drew.setCell ⟨w.heap.size, m, none⟩ (.int .i64 (U : Int))).ownsRow w.heap.size 3 1 (.slice (some ⟨w.heap.size, 0, none⟩) n n) n _ := hst
          have hb2 := hbel.drew
          clear hcell hfro hst hbel
          generalize wr.drew = w5 at *
          go_wp2
          go_roundw
          case rel => exact ⟨k + 1, _, by rw [htl]; exact hkl, by go_num, by rw [HL.out]; exact HS2.out, hst2, hb2.setCell (Nat.le_refl _) _⟩
          case measure => simp [intOf]; omega
        · have hkt : k = t.size := by omega
          have HS3 : Hid (Sums s.data.toList t.data.toList L (low s.data.toList (i + 1) * val t.data.toList) (81 * 600 * (i + 1))) := by
            refine ⟨hS.len, ?_, fun n hn => Nat.le_trans (hS.bound n hn) (by omega)⟩
            rw [hS.sum, low_all (l := t.data.toList) (by rw [htl]; omega), low_succ, HX.out, Nat.add_mul, Nat.add_comm]
          clear hS
          go_wp2
          go_roundw
          case rel => exact ⟨i + 1, L, by rw [hsl]; exact hlt, by go_num, HS3.out, hown, hbel⟩
          case measure => simp [intOf]; omega
    · have his : i = s.size := by omega
      have hSum : wsum L = val s.data.toList * val t.data.toList := by rw [hS.sum, low_all (by rw [hsl]; omega)]
      have hLn : L.length = n := by rw [hS.len, hsl, htl, hn]
      have hLb : ∀ x ∈ L, x ≤ 29160000 := fun x hx => Nat.le_trans (hS.bound x hx) (by omega)
      have hcells : ∀ j, (h : j < L.length) → wr.cell? ⟨w.heap.size, j, none⟩ = some (.int .i64 (L[j] : Int)) := fun j h => by
        rw [hown.cellAt j (by omega)]
        unfold intCells
        rw [List.getElem?_map, List.getElem?_eq_getElem h]; rfl
      have hgl : w.heap.size < wr.heap.size := World.block_lt_of_cell? wr _ (hcells 0 (by omega))
      have HSum := Lib.hid hSum
      have HLb := Lib.hid hLb
      have HCL := Lib.hid hcells
      clear hSum hLb hcells hS hown cA cB his
      generalize wr = w2 at *
      go_wp2
      go_loopw [8, 9, 10] (fun v cv kv wr => MulOut L w2 v cv kv wr) (fun _ _ kv _ => n - (intOf kv).toNat)
      case atStart => exact ⟨0, 0, [], w2.heap.size, 0, Nat.zero_le _, rfl, rfl, rfl, World.ownsRow_lit w2 #[] 0 (Nat.le_refl _) (Nat.zero_le _) rfl, digs_nil, rfl, by omega, rfl, (Below.refl _ _).alloc (Nat.le_refl _) _⟩
      case round =>
        obtain ⟨k, c, acc, g, cp, hkL, rfl, rfl, rfl, hown, hdg, hal, hc4, hval, hb2⟩ := hrel
        have HV := Lib.hid (And.intro hdg (And.intro hal hval))
        have hacl : acc.length ≤ 1048576 := by omega
        clear hdg hal hval
        by_cases hkn : k < n
        · have hkL2 : k < L.length := by omega
          obtain ⟨u, hu⟩ : ∃ u, L[k] = u := ⟨_, rfl⟩
          have hub : u ≤ 29160000 := by rw [← hu]; exact HLb.out _ (List.getElem_mem hkL2)
          have hcell : wr.cell? ⟨w.heap.size, k, none⟩ = some (.int .i64 (u : Int)) := by
            rw [hb2.cell (p := ⟨w.heap.size, k, none⟩) hgl, HCL.out k hkL2, hu]
          have HTK : Hid (wsum (L.take (k + 1)) = (u + c - c) * 10 ^ k + wsum (L.take k)) := by
            show _ = _
            rw [List.take_succ_eq_append_getElem hkL2, wsum_snoc, hu, List.length_take, show min k L.length = k by omega, show u + c - c = u by omega]; omega
          have HS := Lib.hid (ahead_step (d := u + c) HV.out.1 HV.out.2.1 HV.out.2.2 HTK.out (by omega))
          obtain ⟨b, hb⟩ : ∃ b, dig ((u + c) % 10) = b := ⟨_, rfl⟩
          obtain ⟨c', hc'⟩ : ∃ c', (u + c) / 10 = c' := ⟨_, rfl⟩
          rw [hb, hc'] at HS
          have hbv : (48 : Int) + ((u : Int) + (c : Int)) % 10 = (b.toNat : Int) := by rw [← hb, dig_toNat (by omega)]; omega
          have hcv : ((u : Int) + (c : Int)) / 10 = (c' : Int) := by omega
          have hc1 : c' ≤ 4000000 := by omega
          have hbl := b.toNat_lt
          have hkni : (k : Int) < (n : Int) := by omega
          clear hb hc' hu HTK HV
          have hlit := lit_own wr b hb2.size
          go_wp2_with (at_builtin; go_must (refine wpList_append_own _ rfl _ _ 22 rfl w2.heap.size 5 i0 (.int .u8 0) 1 1 Tryz.underlying22 hi hz0 hz1 hz2 rfl (by decide) _ _ _ rfl hlit ⟨g, 0, none⟩ _ _ (byteCells acc) rfl (by simp [byteCells]) (own_cells (hown.alloc _)) (bytes_oneN acc) (by unfold maxLen; simp; omega) (by simp; omega) (by have := hb2.size; simp; omega) ?_); intro v' w4 hown4 hgrow4 _; have hown5 := own_catN (a := [b]) (b := acc) hown4; obtain ⟨g2, c2, rfl⟩ := own_some (n := acc.length) (by rw [Nat.add_comm] at hown4; exact hown4))
          have hb4 : Below w2.heap.size w2 w4 := (hb2.alloc hb2.size _).grown hgrow4 (by have := hb2.size; simp; omega) (own_block hlit)
          have O5 := Lib.hid hown5
          clear hown4 hown5 hgrow4 hown hlit hb2 hcell
          go_wp2
          go_roundw
          case rel => exact ⟨k + 1, c', b :: acc, g2, c2, hkL2, by go_num, by rw [hcv], rfl, O5.out, HS.out.1, HS.out.2.1, hc1, HS.out.2.2, hb4⟩
          case measure => simp [intOf]; omega
        · have hkn2 : k = L.length := by omega
          have HE : Hid (trim acc = natOf (val s.data.toList * val t.data.toList)) := by
            show _ = _
            rw [trim_eq HV.out.1]
            congr 1
            have h1 := HV.out.2.2
            rw [hkn2, List.take_length, HSum.out] at h1
            have h2 := val_lt HD.out.1
            have h3 := val_lt HD.out.2
            have h4 : val s.data.toList * val t.data.toList < 10 ^ L.length := by
              rw [hLn, ← hn, ← hsl, ← htl]
              have h5 : val s.data.toList * val t.data.toList ≤ 10 ^ s.data.toList.length * 10 ^ t.data.toList.length := Nat.mul_le_mul (Nat.le_of_lt h2) (Nat.le_of_lt h3)
              rw [← Nat.pow_add] at h5
              have h6 : 10 ^ (s.data.toList.length + t.data.toList.length) < 10 ^ (s.data.toList.length + t.data.toList.length + 1) := Nat.pow_lt_pow_succ (by omega)
              omega
            have h7 : c = 0 := by
              rcases Nat.eq_zero_or_pos c with h | h
              · exact h
              · have : 1 * 10 ^ L.length ≤ c * 10 ^ L.length := Nat.mul_le_mul_right _ h
                omega
            subst h7
            omega
          have hcvt := conv_own (P := Tryz.prog) (dst := 9) Tryz.underlying22 Tryz.underlying5 Tryz.underlying9 hown
          have cT := specTrim (⟨acc.toArray⟩ : ByteArray) wr (show acc.length ≤ _ by omega)
          have D3 : Below w.heap.size w wr := hbel.trans (hb2.mono hbel.size)
          clear HV HCL HLb HSum hb2 hbel
          go_wp2_with fail
          refine cT.mono ?_
          rintro e w5 ⟨rfl, B5⟩
          have D5 := D3.trans (B5.mono D3.size)
          clear B5 D3 cT hcvt hown
          go_wp2
          go_ret
          exact ⟨by rw [← HE.out]; rfl, D5⟩


end Go.Proofs.YthijeckcjfnbcaaGreatDoor

/- spec.l02Round. Conditions: a natural, n at most 600. -/
namespace Go.Proofs.YthijeckcjfnbcaaGreatDoor
set_option linter.unusedVariables false
open Go.RowKit
open Go.Lib (byteCells)

set_option maxHeartbeats 400000 in
set_option maxRecDepth 100000 in
theorem specTrimS (s : ByteArray) (w : World) (hs : s.size ≤ 1048576) : Calls Tryz.prog 69 #[.string s] w fun e w' => e = .returned (.string ⟨(trim s.data.toList).toArray⟩) ∧ w' = w := by
  go_enter Tryz.func69, Tryz.ntmps69
  go_wp2
  go_loopw [0] (fun v wr => ∃ t : ByteArray, v = .string t ∧ t.size ≤ s.size ∧ trim t.data.toList = trim s.data.toList ∧ wr = w) (fun v _ => strSize v)
  case atStart => exact ⟨s, rfl, Nat.le_refl _, rfl, rfl⟩
  case round =>
    obtain ⟨t, rfl, hts, htr, rfl⟩ := hrel
    have HT := Lib.hid htr
    have hsl := Lib.hid (size_list t)
    clear htr
    by_cases h1 : 1 < t.size
    · obtain ⟨x, hx⟩ : ∃ x, t[0] = x := ⟨_, rfl⟩
      by_cases hx48 : x = 48
      · subst hx48
        have HE : Hid (trim (t.extract 1 t.size).data.toList = trim t.data.toList) := trim_step t h1 hx
        have HS : Hid ((t.extract 1 t.size).size = t.size - 1) := by show _ = _; simp
        go_wp2
        go_roundw
        case rel => exact ⟨_, rfl, by rw [HS.out]; omega, HE.out.trans HT.out, by first | rfl | trivial⟩
        case measure => show (t.extract 1 t.size).size < t.size; rw [HS.out]; omega
      · have e1 : ((x.toNat : Int) == 48) = false := beq_eq_false_iff_ne.2 (fun e => hx48 (UInt8.toNat_inj.1 (by show x.toNat = 48; omega)))
        have HE : Hid (trim t.data.toList = t.data.toList) := trim_stop t h1 (by rw [hx]; exact hx48)
        have hte : t.toList.isEmpty = false := list_full t (by omega)
        go_wp2
        go_ret
        exact ⟨by rw [← HT.out, HE.out]; rfl, rfl⟩
    · by_cases h0 : t.size = 0
      · obtain rfl : t = ⟨#[]⟩ := ByteArray.ext (Array.eq_empty_of_size_eq_zero h0)
        go_wp2
        go_ret
        exact ⟨by rw [← HT.out]; rfl, rfl⟩
      · have hte : t.toList.isEmpty = false := list_full t h0
        have HE : Hid (trim t.data.toList = t.data.toList) := trim_short t (by omega)
        go_wp2
        go_ret
        exact ⟨by rw [← HT.out, HE.out]; rfl, rfl⟩

theorem digAt_zero (q : Nat) : digAt (natOf q) 0 = q % 10 := by
  have h1 : low (natOf q) 1 = digAt (natOf q) 0 := by have := low_succ (natOf q) 0; simpa [low_zero] using this
  rw [← h1]
  unfold low
  by_cases h : q < 10
  · rw [natOf_small h]; simp [val, dv_dig h]; omega
  · rw [natOf_big h]
    rw [show (natOf (q / 10) ++ [dig (q % 10)]).length - 1 = (natOf (q / 10)).length by simp]
    rw [List.drop_append_of_le_length (Nat.le_refl _), List.drop_length]
    simp [val, dv_dig (show q % 10 < 10 by omega)]

/-- The tail against half a step, as the strings are held against each other. -/
theorem half_facts {TL : List UInt8} {r n : Nat} (hd : Digs TL) (hl : TL.length = n + 1) (hv : val TL = r) :
    ((!(Op.bytesLess TL (53 :: List.replicate n 48) || (TL == (53 :: List.replicate n 48)))) = true ↔ 10 ^ (n + 1) < 2 * r) ∧ ((TL == (53 :: List.replicate n 48)) = true ↔ 2 * r = 10 ^ (n + 1)) := by
  obtain ⟨h1, h2, h3⟩ := half_val n
  have e : 10 ^ (n + 1) = 10 * 10 ^ n := by rw [Nat.pow_succ, Nat.mul_comm]
  have he : (TL == (53 :: List.replicate n 48)) = true ↔ 2 * r = 10 ^ (n + 1) := by
    rw [beq_iff_eq]
    constructor
    · intro h
      rw [h, h1] at hv
      omega
    · intro h
      exact same_len_eq hd h2 (by rw [h3, hl]) (by rw [h1, hv]; omega)
  have hlt : Op.bytesLess TL (53 :: List.replicate n 48) = true ↔ 2 * r < 10 ^ (n + 1) := by
    rw [less_iff, ← same_len_lt hd h2 (by rw [h3, hl]), h1, hv, e]; omega
  refine ⟨?_, he⟩
  rw [Bool.not_eq_true', Bool.or_eq_false_iff, ← Bool.not_eq_true, ← Bool.not_eq_true, hlt, he]
  omega

theorem binOp_gtrN (t : TypeId) (a b : ByteArray) : binOp .gtr t (.string a) (.string b) = pure (.bool (!(Op.bytesLess a.toList b.toList || (a.toList == b.toList)))) := by simp [binOp, Op.stringOp]

set_option maxHeartbeats 400000 in
set_option maxRecDepth 100000 in
theorem specRound (s : ByteArray) (n : Nat) (w : World) (hs : NatS s) (hn : n ≤ 600) : Calls Tryz.prog 70 #[.string s, .int .i64 n] w (AnsS (natOf (rnd (nv s) n)) w) := by
  rcases n with _ | p
  · have cT := specTrim s w (by have := hs.2.2; omega)
    rw [trim_eq hs.2.1] at cT
    have HE : Hid (rnd (nv s) 0 = val s.data.toList) := by show _ = _; unfold rnd; rw [if_neg (by simp; omega)]; simp [nv]
    unfold AnsS at cT
    clear hs
    go_enter Tryz.func70, Tryz.ntmps70
    go_wp2_with fail
    refine cT.mono ?_
    rintro e w2 ⟨rfl, B2⟩
    clear cT
    go_wp2
    go_ret
    exact ⟨by rw [HE.out]; rfl, B2⟩
  · obtain ⟨n, hnp⟩ : ∃ n, p + 1 = n := ⟨_, rfl⟩
    have cZ := fun W => specZeros n W (by omega)
    have cZ2 := fun W => specZeros p W (by omega)
    unfold AnsS at cZ cZ2
    have hs6 := hs.2.2
    have hni : ((n : Int) == 0) = false := beq_eq_false_iff_ne.2 (by omega)
    have hpi : (n : Int) - 1 = (p : Int) := by omega
    have hzl : (⟨(List.replicate n (48 : UInt8)).toArray⟩ : ByteArray).size = n := by show (List.replicate n (48 : UInt8)).length = n; simp
    have hul : ((⟨(List.replicate n (48 : UInt8)).toArray⟩ : ByteArray) ++ s).data.toList = List.replicate n 48 ++ s.data.toList := by rw [ByteArray.data_append, Array.toList_append]
    have huz : ((⟨(List.replicate n (48 : UInt8)).toArray⟩ : ByteArray) ++ s).size = n + s.size := by rw [ByteArray.size_append, hzl]
    have hP := parts_of hs.2.1 n
    simp only [← hul, size_list] at hP
    obtain ⟨z, hz⟩ : ∃ z : ByteArray, ⟨(List.replicate n (48 : UInt8)).toArray⟩ = z := ⟨_, rfl⟩
    rw [hz] at cZ hzl hul huz hP
    obtain ⟨u, hu⟩ : ∃ u, z ++ s = u := ⟨_, rfl⟩
    rw [hu] at hul huz hP
    obtain ⟨p1, p2, p3, p4, p5⟩ := hP
    have e0 : (u.extract 0 s.size).data.toList = u.data.toList.take s.size := by
      rw [ByteArray.data_extract, Array.toList_extract]
      simp [List.extract_eq_take_drop]
    have e1 : (u.extract s.size u.size).data.toList = u.data.toList.drop s.size := Lib.ext_list u s.size
    obtain ⟨hd, hhd⟩ : ∃ hd : ByteArray, ⟨(natOf (nv s / 10 ^ n)).toArray⟩ = hd := ⟨_, rfl⟩
    have cT : ∀ W, Calls Tryz.prog 69 #[.string (u.extract 0 s.size)] W fun e w' => e = .returned (.string hd) ∧ w' = W := fun W => by
      have := specTrimS (u.extract 0 s.size) W (by simp; omega)
      rw [e0, trim_eq p1, p4] at this
      rw [← hhd]; exact this
    obtain ⟨tl, htl⟩ : ∃ tl, u.extract s.size u.size = tl := ⟨_, rfl⟩
    rw [← e1, htl] at p2 p3 p5
    obtain ⟨zp, hzp⟩ : ∃ zp : ByteArray, ⟨(List.replicate p (48 : UInt8)).toArray⟩ = zp := ⟨_, rfl⟩
    rw [hzp] at cZ2
    have hzps : zp.size = p := by rw [← hzp]; show (List.replicate p (48 : UInt8)).length = p; simp
    obtain ⟨hf, hhf⟩ : ∃ hf : ByteArray, (⟨#[53]⟩ : ByteArray) ++ zp = hf := ⟨_, rfl⟩
    have hfl : hf.toList = 53 :: List.replicate p 48 := by rw [ByteArray.toList_eq, ← hhf, ByteArray.data_append, Array.toList_append, ← hzp]; rfl
    have p5' : val tl.data.toList = nv s % 10 ^ n := p5
    have hH := half_facts p2 (by rw [p3, hnp]) p5'
    rw [hnp, ← ByteArray.toList_eq, ← hfl] at hH
    have hdl : hd.data.toList = natOf (nv s / 10 ^ n) := by rw [← hhd]
    have hq : nv s / 10 ^ n ≤ nv s := Nat.div_le_self _ _
    have hdz : hd.size ≤ 600 := by
      rw [← size_list, hdl]
      have h1 := natOf_len_mono hq
      rw [← hs.eq, size_list] at h1
      omega
    have cD : ∀ W, Calls Tryz.prog 71 #[.string hd, .int .i64 0] W fun e w' => e = .returned (.int .i64 ((nv s / 10 ^ n % 10 : Nat) : Int)) ∧ w' = W := fun W => by
      have := specDigitS hd 0 W (by omega) (by omega) (by rw [hdl]; exact natOf_digs _)
      rw [hdl, digAt_zero] at this
      exact this
    have cA : ∀ W, Calls Tryz.prog 66 #[.string hd, .string ⟨#[49]⟩] W (AnsS (natOf (nv s / 10 ^ n + 1)) W) := fun W => by
      have := specAdd hd ⟨#[49]⟩ W (by omega) (by decide) (by rw [hdl]; exact natOf_digs _) (digs_one ⟨by decide, by decide⟩)
      rw [hdl, val_natOf] at this
      exact this
    unfold AnsS at cA
    have HR : Hid (rnd (nv s) (p + 1) = if 10 ^ n < 2 * (nv s % 10 ^ n) ∨ 2 * (nv s % 10 ^ n) = 10 ^ n ∧ nv s / 10 ^ n % 2 = 1 then nv s / 10 ^ n + 1 else nv s / 10 ^ n) := by show _ = _; rw [hnp]; rfl
    have ecast : ((p + 1 : Nat) : Int) = (n : Int) := by omega
    have HQ := Lib.hid hhd
    have HH := Lib.hid hH
    clear hnp hH hhd hdl p1 p2 p3 p4 p5 p5' e0 e1 hul hfl hz hq hs
    have hsub : (u.size : Int) - (n : Int) = (s.size : Int) := by omega
    have hus1 : (s.size : Int) ≤ (u.size : Int) := by omega
    have hus4 : (0 : Int) ≤ (s.size : Int) := by omega
    have v1 := IntWalk.i64_in ((u.size : Int) - (n : Int)) ⟨by omega, by omega⟩
    have v2 := IntWalk.i64_in (s.size : Int) ⟨by omega, by omega⟩
    have hu1 : u.size ≤ 1200 := by omega
    clear huz
    generalize nv s / 10 ^ n = q at *
    generalize nv s % 10 ^ n = r at *
    generalize rnd (nv s) (p + 1) = R at *
    rw [ecast]
    clear ecast
    go_enter Tryz.func70, Tryz.ntmps70
    go_wp2_with fail
    refine (cZ _).mono ?_
    rintro e w2 ⟨rfl, B2⟩
    clear cZ
    go_wp2_with fail
    refine wp_region_still_lit (by kernel_rfl) (by kernel_rfl) ?_
    iterate 6 still_step
    refine wpStill_step (fun K hK => ?_)
    go_simp
    refine ⟨.string hd, cT _, hK _ ?_⟩
    clear hK K
    iterate 8 still_step
    refine wpStill_nil ?_
    change Exit.then _ _ _ _ w2.drew
    have D2 := B2.drew
    clear B2 cT
    generalize w2.drew = w3 at *
    go_wp2_with fail
    refine (cZ2 _).mono ?_
    rintro e w4 ⟨rfl, B4⟩
    have D4 := D2.trans (B4.mono D2.size)
    clear cZ2 B4 D2
    obtain ⟨hG, hE⟩ := HH.out
    clear HH
    by_cases h1 : 10 ^ n < 2 * r
    · have g1 : binOp .gtr 9 (.string tl) (.string hf) = pure (.bool true) := by rw [binOp_gtrN, hG.2 h1]
      have HF : Hid (R = q + 1) := by show _ = _; rw [HR.out, if_pos (.inl h1)]
      clear hG hE h1 HR cD
      go_wp2_with fail
      refine (cA _).mono ?_
      rintro e w5 ⟨rfl, B5⟩
      have D5 := D4.trans (B5.mono D4.size)
      clear cA B5 D4
      go_wp2
      go_ret
      exact ⟨by rw [HF.out]; rfl, D5⟩
    · have g1 : binOp .gtr 9 (.string tl) (.string hf) = pure (.bool false) := by rw [binOp_gtrN, show (!(Op.bytesLess tl.toList hf.toList || (tl.toList == hf.toList))) = false by rw [← Bool.not_eq_true]; exact fun h => h1 (hG.1 h)]
      by_cases h2 : 2 * r = 10 ^ n
      · have g2 := hE.2 h2
        by_cases h3 : q % 2 = 1
        · have HF : Hid (R = q + 1) := by show _ = _; rw [HR.out, if_pos (.inr ⟨h2, h3⟩)]
          have g3 : ((q % 10 : Nat) : Int) % 2 = 1 := by omega
          clear hG hE h1 h2 h3 HR
          generalize q % 10 = d at *
          go_wp2_with fail
          refine (cD _).mono ?_
          rintro e w5 ⟨rfl, rfl⟩
          go_wp2_with fail
          refine (cA _).mono ?_
          rintro e w6 ⟨rfl, B5⟩
          have D5 := D4.trans (B5.mono D4.size)
          clear cA B5 D4
          go_wp2
          go_ret
          exact ⟨by rw [HF.out]; rfl, D5⟩
        · have HF : Hid (R = q) := by show _ = _; rw [HR.out, if_neg (fun h => h.elim h1 (fun h => h3 h.2))]
          have g3 : (((q % 10 : Nat) : Int) % 2 == 1) = false := beq_eq_false_iff_ne.2 (by omega)
          clear hG hE h1 h2 h3 HR cA
          generalize q % 10 = d at *
          go_wp2_with fail
          refine (cD _).mono ?_
          rintro e w5 ⟨rfl, rfl⟩
          go_wp2
          go_ret
          exact ⟨by rw [HF.out, ← HQ.out]; rfl, D4⟩
      · have g2 : (tl.toList == hf.toList) = false := by rw [← Bool.not_eq_true]; exact fun h => h2 (hE.1 h)
        have HF : Hid (R = q) := by show _ = _; rw [HR.out, if_neg (fun h => h.elim h1 (fun h => h2 h.1))]
        clear hG hE h1 h2 HR cA cD
        go_wp2
        go_ret
        exact ⟨by rw [HF.out, ← HQ.out]; rfl, D4⟩


end Go.Proofs.YthijeckcjfnbcaaGreatDoor

/- spec.l02Div and spec.l02Round at rows of digits, noughts ahead let in. Conditions: digits; at most 600 bytes (l02Div), 2000 (l02Round). Prepared for chapter 3. -/
namespace Go.Proofs.YthijeckcjfnbcaaGreatDoor
set_option linter.unusedVariables false
open Go.RowKit
open Go.Lib (byteCells)

theorem natOf_val_len {l : List UInt8} (h : Digs l) : (natOf (val l)).length ≤ l.length + 1 := by
  rw [← trim_eq h]
  by_cases h0 : l = []
  · subst h0; decide
  · exact Nat.le_succ_of_le (trim_len l h0)


set_option maxHeartbeats 400000 in
set_option maxRecDepth 100000 in
theorem specRoundG (s : ByteArray) (n : Nat) (w : World) (hs6 : s.size ≤ 2000) (ds : Digs s.data.toList) (hn : n ≤ 2000) : Calls Tryz.prog 70 #[.string s, .int .i64 n] w (AnsS (natOf (rnd (nv s) n)) w) := by
  rcases n with _ | p
  · have cT := specTrim s w (by omega)
    rw [trim_eq ds] at cT
    have HE : Hid (rnd (nv s) 0 = val s.data.toList) := by show _ = _; unfold rnd; rw [if_neg (by simp; omega)]; simp [nv]
    unfold AnsS at cT
    clear ds
    go_enter Tryz.func70, Tryz.ntmps70
    go_wp2_with fail
    refine cT.mono ?_
    rintro e w2 ⟨rfl, B2⟩
    clear cT
    go_wp2
    go_ret
    exact ⟨by rw [HE.out]; rfl, B2⟩
  · obtain ⟨n, hnp⟩ : ∃ n, p + 1 = n := ⟨_, rfl⟩
    have cZ := fun W => specZeros n W (by omega)
    have cZ2 := fun W => specZeros p W (by omega)
    unfold AnsS at cZ cZ2
    have hni : ((n : Int) == 0) = false := beq_eq_false_iff_ne.2 (by omega)
    have hpi : (n : Int) - 1 = (p : Int) := by omega
    have hzl : (⟨(List.replicate n (48 : UInt8)).toArray⟩ : ByteArray).size = n := by show (List.replicate n (48 : UInt8)).length = n; simp
    have hul : ((⟨(List.replicate n (48 : UInt8)).toArray⟩ : ByteArray) ++ s).data.toList = List.replicate n 48 ++ s.data.toList := by rw [ByteArray.data_append, Array.toList_append]
    have huz : ((⟨(List.replicate n (48 : UInt8)).toArray⟩ : ByteArray) ++ s).size = n + s.size := by rw [ByteArray.size_append, hzl]
    have hP := parts_of ds n
    simp only [← hul, size_list] at hP
    obtain ⟨z, hz⟩ : ∃ z : ByteArray, ⟨(List.replicate n (48 : UInt8)).toArray⟩ = z := ⟨_, rfl⟩
    rw [hz] at cZ hzl hul huz hP
    obtain ⟨u, hu⟩ : ∃ u, z ++ s = u := ⟨_, rfl⟩
    rw [hu] at hul huz hP
    obtain ⟨p1, p2, p3, p4, p5⟩ := hP
    have e0 : (u.extract 0 s.size).data.toList = u.data.toList.take s.size := by
      rw [ByteArray.data_extract, Array.toList_extract]
      simp [List.extract_eq_take_drop]
    have e1 : (u.extract s.size u.size).data.toList = u.data.toList.drop s.size := Lib.ext_list u s.size
    obtain ⟨hd, hhd⟩ : ∃ hd : ByteArray, ⟨(natOf (nv s / 10 ^ n)).toArray⟩ = hd := ⟨_, rfl⟩
    have cT : ∀ W, Calls Tryz.prog 69 #[.string (u.extract 0 s.size)] W fun e w' => e = .returned (.string hd) ∧ w' = W := fun W => by
      have := specTrimS (u.extract 0 s.size) W (by simp; omega)
      rw [e0, trim_eq p1, p4] at this
      rw [← hhd]; exact this
    obtain ⟨tl, htl⟩ : ∃ tl, u.extract s.size u.size = tl := ⟨_, rfl⟩
    rw [← e1, htl] at p2 p3 p5
    obtain ⟨zp, hzp⟩ : ∃ zp : ByteArray, ⟨(List.replicate p (48 : UInt8)).toArray⟩ = zp := ⟨_, rfl⟩
    rw [hzp] at cZ2
    have hzps : zp.size = p := by rw [← hzp]; show (List.replicate p (48 : UInt8)).length = p; simp
    obtain ⟨hf, hhf⟩ : ∃ hf : ByteArray, (⟨#[53]⟩ : ByteArray) ++ zp = hf := ⟨_, rfl⟩
    have hfl : hf.toList = 53 :: List.replicate p 48 := by rw [ByteArray.toList_eq, ← hhf, ByteArray.data_append, Array.toList_append, ← hzp]; rfl
    have p5' : val tl.data.toList = nv s % 10 ^ n := p5
    have hH := half_facts p2 (by rw [p3, hnp]) p5'
    rw [hnp, ← ByteArray.toList_eq, ← hfl] at hH
    have hdl : hd.data.toList = natOf (nv s / 10 ^ n) := by rw [← hhd]
    have hq : nv s / 10 ^ n ≤ nv s := Nat.div_le_self _ _
    have hdz : hd.size ≤ 2001 := by
      rw [← size_list, hdl]
      have h1 := natOf_len_mono hq
      have h2 := natOf_val_len ds
      rw [size_list] at h2
      change (natOf (nv s / 10 ^ n)).length ≤ (natOf (val s.data.toList)).length at h1
      omega
    have cD : ∀ W, Calls Tryz.prog 71 #[.string hd, .int .i64 0] W fun e w' => e = .returned (.int .i64 ((nv s / 10 ^ n % 10 : Nat) : Int)) ∧ w' = W := fun W => by
      have := specDigitS hd 0 W (by omega) (by omega) (by rw [hdl]; exact natOf_digs _)
      rw [hdl, digAt_zero] at this
      exact this
    have cA : ∀ W, Calls Tryz.prog 66 #[.string hd, .string ⟨#[49]⟩] W (AnsS (natOf (nv s / 10 ^ n + 1)) W) := fun W => by
      have := specAdd hd ⟨#[49]⟩ W (by omega) (by decide) (by rw [hdl]; exact natOf_digs _) (digs_one ⟨by decide, by decide⟩)
      rw [hdl, val_natOf] at this
      exact this
    unfold AnsS at cA
    have HR : Hid (rnd (nv s) (p + 1) = if 10 ^ n < 2 * (nv s % 10 ^ n) ∨ 2 * (nv s % 10 ^ n) = 10 ^ n ∧ nv s / 10 ^ n % 2 = 1 then nv s / 10 ^ n + 1 else nv s / 10 ^ n) := by show _ = _; rw [hnp]; rfl
    have ecast : ((p + 1 : Nat) : Int) = (n : Int) := by omega
    have HQ := Lib.hid hhd
    have HH := Lib.hid hH
    clear hnp hH hhd hdl p1 p2 p3 p4 p5 p5' e0 e1 hul hfl hz hq ds
    have hsub : (u.size : Int) - (n : Int) = (s.size : Int) := by omega
    have hus1 : (s.size : Int) ≤ (u.size : Int) := by omega
    have hus4 : (0 : Int) ≤ (s.size : Int) := by omega
    have v1 := IntWalk.i64_in ((u.size : Int) - (n : Int)) ⟨by omega, by omega⟩
    have v2 := IntWalk.i64_in (s.size : Int) ⟨by omega, by omega⟩
    have hu1 : u.size ≤ 4000 := by omega
    clear huz
    generalize nv s / 10 ^ n = q at *
    generalize nv s % 10 ^ n = r at *
    generalize rnd (nv s) (p + 1) = R at *
    rw [ecast]
    clear ecast
    go_enter Tryz.func70, Tryz.ntmps70
    go_wp2_with fail
    refine (cZ _).mono ?_
    rintro e w2 ⟨rfl, B2⟩
    clear cZ
    go_wp2_with fail
    refine wp_region_still_lit (by kernel_rfl) (by kernel_rfl) ?_
    iterate 6 still_step
    refine wpStill_step (fun K hK => ?_)
    go_simp
    refine ⟨.string hd, cT _, hK _ ?_⟩
    clear hK K
    iterate 8 still_step
    refine wpStill_nil ?_
    change Exit.then _ _ _ _ w2.drew
    have D2 := B2.drew
    clear B2 cT
    generalize w2.drew = w3 at *
    go_wp2_with fail
    refine (cZ2 _).mono ?_
    rintro e w4 ⟨rfl, B4⟩
    have D4 := D2.trans (B4.mono D2.size)
    clear cZ2 B4 D2
    obtain ⟨hG, hE⟩ := HH.out
    clear HH
    by_cases h1 : 10 ^ n < 2 * r
    · have g1 : binOp .gtr 9 (.string tl) (.string hf) = pure (.bool true) := by rw [binOp_gtrN, hG.2 h1]
      have HF : Hid (R = q + 1) := by show _ = _; rw [HR.out, if_pos (.inl h1)]
      clear hG hE h1 HR cD
      go_wp2_with fail
      refine (cA _).mono ?_
      rintro e w5 ⟨rfl, B5⟩
      have D5 := D4.trans (B5.mono D4.size)
      clear cA B5 D4
      go_wp2
      go_ret
      exact ⟨by rw [HF.out]; rfl, D5⟩
    · have g1 : binOp .gtr 9 (.string tl) (.string hf) = pure (.bool false) := by rw [binOp_gtrN, show (!(Op.bytesLess tl.toList hf.toList || (tl.toList == hf.toList))) = false by rw [← Bool.not_eq_true]; exact fun h => h1 (hG.1 h)]
      by_cases h2 : 2 * r = 10 ^ n
      · have g2 := hE.2 h2
        by_cases h3 : q % 2 = 1
        · have HF : Hid (R = q + 1) := by show _ = _; rw [HR.out, if_pos (.inr ⟨h2, h3⟩)]
          have g3 : ((q % 10 : Nat) : Int) % 2 = 1 := by omega
          clear hG hE h1 h2 h3 HR
          generalize q % 10 = d at *
          go_wp2_with fail
          refine (cD _).mono ?_
          rintro e w5 ⟨rfl, rfl⟩
          go_wp2_with fail
          refine (cA _).mono ?_
          rintro e w6 ⟨rfl, B5⟩
          have D5 := D4.trans (B5.mono D4.size)
          clear cA B5 D4
          go_wp2
          go_ret
          exact ⟨by rw [HF.out]; rfl, D5⟩
        · have HF : Hid (R = q) := by show _ = _; rw [HR.out, if_neg (fun h => h.elim h1 (fun h => h3 h.2))]
          have g3 : (((q % 10 : Nat) : Int) % 2 == 1) = false := beq_eq_false_iff_ne.2 (by omega)
          clear hG hE h1 h2 h3 HR cA
          generalize q % 10 = d at *
          go_wp2_with fail
          refine (cD _).mono ?_
          rintro e w5 ⟨rfl, rfl⟩
          go_wp2
          go_ret
          exact ⟨by rw [HF.out, ← HQ.out]; rfl, D4⟩
      · have g2 : (tl.toList == hf.toList) = false := by rw [← Bool.not_eq_true]; exact fun h => h2 (hE.1 h)
        have HF : Hid (R = q) := by show _ = _; rw [HR.out, if_neg (fun h => h.elim h1 (fun h => h2 h.1))]
        clear hG hE h1 h2 HR cA cD
        go_wp2
        go_ret
        exact ⟨by rw [HF.out, ← HQ.out]; rfl, D4⟩


end Go.Proofs.YthijeckcjfnbcaaGreatDoor
