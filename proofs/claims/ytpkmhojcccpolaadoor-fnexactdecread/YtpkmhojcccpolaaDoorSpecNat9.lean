/- spec.l02Mul, spec.NatMul. Conditions: naturals; at most 1048576 bytes. -/
import Derived.Test.YtpkmhojcccpolaaDoorSpecNat8
import Derived.StillTailTactics
namespace Go.Proofs.YtpkmhojcccpolaaDoor
set_option linter.unusedVariables false
open Go.RowKit
open Go.Lib (byteCells)

def mulOf (s t : ByteArray) : List UInt8 × Bool := if NatS s ∧ NatS t then fits (nv s * nv t) else ([], false)

theorem Tryd.infoIntN : (Tryd.prog.info? 3).map (fun i => (i.zero, i.size, i.bytes)) = some (some (.int .i64 0), 1, 8) := by kernel_rfl

set_option maxHeartbeats 2000000 in
set_option maxRecDepth 100000 in
theorem specDigitS (s : ByteArray) (k : Nat) (w : World) (hs : s.size ≤ 1048576) (hk : k ≤ 10000000) (hd : Digs s.data.toList) : Calls Tryd.prog 89 #[.string s, .int .i64 k] w fun e w' => e = .returned (.int .i64 (digAt s.data.toList k : Nat)) ∧ w' = w := by
  have hsl := size_list s
  by_cases h : k < s.size
  · obtain ⟨j, hj⟩ : ∃ j : Nat, s.size - 1 - k = j := ⟨_, rfl⟩
    have hjs : j < s.size := by omega
    obtain ⟨x, hx⟩ : ∃ x, s[j] = x := ⟨_, rfl⟩
    have hdx : IsD x := hd x (by rw [← hx]; exact List.getElem_mem (l := s.data.toList) (by rw [hsl]; exact hjs))
    have HE : Hid (digAt s.data.toList k = x.toNat - 48) := by
      show _ = _
      unfold digAt
      rw [if_pos (by rw [hsl]; exact h), hsl, hj]
      simp only [List.getD, List.getElem?_eq_getElem (show j < s.data.toList.length by rw [hsl]; exact hjs), Option.getD_some]
      rw [at_list s j hjs, hx]; rfl
    unfold IsD at hdx
    have e1 : (s.size : Int) - 1 - (k : Int) = (j : Int) := by omega
    have e2 : (x.toNat : Int) - 48 = ((x.toNat - 48 : Nat) : Int) := by omega
    obtain ⟨h48, h57⟩ := hdx
    have v1 := IntWalk.u8_in ((x.toNat : Int) - 48) ⟨by omega, by omega⟩
    clear hd hsl hj
    go_enter Tryd.func89, Tryd.ntmps89
    go_wp2
    go_ret
    exact ⟨by rw [HE.out, ← e2]; rfl, rfl⟩
  · have HE : Hid (digAt s.data.toList k = 0) := by
      show _ = _
      unfold digAt
      rw [if_neg (by rw [hsl]; exact h)]
    clear hd hsl
    go_enter Tryd.func89, Tryd.ntmps89
    go_wp2
    go_ret
    exact ⟨by rw [HE.out]; rfl, rfl⟩

def intCells (L : List Nat) : List Value := L.map fun n : Nat => Value.int .i64 (n : Int)
/-- The sums of the products of digits, so far. -/
structure Sums (la lb : List UInt8) (L : List Nat) (T B : Nat) : Prop where
  len : L.length = la.length + lb.length + 1
  sum : wsum L = T
  bound : ∀ n ∈ L, n ≤ B

theorem sums_set {la lb : List UInt8} {L : List Nat} {T B m v : Nat} (h : Sums la lb L T B) (hm : m < L.length) (hv : v ≤ 81) : Sums la lb (L.set m (L[m] + v)) (T + v * 10 ^ m) (B + 81) :=
  ⟨by rw [List.length_set]; exact h.len, by rw [wsum_set L m v hm, h.sum], fun n hn => by
    rcases List.mem_or_eq_of_mem_set hn with h1 | h1
    · exact Nat.le_trans (h.bound n h1) (by omega)
    · rw [h1]; have := h.bound _ (List.getElem_mem hm); omega⟩
theorem int_set (L : List Nat) (m v : Nat) : (intCells L).set m (.int .i64 (v : Int)) = intCells (L.set m v) := by
  unfold intCells; rw [List.map_set]

def MulRel (la lb : List UInt8) (w : World) (n : Nat) (iv : Value) (wr : World) : Prop :=
  ∃ (i : Nat) (L : List Nat), i ≤ la.length ∧ iv = .int .i64 (i : Int) ∧ Sums la lb L (low la i * val lb) (81 * 600 * i) ∧ wr.ownsRow w.heap.size 3 1 (.slice (some ⟨w.heap.size, 0, none⟩) n n) n (intCells L) ∧ Below w.heap.size w wr
def MulIn (la lb : List UInt8) (w : World) (n i x : Nat) (kv : Value) (wr : World) : Prop :=
  ∃ (k : Nat) (L : List Nat), k ≤ lb.length ∧ kv = .int .i64 (k : Int) ∧ Sums la lb L (low la i * val lb + x * 10 ^ i * low lb k) (81 * 600 * i + 81 * k) ∧ wr.ownsRow w.heap.size 3 1 (.slice (some ⟨w.heap.size, 0, none⟩) n n) n (intCells L) ∧ Below w.heap.size w wr
def MulOut (L : List Nat) (w : World) (v cv kv : Value) (wr : World) : Prop :=
  ∃ (k c : Nat) (acc : List UInt8) (g cp : Nat), k ≤ L.length ∧ kv = .int .i64 (k : Int) ∧ cv = .int .i64 (c : Int) ∧ v = .slice (some ⟨g, 0, none⟩) acc.length cp ∧ wr.ownsRow w.heap.size 5 1 v acc.length (byteCells acc) ∧
    Digs acc ∧ acc.length = k ∧ c ≤ 4000000 ∧ val acc + c * 10 ^ k = wsum (L.take k) ∧ Below w.heap.size w wr

set_option maxHeartbeats 1000000 in
set_option maxRecDepth 100000 in
theorem specMul (s t : ByteArray) (w : World) (hs : s.size ≤ 600) (ht : t.size ≤ 600) (ds : Digs s.data.toList) (dt : Digs t.data.toList) :
    Calls Tryd.prog 60 #[.string s, .string t] w (AnsS (natOf (val s.data.toList * val t.data.toList)) w) := by
  obtain ⟨i0, hi, hz0, hz1, hz2⟩ := info_parts Tryd.infoByteN
  obtain ⟨j0, ji, jz0, jz1, jz2⟩ := info_parts Tryd.infoIntN
  have hsl := size_list s
  have htl := size_list t
  have cA := fun (k : Nat) (W : World) (h : k ≤ 10000000) => specDigitS s k W (by omega) h ds
  have cB := fun (k : Nat) (W : World) (h : k ≤ 10000000) => specDigitS t k W (by omega) h dt
  have HD := Lib.hid (And.intro ds dt)
  obtain ⟨n, hn⟩ : ∃ n, s.size + t.size + 1 = n := ⟨_, rfl⟩
  have hni : (s.size : Int) + (t.size : Int) + 1 = (n : Int) := by omega
  clear ds dt
  go_enter Tryd.func60, Tryd.ntmps60
  go_wp2_with (at_make; refine wpList_make_full _ rfl _ _ 88 rfl w.heap.size 3 j0 (.int .i64 0) 1 Tryd.underlying88 ji jz0 jz1 _ _ _ _ n rfl rfl (by first | rfl | omega) (by first | rfl | omega) (by rw [jz2]; omega) (by unfold maxLen; omega) (Nat.le_refl _) ?_; intro w0 hown0 hgrow0)
  have hb0 : Below w.heap.size w w0 := (Below.refl _ _).grown hgrow0 (Nat.le_refl _) (fun k h => by cases h)
  have hown0' : w0.ownsRow w.heap.size 3 1 (.slice (some ⟨w.heap.size, 0, none⟩) n n) n (intCells (List.replicate n 0)) := by
    have e : (madeCells (Value.int IntKind.i64 0).cells (n * 1)).toList = intCells (List.replicate n 0) := by
      rw [Nat.mul_one]
      show (madeCells #[Value.int IntKind.i64 0] n).toList = _
      rw [toList_madeCells_one]
      simp [intCells]
    rw [← e]
    exact hown0
  have hS0 : Sums s.data.toList t.data.toList (List.replicate n 0) (low s.data.toList 0 * val t.data.toList) (81 * 600 * 0) :=
    ⟨by rw [List.length_replicate, hsl, htl, hn], by rw [wsum_zero, low_zero, Nat.zero_mul], fun n hn => by have := List.eq_of_mem_replicate hn; omega⟩
  clear hown0 hgrow0
  go_wp2
  go_loopw [6] (fun iv wr => MulRel s.data.toList t.data.toList w n iv wr) (fun iv _ => s.size - (intOf iv).toNat)
  case atStart => exact ⟨0, _, Nat.zero_le _, rfl, hS0, hown0', hb0⟩
  case round =>
    clear hS0 hown0' hb0
    obtain ⟨i, L, hi1, rfl, hS, hown, hbel⟩ := hrel
    rw [hsl] at hi1
    by_cases hlt : i < s.size
    · obtain ⟨x, hx⟩ : ∃ x, digAt s.data.toList i = x := ⟨_, rfl⟩
      have hx9 := digAt_lt HD.out.1 i
      have cA1 := fun W => cA i W (by omega)
      rw [hx] at cA1 hx9
      have HX := Lib.hid hx
      clear hx cA
      have HS := Lib.hid hS
      clear hS
      go_wp2
      go_loopw [7] (fun kv wr => MulIn s.data.toList t.data.toList w n i x kv wr) (fun kv _ => t.size - (intOf kv).toNat)
      case atStart => exact ⟨0, L, Nat.zero_le _, rfl, by rw [low_zero, Nat.mul_zero, Nat.add_zero]; exact HS.out, hown, hbel⟩
      case round =>
        clear hown hbel HS
        obtain ⟨k, L, hk, rfl, hS, hown, hbel⟩ := hrel
        rw [htl] at hk
        by_cases hkl : k < t.size
        · obtain ⟨y, hy⟩ : ∃ y, digAt t.data.toList k = y := ⟨_, rfl⟩
          have hy9 := digAt_lt HD.out.2 k
          have cB1 := fun W => cB k W (by omega)
          rw [hy] at cB1 hy9
          obtain ⟨m, hm⟩ : ∃ m, i + k = m := ⟨_, rfl⟩
          have hmL : m < L.length := by rw [hS.len, hsl, htl]; omega
          have hmn : m < n := by omega
          obtain ⟨u, hu⟩ : ∃ u, L[m] = u := ⟨_, rfl⟩
          have hub : u ≤ 81 * 600 * i + 81 * k := by rw [← hu]; exact hS.bound _ (List.getElem_mem hmL)
          have hxy : x * y ≤ 81 := Nat.le_trans (Nat.mul_le_mul (show x ≤ 9 by omega) (show y ≤ 9 by omega)) (by omega)
          have HS2 := Lib.hid (sums_set hS hmL hxy)
          rw [hu] at HS2
          have hcell : wr.cell? ⟨w.heap.size, m, none⟩ = some (.int .i64 (u : Int)) := by
            rw [hown.cellAt m (by omega)]
            unfold intCells
            rw [List.getElem?_map, List.getElem?_eq_getElem hmL, hu]; rfl
          have hfro : wr.frozen? ⟨w.heap.size, m, none⟩ = false := hown.frozenAt m
          obtain ⟨XY, hXY⟩ : ∃ XY, x * y = XY := ⟨_, rfl⟩
          have hXYi : (x : Int) * (y : Int) = (XY : Int) := by rw [← hXY]; exact (Int.natCast_mul x y).symm
          obtain ⟨U, hU⟩ : ∃ U, u + XY = U := ⟨_, rfl⟩
          have hUi : (u : Int) + (XY : Int) = (U : Int) := by omega
          rw [hXY] at hxy
          have HL : Hid (low s.data.toList i * val t.data.toList + x * 10 ^ i * low t.data.toList (k + 1) = low s.data.toList i * val t.data.toList + x * 10 ^ i * low t.data.toList k + XY * 10 ^ m) := by
            show _ = _
            rw [low_succ, hy, Nat.mul_add, ← hm, ← hXY, Nat.pow_add]
            have : x * 10 ^ i * (y * 10 ^ k) = x * y * (10 ^ i * 10 ^ k) := by rw [Nat.mul_assoc, Nat.mul_left_comm (10 ^ i) y, ← Nat.mul_assoc]
            omega
          rw [hXY, hU] at HS2
          have hst := (hown.stored m (.int .i64 (U : Int))).1
          rw [int_set] at hst
          have hmi : (i : Int) + (k : Int) = (m : Int) := by omega
          have hm0 : (0 : Int) ≤ (m : Int) := by omega
          have hmni : (m : Int) < (n : Int) := by omega
          have v1 := IntWalk.i64_in (m : Int) ⟨by omega, by omega⟩
          have v2 := IntWalk.i64_in (XY : Int) ⟨by omega, by omega⟩
          have v3 := IntWalk.i64_in (U : Int) ⟨by omega, by omega⟩
          clear hy hu hm hXY hU hown hS cB
          go_wp2
          refine wp_region_still_tail 19 (by kernel_rfl) (by kernel_rfl) ?_
          simp only [List.take_succ_cons, List.take_zero, List.drop_succ_cons, List.drop_zero]
          iterate 12 still_step
          refine wpStill_step (fun K hK => ?_)
          go_simp
          refine ⟨.int .i64 (x : Int), cA1 _, hK _ ?_⟩
          clear hK K
          iterate 2 still_step
          refine wpStill_step (fun K hK => ?_)
          go_simp
          refine ⟨.int .i64 (y : Int), cB1 _, hK _ ?_⟩
          clear hK K
          iterate 3 still_step
          refine wpStill_nil ?_
          change wpList _ _ _ _ _ wr.drew
          have hcell2 : wr.drew.cell? ⟨w.heap.size, m, none⟩ = _ := hcell
          have hfro2 : wr.drew.frozen? ⟨w.heap.size, m, none⟩ = _ := hfro
          have hst2 : (wr.drew.setCell ⟨w.heap.size, m, none⟩ (.int .i64 (U : Int))).ownsRow w.heap.size 3 1 (.slice (some ⟨w.heap.size, 0, none⟩) n n) n _ := hst
          have hb2 := hbel.drew
          clear hcell hfro hst hbel
          generalize wr.drew = w5 at *
          go_wp2
          go_roundw
          case rel => exact ⟨k + 1, _, by rw [htl]; exact hkl, by go_num, by rw [HL.out]; exact HS2.out, hst2, hb2.setCell (Nat.le_refl _) _⟩
          case measure => simp [intOf]; omega
        · have hkt : k = t.size := by omega
          have HS3 : Hid (Sums s.data.toList t.data.toList L (low s.data.toList (i + 1) * val t.data.toList) (81 * 600 * (i + 1))) := by
            refine ⟨hS.len, ?_, fun n hn => Nat.le_trans (hS.bound n hn) (by omega)⟩
            rw [hS.sum, low_all (l := t.data.toList) (by rw [htl]; omega), low_succ, HX.out, Nat.add_mul, Nat.add_comm]
          clear hS
          go_wp2
          go_roundw
          case rel => exact ⟨i + 1, L, by rw [hsl]; exact hlt, by go_num, HS3.out, hown, hbel⟩
          case measure => simp [intOf]; omega
    · have his : i = s.size := by omega
      have hSum : wsum L = val s.data.toList * val t.data.toList := by rw [hS.sum, low_all (by rw [hsl]; omega)]
      have hLn : L.length = n := by rw [hS.len, hsl, htl, hn]
      have hLb : ∀ x ∈ L, x ≤ 29160000 := fun x hx => Nat.le_trans (hS.bound x hx) (by omega)
      have hcells : ∀ j, (h : j < L.length) → wr.cell? ⟨w.heap.size, j, none⟩ = some (.int .i64 (L[j] : Int)) := fun j h => by
        rw [hown.cellAt j (by omega)]
        unfold intCells
        rw [List.getElem?_map, List.getElem?_eq_getElem h]; rfl
      have hgl : w.heap.size < wr.heap.size := World.block_lt_of_cell? wr _ (hcells 0 (by omega))
      have HSum := Lib.hid hSum
      have HLb := Lib.hid hLb
      have HCL := Lib.hid hcells
      clear hSum hLb hcells hS hown cA cB his
      generalize wr = w2 at *
      go_wp2
      go_loopw [8, 9, 10] (fun v cv kv wr => MulOut L w2 v cv kv wr) (fun _ _ kv _ => n - (intOf kv).toNat)
      case atStart => exact ⟨0, 0, [], w2.heap.size, 0, Nat.zero_le _, rfl, rfl, rfl, World.ownsRow_lit w2 #[] 0 (Nat.le_refl _) (Nat.zero_le _) rfl, digs_nil, rfl, by omega, rfl, (Below.refl _ _).alloc (Nat.le_refl _) _⟩
      case round =>
        obtain ⟨k, c, acc, g, cp, hkL, rfl, rfl, rfl, hown, hdg, hal, hc4, hval, hb2⟩ := hrel
        have HV := Lib.hid (And.intro hdg (And.intro hal hval))
        have hacl : acc.length ≤ 1048576 := by omega
        clear hdg hal hval
        by_cases hkn : k < n
        · have hkL2 : k < L.length := by omega
          obtain ⟨u, hu⟩ : ∃ u, L[k] = u := ⟨_, rfl⟩
          have hub : u ≤ 29160000 := by rw [← hu]; exact HLb.out _ (List.getElem_mem hkL2)
          have hcell : wr.cell? ⟨w.heap.size, k, none⟩ = some (.int .i64 (u : Int)) := by
            rw [hb2.cell (p := ⟨w.heap.size, k, none⟩) hgl, HCL.out k hkL2, hu]
          have HTK : Hid (wsum (L.take (k + 1)) = (u + c - c) * 10 ^ k + wsum (L.take k)) := by
            show _ = _
            rw [List.take_succ_eq_append_getElem hkL2, wsum_snoc, hu, List.length_take, show min k L.length = k by omega, show u + c - c = u by omega]; omega
          have HS := Lib.hid (ahead_step (d := u + c) HV.out.1 HV.out.2.1 HV.out.2.2 HTK.out (by omega))
          obtain ⟨b, hb⟩ : ∃ b, dig ((u + c) % 10) = b := ⟨_, rfl⟩
          obtain ⟨c', hc'⟩ : ∃ c', (u + c) / 10 = c' := ⟨_, rfl⟩
          rw [hb, hc'] at HS
          have hbv : (48 : Int) + ((u : Int) + (c : Int)) % 10 = (b.toNat : Int) := by rw [← hb, dig_toNat (by omega)]; omega
          have hcv : ((u : Int) + (c : Int)) / 10 = (c' : Int) := by omega
          have hc1 : c' ≤ 4000000 := by omega
          have hbl := b.toNat_lt
          have hkni : (k : Int) < (n : Int) := by omega
          clear hb hc' hu HTK HV
          have hlit := lit_own wr b hb2.size
          go_wp2_with (at_builtin; go_must (refine wpList_append_own _ rfl _ _ 43 rfl w2.heap.size 5 i0 (.int .u8 0) 1 1 Tryd.underlying43 hi hz0 hz1 hz2 rfl (by decide) _ _ _ rfl hlit ⟨g, 0, none⟩ _ _ (byteCells acc) rfl (by simp [byteCells]) (own_cells (hown.alloc _)) (bytes_oneN acc) (by unfold maxLen; simp; omega) (by simp; omega) (by have := hb2.size; simp; omega) ?_); intro v' w4 hown4 hgrow4 _; have hown5 := own_catN (a := [b]) (b := acc) hown4; obtain ⟨g2, c2, rfl⟩ := own_some (n := acc.length) (by rw [Nat.add_comm] at hown4; exact hown4))
          have hb4 : Below w2.heap.size w2 w4 := (hb2.alloc hb2.size _).grown hgrow4 (by have := hb2.size; simp; omega) (own_block hlit)
          have O5 := Lib.hid hown5
          clear hown4 hown5 hgrow4 hown hlit hb2 hcell
          go_wp2
          go_roundw
          case rel => exact ⟨k + 1, c', b :: acc, g2, c2, hkL2, by go_num, by rw [hcv], rfl, O5.out, HS.out.1, HS.out.2.1, hc1, HS.out.2.2, hb4⟩
          case measure => simp [intOf]; omega
        · have hkn2 : k = L.length := by omega
          have HE : Hid (trim acc = natOf (val s.data.toList * val t.data.toList)) := by
            show _ = _
            rw [trim_eq HV.out.1]
            congr 1
            have h1 := HV.out.2.2
            rw [hkn2, List.take_length, HSum.out] at h1
            have h2 := val_lt HD.out.1
            have h3 := val_lt HD.out.2
            have h4 : val s.data.toList * val t.data.toList < 10 ^ L.length := by
              rw [hLn, ← hn, ← hsl, ← htl]
              have h5 : val s.data.toList * val t.data.toList ≤ 10 ^ s.data.toList.length * 10 ^ t.data.toList.length := Nat.mul_le_mul (Nat.le_of_lt h2) (Nat.le_of_lt h3)
              rw [← Nat.pow_add] at h5
              have h6 : 10 ^ (s.data.toList.length + t.data.toList.length) < 10 ^ (s.data.toList.length + t.data.toList.length + 1) := Nat.pow_lt_pow_succ (by omega)
              omega
            have h7 : c = 0 := by
              rcases Nat.eq_zero_or_pos c with h | h
              · exact h
              · have : 1 * 10 ^ L.length ≤ c * 10 ^ L.length := Nat.mul_le_mul_right _ h
                omega
            subst h7
            omega
          have hcvt := conv_own (P := Tryd.prog) (dst := 9) Tryd.underlying43 Tryd.underlying5 Tryd.underlying9 hown
          have cT := specTrim (⟨acc.toArray⟩ : ByteArray) wr (show acc.length ≤ _ by omega)
          have D3 : Below w.heap.size w wr := hbel.trans (hb2.mono hbel.size)
          clear HV HCL HLb HSum hb2 hbel
          go_wp2_with fail
          refine cT.mono ?_
          rintro e w5 ⟨rfl, B5⟩
          have D5 := D3.trans (B5.mono D3.size)
          clear B5 D3 cT hcvt hown
          go_wp2
          go_ret
          exact ⟨by rw [← HE.out]; rfl, D5⟩


end Go.Proofs.YtpkmhojcccpolaaDoor
