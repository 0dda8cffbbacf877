/- impl's text and result of a natural. No condition but that a natural lies there. -/
import Derived.Test.YtpkmhojcccpolaaDoorImplNat4
namespace Go.Proofs.YtpkmhojcccpolaaDoor
set_option linter.unusedVariables false
open Go.RowKit
open Go.Lib (byteCells)

theorem fill_step (L : List UInt8) (n k : Nat) (hn : L.length = n) (h : k < n) (b : UInt8) (hb : L[k]? = some b) :
    (byteCells (L.take k ++ List.replicate (n - k) 0)).set k (.int .u8 (b.toNat : Int)) = byteCells (L.take (k + 1) ++ List.replicate (n - (k + 1)) 0) := by
  unfold byteCells
  rw [show (Value.int .u8 (b.toNat : Int)) = (fun x : UInt8 => Value.int .u8 (x.toNat : Int)) b from rfl, ← List.map_set]
  congr 1
  have h1 : L.take (k + 1) = L.take k ++ [b] := by
    have hk : k < L.length := by omega
    rw [List.take_succ_eq_append_getElem hk]
    rw [List.getElem?_eq_getElem hk] at hb
    rw [Option.some.inj hb]
  have h2 : List.replicate (n - k) (0 : UInt8) = 0 :: List.replicate (n - (k + 1)) 0 := by
    rw [show n - k = n - (k + 1) + 1 by omega, List.replicate_succ]
  have h3 : (L.take k).length = k := by rw [List.length_take]; omega
  rw [h1, h2, List.set_append_right _ _ (by omega), h3, Nat.sub_self, List.set_cons_zero]
  simp

set_option maxHeartbeats 2000000 in
set_option maxRecDepth 100000 in
theorem implText (g v : Nat) (w : World) (hA : NatAt w g v (len v)) :
    Calls Tryd.prog 55 #[.pointer (some ⟨g, 0, none⟩)] w (AnsS (natOf v) w) := by
  obtain ⟨i0, hi, hz0, hz1, hz2⟩ := info_parts Tryd.infoByteN
  obtain ⟨a1, a2, _⟩ := hA.cells
  have hgl := hA.lt
  have hla : len v ≤ 601 := by obtain ⟨C, _, hI⟩ := hA; exact len_top hI.lt
  obtain ⟨n, hn⟩ : ∃ n, len v = n := ⟨_, rfl⟩
  rw [hn] at a2 hla hA
  by_cases h0 : v = 0
  · subst h0
    obtain rfl : n = 0 := by rw [← hn]; rfl
    have a2' : w.cell? ⟨g, 601, none⟩ = some (.int .i64 0) := a2
    have HE : Hid (natOf 0 = [48]) := natOf_small (by omega)
    clear a1 a2 hn hA
    go_enter Tryd.func55, Tryd.ntmps55
    go_wp2
    go_ret
    exact ⟨by rw [HE.out]; rfl, Below.refl _ _⟩
  · have hn1 : 1 ≤ n := by rw [← hn]; exact len_pos h0
    have HL : Hid ((natOf v).length = n) := by show _ = _; rw [← hn, len_nz h0]
    have HD : Hid (∀ k, k < n → (natOf v)[n - 1 - k]? = some (dig (dgt v k))) := fun k hk => by
      have := natOf_at v k (by rw [HL.out]; exact hk)
      rwa [HL.out] at this
    have HA := Lib.hid a1
    have hne : ((n : Int) == 0) = false := beq_zero (by omega)
    obtain ⟨L, hL⟩ : ∃ L, natOf v = L := ⟨_, rfl⟩
    rw [hL] at HL HD ⊢
    have HW := Lib.hid hA
    clear a1 hn hA h0 hL
    go_enter Tryd.func55, Tryd.ntmps55
    go_wp2_with (at_make; refine wpList_make_full _ rfl _ _ 43 rfl w.heap.size 5 i0 (.int .u8 0) 1 Tryd.underlying43 hi hz0 hz1 _ _ _ _ n rfl rfl rfl rfl (by rw [hz2]; omega) (by unfold maxLen; omega) (Nat.le_refl _) ?_; intro w0 hown0 hgrow0)
    have hb0 : Below w.heap.size w w0 := (Below.refl _ _).grown hgrow0 (Nat.le_refl _) (fun k h => by cases h)
    have hown0' : w0.ownsRow w.heap.size 5 1 (.slice (some ⟨w.heap.size, 0, none⟩) n n) n (byteCells (L.take 0 ++ List.replicate (n - 0) 0)) := by
      have e : (madeCells (Value.int IntKind.u8 0).cells (n * 1)).toList = byteCells (L.take 0 ++ List.replicate (n - 0) 0) := by
        rw [Nat.mul_one]
        show (madeCells #[Value.int IntKind.u8 0] n).toList = _
        rw [toList_madeCells_one]
        simp [byteCells]
      rw [← e]
      exact hown0
    clear hown0 hgrow0
    go_wp2
    go_loopw [17] (fun i wr => ∃ k : Nat, k ≤ n ∧ i = .int .i64 k ∧ wr.ownsRow w.heap.size 5 1 (.slice (some ⟨w.heap.size, 0, none⟩) n n) n (byteCells (L.take k ++ List.replicate (n - k) 0)) ∧ Below w.heap.size w wr)
      (fun i _ => n - (intOf i).toNat)
    case atStart => exact ⟨0, Nat.zero_le _, rfl, hown0', hb0⟩
    case round =>
      obtain ⟨k, hk, rfl, hown, hbel⟩ := hrel
      clear hown0' hb0 a2
      by_cases hlt : k < n
      · obtain ⟨j, hj⟩ : ∃ j, n - 1 - k = j := ⟨_, rfl⟩
        have hjn : j < n := by omega
        have hjk : n - 1 - j = k := by omega
        have hN := HW.out.below hbel hgl
        obtain ⟨c1, c2, _⟩ := hN.cells
        have cj := c1 j (by omega)
        obtain ⟨d, hd⟩ : ∃ d, dgt v j = d := ⟨_, rfl⟩
        have hd10 : d < 10 := by rw [← hd]; exact dgt_lt v j
        obtain ⟨b, hb⟩ : ∃ b, dig d = b := ⟨_, rfl⟩
        have hLk : L[k]? = some b := by
          have := HD.out j hjn
          rw [hjk, hd, hb] at this
          exact this
        have HS := Lib.hid (fill_step L n k HL.out hlt b hLk)
        rw [hd] at cj
        have hbv : (d : Int) + 48 = (b.toNat : Int) := by rw [← hb, dig_toNat hd10]; omega
        have hb1 := b.toNat_lt
        have v1 := IntWalk.u8_in (b.toNat : Int) ⟨by omega, by omega⟩
        have e1 : (n : Int) - 1 - (k : Int) = (j : Int) := by omega
        have hj6 : (j : Int) < 601 := by omega
        have hj0 : (0 : Int) ≤ (j : Int) := by omega
        have v2 := IntWalk.i64_in ((n : Int) - 1) ⟨by omega, by omega⟩
        have v3 := IntWalk.i64_in (j : Int) ⟨by omega, by omega⟩
        have hkn : (k : Int) < (n : Int) := by omega
        have hco : wr.cell? ⟨w.heap.size, k, none⟩ = some (.int .u8 0) := by
          rw [hown.cellAt k (by omega)]
          unfold byteCells
          have h3 : (L.take k).length = k := by rw [List.length_take, HL.out]; omega
          rw [List.getElem?_map, List.getElem?_append_right (by omega), h3, Nat.sub_self, List.getElem?_replicate, if_pos (by omega)]
          rfl
        have hfo : wr.frozen? ⟨w.heap.size, k, none⟩ = false := hown.frozenAt k
        have hst := (hown.stored k (.int .u8 (b.toNat : Int))).1
        clear c1 hj hjk hd hb hLk hown hN HD HA
        go_wp2
        go_still_tail 16, (by kernel_rfl)
        change wpList _ _ _ _ _ wr.drew
        have hco2 : wr.drew.cell? ⟨w.heap.size, k, none⟩ = _ := hco
        have hfo2 : wr.drew.frozen? ⟨w.heap.size, k, none⟩ = _ := hfo
        have hb2 := hbel.drew
        have hst2 : (wr.drew.setCell ⟨w.heap.size, k, none⟩ (.int .u8 (b.toNat : Int))).ownsRow w.heap.size 5 1 (.slice (some ⟨w.heap.size, 0, none⟩) n n) n _ := hst
        clear hco hfo hbel hst cj c2
        generalize wr.drew = w5 at *
        go_wp2
        go_roundw
        case rel => exact ⟨k + 1, hlt, by go_num, by rw [← HS.out]; exact hst2, hb2.setCell (Nat.le_refl _) _⟩
        case measure => simp [intOf]; omega
      · obtain rfl : k = n := by omega
        have hown' : wr.ownsRow w.heap.size 5 1 (.slice (some ⟨w.heap.size, 0, none⟩) L.length k) L.length (byteCells L) := by
          have hl := HL.out
          rw [show L.take k = L from List.take_of_length_le (by omega), Nat.sub_self, List.replicate_zero, List.append_nil] at hown
          rw [hl]; exact hown
        have hcvt := conv_own (P := Tryd.prog) (dst := 9) Tryd.underlying43 Tryd.underlying5 Tryd.underlying9 hown'
        rw [HL.out] at hcvt
        clear hown hown' HD HA
        go_wp2
        go_ret
        exact ⟨rfl, hbel⟩

set_option maxHeartbeats 1000000 in
set_option maxRecDepth 100000 in
theorem implResult (g v : Nat) (w : World) (hA : NatAt w g v (len v)) :
    Calls Tryd.prog 127 #[.pointer (some ⟨g, 0, none⟩)] w (Ans2 (fits v) w) := by
  have cT := fun W (h : NatAt W g v (len v)) => implText g v W h
  unfold AnsS at cT
  obtain ⟨a1, a2, _⟩ := hA.cells
  have HF : Hid (len v ≤ 600 → fits v = (natOf v, true)) := fun h => by
    unfold fits
    rw [if_pos]
    by_cases h0 : v = 0
    · subst h0; rw [natOf_small (by omega)]; simp
    · rw [← len_nz h0]; exact h
  have HG : Hid (¬ len v ≤ 600 → fits v = ([], false)) := fun h => by
    unfold fits
    rw [if_neg]
    by_cases h0 : v = 0
    · subst h0; exact absurd (Nat.zero_le _) h
    · rw [← len_nz h0]; exact h
  have HA := Lib.hid hA
  obtain ⟨n, hn⟩ : ∃ n, len v = n := ⟨_, rfl⟩
  have hC := cT w hA
  rw [hn] at a2 HF HG
  clear a1 hA hn cT
  by_cases h6 : n ≤ 600
  · have HE := Lib.hid (HF.out h6)
    clear HF HG
    have h6i : ¬ (600 : Int) < (n : Int) := by omega
    generalize natOf v = L at *
    generalize fits v = f at *
    go_enter Tryd.func127, Tryd.ntmps127
    go_wp2_with fail
    refine hC.mono ?_
    rintro e w2 ⟨rfl, B2⟩
    go_wp2
    go_ret2
    exact ⟨by rw [HE.out]; rfl, B2⟩
  · have HE := Lib.hid (HG.out h6)
    have h6i : (600 : Int) < (n : Int) := by omega
    clear HF HG hC
    generalize fits v = f at *
    go_enter Tryd.func127, Tryd.ntmps127
    go_wp2
    go_ret2
    exact ⟨by rw [HE.out]; rfl, Below.refl _ _⟩

end Go.Proofs.YtpkmhojcccpolaaDoor
