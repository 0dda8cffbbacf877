/- The program's reader of rows with commas: a cell is complete. Conditions: at most 4000 bytes. -/
import Derived.Test.YtjklnfcoaakkgaaDoorCrI4
namespace Go.Proofs.YtjklnfcoaakkgaaDoor
set_option linter.unusedVariables false
open Go.RowKit
open Go.Lib (byteCells)

section
variable {w w1 : World} {p i b z k : Nat} {s : ByteArray} {nv u uf v : Value} {rs : List (List ByteArray)} {xs : List Value} {cs : List ByteArray} {acc : List UInt8}
theorem Rdr.cellGrow {u' : Value} {x : ByteArray} (h : Rdr w p s i nv rs xs u cs uf b v acc z k) (hg : w.grownBy w1 u.ownBlock) (hr : w1.ownsRow (p + 1) 9 1 u' (cs.length + 1) (cs.map Value.string ++ [.string x])) (hn : ∀ q, u'.ownBlock = some q → u.ownBlock = some q ∨ w.heap.size ≤ q) :
    R8 w1 p s i nv uf b v z k ∧ RowsSt w1 (p + 1) nv rs xs u' (cs ++ [x]) ∧ BytesR w1 (p + 1) v acc ∧ (∀ q, v.ownBlock = some q → q ∉ footS nv xs u') ∧ Below p w w1 := by
  have hk := Keep.ofGrown hg
  have hu : ∀ q ∈ u.ownBlock.toList, u.ownBlock = some q := fun q hq => by simpa using hq
  have hup : ∀ q ∈ u.ownBlock.toList, p < q := fun q hq => (World.ownsRow.lt h.st.cells q (hu q hq)).1
  refine ⟨h.r8.keep hk fun hm => by have := hup p hm; omega, h.st.cell hg hr hn, hk.row h.bytes fun q hq hm => h.apart q hq (footS_mem.2 (.inr (hu q hm))), fun q hq hm => ?_, hk.below (Nat.le_of_lt h.lt) fun q hq => Nat.le_of_lt (hup q hq)⟩
  rcases footS_mem.1 hm with hm | hm
  · exact h.apart q hq (footS_mem.2 (.inl hm))
  · rcases hn q hm with e | e
    · exact h.apart q hq (footS_mem.2 (.inr e))
    · have := (World.ownsRow.lt h.bytes q hq).2; omega
theorem Rdr.rowGrow {nv' : Value} (h : Rdr w p s i nv rs xs u cs uf b v acc z k) (hg : w.grownBy w1 nv.ownBlock) (hr : w1.ownsRow (p + 1) 46 1 nv' (rs.length + 1) (xs ++ [u])) (hn : ∀ q, nv'.ownBlock = some q → nv.ownBlock = some q ∨ w.heap.size ≤ q) :
    R8 w1 p s i nv uf b v z k ∧ OwnR w1 (p + 1) nv' (rs ++ [cs]) (xs ++ [u]) ∧ BytesR w1 (p + 1) v acc ∧ (∀ q, v.ownBlock = some q → q ∉ footS nv' (xs ++ [u]) (.slice none 0 0)) ∧ Below p w w1 := by
  have hk := Keep.ofGrown hg
  have hu : ∀ q ∈ nv.ownBlock.toList, nv.ownBlock = some q := fun q hq => by simpa using hq
  have hup : ∀ q ∈ nv.ownBlock.toList, p < q := fun q hq => (World.ownsRow.lt h.st.own.row q (hu q hq)).1
  refine ⟨h.r8.keep hk fun hm => by have := hup p hm; omega, h.st.row hg hr hn, hk.row h.bytes fun q hq hm => h.apart q hq (footS_mem.2 (.inl (footR_mem.2 (.inl (hu q hm))))), fun q hq hm => ?_, hk.below (Nat.le_of_lt h.lt) fun q hq => Nat.le_of_lt (hup q hq)⟩
  rcases footS_mem.1 hm with hm | hm
  · rcases footR_mem.1 hm with hm | ⟨x, hx, hm⟩
    · rcases hn q hm with e | e
      · exact h.apart q hq (footS_mem.2 (.inl (footR_mem.2 (.inl e))))
      · have := (World.ownsRow.lt h.bytes q hq).2; omega
    · rcases List.mem_append.1 hx with hx | hx
      · exact h.apart q hq (footS_mem.2 (.inl (footR_mem.2 (.inr ⟨x, hx, hm⟩))))
      · rw [List.mem_singleton.1 hx] at hm
        exact h.apart q hq (footS_mem.2 (.inr hm))
  · simp [Value.ownBlock] at hm
end

theorem new_oneVg (w : World) (u : Value) (e : TypeId) (g : Nat) (hg : g = w.heap.size) : ∀ (j : Nat) (v : Value), [u][j]? = some v → (w.alloc (.cells #[u] e)).cell? ((⟨g, 0, none⟩ : Addr).add j) = some v := by
  subst hg; exact new_oneV w u e

set_option maxHeartbeats 4000000 in
set_option maxRecDepth 100000 in
theorem stepComplete (s : ByteArray) (R : RowsRes) (p : Nat) (w : World) (i f b : Nat) (rs : List (List ByteArray)) (xs : List Value) (nv u : Value) (cs : List ByteArray) (v : Value) (acc : List UInt8) (h : Rdr w p s i nv rs xs u cs u b v acc 0 0) (hs : s.size ≤ 4000) (hi : i ≤ s.size) (hb : b ≤ i) (ha : acc.length ≤ i) (hf : s.size ≤ b + f) (hl : rs.length + f ≤ s.size) (hc : cs.length ≤ 99) (he : cellEndB s i = true)
    (hR : contC s f b rs cs (.ok (⟨acc.toArray⟩, i)) = R) : Calls Tryd.prog 87 #[.pointer (some ⟨p, 0, none⟩)] w (StepIs s R p (8 * (s.size - i) + 3) w) := by
  obtain ⟨A, c, rfl⟩ := own_form h.st.cells
  obtain ⟨Av, cv, rfl⟩ := h.bytes.form
  obtain ⟨An, cn, rfl⟩ := own_form h.st.own.row
  obtain ⟨c0, c1, c2, c3, c4, c5, c6, c7⟩ := h.r8.cell
  have HH := Lib.hid h
  have hlt := h.lt
  obtain ⟨x, hx⟩ : ∃ x : ByteArray, ⟨acc.toArray⟩ = x := ⟨_, rfl⟩
  have hxz : x.size = acc.length := by rw [← hx]; exact List.size_toArray
  rw [hx] at hR
  by_cases hxl : 1000 < acc.length
  · have hz : (1000 : Int) < (acc.length : Int) := by omega
    have cF := failStep (M := 8 * (s.size - i) + 3) h ((contC_long (by omega)).symm.trans hR) (by omega)
    clear h hR he hx c0 c1 c2 c3 c6 c7
    go_enter Tryd.func87, Tryd.ntmps87
    go_wp2_with (go_at_call 68; refine cF.mono ?_; rintro r w1 ⟨sv, M', rfl, hcf, hM, hb1⟩; have HX : Hid (StepIs s R p (8 * (s.size - i) + 3) w (.returned sv) w1) := ⟨sv, M', rfl, hcf, hM, hb1⟩; clear hcf hM hb1)
    go_ret
    exact HX.out
  · have hz : ¬ (1000 : Int) < (acc.length : Int) := by omega
    obtain ⟨i0, hi0, hz0, hz1, hz2⟩ := info_parts Tryd.infoCellS
    obtain ⟨i1, hi1, hy0, hy1, hy2⟩ := info_parts Tryd.infoRow
    have hcv := conv_own (P := Tryd.prog) (dst := 9) Tryd.underlying22 Tryd.underlying5 Tryd.underlying9 (World.ownsRow.drew h.bytes)
    rw [hx] at hcv
    have HA := Lib.hid (h.keep0 (((Keep.refl [] w).drew).alloc (.cells #[.string x] 9)))
    have HBA := Lib.hid (keepBelow (((Keep.refl [] w).drew).alloc (.cells #[.string x] 9)) (Nat.le_of_lt hlt))
    cases hre : rowEndR s i with
    | none =>
      have hil := rowEnd_lt hre
      have HN := Lib.hid ((contC_next (by omega) hre).symm.trans hR)
      have HRE := Lib.hid hre
      obtain ⟨j, hj⟩ : ∃ j, i + 1 = j := ⟨_, rfl⟩
      have hjz : (i : Int) + 1 = (j : Int) := by omega
      have hjs : j ≤ s.size := by omega
      have hij : i < j := by omega
      rw [hj] at HN
      clear h hR he hx hre hj
      go_enter Tryd.func87, Tryd.ntmps87
      go_wp2
      go_region_law (refine step_append_own rfl (.tmp 21) (.tmp 27) 44 rfl (p + 1) 9 i0 (.string ⟨#[]⟩) 1 16 Tryd.underlying44 hi0 hz0 hz1 hz2 rfl (by decide) (.slice A cs.length c) cs.length (cs.map Value.string) (by simp [Act.eval]) HA.out.st.cells ⟨w.heap.size, 0, none⟩ 1 1 [.string x] (by simp [Act.eval]) rfl (new_oneV w.drew (.string x) 9) (fun q hq => by simp at hq; subst hq; rfl) (by unfold maxLen; omega) (by omega) HA.out.lt ?_; intro v' w2 ho hg hn; obtain ⟨A', c', rfl⟩ := own_form ho; have HG := Lib.hid (HA.out.cellGrow hg ho hn); obtain ⟨e0, e1, e2, e3, e4, e5, e6, e7⟩ := HG.out.1.cell; have g3 := HG.out.1.frozen 3; clear ho hg hn)
      all_goals
        have k3 := Lib.hid (keepSetP w2 p 3 (.slice A' (cs.length + 1) c'))
        have H3 : Hid (Rdr (w2.setCell ⟨p, 3, none⟩ (.slice A' (cs.length + 1) c')) p s i (.slice An rs.length cn) rs xs (.slice A' (cs.length + 1) c') (cs ++ [x]) (.slice A' (cs.length + 1) c') b (.slice Av acc.length cv) acc 0 0) := ⟨HG.out.1.set3 _, HG.out.2.1.keepS k3.out (fun q hq hm => by have := (HG.out.2.1.range q hm).1; rw [List.mem_singleton.1 hq] at this; omega), k3.out.row HG.out.2.2.1 (fun q hq hm => by have := (World.ownsRow.lt HG.out.2.2.1 q hq).1; rw [List.mem_singleton.1 hm] at this; omega), HG.out.2.2.2.1⟩
        have HB3 : Hid (Below p w (w2.setCell ⟨p, 3, none⟩ (.slice A' (cs.length + 1) c'))) := belowP (HBA.out.trans HG.out.2.2.2.2)
        have cR := csvRowEnd _ p s i _ _ b _ 0 0 H3.out.r8 hs hi
        unfold rowEndV at cR
        rw [HRE.out] at cR
        clear e0 e1 e2 e3 e4 e5 e6 e7 g3
        go_wp2_with (go_at_call 98; refine cR.mono ?_; rintro r w4 ⟨rfl, k4⟩; have H4 := Lib.hid (H3.out.keep0 k4); have HB4 := Lib.hid (HB3.out.trans (keepBelow k4 (Nat.le_of_lt H3.out.lt))); obtain ⟨y0, y1, y2, y3, y4, y5, y6, y7⟩ := H4.out.r8.cell; have x1 := H4.out.r8.frozen 1; have x2 := H4.out.r8.frozen 2; clear k4 cR)
        go_ret
        have k5 := keepSetP w4 p 1 (.int .i64 j)
        exact ⟨_, _, rfl, .cell j f rs xs _ _ (cs ++ [x]) b _ acc ⟨H4.out.r8.set1 j, (H4.out.inP k5).1, (H4.out.inP k5).2, H4.out.apart⟩ hjs (by omega) (by omega) (by simp; omega) HN.out, by omega, belowP HB4.out⟩
    | some m =>
      have HN := Lib.hid ((contC_row (by omega) hre).symm.trans hR)
      have HRE := Lib.hid hre
      have hm := rowEnd_le hre hi
      obtain ⟨j, hj⟩ : ∃ j, i + m = j := ⟨_, rfl⟩
      have hjz : (i : Int) + (m : Int) = (j : Int) := by omega
      have hjs : j ≤ s.size := by omega
      have hfj : j < s.size → s.size < j + f := fun q => by have := hm.2 (by omega); omega
      have hMj : 8 * (s.size - j) + (if j < s.size then 7 else 1) < 8 * (s.size - i) + 3 := by
        by_cases q : i < s.size
        · have := hm.2 q
          split <;> omega
        · rw [if_neg (by omega)]; omega
      have hij : i ≤ j := by omega
      rw [hj] at HN
      have HFJ := Lib.hid hfj
      have HMJ := Lib.hid hMj
      clear h hR he hx hre hj hm hfj hMj
      go_enter Tryd.func87, Tryd.ntmps87
      go_wp2
      go_region_law (refine step_append_own rfl (.tmp 21) (.tmp 27) 44 rfl (p + 1) 9 i0 (.string ⟨#[]⟩) 1 16 Tryd.underlying44 hi0 hz0 hz1 hz2 rfl (by decide) (.slice A cs.length c) cs.length (cs.map Value.string) (by simp [Act.eval]) HA.out.st.cells ⟨w.heap.size, 0, none⟩ 1 1 [.string x] (by simp [Act.eval]) rfl (new_oneV w.drew (.string x) 9) (fun q hq => by simp at hq; subst hq; rfl) (by unfold maxLen; omega) (by omega) HA.out.lt ?_; intro v' w2 ho hg hn; obtain ⟨A', c', rfl⟩ := own_form ho; have HG := Lib.hid (HA.out.cellGrow hg ho hn); obtain ⟨e0, e1, e2, e3, e4, e5, e6, e7⟩ := HG.out.1.cell; have g3 := HG.out.1.frozen 3; clear ho hg hn)
      all_goals
        have k3 := Lib.hid (keepSetP w2 p 3 (.slice A' (cs.length + 1) c'))
        have H3 : Hid (Rdr (w2.setCell ⟨p, 3, none⟩ (.slice A' (cs.length + 1) c')) p s i (.slice An rs.length cn) rs xs (.slice A' (cs.length + 1) c') (cs ++ [x]) (.slice A' (cs.length + 1) c') b (.slice Av acc.length cv) acc 0 0) := ⟨HG.out.1.set3 _, HG.out.2.1.keepS k3.out (fun q hq hm => by have := (HG.out.2.1.range q hm).1; rw [List.mem_singleton.1 hq] at this; omega), k3.out.row HG.out.2.2.1 (fun q hq hm => by have := (World.ownsRow.lt HG.out.2.2.1 q hq).1; rw [List.mem_singleton.1 hm] at this; omega), HG.out.2.2.2.1⟩
        have HB3 : Hid (Below p w (w2.setCell ⟨p, 3, none⟩ (.slice A' (cs.length + 1) c'))) := belowP (HBA.out.trans HG.out.2.2.2.2)
        have cR := csvRowEnd _ p s i _ _ b _ 0 0 H3.out.r8 hs hi
        unfold rowEndV at cR
        rw [HRE.out] at cR
        clear e0 e1 e2 e3 e4 e5 e6 e7 g3
        go_wp2_with (go_at_call 98; refine cR.mono ?_; rintro r w4 ⟨rfl, k4⟩; have H4 := Lib.hid (H3.out.keep0 k4); have HB4 := Lib.hid (HB3.out.trans (keepBelow k4 (Nat.le_of_lt H3.out.lt))); obtain ⟨y0, y1, y2, y3, y4, y5, y6, y7⟩ := H4.out.r8.cell; have x1 := H4.out.r8.frozen 1; have x2 := H4.out.r8.frozen 2; clear k4 cR)
        have k5 := Lib.hid (keepSetP w4 p 1 (.int .i64 j))
        have H5 : Hid (Rdr (w4.setCell ⟨p, 1, none⟩ (.int .i64 j)) p s j (.slice An rs.length cn) rs xs (.slice A' (cs.length + 1) c') (cs ++ [x]) (.slice A' (cs.length + 1) c') b (.slice Av acc.length cv) acc 0 0) := ⟨H4.out.r8.set1 j, (H4.out.inP k5.out).1, (H4.out.inP k5.out).2, H4.out.apart⟩
        have HB5 : Hid (Below p w (w4.setCell ⟨p, 1, none⟩ (.int .i64 j))) := belowP HB4.out
        have HA6 := Lib.hid (H5.out.keep0 (((Keep.refl [] _).drew).alloc (.cells #[.slice A' (cs.length + 1) c'] 46)))
        have HB6 := Lib.hid (HB5.out.trans (keepBelow (((Keep.refl [] _).drew).alloc (.cells #[.slice A' (cs.length + 1) c'] 46)) (Nat.le_of_lt H5.out.lt)))
        obtain ⟨v0, v1, v2, v3, v4, v5, v6, v7⟩ := H5.out.r8.cell
        have hp4 : p < w4.heap.size := H4.out.lt
        clear y0 y1 y2 y3 y4 y5 y6 y7 x1
        go_region_law (refine step_append_own rfl (.tmp 59) (.tmp 65) 24 rfl (p + 1) 46 i1 (.agg #[.slice none 0 0]) 1 24 Tryd.underlying24 hi1 hy0 hy1 hy2 rfl (by decide) (.slice An rs.length cn) rs.length xs (by simp [Act.eval]) HA6.out.st.own.row ⟨w4.heap.size, 0, none⟩ 1 1 [.slice A' (cs.length + 1) c'] (by simp [Act.eval]) rfl (new_oneVg _ _ _ _ (size_setCell w4 _ _).symm) (fun q hq => by simp at hq; subst hq; rfl) (by unfold maxLen; omega) (by omega) HA6.out.lt ?_; intro v'' w7 ho7 hg7 hn7; obtain ⟨A7, c7', rfl⟩ := own_form ho7; have HG7 := Lib.hid (HA6.out.rowGrow hg7 ho7 hn7); obtain ⟨z0, z1, z2, z3, z4, z5, z6, z7⟩ := HG7.out.1.cell; have t2 := HG7.out.1.frozen 2; clear ho7 hg7 hn7)
        all_goals
          go_wp2
          go_ret
          have k7 := keepSetP w7 p 2 (.slice A7 (rs.length + 1) c7')
          have o7 := HG7.out.2.1.keep k7 (fun q hq hm => by have := (HG7.out.2.1.range q hm).1; rw [List.mem_singleton.1 hq] at this; omega)
          exact ⟨_, _, rfl, .begins j f (rs ++ [cs ++ [x]]) (xs ++ [.slice A' (cs.length + 1) c']) _ _ b _ acc ⟨HG7.out.1.set2 _, RowsSt.freshOf o7, k7.row HG7.out.2.2.1 (fun q hq hm => by have := (World.ownsRow.lt HG7.out.2.2.1 q hq).1; rw [List.mem_singleton.1 hm] at this; omega), HG7.out.2.2.2.1⟩ hjs HFJ.out (by simp; omega) HN.out, HMJ.out, belowP (HB6.out.trans HG7.out.2.2.2.2)⟩

end Go.Proofs.YtjklnfcoaakkgaaDoor
