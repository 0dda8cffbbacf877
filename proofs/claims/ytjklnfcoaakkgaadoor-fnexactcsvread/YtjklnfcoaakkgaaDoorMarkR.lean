/- The law's marks in rows of cells that are owned; comparing rows; how many rows and cells a file has. Conditions: at most 4001 rows of at most 100 cells. -/
import Derived.Test.YtjklnfcoaakkgaaDoorMarkK
import Derived.Test.YtjklnfcoaakkgaaDoorSpecCsvR
namespace Go.Proofs.YtjklnfcoaakkgaaDoor
set_option linter.unusedVariables false
open Go.RowKit

/-- Few rows of few cells. -/
def FewR (rs : List (List ByteArray)) : Prop := rs.length ≤ 4001 ∧ ∀ xs ∈ rs, xs.length ≤ 100
theorem csv_few (s : ByteArray) (N : Nat) : ∀ (f i : Nat) (rs : List (List ByteArray)) (cs : List ByteArray), rs.length + f ≤ N → (∀ xs ∈ rs, xs.length ≤ 100) → cs.length ≤ 100 → (csvC s f i rs cs).1.length ≤ N ∧ ∀ xs ∈ (csvC s f i rs cs).1, xs.length ≤ 100
  | 0, i, rs, cs, hN, h1, h2 => by unfold csvC; exact ⟨by show rs.length ≤ N; omega, h1⟩
  | f + 1, i, rs, cs, hN, h1, h2 => by
    by_cases h100 : cs.length = 100
    · rw [csvC_many h100]; exact ⟨by show rs.length ≤ N; omega, h1⟩
    · rw [csvC_cell h100]
      cases hr : cellR s i with
      | error pc => obtain ⟨p, c⟩ := pc; rw [contC_err]; exact ⟨by show rs.length ≤ N; omega, h1⟩
      | ok xe =>
        obtain ⟨x, e⟩ := xe
        by_cases hx : 1000 < x.size
        · rw [contC_long hx]; exact ⟨by show rs.length ≤ N; omega, h1⟩
        · cases hre : rowEndR s e with
          | none => rw [contC_next hx hre]; exact csv_few s N f (e + 1) rs (cs ++ [x]) (by omega) h1 (by simp; omega)
          | some n =>
            rw [contC_row hx hre]
            have h3 : ∀ xs ∈ rs ++ [cs ++ [x]], xs.length ≤ 100 := fun xs hxs => by
              rcases List.mem_append.1 hxs with h | h
              · exact h1 xs h
              · rw [List.mem_singleton.1 h]; simp; omega
            unfold csvB
            split
            · exact csv_few s N f (e + n) _ [] (by simp; omega) h3 (by simp)
            · exact ⟨by show (rs ++ [cs ++ [x]]).length ≤ N; simp; omega, h3⟩
theorem csvFile_few (s : ByteArray) : FewR (csvFileR s).1 := by
  cases hok : fileB s with
  | false => rw [csvFile_no hok]; exact ⟨by simp, fun xs hx => by cases hx⟩
  | true =>
    rw [csvFile_yes hok]
    have hs := file_size hok
    unfold csvB
    split
    · have := csv_few s (s.size + 1) (s.size + 1) 0 [] [] (by simp) (fun xs hx => by cases hx) (by simp)
      exact ⟨by omega, this.2⟩
    · exact ⟨by simp, fun xs hx => by cases hx⟩

set_option maxHeartbeats 2000000 in
set_option maxRecDepth 100000 in
theorem eqRowsF (A A' : Option Addr) (c c' : Nat) (rs : List (List ByteArray)) (w : World) (hF : FewR rs) (hN : Rws w w.heap.size A rs) (hN' : Rws w w.heap.size A' rs) :
    Calls Tryd.prog 16 #[.slice A rs.length c, .slice A' rs.length c'] w fun e w' => e = .returned (.bool true) ∧ Below w.heap.size w w' := by
  have hl := hF.1
  have HF := Lib.hid hF.2
  clear hF
  go_enter Tryd.func16, Tryd.ntmps16
  go_wp2
  go_loopw [5] (fun i wr => ∃ k : Nat, k ≤ rs.length ∧ i = .int .i64 k ∧ Below w.heap.size w wr) (fun i _ => rs.length - (intOf i).toNat)
  case atStart => exact ⟨0, Nat.zero_le _, rfl, Below.refl _ _⟩
  case round =>
    obtain ⟨k, hk, rfl, hbel⟩ := hrel
    by_cases hlt : k < rs.length
    · obtain ⟨b, o, A1, c1, rfl, hbb, hc, hs⟩ := hN k hlt
      obtain ⟨b', o', A2, c2, rfl, hbb', hc', hs'⟩ := hN' k hlt
      have hxl := HF.out _ (List.getElem_mem hlt)
      have cE : ∀ W, Below wr.heap.size wr W → Calls Tryd.prog 35 #[.agg #[.slice A1 rs[k].length c1], .agg #[.slice A2 rs[k].length c2]] W _ := fun W hW =>
        have hB := hbel.trans (hW.mono hbel.size)
        eqRow_any A1 A2 c1 c2 rs[k] W (by omega) ((hs.below hB).up hB.size) ((hs'.below hB).up hB.size)
      have d0 := (hbel.cell (p := ⟨b, o + k, none⟩) hbb).trans hc
      have d1 := (hbel.cell (p := ⟨b', o' + k, none⟩) hbb').trans hc'
      obtain ⟨xs, hxs⟩ : ∃ xs, rs[k] = xs := ⟨_, rfl⟩
      rw [hxs] at cE d0 d1
      have hltz : (k : Int) < (rs.length : Int) := by omega
      clear hc hc' hs hs' hxl hN hN' hxs
      go_wp2
      go_region_with (go_at_call 35; with_reducible refine (cE _ (Below.refl _ _).drew).mono ?_; rintro e w2 ⟨rfl, b2⟩)
      all_goals
        have B2 : Below w.heap.size w w2 := hbel.trans ((Below.refl _ _).drew.trans (b2.mono (Nat.le_refl _)) |>.mono hbel.size)
        clear b2
        go_wp2
        go_roundw
        case rel => exact ⟨k + 1, hlt, by go_num, B2⟩
        case measure => simp [intOf]; omega
    · go_wp2
      go_ret
      exact ⟨rfl, hbel⟩

/-! ### Marks -/
def endR (rs : List (List ByteArray)) (t : Nat) : Nat := 1 + ((rs.take t).map List.length).sum
def halfR (rs : List (List ByteArray)) (j : Nat) : List (List ByteArray) := rs.mapIdx fun t xs => if t < j then markedK xs (endR rs t) xs.length else xs
theorem halfR_length (rs : List (List ByteArray)) (j : Nat) : (halfR rs j).length = rs.length := by simp [halfR]
theorem halfR_get (rs : List (List ByteArray)) (j t : Nat) (h : t < rs.length) : (halfR rs j)[t]'(by rw [halfR_length]; exact h) = if t < j then markedK rs[t] (endR rs t) rs[t].length else rs[t] := by simp [halfR]
theorem halfR_zero (rs : List (List ByteArray)) : halfR rs 0 = rs := by apply List.ext_getElem (halfR_length _ _); intro t h1 h2; rw [halfR_get _ _ _ h2]; simp
theorem endR_step {rs : List (List ByteArray)} {j : Nat} (h : j < rs.length) : endR rs (j + 1) = endR rs j + rs[j].length := by
  unfold endR
  rw [take_succ_get h, List.map_append, List.sum_append]
  simp only [List.map_cons, List.map_nil, List.sum_cons, List.sum_nil, Nat.add_zero]
  omega
theorem endR_le {rs : List (List ByteArray)} (hF : FewR rs) : ∀ t, t ≤ rs.length → endR rs t ≤ 1 + 100 * t
  | 0, _ => by simp [endR]
  | t + 1, h => by
    rw [endR_step (show t < rs.length by omega)]
    have h1 := endR_le hF t (by omega)
    have h2 := hF.2 _ (List.getElem_mem (show t < rs.length by omega))
    omega
theorem flat_apart : ∀ (xs : List Value) (b : Nat), (xs.flatMap fun x => x.ownBlock.toList).Nodup → ∀ (t j : Nat) (ht : t < xs.length) (hj : j < xs.length), t < j → xs[t].ownBlock = some b → xs[j].ownBlock = some b → False
  | [], _, _, t, _, ht, _, _, _, _ => absurd ht (by simp)
  | x :: r, b, hn, 0, j + 1, ht, hj, _, h1, h2 => by
    rw [List.flatMap_cons] at hn
    have hj' : j < r.length := by simpa using hj
    exact (List.nodup_append.1 hn).2.2 b (by simpa using h1) b (List.mem_flatMap.2 ⟨_, List.getElem_mem hj', by simpa using h2⟩) rfl
  | x :: r, b, hn, t + 1, j + 1, ht, hj, hlt, h1, h2 => by
    rw [List.flatMap_cons] at hn
    exact flat_apart r b (List.nodup_append.1 hn).2.1 t j (by simpa using ht) (by simpa using hj) (by omega) (by simpa using h1) (by simpa using h2)
  | x :: r, b, hn, t, 0, ht, hj, hlt, h1, h2 => absurd hlt (by omega)
theorem OwnR.mark {w w1 : World} {B : Nat} {nv : Value} {rs : List (List ByteArray)} {xs : List Value} {j : Nat} (h : OwnR w B nv (halfR rs j) xs) (hj : j < rs.length) (hx : j < xs.length) (hg : w.grownBy w1 (xs[j]'hx).ownBlock)
    (hr : w1.ownsRow B 9 1 (xs[j]'hx) rs[j].length ((markedK rs[j] (endR rs j) rs[j].length).map Value.string)) : OwnR w1 B nv (halfR rs (j + 1)) xs ∧ Keep (footR nv xs) w w1 := by
  have hk := Keep.ofGrown hg
  have hb : ∀ b ∈ (xs[j]'hx).ownBlock.toList, (xs[j]'hx).ownBlock = some b := fun b hb => by simpa using hb
  have hfl : (xs.flatMap fun x => x.ownBlock.toList).Nodup := by have := h.nodup; unfold footR at this; exact (List.nodup_append.1 this).2.1
  have hlen := h.len
  rw [halfR_length] at hlen
  refine ⟨⟨by rw [halfR_length]; exact hlen, ?_, fun t ht => ?_, h.nodup⟩, hk.mono fun b hm => footR_mem.2 (.inr ⟨_, List.getElem_mem hx, hb b hm⟩)⟩
  · have h1 := h.row
    rw [halfR_length] at h1 ⊢
    refine hk.row h1 fun b hbn hm => ?_
    have hnd := h.nodup
    unfold footR at hnd
    rw [hbn] at hnd
    simp only [Option.toList_some, List.cons_append, List.nil_append, List.nodup_cons] at hnd
    exact hnd.1 (List.mem_flatMap.2 ⟨_, List.getElem_mem hx, hm⟩)
  · rw [halfR_length] at ht
    rw [halfR_get _ _ _ ht]
    by_cases e : t = j
    · subst e
      rw [if_pos (by omega)]
      unfold RowC
      rw [markedK_length _ _ _ (Nat.le_refl _)]
      exact hr
    · have h1 := h.sub t (by rw [halfR_length]; exact ht)
      rw [halfR_get _ _ _ ht] at h1
      have e2 : (if t < j + 1 then markedK rs[t] (endR rs t) rs[t].length else rs[t]) = if t < j then markedK rs[t] (endR rs t) rs[t].length else rs[t] := by
        by_cases q : t < j
        · rw [if_pos q, if_pos (by omega)]
        · rw [if_neg q, if_neg (by omega)]
      rw [e2]
      refine hk.row h1 fun b hbt hm => ?_
      rcases Nat.lt_or_gt_of_ne e with q | q
      · exact flat_apart xs b hfl t j (by omega) hx q hbt (hb b hm)
      · exact flat_apart xs b hfl j t hx (by omega) q (hb b hm) hbt

def MRel (rs : List (List ByteArray)) (B : Nat) (nv : Value) (xs : List Value) (w : World) (kv i : Value) (wr : World) : Prop :=
  ∃ j : Nat, j ≤ rs.length ∧ i = .int .i64 j ∧ kv = .int .i64 (endR rs j : Nat) ∧ OwnR wr B nv (halfR rs j) xs ∧ Keep (footR nv xs) w wr

set_option maxHeartbeats 4000000 in
set_option maxRecDepth 100000 in
theorem markRows_any (B : Nat) (nv : Value) (rs : List (List ByteArray)) (xs : List Value) (w : World) (hF : FewR rs) (hB : B ≤ w.heap.size) (h : OwnR w B nv rs xs) :
    Calls Tryd.prog 17 #[nv, .int .i64 1] w fun e w' => e = .returned (.int .i64 (endR rs rs.length : Nat)) ∧ OwnR w' B nv (halfR rs rs.length) xs ∧ Keep (footR nv xs) w w' := by
  obtain ⟨A, c, rfl⟩ := own_form h.row
  have hl := hF.1
  have HF := Lib.hid hF
  have HO := Lib.hid h
  clear hF h
  go_enter Tryd.func17, Tryd.ntmps17
  go_wp2
  go_loopw [1, 5] (MRel rs B (.slice A rs.length c) xs w) (fun _ i _ => rs.length - (intOf i).toNat)
  case atStart => exact ⟨0, Nat.zero_le _, rfl, rfl, by rw [halfR_zero]; exact HO.out, Keep.refl _ _⟩
  case round =>
    obtain ⟨j, hj, rfl, rfl, hO, hk⟩ := hrel
    clear HO
    by_cases hlt : j < rs.length
    · have hx : j < xs.length := by have := hO.len; rw [halfR_length] at this; omega
      obtain ⟨g, rfl⟩ : ∃ g, A = some ⟨g, 0, none⟩ := by
        rcases hO.row.2 with ⟨_, h0⟩ | ⟨g, cap, cur, hv, _⟩
        · rw [halfR_length] at h0; omega
        · injection hv with hA; exact ⟨g, hA⟩
      have hc := hO.row.cells (g := g) rfl j _ (List.getElem?_eq_getElem hx)
      rw [Addr.add_lit, Nat.zero_add] at hc
      have hsub := hO.sub j (by rw [halfR_length]; exact hlt)
      rw [halfR_get _ _ _ hlt, if_neg (by omega)] at hsub
      obtain ⟨A2, c2, e2⟩ := own_form hsub
      have hel := endR_le HF.out j (by omega)
      have hrl := HF.out.2 _ (List.getElem_mem hlt)
      have hst := endR_step hlt
      have cM := markStrsK (endR rs j) B A2 c2 rs[j] wr (by unfold endR; omega) (by omega) (Nat.le_trans hB hk.size) (by rw [← e2]; exact hsub)
      rw [e2] at hc
      have HU : Hid (∀ w1, wr.grownBy w1 (Value.ownBlock (.slice A2 rs[j].length c2)) → w1.ownsRow B 9 1 (.slice A2 rs[j].length c2) rs[j].length ((markedK rs[j] (endR rs j) rs[j].length).map Value.string) → OwnR w1 B (.slice (some ⟨g, 0, none⟩) rs.length c) (halfR rs (j + 1)) xs ∧ Keep (footR (.slice (some ⟨g, 0, none⟩) rs.length c) xs) wr w1) := fun w1 h1 h2 => hO.mark hlt hx (by rw [e2]; exact h1) (by rw [e2]; exact h2)
      obtain ⟨q, hq⟩ : ∃ q, endR rs j = q := ⟨_, rfl⟩
      obtain ⟨m, hm⟩ : ∃ m, rs[j] = m := ⟨_, rfl⟩
      rw [hq] at cM hst HU ⊢
      rw [hm] at cM hst hc HU
      have HST := Lib.hid hst
      have HK := Lib.hid hk
      have hltz : (j : Int) < (rs.length : Int) := by omega
      clear hO hsub e2 hel hrl hst hk hq hm
      go_wp2_with (go_at_call 36; refine cM.mono ?_; rintro e w1 ⟨rfl, r1, g1⟩; have HH := Lib.hid (HU.out w1 g1 r1); clear r1 g1)
      go_roundw
      case rel => exact ⟨j + 1, hlt, by go_num, by rw [HST.out] <;> first | rfl | go_num, HH.out.1, HK.out.tr HH.out.2⟩
      case measure => simp [intOf]; omega
    · obtain rfl : j = rs.length := by omega
      have HO := Lib.hid hO
      have HK := Lib.hid hk
      clear hO hk
      go_wp2
      go_ret
      exact ⟨rfl, HO.out, HK.out⟩

set_option maxHeartbeats 4000000 in
set_option maxRecDepth 100000 in
theorem heldRows_any (A : Option Addr) (c : Nat) (rs : List (List ByteArray)) (w : World) (hF : FewR rs) (hN : Rws w w.heap.size A (halfR rs rs.length)) :
    Calls Tryd.prog 18 #[.slice A rs.length c, .int .i64 1] w fun e w' => e = .returned (.int .i64 (endR rs rs.length : Nat)) ∧ Below w.heap.size w w' := by
  have hl := hF.1
  have HF := Lib.hid hF
  have HN := Lib.hid hN
  clear hF hN
  go_enter Tryd.func18, Tryd.ntmps18
  go_wp2
  go_loopw [1, 5] (fun v i wr => ∃ j q : Nat, j ≤ rs.length ∧ i = .int .i64 j ∧ v = .int .i64 q ∧ Hid (endR rs j = q) ∧ Below w.heap.size w wr) (fun _ i _ => rs.length - (intOf i).toNat)
  case atStart => exact ⟨0, 1, Nat.zero_le _, rfl, rfl, rfl, Below.refl _ _⟩
  case round =>
    obtain ⟨j, q, hj, rfl, rfl, hq, hbel⟩ := hrel
    by_cases hlt : j < rs.length
    · obtain ⟨b, o, A2, c2, rfl, hb, hc0, hs⟩ := HN.out j (by rw [halfR_length]; exact hlt)
      rw [halfR_get _ _ _ hlt, if_pos hlt] at hc0 hs
      rw [markedK_length _ _ _ (Nat.le_refl _)] at hc0
      have hel := endR_le HF.out j (by omega)
      have hrl := HF.out.2 _ (List.getElem_mem hlt)
      have hst := endR_step hlt
      have cM := heldStrsK (endR rs j) A2 c2 rs[j] wr (by unfold endR; omega) (by omega) ((hs.below hbel).up hbel.size)
      have hc := (hbel.cell (p := ⟨b, o + j, none⟩) hb).trans hc0
      rw [hq.out] at cM hst
      obtain ⟨m, hm⟩ : ∃ m, rs[j] = m := ⟨_, rfl⟩
      rw [hm] at cM hst hc
      have HST := Lib.hid hst
      have HB := Lib.hid hbel
      have hz := hbel.size
      have hltz : (j : Int) < (rs.length : Int) := by omega
      have hp : ¬ ((q + m.length : Nat) : Int) < 0 := by omega
      clear hc0 hs hel hrl hst hm hbel
      go_wp2_with (go_at_call 37; refine cM.mono ?_; rintro e w1 ⟨rfl, b1⟩; have HB1 := Lib.hid (HB.out.trans (b1.mono hz)); clear b1)
      go_roundw
      case rel => exact ⟨j + 1, q + m.length, hlt, by go_num, rfl, HST.out, HB1.out⟩
      case measure => simp [intOf]; omega
    · obtain rfl : j = rs.length := by omega
      go_wp2
      go_ret
      exact ⟨by rw [hq.out] <;> rfl, hbel⟩

end Go.Proofs.YtjklnfcoaakkgaaDoor
