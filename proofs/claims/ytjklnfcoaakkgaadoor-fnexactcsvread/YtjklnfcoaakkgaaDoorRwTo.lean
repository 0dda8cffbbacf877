/- The law's copying and comparing of rows of cells. Conditions: at most 1048576 elements in all. -/
import Derived.Test.YtjklnfcoaakkgaaDoorRwMem
namespace Go.Proofs.YtjklnfcoaakkgaaDoor
set_option linter.unusedVariables false
open Go.RowKit

/-- An address that lies at block L or behind it. -/
def FromS (A : Option Addr) (L : Nat) : Prop := ∀ a, A = some a → L ≤ a.block
theorem FromS.le {A : Option Addr} {L L' : Nat} (h : FromS A L) (hl : L' ≤ L) : FromS A L' := fun a e => Nat.le_trans hl (h a e)
theorem Strs.keepIn {w w' : World} {L B B' : Nat} {A : Option Addr} {xs : List ByteArray} (h : Strs w B A xs) (hf : FromS A L) (hB : B ≤ B') (hk : ∀ b, L ≤ b → b < B → w'.heap[b]? = w.heap[b]?) : Strs w' B' A xs := fun j hj => by
  obtain ⟨b, o, e, hb, hc⟩ := h j hj
  exact ⟨b, o, e, by omega, (World.cell?_of_block (a := ⟨b, o + j, none⟩) (hk b (hf _ e) hb)).trans hc⟩

theorem Tryd.infoRow : (Tryd.prog.info? 46).map (fun i => (i.zero, i.size, i.bytes)) = some (some (.agg #[.slice none 0 0]), 1, 24) := by kernel_rfl

/-- Rows k of the copies stand: each cell of block g holds a slice that reads as the row, at blocks behind g. -/
def RowsUpTo (w : World) (g : Nat) (rs : List (List ByteArray)) (k : Nat) : Prop :=
  ∀ j, (h : j < rs.length) → j < k → ∃ A' c', w.cell? ⟨g, j, none⟩ = some (.slice A' rs[j].length c') ∧ FromS A' (g + 1) ∧ Strs w w.heap.size A' rs[j]

def RtRel (g : Nat) (rs : List (List ByteArray)) (w : World) (i : Value) (wr : World) : Prop :=
  ∃ k : Nat, k ≤ rs.length ∧ i = .int .i64 k ∧ (∃ cur : Array Value, wr.heap[g]? = some (.cells cur 46 (0, 0)) ∧ cur.size = rs.length) ∧ RowsUpTo wr g rs k ∧ Below w.heap.size w wr

section
variable (w : World) (a b c : Obj)
theorem size_alloc1 (w : World) (a : Obj) : (w.alloc a).heap.size = w.heap.size + 1 := by show (w.heap.push a).size = _; simp
theorem size_alloc3 : (((w.alloc a).alloc b).alloc c).heap.size = w.heap.size + 3 := by rw [size_alloc1, size_alloc1, size_alloc1]
theorem alloc3_at1 : (((w.alloc a).alloc b).alloc c).heap[w.heap.size + 1]? = some b := by
  rw [Below.heap_alloc _ _ _ (by rw [size_alloc1, size_alloc1]; omega)]
  have := heap_alloc_new (w.alloc a) b
  rwa [size_alloc1] at this
theorem alloc3_at2 : (((w.alloc a).alloc b).alloc c).heap[w.heap.size + 2]? = some c := by
  have := heap_alloc_new ((w.alloc a).alloc b) c
  rwa [size_alloc1, size_alloc1] at this
theorem below_alloc3 : Below w.heap.size w (((w.alloc a).alloc b).alloc c) := (((Below.refl _ _).alloc (Nat.le_refl _) _).alloc (by simp) _).alloc (by simp; omega) _
theorem below_alloc2 : Below w.heap.size w ((w.alloc a).alloc b) := ((Below.refl _ _).alloc (Nat.le_refl _) _).alloc (by simp) _
end
theorem size_setCell (w : World) (a : Addr) (v : Value) : (w.setCell a v).heap.size = w.heap.size := by simp [World.setCell]

set_option maxHeartbeats 2000000 in
set_option maxRecDepth 100000 in
theorem toRow_any (A : Option Addr) (c : Nat) (xs : List ByteArray) (w : World) (hlen : xs.length ≤ 1048576) (hN : Strs w w.heap.size A xs) :
    Calls Tryd.prog 39 #[.agg #[.slice A xs.length c]] w fun e w' => ∃ A' c', e = .returned (.agg #[.slice A' xs.length c']) ∧ FromS A' w.heap.size ∧ Strs w' w'.heap.size A' xs ∧ Below w.heap.size w w' := by
  have HN := Lib.hid hN
  clear hN
  go_enter Tryd.func39, Tryd.ntmps39
  go_wp2_with fail
  refine (toStrs_any A c xs _ hlen (HN.out.on (below_alloc3 w _ _ _))).mono ?_
  rintro e w1 ⟨rfl, ho, b1⟩
  have B1 : Below w.heap.size w w1 := (below_alloc3 w _ _ _).trans (b1.mono (by simp; omega))
  have z1 := b1.size
  rw [size_alloc3] at z1
  have X1 : w1.heap[w.heap.size + 1]? = some (.cells #[.slice none 0 0] 46 (0, 0)) := (b1.block _ (by simp)).trans (alloc3_at1 w _ _ _)
  have X2 : w1.heap[w.heap.size + 2]? = some (.cells #[.slice none 0 0] 46 (0, 0)) := (b1.block _ (by simp)).trans (alloc3_at2 w _ _ _)
  have N1 := Strs.own ho
  rw [size_alloc3] at N1
  have x1 : w1.cell? ⟨w.heap.size + 1, 0, none⟩ = some (.slice none 0 0) := by rw [cell_of_row _ _ _ _ _ _ X1]; rfl
  have x2 : w1.cell? ⟨w.heap.size + 2, 0, none⟩ = some (.slice none 0 0) := by rw [cell_of_row _ _ _ _ _ _ X2]; rfl
  have f1 := frozen_of_row w1 (w.heap.size + 1) 0 _ _ X1
  have f2 := frozen_of_row w1 (w.heap.size + 2) 0 _ _ X2
  have HX1 := Lib.hid X1
  have HN1 := Lib.hid N1
  have HB := Lib.hid B1
  have hF : FromS (some ⟨w.heap.size + 3, 0, none⟩) (w.heap.size + 3) := fun a e => by injection e with e; subst e; exact Nat.le_refl _
  have HF := Lib.hid hF
  clear X1 X2 N1 B1 b1 ho hF
  rw [size_alloc3]
  go_wp2
  refine bodyPost_ret (v := .agg #[.slice (some ⟨w.heap.size + 3, 0, none⟩) xs.length xs.length]) ?_ rfl ?_
  · have h1 : (w1.setCell ⟨w.heap.size + 2, 0, none⟩ (.slice (some ⟨w.heap.size + 3, 0, none⟩) xs.length xs.length)).heap[w.heap.size + 1]? = _ := (Below.heap_setCell _ _ _ _ (by show w.heap.size + 1 ≠ w.heap.size + 2; omega)).trans HX1.out
    have h2 := heap_setCell_same _ (w.heap.size + 1) 0 _ _ (.slice (some ⟨w.heap.size + 3, 0, none⟩) xs.length xs.length) h1
    exact results_cell_row Tryd.results39 _ _ (w.heap.size + 1) _ #[.slice (some ⟨w.heap.size + 3, 0, none⟩) xs.length xs.length] _ _ rfl h2 Tryd.underlying46 rfl (by kernel_rfl)
  · refine ⟨some ⟨w.heap.size + 3, 0, none⟩, xs.length, rfl, HF.out.le (by omega), ?_, (HB.out.setCell (p := ⟨w.heap.size + 2, 0, none⟩) (by simp) _).setCell (p := ⟨w.heap.size + 1, 0, none⟩) (by simp) _⟩
    exact HN1.out.keepIn HF.out (by simp only [size_setCell]; exact Nat.le_refl _) fun b hb hlt => by
      rw [Below.heap_setCell _ _ _ _ (by show b ≠ w.heap.size + 1; omega), Below.heap_setCell _ _ _ _ (by show b ≠ w.heap.size + 2; omega)]

set_option maxHeartbeats 2000000 in
set_option maxRecDepth 100000 in
theorem toRows_any (A : Option Addr) (c : Nat) (rs : List (List ByteArray)) (w : World) (hlen : rs.length + needsR rs ≤ 1048576) (hN : Rws w w.heap.size A rs) :
    Calls Tryd.prog 20 #[.slice A rs.length c] w fun e w' => ∃ A' c', e = .returned (.slice A' rs.length c') ∧ Rws w' w'.heap.size A' rs ∧ Below w.heap.size w w' := by
  obtain ⟨i0, hi, hz0, hz1, hz2⟩ := info_parts Tryd.infoRow
  have HN := Lib.hid hN
  clear hN
  go_enter Tryd.func20, Tryd.ntmps20
  go_wp2_with (at_make; refine wpList_make_full _ rfl _ _ 24 rfl w.heap.size 46 i0 _ 1 Tryd.underlying24 hi hz0 hz1 _ _ _ _ rs.length rfl rfl rfl rfl (by rw [hz2]; omega) (by unfold maxLen; omega) (Nat.le_refl _) ?_; intro w0 hown0 hgrow0)
  have hb0 : Below w.heap.size w w0 := (Below.refl _ _).grown hgrow0 (Nat.le_refl _) (fun k h => by cases h)
  have hc0 : ∃ cur : Array Value, w0.heap[w.heap.size]? = some (.cells cur 46 (0, 0)) ∧ cur.size = rs.length := by
    rcases hown0.2 with ⟨h, _⟩ | ⟨g, cap, cur, hv, _, hg, _, _, hs, _⟩
    · cases h
    · injection hv with h1 h2 h3
      injection h1 with h1
      injection h1 with h1
      subst h1 h3
      exact ⟨cur, hg, by rw [hs, Nat.mul_one]⟩
  clear hown0 hgrow0
  have HC := Lib.hid hc0
  clear hc0
  go_wp2
  go_loopw [4] (RtRel w.heap.size rs w) (fun i _ => rs.length - (intOf i).toNat)
  case atStart => exact ⟨0, Nat.zero_le _, rfl, HC.out, fun j hj h0 => absurd h0 (by omega), hb0⟩
  case round =>
    obtain ⟨k, hk, rfl, ⟨cur, hcur, hsz⟩, hrow, hbel⟩ := hrel
    clear hb0 HC
    by_cases hlt : k < rs.length
    · obtain ⟨b, o, A1, c1, rfl, hbb, hc, hs⟩ := HN.out k hlt
      have hcr := (hbel.cell (p := ⟨b, o + k, none⟩) hbb).trans hc
      have hbk : needR rs[k] ≤ needsR rs := needsR_one hlt
      have hxl : rs[k].length ≤ needR rs[k] := by unfold needR; omega
      have cN := toRow_any A1 c1 rs[k] wr (by omega) ((hs.below hbel).up hbel.size)
      obtain ⟨xs, hxs⟩ : ∃ xs, rs[k] = xs := ⟨_, rfl⟩
      rw [hxs] at hcr cN
      have HD := Lib.hid hxs
      have HR := Lib.hid hrow
      have HU := Lib.hid hcur
      have hgl : w.heap.size < wr.heap.size := (Array.getElem?_eq_some_iff.1 hcur).1
      clear hc hs hxs hbk hxl hrow hcur
      go_wp2_with fail
      refine cN.mono ?_
      rintro e w2 ⟨A2, c2, rfl, F2, N2, b2⟩
      have hcur2 := (b2.block _ hgl).trans HU.out
      have B2 : Below w.heap.size w w2 := hbel.trans (b2.mono hbel.size)
      have z2 := b2.size
      obtain ⟨x0, e0⟩ : ∃ u, w2.cell? ⟨w.heap.size, k, none⟩ = some u := by
        rw [cell_of_row _ _ _ _ _ _ hcur2]
        exact ⟨_, Array.getElem?_eq_getElem (by omega)⟩
      have hf : w2.frozen? ⟨w.heap.size, k, none⟩ = false := frozen_of_row w2 w.heap.size k _ _ hcur2
      have HU2 := Lib.hid hcur2
      have HB2 := Lib.hid B2
      have HF2 := Lib.hid F2
      have HN2 := Lib.hid N2
      have HB := Lib.hid b2
      clear cN HU hcur2 B2 F2 N2 b2 hbel
      go_wp2
      go_roundw
      case rel =>
        have keep : ∀ b, w.heap.size + 1 ≤ b → b < w2.heap.size → (w2.setCell ⟨w.heap.size, k, none⟩ (.slice A2 xs.length c2)).heap[b]? = w2.heap[b]? := fun b h1 _ => Below.heap_setCell _ _ _ _ (by show b ≠ w.heap.size; omega)
        refine ⟨k + 1, hlt, by go_num, ⟨_, heap_setCell_same _ _ _ _ _ _ HU2.out, by simp [hsz]⟩, fun j hj hl => ?_, HB2.out.setCell (p := ⟨w.heap.size, k, none⟩) (Nat.le_refl _) _⟩
        by_cases hjk : j = k
        · subst hjk
          rw [HD.out]
          refine ⟨A2, c2, ?_, HF2.out.le (by omega), HN2.out.keepIn (HF2.out.le (by omega)) (by simp only [size_setCell]; exact Nat.le_refl _) keep⟩
          rw [cell_of_row _ _ _ _ _ _ (heap_setCell_same _ _ _ _ _ _ HU2.out)]
          simp [show j < cur.size by omega]
        · obtain ⟨A3, c3, h1, h2, h3⟩ := HR.out j hj (by omega)
          refine ⟨A3, c3, ?_, h2, ((h3.below HB.out).up HB.out.size).keepIn h2 (by simp only [size_setCell]; exact Nat.le_refl _) keep⟩
          rw [World.cell?_setCell_other w2 _ (a := ⟨w.heap.size, k, none⟩) (b := ⟨w.heap.size, j, none⟩) (fun e => hjk (congrArg Addr.off e).symm)]
          exact (HB.out.cell (p := ⟨w.heap.size, j, none⟩) hgl).trans h1
      case measure => simp [intOf]; omega
    · obtain rfl : k = rs.length := by omega
      have HR := Lib.hid hrow
      have hgl : w.heap.size < wr.heap.size := (Array.getElem?_eq_some_iff.1 hcur).1
      clear hrow hcur
      go_wp2
      go_ret
      refine ⟨some ⟨w.heap.size, 0, none⟩, rs.length, rfl, fun j hj => ?_, hbel⟩
      obtain ⟨A3, c3, h1, h2, h3⟩ := HR.out j hj hj
      exact ⟨w.heap.size, 0, A3, c3, rfl, hgl, by rw [Nat.zero_add]; exact h1, h3⟩

set_option maxHeartbeats 2000000 in
set_option maxRecDepth 100000 in
theorem eqRow_any (A A' : Option Addr) (c c' : Nat) (xs : List ByteArray) (w : World) (hlen : xs.length ≤ 1048576) (h1 : Strs w w.heap.size A xs) (h2 : Strs w w.heap.size A' xs) :
    Calls Tryd.prog 35 #[.agg #[.slice A xs.length c], .agg #[.slice A' xs.length c']] w fun e w' => e = .returned (.bool true) ∧ Below w.heap.size w w' := by
  have HS := Lib.hid (And.intro h1 h2)
  clear h1 h2
  go_enter Tryd.func35, Tryd.ntmps35
  go_wp2_with fail
  refine (eqStrs_any _ _ _ _ xs _ hlen (HS.out.1.on (below_alloc2 w _ _)) (HS.out.2.on (below_alloc2 w _ _))).mono ?_
  rintro e w1 ⟨rfl, b1⟩
  have B1 : Below w.heap.size w w1 := (below_alloc2 w _ _).trans (b1.mono (by simp; omega))
  clear b1
  go_wp2
  go_ret
  exact ⟨rfl, B1⟩

set_option maxHeartbeats 2000000 in
set_option maxRecDepth 100000 in
theorem eqRows_any (A A' : Option Addr) (c c' : Nat) (rs : List (List ByteArray)) (w : World) (hlen : rs.length + needsR rs ≤ 1048576) (hN : Rws w w.heap.size A rs) (hN' : Rws w w.heap.size A' rs) :
    Calls Tryd.prog 16 #[.slice A rs.length c, .slice A' rs.length c'] w fun e w' => e = .returned (.bool true) ∧ Below w.heap.size w w' := by
  go_enter Tryd.func16, Tryd.ntmps16
  go_wp2
  go_loopw [5] (fun i wr => ∃ k : Nat, k ≤ rs.length ∧ i = .int .i64 k ∧ Below w.heap.size w wr) (fun i _ => rs.length - (intOf i).toNat)
  case atStart => exact ⟨0, Nat.zero_le _, rfl, Below.refl _ _⟩
  case round =>
    obtain ⟨k, hk, rfl, hbel⟩ := hrel
    by_cases hlt : k < rs.length
    · obtain ⟨b, o, A1, c1, rfl, hbb, hc, hs⟩ := hN k hlt
      obtain ⟨b', o', A2, c2, rfl, hbb', hc', hs'⟩ := hN' k hlt
      have hbk : needR rs[k] ≤ needsR rs := needsR_one hlt
      have hxl : rs[k].length ≤ needR rs[k] := by unfold needR; omega
      have cE : ∀ W, Below wr.heap.size wr W → Calls Tryd.prog 35 #[.agg #[.slice A1 rs[k].length c1], .agg #[.slice A2 rs[k].length c2]] W _ := fun W hW =>
        have hB := hbel.trans (hW.mono hbel.size)
        eqRow_any A1 A2 c1 c2 rs[k] W (by omega) ((hs.below hB).up hB.size) ((hs'.below hB).up hB.size)
      have d0 := (hbel.cell (p := ⟨b, o + k, none⟩) hbb).trans hc
      have d1 := (hbel.cell (p := ⟨b', o' + k, none⟩) hbb').trans hc'
      obtain ⟨xs, hxs⟩ : ∃ xs, rs[k] = xs := ⟨_, rfl⟩
      rw [hxs] at cE d0 d1
      have hltz : (k : Int) < (rs.length : Int) := by omega
      clear hc hc' hs hs' hbk hxl hN hN' hxs
      go_wp2
      go_region_with (go_at_call 35; with_reducible refine (cE _ (Below.refl _ _).drew).mono ?_; rintro e w2 ⟨rfl, b2⟩)
      all_goals
        have B2 : Below w.heap.size w w2 := hbel.trans ((Below.refl _ _).drew.trans (b2.mono (Nat.le_refl _)) |>.mono hbel.size)
        clear b2
        go_wp2
        go_roundw
        case rel => exact ⟨k + 1, hlt, by go_num, B2⟩
        case measure => simp [intOf]; omega
    · go_wp2
      go_ret
      exact ⟨rfl, hbel⟩

end Go.Proofs.YtjklnfcoaakkgaaDoor
