/- Lists of strings in memory: a slice value that reads as a list of strings, and the law's own helpers over such lists. Conditions: at most 1048576 elements. -/
import Derived.Test.YtjklnfcoaakkgaaDoorRows
import Derived.Test.YtjklnfcoaakkgaaDoorMem
import Derived.Test.YtjklnfcoaakkgaaDoorSpecRunesA
import Derived.Deep.QuietTactic
import Derived.Deep.RegionWith
import Derived.BigQuiet
import Derived.Lib.Hide
import Derived.IntWalk
namespace Go.Proofs.YtjklnfcoaakkgaaDoor
set_option linter.unusedVariables false
open Go.RowKit

/-- A slice value at address A with as many elements as xs: each of them reads as xs says, in a block below B. -/
def Strs (w : World) (B : Nat) (A : Option Addr) (xs : List ByteArray) : Prop :=
  ∀ j, (h : j < xs.length) → ∃ b o, A = some ⟨b, o, none⟩ ∧ b < B ∧ w.cell? ⟨b, o + j, none⟩ = some (.string xs[j])
theorem Strs.move {w w' : World} {B B' : Nat} {A : Option Addr} {xs : List ByteArray} (h : Strs w B A xs) (hB : B ≤ B') (hk : ∀ p : Addr, p.block < B → w'.cell? p = w.cell? p) : Strs w' B' A xs := fun j hj => by
  obtain ⟨b, o, e, hb, hc⟩ := h j hj
  exact ⟨b, o, e, by omega, (hk ⟨b, o + j, none⟩ hb).trans hc⟩
theorem Strs.below {w w' : World} {B : Nat} {A : Option Addr} {xs : List ByteArray} (h : Strs w B A xs) (hb : Below B w w') : Strs w' B A xs := h.move (Nat.le_refl _) fun _ hp => hb.cell hp
theorem Strs.up {w : World} {B B' : Nat} {A : Option Addr} {xs : List ByteArray} (h : Strs w B A xs) (hB : B ≤ B') : Strs w B' A xs := h.move hB fun _ _ => rfl
theorem Strs.own {w : World} {base : Nat} {e : TypeId} {A : Option Addr} {n c : Nat} {xs : List ByteArray} (h : w.ownsRow base e 1 (.slice A n c) n (xs.map Value.string)) : Strs w w.heap.size A xs := fun j hj => by
  have hl : xs.length = n := by have := h.1; simpa using this
  rcases h.2 with ⟨_, h0⟩ | ⟨g, cap, cur, hv, hb, hg, _⟩
  · omega
  · injection hv with hA _ _
    subst hA
    have hlt : g < w.heap.size := (Array.getElem?_eq_some_iff.1 hg).1
    refine ⟨g, 0, rfl, hlt, ?_⟩
    have := h.cells (g := g) rfl j (.string xs[j]) (by simp [hj])
    simpa [Addr.add_lit] using this

theorem drewS {B : Nat} {w w1 : World} (h : Below B w w1) : Below B w w1.drew := ⟨h.os, h.tape, h.output, h.size, h.block⟩

/-- A list of strings in new memory. -/
def StrsAre (l : List ByteArray) (w : World) (e : Ending) (w' : World) : Prop :=
  ∃ v, e = .returned v ∧ w'.ownsRow w.heap.size 9 1 v l.length (l.map Value.string) ∧ Below w.heap.size w w'

set_option maxHeartbeats 1000000 in
set_option maxRecDepth 100000 in
theorem eqStrs_any (A B : Option Addr) (c d : Nat) (xs : List ByteArray) (w : World) (hlen : xs.length ≤ 1048576) (hA : Strs w w.heap.size A xs) (hB : Strs w w.heap.size B xs) :
    Calls Tryd.prog 57 #[.slice A xs.length c, .slice B xs.length d] w fun e w' => e = .returned (.bool true) ∧ Below w.heap.size w w' := by
  go_enter Tryd.func57, Tryd.ntmps57
  go_wp2
  go_loopw [5] (fun i wr => ∃ k : Nat, k ≤ xs.length ∧ i = .int .i64 k ∧ Below w.heap.size w wr) (fun i _ => xs.length - (intOf i).toNat)
  case atStart => exact ⟨0, Nat.zero_le _, rfl, Below.refl _ _⟩
  case round =>
    obtain ⟨k, hk, rfl, hbel⟩ := hrel
    by_cases hlt : k < xs.length
    · obtain ⟨b, o, rfl, hb, hc⟩ := hA k hlt
      obtain ⟨b', o', rfl, hb', hc'⟩ := hB k hlt
      have hcr : wr.cell? ⟨b, o + k, none⟩ = some (.string xs[k]) := (hbel.cell (p := ⟨b, o + k, none⟩) hb).trans hc
      have hcr' : wr.cell? ⟨b', o' + k, none⟩ = some (.string xs[k]) := (hbel.cell (p := ⟨b', o' + k, none⟩) hb').trans hc'
      have hltz : (k : Int) < (xs.length : Int) := by omega
      clear hc hc' hA hB
      go_wp2
      go_quiet (fail)
      go_wp2
      go_roundw
      case rel => exact ⟨k + 1, hlt, by go_num, belowDrewN hbel _⟩
      case measure => simp [intOf]; omega
    · go_wp2
      go_ret
      exact ⟨rfl, hbel⟩

/-! ### What the law writes -/
/-- The digits of a number, none for 0. -/
def digB (n : Nat) : List UInt8 := if h : n = 0 then [] else digB (n / 10) ++ [UInt8.ofNat (48 + n % 10)]
termination_by n
decreasing_by omega
theorem digB_zero : digB 0 = [] := by rw [digB, dif_pos rfl]
theorem digB_step {n : Nat} (h : n ≠ 0) : digB n = digB (n / 10) ++ [UInt8.ofNat (48 + n % 10)] := by rw [digB, dif_neg h]
theorem digB_len : ∀ (f n : Nat), n ≤ f → (digB n).length ≤ n
  | _, 0, h => by rw [digB_zero]; simp
  | f + 1, n + 1, h => by
    rw [digB_step (by omega)]
    have := digB_len f ((n + 1) / 10) (by omega)
    simp
    omega
/-- The mark of a number. -/
def markB (k : Nat) : ByteArray := ⟨(109 :: digB k).toArray⟩
/-- What a marked list holds behind k of its places. -/
def markedS (xs : List ByteArray) (k : Nat) : List ByteArray := (List.range k).map (fun j : Nat => markB (j + 1)) ++ xs.drop k
theorem markedS_length (xs : List ByteArray) (k : Nat) (h : k ≤ xs.length) : (markedS xs k).length = xs.length := by simp [markedS]; omega
theorem markedS_step (xs : List ByteArray) (k : Nat) (h : k < xs.length) :
    ((markedS xs k).map Value.string).set k (.string (markB (k + 1))) = (markedS xs (k + 1)).map Value.string := by
  apply List.ext_getElem?
  intro j
  simp only [markedS, List.getElem?_set, List.getElem?_map, List.getElem?_append, List.length_map, List.length_append, List.length_range, List.length_drop, List.getElem?_drop]
  by_cases h1 : k = j
  · subst h1
    simp [show k < k + (xs.length - k) by omega]
  · rcases Nat.lt_or_gt_of_ne h1 with h2 | h2
    · simp [h1, show ¬ j < k by omega, show ¬ j < k + 1 by omega, show k + (j - k) = j by omega, show k + 1 + (j - (k + 1)) = j by omega]
    · simp [h1, h2, show j < k + 1 by omega]

set_option maxHeartbeats 2000000 in
set_option maxRecDepth 100000 in
theorem markText_any (k : Nat) (w : World) (h0 : 0 < k) (hk : k ≤ 1048577) : Calls Tryd.prog 58 #[.int .i64 k] w fun e w' => e = .returned (.string (markB k)) ∧ Below w.heap.size w w' := by
  have hk0 : (0 : Int) < (k : Int) := by omega
  go_enter Tryd.func58, Tryd.ntmps58
  go_wp2
  go_loopw [0, 3] (fun n o wr => ∃ (m : Nat) (u : ByteArray), n = .int .i64 m ∧ m ≤ k ∧ o = .string u ∧ Hid (digB m ++ u.data.toList = digB k) ∧ u.size + m ≤ 1048577 ∧ Below w.heap.size w wr) (fun n _ _ => (intOf n).toNat)
  case atStart => exact ⟨k, ⟨#[]⟩, rfl, Nat.le_refl _, rfl, by show _ = _; simp, by show 0 + k ≤ _; omega, Below.refl _ _⟩
  case round =>
    obtain ⟨m, u, rfl, hm, rfl, hd, hz, hbel⟩ := hrel
    by_cases hlt : 0 < m
    · have hmz : (0 : Int) < (m : Int) := by omega
      have hq : (m : Int).tdiv 10 = ((m / 10 : Nat) : Int) := by rw [Int.tdiv_eq_ediv_of_nonneg (by omega)]; rfl
      have hr : (m : Int).tmod 10 = ((m % 10 : Nat) : Int) := by rw [Int.tmod_eq_emod_of_nonneg (by omega)]; rfl
      obtain ⟨d, hdd⟩ : ∃ d, m % 10 = d := ⟨_, rfl⟩
      obtain ⟨q, hqq⟩ : ∃ q, m / 10 = q := ⟨_, rfl⟩
      rw [hdd] at hr
      rw [hqq] at hq
      have hd10 : d < 10 := by omega
      obtain ⟨y, hy⟩ : ∃ y : UInt8, UInt8.ofNat (48 + d) = y := ⟨_, rfl⟩
      have hyn : 48 + (d : Int) = (y.toNat : Int) := by rw [← hy]; simp; omega
      have hcv : (convert 22 9 (.slice (some ⟨wr.heap.size, 0, none⟩) 1 1)).run Tryd.prog (wr.alloc (.cells #[.int .u8 (y.toNat : Int)] 5)) = .ok (.string ⟨[y].toArray⟩) (wr.alloc (.cells #[.int .u8 (y.toNat : Int)] 5)) := by
        refine run_convert_bytes_back _ 22 9 5 ⟨wr.heap.size, 0, none⟩ 1 [y] Tryd.underlying22 Tryd.underlying5 Tryd.underlying9 fun j hj => ?_
        obtain rfl : j = 0 := by simp at hj; omega
        rw [Addr.add_lit, cell_of_row _ wr.heap.size _ _ _ (0, 0) (heap_alloc_new wr _)]
        rfl
      have hs1 : (⟨[y].toArray⟩ : ByteArray).size = 1 := rfl
      have HD : Hid (digB q ++ (((⟨[y].toArray⟩ : ByteArray) ++ u).data.toList) = digB k) := by
        show _ = _
        rw [← hd.out, digB_step (show m ≠ 0 by omega), hqq, hdd, hy, List.append_assoc]
        congr 1
      obtain ⟨x, hx⟩ : ∃ x : ByteArray, (⟨[y].toArray⟩ : ByteArray) ++ u = x := ⟨_, rfl⟩
      rw [hx] at HD
      have hxz : x.size = 1 + u.size := by rw [← hx]; exact ByteArray.size_append
      have hb := hbel.alloc hbel.size (.cells #[.int .u8 (y.toNat : Int)] 5)
      clear hd hy
      go_wp2
      go_roundw
      case rel => exact ⟨q, x, rfl, by omega, rfl, HD, by omega, hb⟩
      case measure => simp [intOf]; omega
    · obtain rfl : m = 0 := by omega
      have hR : Hid (((⟨#[109]⟩ : ByteArray) ++ u) = markB k) := by
        have h1 := hd.out
        rw [digB_zero, List.nil_append] at h1
        show _ = _
        apply ByteArray.ext
        rw [ByteArray.data_append]
        unfold markB
        rw [← h1]
        simp
      clear hd
      go_wp2
      go_ret
      exact ⟨by rw [← hR.out]; rfl, hbel⟩

set_option maxHeartbeats 2000000 in
set_option maxRecDepth 100000 in
theorem markStrs_any (B : Nat) (A : Option Addr) (c : Nat) (xs : List ByteArray) (w : World) (hlen : xs.length ≤ 1048576) (hB : B ≤ w.heap.size) (hown : w.ownsRow B 9 1 (.slice A xs.length c) xs.length (xs.map Value.string)) :
    Calls Tryd.prog 36 #[.slice A xs.length c, .int .i64 1] w fun e w' => e = .returned (.int .i64 ((xs.length : Int) + 1)) ∧
      w'.ownsRow B 9 1 (.slice A xs.length c) xs.length ((markedS xs xs.length).map Value.string) ∧ w.grownBy w' (Value.ownBlock (.slice A xs.length c)) := by
  go_enter Tryd.func36, Tryd.ntmps36
  go_wp2
  go_loopw [1, 5] (fun n i wr => ∃ k : Nat, k ≤ xs.length ∧ i = .int .i64 k ∧ n = .int .i64 ((k : Int) + 1) ∧ wr.ownsRow B 9 1 (.slice A xs.length c) xs.length ((markedS xs k).map Value.string) ∧ w.grownBy wr (Value.ownBlock (.slice A xs.length c)))
    (fun _ i _ => xs.length - (intOf i).toNat)
  case atStart => exact ⟨0, Nat.zero_le _, rfl, rfl, by simpa [markedS] using hown, World.grownBy.refl _ _⟩
  case round =>
    obtain ⟨k, hk, rfl, rfl, hownr, hg⟩ := hrel
    clear hown
    by_cases hlt : k < xs.length
    · obtain ⟨g, rfl⟩ : ∃ g, A = some ⟨g, 0, none⟩ := by
        rcases hownr.2 with ⟨_, h0⟩ | ⟨g, cap, cur, hv, _⟩
        · omega
        · injection hv with hA; exact ⟨g, hA⟩
      have hgl := (hownr.lt g rfl).2
      have cM := markText_any (k + 1) wr (by omega) (by omega)
      have hkz : ((k + 1 : Nat) : Int) = (k : Int) + 1 := by omega
      rw [hkz] at cM
      obtain ⟨u, hu⟩ : ∃ u, wr.cell? ⟨g, k, none⟩ = some (.string u) := by
        refine ⟨(markedS xs k)[k]'(by rw [markedS_length _ _ hk]; exact hlt), ?_⟩
        rw [hownr.cellAt k (by omega)]
        simp [markedS_length _ _ hk, hlt]
      have hfo : wr.frozen? ⟨g, k, none⟩ = false := hownr.frozenAt k
      have HO := Lib.hid hownr
      have HG := Lib.hid hg; clear hg hownr
      go_wp2_with (go_at_call 58; refine cM.mono ?_; rintro e w1 ⟨rfl, b1⟩; have hu1 := (b1.cell (p := ⟨g, k, none⟩) hgl).trans hu; have hf1 := (b1.frozen (p := ⟨g, k, none⟩) hgl).trans hfo)
      have hO1 := HO.out.kept (row := none) ⟨b1.os, b1.tape, b1.output, b1.size, fun k hk _ => b1.block k hk⟩ (by simp [Value.ownBlock])
      have hst := hO1.stored k (.string (markB (k + 1)))
      rw [markedS_step xs k hlt] at hst
      have HS := Lib.hid hst; clear hst hO1
      have HB1 := Lib.hid b1
      clear b1 cM
      go_roundw
      case rel =>
        refine ⟨k + 1, hlt, by go_num, by go_num, HS.out.1, ?_⟩
        have h1 := HG.out
        have h2 := HS.out.2
        have h3 := HB1.out
        exact ⟨h2.os.trans (h3.os.trans h1.os), h2.tape.trans (h3.tape.trans h1.tape), h2.output.trans (h3.output.trans h1.output), Nat.le_trans h1.size (Nat.le_trans h3.size h2.size), fun j hj hn => (h2.block j (Nat.lt_of_lt_of_le hj (Nat.le_trans h1.size h3.size)) hn).trans ((h3.block j (Nat.lt_of_lt_of_le hj h1.size)).trans (h1.block j hj hn))⟩
      case measure => simp [intOf]; omega
    · obtain rfl : k = xs.length := by omega
      have HO := Lib.hid hownr; have HG := Lib.hid hg; clear hownr hg
      go_wp2
      go_ret
      exact ⟨rfl, HO.out, HG.out⟩

set_option maxHeartbeats 2000000 in
set_option maxRecDepth 100000 in
theorem heldStrs_any (A : Option Addr) (c : Nat) (xs : List ByteArray) (w : World) (hlen : xs.length ≤ 1048576) (hN : Strs w w.heap.size A (markedS xs xs.length)) :
    Calls Tryd.prog 37 #[.slice A xs.length c, .int .i64 1] w fun e w' => e = .returned (.int .i64 ((xs.length : Int) + 1)) ∧ Below w.heap.size w w' := by
  go_enter Tryd.func37, Tryd.ntmps37
  go_wp2
  go_loopw [1, 5] (fun n i wr => ∃ k : Nat, k ≤ xs.length ∧ i = .int .i64 k ∧ n = .int .i64 ((k : Int) + 1) ∧ Below w.heap.size w wr) (fun _ i _ => xs.length - (intOf i).toNat)
  case atStart => exact ⟨0, Nat.zero_le _, rfl, rfl, Below.refl _ _⟩
  case round =>
    obtain ⟨k, hk, rfl, rfl, hbel⟩ := hrel
    by_cases hlt : k < xs.length
    · obtain ⟨b, o, rfl, hb, hc0⟩ := hN k (by rw [markedS_length _ _ (Nat.le_refl _)]; exact hlt)
      have hm : (markedS xs xs.length)[k]'(by rw [markedS_length _ _ (Nat.le_refl _)]; exact hlt) = markB (k + 1) := by simp [markedS]
      rw [hm] at hc0
      have hcW : ∀ W, Below w.heap.size w W → W.cell? ⟨b, o + k, none⟩ = some (.string (markB (k + 1))) := fun W h => (h.cell (p := ⟨b, o + k, none⟩) hb).trans hc0
      obtain ⟨mk, hmk⟩ : ∃ mk, markB (k + 1) = mk := ⟨_, rfl⟩
      have cM : ∀ W, Calls Tryd.prog 58 #[.int .i64 ((k : Int) + 1)] W fun e w' => e = .returned (.string mk) ∧ Below W.heap.size W w' := fun W => by
        have := markText_any (k + 1) W (by omega) (by omega)
        rw [hmk] at this
        exact this
      rw [hmk] at hcW
      have hc := hcW wr hbel
      have hcd := hcW wr.drew (drewS hbel)
      have HB := Lib.hid hbel
      have HCW := Lib.hid hcW
      clear hm hN hc0 hmk hbel hcW
      go_wp2
      go_region_with (go_at_call 58; refine (cM _).mono ?_; rintro e w1 ⟨rfl, b1⟩; have B1 : Hid (Below w.heap.size w w1) := (drewS HB.out).trans (b1.mono (drewS HB.out).size); have hc1 := HCW.out w1 B1.out; clear b1)
      all_goals
        clear hc hcd hc1
        go_wp2
        go_roundw
        case rel => exact ⟨k + 1, hlt, by go_num, by go_num, B1.out⟩
        case measure => simp [intOf]; omega
    · clear hN
      obtain rfl : k = xs.length := by omega
      go_wp2
      go_ret
      exact ⟨rfl, hbel⟩

end Go.Proofs.YtjklnfcoaakkgaaDoor
