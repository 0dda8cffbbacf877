/- strings.IndexRune over a short string of ASCII bytes at a code point that is none; strings.IndexAny and ContainsAny with such a string over any string. Conditions: the string of ASCII bytes has 4 to 100 of them; the other at most 1048576. -/
import Derived.Test.YtjklnfcoaakkgaaDoorShelf
import Derived.Test.YtjklnfcoaakkgaaDoorImplRunes
import Derived.Test.YtjklnfcoaakkgaaDoorRowText
import Derived.Laws.Runes
import Derived.WalkMore
import Derived.Lib.OthersKept
import Derived.Lib.IndexAny
import Derived.Lib.MapLaws
import Derived.Lib.DecodeN
import Derived.Deep.LoopGhost
namespace Go.Proofs.YtjklnfcoaakkgaaDoor
set_option linter.unusedVariables false
open Go.RowKit

theorem pt_valid {c : Int} (h : pt c = true) : Utf8.valid c = true := by
  have := pt_iff.1 h
  simp only [Utf8.valid]
  simp
  omega
theorem belowN {B : Nat} {w w1 : World} (h : Below B w w1) (n : Nat) : Below B w (w1.drewN n) := ⟨h.os, h.tape, h.output, h.size, h.block⟩
/-- A short string of ASCII bytes. -/
def Asc (s : ByteArray) : Prop := 4 ≤ s.size ∧ s.size ≤ 100 ∧ ∀ b ∈ s.data.toList, b.toNat < 128
theorem Asc.at {s : ByteArray} (h : Asc s) (i : Nat) (hi : i < s.size) : (s[i]'hi).toNat < 128 := h.2.2 _ (Array.getElem_mem_toList (xs := s.data) hi)

def IdxRel (s : ByteArray) (K : Nat) (w : World) (wr : World) : Prop := ∃ pos, pos ≤ s.size ∧ IterIs wr K s pos ∧ Below w.heap.size w wr

set_option maxHeartbeats 4000000 in
set_option maxRecDepth 100000 in
theorem indexRune_far (s : ByteArray) (r : Int) (w : World) (hs : Asc s) (hr : 128 ≤ r) (hp : pt r = true) (hne : r ≠ 65533) :
    Calls Tryd.prog 75 #[.string s, .int .i32 r] w fun e w' => e = .returned (.int .i64 (-1)) ∧ Below w.heap.size w w' := by
  have hpi := pt_iff.1 hp
  have h128 : ¬ r < 128 := by omega
  have h0 : (0 : Int) ≤ r := by omega
  have hb : (r == 65533) = false := by simpa using hne
  have hv : Lib.validRune r = true := by unfold Lib.validRune; simp; omega
  have cV := fun W => Tryd.utf8_ValidRune r W
  rw [hv] at cV
  obtain ⟨e1, e2, e3⟩ := encode_facts r (pt_valid hp) hr
  obtain ⟨u, hu⟩ : ∃ u, Utf8.encode r = u := ⟨_, rfl⟩
  rw [hu] at e1 e2 e3
  have HU := Lib.hid hu
  obtain ⟨m, hm⟩ : ∃ m, u.size = m + 1 := ⟨u.size - 1, by omega⟩
  have hmz : (u.size : Int) - 1 = (m : Int) := by omega
  have hmu : m < u.size := by omega
  have hms : m < s.size := by have := hs.1; omega
  have e3' := e3 (by omega)
  have hy : 128 ≤ (u[m]'hmu).toNat := by simpa [hm] using e3'
  have hx := hs.at m hms
  obtain ⟨x, hxx⟩ : ∃ x, s[m]'hms = x := ⟨_, rfl⟩
  obtain ⟨y, hyy⟩ : ∃ y, u[m]'hmu = y := ⟨_, rfl⟩
  rw [hxx] at hx
  rw [hyy] at hy
  have hxy : (x == y) = false := by
    rw [beq_eq_false_iff_ne]
    intro e
    rw [e] at hx
    omega
  have hxyz : ((x.toNat : Int) == (y.toNat : Int)) = false := by
    rw [beq_eq_false_iff_ne]
    omega
  obtain ⟨j, hj⟩ : ∃ j, m + 1 = j := ⟨_, rfl⟩
  have hjz : (m : Int) + 1 = (j : Int) := by omega
  have hjs : j ≤ s.size := by omega
  have hidx : Lib.indexByte (s.extract j s.size).data.toList ((y.toNat : Int)).toNat.toUInt8 = -1 := by
    rw [← Lib.firstIdx_eq]
    refine firstIdx_ascii s j s.size _ hs.2.2 ?_
    simpa using hy
  have cI := fun W => Tryd.strings_IndexByte (s.extract j s.size) (y.toNat : Int) W
  rw [hidx] at cI
  have hcv : ∀ W, (convert 21 9 (.int .i32 r)).run Tryd.prog W = .ok (.string u) W := fun W => by rw [run_convert_int_string W 21 9 .i32 r (by rw [Tryd.underlying21]; rfl) Tryd.underlying9, hu]
  have H5 := hs.2.1
  have hwj : IntKind.i64.wrap (j : Int) = (j : Int) := IntWalk.i64_in _ ⟨by omega, by omega⟩
  have hjsz : (j : Int) ≤ (s.size : Int) := by omega
  clear hpi hp hne hv e3 e3' hidx hs hm hj e1 e2
  go_enter Tryd.func75, Tryd.ntmps75
  go_wp2_with (go_at_call 89; refine (cV _).mono ?_; rintro e w' ⟨rfl, hw⟩; rw [hw]; clear hw)
  go_step3
  go_wp2
  go_loopw [9, 10] (fun i f wr => i = .int .i64 m ∧ f = .int .i64 0 ∧ Below w.heap.size w wr) (fun _ _ _ => 0)
  case atStart => exact ⟨by first | rfl | go_num, rfl, Below.refl _ _⟩
  case round =>
    obtain ⟨rfl, rfl, hbel⟩ := hrel
    go_wp2
    go_step3
    go_wp2
    go_quiet (fail)
    have hbel2 := belowN hbel nq
    generalize wr.drewN nq = w5 at *
    go_wp2
    go_quiet ((go_at_call 67; refine Calls.quiet_of_same (cI _)))
    go_wp2
    change bodyPost Tryd.prog Tryd.f75 (fun e w' => e = Ending.returned (Value.int IntKind.i64 (-1)) ∧ Below w.heap.size w w') Exit.ret _ _
    go_ret
    exact ⟨rfl, belowN hbel2 _⟩

set_option maxHeartbeats 4000000 in
set_option maxRecDepth 100000 in
theorem indexRune_err (s : ByteArray) (w : World) (hs : Asc s) :
    Calls Tryd.prog 75 #[.string s, .int .i32 65533] w fun e w' => e = .returned (.int .i64 (-1)) ∧ Below w.heap.size w w' := by
  have HS := Lib.hid hs
  clear hs
  go_enter Tryd.func75, Tryd.ntmps75
  go_wp2
  go_loopw [4] (fun v wr => v = .int .i64 0 ∧ IdxRel s w.heap.size w wr) (fun _ wr => s.size - wr.iterPos w.heap.size)
  case atStart => exact ⟨rfl, 0, Nat.zero_le _, heap_alloc_new w _, (Below.refl _ _).alloc (Nat.le_refl _) _⟩
  case round =>
    obtain ⟨rfl, pos, hpl, hit, hbel⟩ := hrel
    have HM := Lib.hid (iterPos_of hit)
    by_cases hp : pos < s.size
    · have hasc := HS.out.at pos hp
      have hnx : ∀ ty, (Instr.next (.pointer (some ⟨w.heap.size, 0, none⟩)) true ty).run Tryd.prog wr = _ := fun ty => Lib.run_next_ascii_at wr w.heap.size s pos ty hit hp hasc
      obtain ⟨x, hx⟩ : ∃ x, (s[pos]'hp).toNat = x := ⟨_, rfl⟩
      rw [hx] at hnx hasc
      have hne : ((x : Int) == 65533) = false := by rw [beq_eq_false_iff_ne]; omega
      have hit1 : IterIs (wr.iterAt w.heap.size s (pos + 1)) w.heap.size s (pos + 1) := Lib.iterAt_heap wr _ s pos _ hit
      have hbel1 : Below w.heap.size w (wr.iterAt w.heap.size s (pos + 1)) := Lib.below_iterAt hbel (Nat.le_refl _) s _
      have HT1 := Lib.hid hit1
      clear hit hx hasc hit1
      generalize wr.iterAt w.heap.size s (pos + 1) = wn at hnx HT1 hbel1
      go_wp2
      go_roundw
      case rel => exact ⟨rfl, pos + 1, hp, HT1.out, hbel1⟩
      case measure => rw [iterPos_of HT1.out, HM.out]; omega
    · have hnx : ∀ ty, (Instr.next (.pointer (some ⟨w.heap.size, 0, none⟩)) true ty).run Tryd.prog wr = _ := fun ty => Lib.run_next_end_at wr w.heap.size s pos ty hit hp
      go_wp2
      go_ret
      exact ⟨rfl, hbel⟩


/-- What a decoder reads at a byte that is not ASCII: no ASCII code point, over bytes that are none. -/
theorem dec_far (s : ByteArray) (pos : Nat) (h : pos < s.size) (hx : 128 ≤ (bt s pos).toNat) :
    1 ≤ (Utf8.decode s pos).2 ∧ pos + (Utf8.decode s pos).2 ≤ s.size ∧ 128 ≤ (Utf8.decode s pos).1 ∧ ((Utf8.decode s pos).1 = 65533 ∨ pt ((Utf8.decode s pos).1 : Int) = true) ∧ ∀ j, pos ≤ j → j < pos + (Utf8.decode s pos).2 → 128 ≤ (bt s j).toNat := by
  have g : ∀ i, i < s.size → s.get! i = bt s i := fun i hi => by
    rw [← bt_in hi]
    show s.data[i]! = s.data[i]
    exact getElem!_pos s.data i hi
  have h0 := g pos h
  rw [Lib.decode_at]
  rw [h0]
  rcases Lib.decodeN_shape (s.size - pos) (bt s pos).toNat (s.get! (pos + 1)).toNat (s.get! (pos + 2)).toNat (s.get! (pos + 3)).toNat with ⟨c, e⟩ | ⟨a1, a2, a3, a4, e⟩ | ⟨a1, a2, a3, a4, a5, a6, e⟩ | ⟨a1, a2, a3, a4, a5, a6, a7, e⟩ | e
  · omega
  · rw [e]
    have g1 := g (pos + 1) (by omega)
    rw [g1] at a3 a4 ⊢
    have hlt := (bt s pos).toNat_lt
    refine ⟨by omega, by show pos + 2 ≤ _; omega, a4, .inr (pt_iff.2 (by show _; omega)), fun j hj1 hj2 => ?_⟩
    have hj3 : j < pos + 2 := hj2
    obtain rfl | rfl : j = pos ∨ j = pos + 1 := by omega
    · exact hx
    · omega
  · rw [e]
    have g1 := g (pos + 1) (by omega)
    have g2 := g (pos + 2) (by omega)
    rw [g1] at a3 a5 a6 ⊢
    rw [g2] at a4 a5 a6 ⊢
    have hlt := (bt s pos).toNat_lt
    refine ⟨by omega, by show pos + 3 ≤ _; omega, Nat.le_trans (show 128 ≤ 2048 by omega) a5, .inr (pt_iff.2 (by show _; omega)), fun j hj1 hj2 => ?_⟩
    have hj3 : j < pos + 3 := hj2
    obtain rfl | rfl | rfl : j = pos ∨ j = pos + 1 ∨ j = pos + 2 := by omega
    · exact hx
    · omega
    · omega
  · rw [e]
    have g1 := g (pos + 1) (by omega)
    have g2 := g (pos + 2) (by omega)
    have g3 := g (pos + 3) (by omega)
    rw [g1] at a3 a6 a7 ⊢
    rw [g2] at a4 a6 a7 ⊢
    rw [g3] at a5 a6 a7 ⊢
    have hlt := (bt s pos).toNat_lt
    refine ⟨by omega, by show pos + 4 ≤ _; omega, Nat.le_trans (show 128 ≤ 65536 by omega) a6, .inr (pt_iff.2 (by show _; omega)), fun j hj1 hj2 => ?_⟩
    have hj3 : j < pos + 4 := hj2
    obtain rfl | rfl | rfl | rfl : j = pos ∨ j = pos + 1 ∨ j = pos + 2 ∨ j = pos + 3 := by omega
    · exact hx
    · omega
    · omega
    · omega
  · rw [e]
    refine ⟨by show 1 ≤ 1; omega, by show pos + 1 ≤ _; omega, by show 128 ≤ 65533; omega, .inl rfl, fun j hj1 hj2 => ?_⟩
    have hj3 : j < pos + 1 := hj2
    obtain rfl : j = pos := by omega
    exact hx

theorem bt_list {s : ByteArray} {j : Nat} {b : UInt8} (h : s.data.toList[j]? = some b) : bt s j = b ∧ j < s.size := by
  have hj : j < s.data.toList.length := (List.getElem?_eq_some_iff.1 h).1
  have hj' : j < s.size := by rw [Array.length_toList] at hj; exact hj
  refine ⟨?_, hj'⟩
  rw [List.getElem?_eq_getElem hj] at h
  injection h with h
  rw [← bt_in hj', ← h]
  rfl
theorem list_bt {s : ByteArray} {j : Nat} (h : j < s.size) : s.data.toList[j]? = some (bt s j) := by
  rw [← bt_in h]
  exact Lib.data_getElem? s j h
/-- Over bytes that are not ASCII nothing is found. -/
theorem noAny_far {s chars : ByteArray} {i k : Nat} (hc : Asc chars) (h : Lib.NoAny s.data.toList chars.data.toList i) (hf : ∀ j, i ≤ j → j < k → 128 ≤ (bt s j).toNat) : Lib.NoAny s.data.toList chars.data.toList k := fun j b hj hb => by
  by_cases q : j < i
  · exact h j b q hb
  · have h1 := hf j (by omega) hj
    rw [(bt_list hb).1] at h1
    cases hq : chars.data.toList.contains b with
    | false => rfl
    | true =>
      have := hc.2.2 b (by simpa using hq)
      omega

def AnyRel (s chars : ByteArray) (K : Nat) (w wr : World) : Prop := ∃ pos, pos ≤ s.size ∧ IterIs wr K s pos ∧ Lib.NoAny s.data.toList chars.data.toList pos ∧ Below w.heap.size w wr

set_option maxHeartbeats 4000000 in
set_option maxRecDepth 100000 in
theorem indexAny_short (s chars : ByteArray) (w : World) (hc : Asc chars) (h8 : s.size ≤ 8) :
    Calls Tryd.prog 64 #[.string s, .string chars] w fun e w' => e = .returned (.int .i64 (Lib.indexAny s.data.toList chars.data.toList)) ∧ Below w.heap.size w w' := by
  have h4 := hc.1
  have h100 := hc.2.1
  have hemp : chars.toList.isEmpty = false := by
    rw [Lib.toList_data]
    cases h : chars.data.toList with
    | nil => have := Lib.size_eq chars; rw [h, List.length_nil] at this; omega
    | cons _ _ => rfl
  have hn1 : ((chars.size : Int) == 1) = false := beq_eq_false_iff_ne.2 (by omega)
  have h8z : decide ((8 : Int) < (s.size : Int)) = false := decide_eq_false (by omega)
  have cS : ∀ W, Calls Tryd.prog 76 #[.int .i64 s.size] W fun e w' => e = .returned (.bool false) ∧ w' = W := fun W => by
    have := Tryd.strings_shouldUseASCIISet s.size W
    rw [h8z] at this
    exact this
  have HC := Lib.hid hc
  obtain ⟨R, hR⟩ : ∃ R, Lib.indexAny s.data.toList chars.data.toList = R := ⟨_, rfl⟩
  rw [hR]
  have HR := Lib.hid hR
  clear hc hR h8z
  go_enter Tryd.func64, Tryd.ntmps64
  go_wp2_with (go_at_call 76; refine (cS _).mono ?_; rintro e w' ⟨rfl, rfl⟩)
  clear cS
  go_loopw [9, 10] (fun _ _ wr => AnyRel s chars w'.heap.size w' wr) (fun _ _ wr => s.size - wr.iterPos w'.heap.size)
  case atStart => exact ⟨0, Nat.zero_le _, heap_alloc_new _ _, Lib.NoAny.zero _ _, (Below.refl _ _).alloc (Nat.le_refl _) _⟩
  case round =>
    obtain ⟨pos, hpl, hit, hno, hbel⟩ := hrel
    have HM := Lib.hid (iterPos_of hit)
    have HNo := Lib.hid hno
    clear hno
    by_cases hp : pos < s.size
    · by_cases hx : (bt s pos).toNat < 128
      · obtain ⟨x, hxx⟩ : ∃ x, bt s pos = x := ⟨_, rfl⟩
        rw [hxx] at hx
        have hnx : ∀ ty, (Instr.next (.pointer (some ⟨w'.heap.size, 0, none⟩)) true ty).run Tryd.prog wr = _ := fun ty => Lib.run_next_ascii_at wr w'.heap.size s pos ty hit hp (by rw [bt_in hp, hxx]; exact hx)
        rw [bt_in hp, hxx] at hnx
        have HX := Lib.hid ((list_bt hp).trans (by rw [hxx]))
        have hcon := Lib.contains_iff_indexByte chars.data.toList x
        have hback : ((x.toNat : Int)).toNat.toUInt8 = x := by simp
        have cI : ∀ W, Calls Tryd.prog 75 #[.string chars, .int .i32 x.toNat] W fun e w' => e = .returned (.int .i64 (Lib.indexByte chars.data.toList x)) ∧ w' = W := fun W => by
          have := Tryd.strings_IndexRune_ascii chars x.toNat W (by omega) (by omega)
          rw [hback] at this
          exact this
        have hit1 : IterIs (wr.iterAt w'.heap.size s (pos + 1)) w'.heap.size s (pos + 1) := Lib.iterAt_heap wr _ s pos _ hit
        have hbel1 : Below w'.heap.size w' (wr.iterAt w'.heap.size s (pos + 1)) := Lib.below_iterAt hbel (Nat.le_refl _) s _
        have HT1 := Lib.hid hit1
        clear hit hxx hit1 hback
        generalize wr.iterAt w'.heap.size s (pos + 1) = wn at hnx HT1 hbel1
        obtain ⟨I, hI⟩ : ∃ I, Lib.indexByte chars.data.toList x = I := ⟨_, rfl⟩
        rw [hI] at cI hcon
        cases hin : chars.data.toList.contains x with
        | false =>
          rw [hin] at hcon
          have hlt : ¬ ((0 : Int) ≤ I) := of_decide_eq_false hcon.symm
          have HIn := Lib.hid hin
          clear hcon hI hin
          go_wp2_with (go_at_call 75; refine (cI _).mono ?_; rintro e w2 ⟨rfl, rfl⟩)
          go_roundw
          case rel => exact ⟨pos + 1, hp, HT1.out, HNo.out.succ HX.out HIn.out, hbel1⟩
          case measure => rw [iterPos_of HT1.out, HM.out]; omega
        | true =>
          rw [hin] at hcon
          have hge : (0 : Int) ≤ I := of_decide_eq_true hcon.symm
          have HE := Lib.hid (HR.out.symm.trans (Lib.indexAny_hit HNo.out HX.out hin))
          clear hcon hI hin
          go_wp2_with (go_at_call 75; refine (cI _).mono ?_; rintro e w2 ⟨rfl, rfl⟩)
          go_ret
          exact ⟨by rw [HE.out] <;> rfl, hbel1⟩
      · obtain ⟨d1, d2, d3, d4, d5⟩ := dec_far s pos hp (by omega)
        have hnx : ∀ ty, (Instr.next (.pointer (some ⟨w'.heap.size, 0, none⟩)) true ty).run Tryd.prog wr = _ := fun ty => Lib.run_next_any_at wr w'.heap.size s pos ty hit hp
        obtain ⟨c, hcc⟩ : ∃ c, (Utf8.decode s pos).1 = c := ⟨_, rfl⟩
        obtain ⟨d, hdd⟩ : ∃ d, (Utf8.decode s pos).2 = d := ⟨_, rfl⟩
        rw [hcc, hdd] at hnx
        rw [hcc] at d3 d4
        rw [hdd] at d1 d2 d5
        have cI : ∀ W, Calls Tryd.prog 75 #[.string chars, .int .i32 c] W fun e w' => e = .returned (.int .i64 (-1)) ∧ Below W.heap.size W w' := fun W => by
          rcases d4 with rfl | hpt
          · exact indexRune_err chars W HC.out
          · by_cases he : (c : Int) = 65533
            · rw [he]; exact indexRune_err chars W HC.out
            · exact indexRune_far chars c W HC.out (by omega) hpt he
        have HN2 := Lib.hid (noAny_far HC.out HNo.out d5)
        have hit1 : IterIs (wr.iterAt w'.heap.size s (pos + d)) w'.heap.size s (pos + d) := Lib.iterAt_heap wr _ s pos _ hit
        have hbel1 : Below w'.heap.size w' (wr.iterAt w'.heap.size s (pos + d)) := Lib.below_iterAt hbel (Nat.le_refl _) s _
        have HT1 := Lib.hid hit1
        clear hit hcc hdd hit1 d4 d5 hx
        generalize wr.iterAt w'.heap.size s (pos + d) = wn at hnx HT1 hbel1
        have HB1 := Lib.hid hbel1
        go_wp2_with (go_at_call 75; refine (cI _).mono ?_; rintro e w2 ⟨rfl, b2⟩)
        have HT2 : Hid (IterIs w2 w'.heap.size s (pos + d)) := (b2.block _ (Array.getElem?_eq_some_iff.1 HT1.out).1).trans HT1.out
        have HB2 := Lib.hid (HB1.out.trans (b2.mono HB1.out.size))
        clear b2 hbel1 cI hnx
        go_roundw
        case rel => exact ⟨pos + d, d2, HT2.out, HN2.out, HB2.out⟩
        case measure => rw [iterPos_of HT2.out, HM.out]; omega
    · have hnx : ∀ ty, (Instr.next (.pointer (some ⟨w'.heap.size, 0, none⟩)) true ty).run Tryd.prog wr = _ := fun ty => Lib.run_next_end_at wr w'.heap.size s pos ty hit hp
      have HE := Lib.hid (HR.out.symm.trans (Lib.indexAny_none (by have h1 := HNo.out; obtain rfl : pos = s.size := by omega
                                                                   rw [← Lib.size_eq]; exact h1)))
      clear hit
      go_wp2
      go_ret
      exact ⟨by rw [HE.out] <;> rfl, hbel⟩

theorem indexAny_any (s chars : ByteArray) (w : World) (hc : Asc chars) (hs : s.size ≤ 1048576) :
    Calls Tryd.prog 64 #[.string s, .string chars] w fun e w' => e = .returned (.int .i64 (Lib.indexAny s.data.toList chars.data.toList)) ∧ Below w.heap.size w w' := by
  by_cases h8 : s.size ≤ 8
  · exact indexAny_short s chars w hc h8
  · have h4 := hc.1
    have h100 := hc.2.1
    have h116 : (Tryd.prog.info? 97).map (fun i => (i.zero, i.size)) = some (some (.agg (Array.replicate 256 (.bool false))), 256) := by kernel_rfl
    refine (Tryd.strings_IndexAny_long (zero_of_info h116).1 s chars w (by omega) (by omega) (by omega) (by omega) (fun j b hb => hc.2.2 b (List.mem_of_getElem? hb))).mono ?_
    rintro e w' ⟨rfl, rfl⟩
    exact ⟨rfl, ((Below.refl _ _).alloc (Nat.le_refl _) _).alloc (by simp) _⟩

set_option maxHeartbeats 1000000 in
set_option maxRecDepth 100000 in
theorem containsAny_any (s chars : ByteArray) (w : World) (hc : Asc chars) (hs : s.size ≤ 1048576) :
    Calls Tryd.prog 52 #[.string s, .string chars] w fun e w' => e = .returned (.bool (Lib.containsAny s.data.toList chars.data.toList)) ∧ Below w.heap.size w w' := by
  have cI := indexAny_any s chars w hc hs
  unfold Lib.containsAny
  generalize Lib.indexAny s.data.toList chars.data.toList = X at cI ⊢
  by_cases hX : 0 ≤ X
  all_goals
    go_enter Tryd.func52, Tryd.ntmps52
    go_wp2_with (go_at_call 64; refine cI.mono ?_; rintro e w' ⟨rfl, b1⟩)
    go_ret
    exact ⟨by simp [hX], b1⟩

/-! ### The stops of a cell -/
def stopS : ByteArray := ⟨#[44, 34, 10, 13]⟩
theorem asc_stop : Asc stopS := ⟨by decide, by decide, by decide⟩
theorem stop_in (b : UInt8) : stopS.data.toList.contains b = stopB b := by
  show ([44, 34, 10, 13] : List UInt8).contains b = _
  unfold stopB
  simp only [List.contains_cons, List.contains_nil, Bool.or_false, Bool.or_assoc]
theorem idx_any {p : UInt8 → Bool} {chars : List UInt8} (hp : ∀ b, chars.contains b = p b) : ∀ l : List UInt8, decide (0 ≤ Lib.indexAny l chars) = l.any p
  | [] => rfl
  | b :: l => by
    have ih := idx_any hp l
    have hge := Lib.indexAny_ge chars l
    rw [List.any_cons, ← ih, Lib.indexAny, hp]
    cases p b with
    | true => rfl
    | false =>
      simp only [Bool.false_eq_true, if_false, Bool.false_or]
      rw [decide_eq_decide]
      split
      · rename_i h; rw [beq_iff_eq] at h; omega
      · rename_i h; rw [beq_iff_eq] at h; omega
/-- Where the first of the bytes stands. -/
theorem idx_scan {p : UInt8 → Bool} {chars : List UInt8} (hp : ∀ b, chars.contains b = p b) (s : ByteArray) : ∀ (f i : Nat), s.size ≤ i + f → i ≤ s.size →
    (Lib.indexAny (s.data.toList.drop i) chars = -1 ∧ scanTo p s i = s.size) ∨ (Lib.indexAny (s.data.toList.drop i) chars = ((scanTo p s i - i : Nat) : Int) ∧ scanTo p s i < s.size)
  | 0, i, hf, hi => by
    rw [drop_out (by omega), scan_out (by omega)]
    exact .inl ⟨rfl, by omega⟩
  | f + 1, i, hf, hi => by
    by_cases h : i < s.size
    · rw [drop_bt h, Lib.indexAny, hp]
      cases hb : p (bt s i) with
      | true =>
        rw [scan_hit h hb]
        refine .inr ⟨?_, h⟩
        simp
      | false =>
        have hge : i + 1 ≤ scanTo p s (i + 1) := scan_ge (by omega)
        rw [scan_on h hb]
        simp only [Bool.false_eq_true, if_false]
        rcases idx_scan hp s f (i + 1) (by omega) (by omega) with ⟨h1, h2⟩ | ⟨h1, h2⟩
        · left
          rw [h1]
          exact ⟨rfl, h2⟩
        · right
          rw [h1, if_neg (by rw [beq_iff_eq]; omega)]
          exact ⟨by omega, h2⟩
    · rw [drop_out h, scan_out h]
      exact .inl ⟨rfl, by omega⟩
end Go.Proofs.YtjklnfcoaakkgaaDoor
