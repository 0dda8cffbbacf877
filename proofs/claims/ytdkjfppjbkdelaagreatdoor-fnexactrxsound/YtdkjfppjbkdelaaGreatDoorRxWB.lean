/- strings.ContainsRune at any code point, over a short string of ASCII bytes; a code point as a string. Conditions: the string has 4 to 100 bytes, all less than 128. -/
import Derived.Test.YtdkjfppjbkdelaaGreatDoorRxW1
import Derived.Test.YtdkjfppjbkdelaaGreatDoorShelf
import Derived.Test.YtdkjfppjbkdelaaGreatDoorImplRunes
import Derived.Laws.Runes
import Derived.WalkMore
import Derived.Lib.OthersKept
import Derived.Lib.IndexAny
import Derived.Lib.ItoaLen
namespace Go.Proofs.YtdkjfppjbkdelaaGreatDoor
set_option linter.unusedVariables false
open Go.RowKit
open Go.Lib (encodeRune)

theorem pt_valid {c : Int} (h : pt c = true) : Utf8.valid c = true := by
  have := pt_iff.1 h
  simp only [Utf8.valid]
  simp
  omega
theorem toU8 (x : Int) (n : Nat) (h : x = (n : Int)) : x.toNat.toUInt8 = UInt8.ofNat n := by subst h; rfl
/-- A code point as a string: its bytes. -/
theorem encode_bytes {c : Int} (h : pt c = true) : Utf8.encode c = ⟨(encodeRune c).toArray⟩ := by
  have hp := pt_iff.1 h
  obtain ⟨n, rfl⟩ : ∃ n : Nat, c = n := ⟨c.toNat, by omega⟩
  have hv := pt_valid h
  unfold Utf8.encode encodeRune
  simp only [hv, if_true, Int.toNat_natCast]
  by_cases h1 : n < 128
  · rw [if_pos (by omega), enc1 h (by omega)]
    simp
  · by_cases h2 : n < 2048
    · rw [if_neg (by omega), if_pos (by omega), enc2 (by omega) (by omega)]
      simp only [List.map_cons, List.map_nil]
      rw [toU8 _ (192 + n / 64) (by omega), toU8 _ (128 + n % 64) (by omega)]
    · by_cases h3 : n < 65536
      · rw [if_neg (by omega), if_neg (by omega), if_pos (by omega), enc3 h (by omega) (by omega)]
        simp only [List.map_cons, List.map_nil]
        rw [toU8 _ (224 + n / 4096) (by omega), toU8 _ (128 + n / 64 % 64) (by omega), toU8 _ (128 + n % 64) (by omega)]
      · rw [if_neg (by omega), if_neg (by omega), if_neg (by omega), enc4 h (by omega)]
        simp only [List.map_cons, List.map_nil]
        rw [toU8 _ (240 + n / 262144) (by omega), toU8 _ (128 + n / 4096 % 64) (by omega), toU8 _ (128 + n / 64 % 64) (by omega), toU8 _ (128 + n % 64) (by omega)]

theorem belowN {B : Nat} {w w1 : World} (h : Below B w w1) (n : Nat) : Below B w (w1.drewN n) := ⟨h.os, h.tape, h.output, h.size, h.block⟩
/-- A short string of ASCII bytes. -/
def Asc (s : ByteArray) : Prop := 4 ≤ s.size ∧ s.size ≤ 100 ∧ ∀ b ∈ s.data.toList, b.toNat < 128
theorem Asc.at {s : ByteArray} (h : Asc s) (i : Nat) (hi : i < s.size) : (s[i]'hi).toNat < 128 := h.2.2 _ (Array.getElem_mem_toList (xs := s.data) hi)

def IdxRel (s : ByteArray) (K : Nat) (w : World) (wr : World) : Prop := ∃ pos, pos ≤ s.size ∧ IterIs wr K s pos ∧ Below w.heap.size w wr

set_option maxHeartbeats 4000000 in
set_option maxRecDepth 100000 in
theorem indexRune_far (s : ByteArray) (r : Int) (w : World) (hs : Asc s) (hr : 128 ≤ r) (hp : pt r = true) (hne : r ≠ 65533) :
    Calls Tryz.prog 174 #[.string s, .int .i32 r] w fun e w' => e = .returned (.int .i64 (-1)) ∧ Below w.heap.size w w' := by
  have hpi := pt_iff.1 hp
  have h128 : ¬ r < 128 := by omega
  have h0 : (0 : Int) ≤ r := by omega
  have hb : (r == 65533) = false := by simpa using hne
  have hv : Lib.validRune r = true := by unfold Lib.validRune; simp; omega
  have cV := fun W => Tryz.utf8_ValidRune r W
  rw [hv] at cV
  obtain ⟨e1, e2, e3⟩ := encode_facts r (pt_valid hp) hr
  obtain ⟨u, hu⟩ : ∃ u, Utf8.encode r = u := ⟨_, rfl⟩
  rw [hu] at e1 e2 e3
  have HU := Lib.hid hu
  obtain ⟨m, hm⟩ : ∃ m, u.size = m + 1 := ⟨u.size - 1, by omega⟩
  have hmz : (u.size : Int) - 1 = (m : Int) := by omega
  have hmu : m < u.size := by omega
  have hms : m < s.size := by have := hs.1; omega
  have e3' := e3 (by omega)
  have hy : 128 ≤ (u[m]'hmu).toNat := by simpa [hm] using e3'
  have hx := hs.at m hms
  obtain ⟨x, hxx⟩ : ∃ x, s[m]'hms = x := ⟨_, rfl⟩
  obtain ⟨y, hyy⟩ : ∃ y, u[m]'hmu = y := ⟨_, rfl⟩
  rw [hxx] at hx
  rw [hyy] at hy
  have hxy : (x == y) = false := by
    rw [beq_eq_false_iff_ne]
    intro e
    rw [e] at hx
    omega
  have hxyz : ((x.toNat : Int) == (y.toNat : Int)) = false := by
    rw [beq_eq_false_iff_ne]
    omega
  obtain ⟨j, hj⟩ : ∃ j, m + 1 = j := ⟨_, rfl⟩
  have hjz : (m : Int) + 1 = (j : Int) := by omega
  have hjs : j ≤ s.size := by omega
  have hidx : Lib.indexByte (s.extract j s.size).data.toList ((y.toNat : Int)).toNat.toUInt8 = -1 := by
    rw [← Lib.firstIdx_eq]
    refine firstIdx_ascii s j s.size _ hs.2.2 ?_
    simpa using hy
  have cI := fun W => Tryz.strings_IndexByte (s.extract j s.size) (y.toNat : Int) W
  rw [hidx] at cI
  have hcv : ∀ W, (convert 21 9 (.int .i32 r)).run Tryz.prog W = .ok (.string u) W := fun W => by rw [run_convert_int_string W 21 9 .i32 r (by rw [Tryz.underlying21]; rfl) Tryz.underlying9, hu]
  have H5 := hs.2.1
  have hwj : IntKind.i64.wrap (j : Int) = (j : Int) := IntWalk.i64_in _ ⟨by omega, by omega⟩
  have hjsz : (j : Int) ≤ (s.size : Int) := by omega
  clear hpi hp hne hv e3 e3' hidx hs hm hj e1 e2
  go_enter Tryz.func174, Tryz.ntmps174
  go_wp2_with (go_at_call 193; refine (cV _).mono ?_; rintro e w' ⟨rfl, hw⟩; rw [hw]; clear hw)
  go_step3
  go_wp2
  go_loopw [9, 10] (fun i f wr => i = .int .i64 m ∧ f = .int .i64 0 ∧ Below w.heap.size w wr) (fun _ _ _ => 0)
  case atStart => exact ⟨by first | rfl | go_num, rfl, Below.refl _ _⟩
  case round =>
    obtain ⟨rfl, rfl, hbel⟩ := hrel
    go_wp2
    go_step3
    go_wp2
    go_quiet (fail)
    have hbel2 := belowN hbel nq
    generalize wr.drewN nq = w5 at *
    go_wp2
    go_quiet ((go_at_call 152; refine Calls.quiet_of_same (cI _)))
    go_wp2
    change bodyPost Tryz.prog Tryz.f174 (fun e w' => e = Ending.returned (Value.int IntKind.i64 (-1)) ∧ Below w.heap.size w w') Exit.ret _ _
    go_ret
    exact ⟨rfl, belowN hbel2 _⟩

set_option maxHeartbeats 4000000 in
set_option maxRecDepth 100000 in
theorem indexRune_err (s : ByteArray) (w : World) (hs : Asc s) :
    Calls Tryz.prog 174 #[.string s, .int .i32 65533] w fun e w' => e = .returned (.int .i64 (-1)) ∧ Below w.heap.size w w' := by
  have HS := Lib.hid hs
  clear hs
  go_enter Tryz.func174, Tryz.ntmps174
  go_wp2
  go_loopw [4] (fun v wr => v = .int .i64 0 ∧ IdxRel s w.heap.size w wr) (fun _ wr => s.size - wr.iterPos w.heap.size)
  case atStart => exact ⟨rfl, 0, Nat.zero_le _, heap_alloc_new w _, (Below.refl _ _).alloc (Nat.le_refl _) _⟩
  case round =>
    obtain ⟨rfl, pos, hpl, hit, hbel⟩ := hrel
    have HM := Lib.hid (iterPos_of hit)
    by_cases hp : pos < s.size
    · have hasc := HS.out.at pos hp
      have hnx : ∀ ty, (Instr.next (.pointer (some ⟨w.heap.size, 0, none⟩)) true ty).run Tryz.prog wr = _ := fun ty => Lib.run_next_ascii_at wr w.heap.size s pos ty hit hp hasc
      obtain ⟨x, hx⟩ : ∃ x, (s[pos]'hp).toNat = x := ⟨_, rfl⟩
      rw [hx] at hnx hasc
      have hne : ((x : Int) == 65533) = false := by rw [beq_eq_false_iff_ne]; omega
      have hit1 : IterIs (wr.iterAt w.heap.size s (pos + 1)) w.heap.size s (pos + 1) := Lib.iterAt_heap wr _ s pos _ hit
      have hbel1 : Below w.heap.size w (wr.iterAt w.heap.size s (pos + 1)) := Lib.below_iterAt hbel (Nat.le_refl _) s _
      have HT1 := Lib.hid hit1
      clear hit hx hasc hit1
      generalize wr.iterAt w.heap.size s (pos + 1) = wn at hnx HT1 hbel1
      go_wp2
      go_roundw
      case rel => exact ⟨rfl, pos + 1, hp, HT1.out, hbel1⟩
      case measure => rw [iterPos_of HT1.out, HM.out]; omega
    · have hnx : ∀ ty, (Instr.next (.pointer (some ⟨w.heap.size, 0, none⟩)) true ty).run Tryz.prog wr = _ := fun ty => Lib.run_next_end_at wr w.heap.size s pos ty hit hp
      go_wp2
      go_ret
      exact ⟨rfl, hbel⟩

theorem asc_mem {s : ByteArray} {c : Int} (h0 : 0 ≤ c) (h1 : c < 128) : decide (0 ≤ Lib.indexByte s.data.toList c.toNat.toUInt8) = s.data.toList.contains c.toNat.toUInt8 := (Lib.contains_iff_indexByte _ _).symm

/-- Does the string contain the code point? -/
def hasB (s : ByteArray) (c : Int) : Bool := decide (c < 128) && s.data.toList.contains c.toNat.toUInt8

set_option maxHeartbeats 1000000 in
set_option maxRecDepth 100000 in
theorem contains_any (s : ByteArray) (c : Int) (w : World) (hs : Asc s) (hp : pt c = true) :
    Calls Tryz.prog 145 #[.string s, .int .i32 c] w fun e w' => e = .returned (.bool (hasB s c)) ∧ Below w.heap.size w w' := by
  have hpi := pt_iff.1 hp
  by_cases h : c < 128
  · refine (Tryz.strings_ContainsRune_ascii s c w (by omega) h).mono ?_
    rintro e w' ⟨rfl, rfl⟩
    refine ⟨?_, Below.refl _ _⟩
    unfold hasB
    rw [asc_mem (by omega) h, decide_eq_true h, Bool.true_and]
  · have cI : Calls Tryz.prog 174 #[.string s, .int .i32 c] w fun e w' => e = .returned (.int .i64 (-1)) ∧ Below w.heap.size w w' := by
      by_cases he : c = 65533
      · subst he
        exact indexRune_err s w hs
      · exact indexRune_far s c w hs (by omega) hp he
    have hb : Hid (hasB s c = false) := by show _ = false; unfold hasB; rw [decide_eq_false h]; rfl
    go_enter Tryz.func145, Tryz.ntmps145
    go_wp2_with (go_at_call 174; refine cI.mono ?_; rintro e w' ⟨rfl, hw⟩)
    go_ret
    exact ⟨by rw [hb.out]; rfl, hw⟩

end Go.Proofs.YtdkjfppjbkdelaaGreatDoor

/- The program's writer of patterns: point, times. Conditions: numbers are ints. -/
namespace Go.Proofs.YtdkjfppjbkdelaaGreatDoor
set_option linter.unusedVariables false
open Go.RowKit
open Go.Lib (encodeRune itoa)

def strOut : ByteArray := ⟨#[92, 94, 36, 46, 91, 124, 40, 41, 42, 43, 63, 123]⟩
def strIn : ByteArray := ⟨#[92, 93, 91, 94, 45]⟩
theorem asc_out : Asc strOut := ⟨by decide, by decide, by decide⟩
theorem asc_in : Asc strIn := ⟨by decide, by decide, by decide⟩
/-- The string holds just these code points. -/
def EscOf (s : ByteArray) (esc : List Int) : Prop := Asc s ∧ ∀ c, pt c = true → hasB s c = decide (c ∈ esc)
theorem esc_small {s : ByteArray} {esc : List Int} (h : ∀ n : Nat, n < 128 → s.data.toList.contains (UInt8.ofNat n) = decide ((n : Int) ∈ esc)) (hl : ∀ x ∈ esc, x < 128) (ha : Asc s) : EscOf s esc := ⟨ha, fun c hc => by
  have hp := pt_iff.1 hc
  unfold hasB
  by_cases h1 : c < 128
  · obtain ⟨n, rfl⟩ : ∃ n : Nat, c = n := ⟨c.toNat, by omega⟩
    rw [decide_eq_true h1, Bool.true_and, ← h n (by omega)]
    rfl
  · rw [decide_eq_false h1, Bool.false_and]
    symm
    rw [decide_eq_false_iff_not]
    intro hm
    exact h1 (hl c hm)⟩
theorem esc_out : EscOf strOut escOut := esc_small (by decide) (by decide) asc_out
theorem esc_in : EscOf strIn escIn := esc_small (by decide) (by decide) asc_in

theorem wadd_str (s : ByteArray) (w : World) (p : Nat) (A : Option Addr) (c : Nat) (ns : List Nd) (st : Wr) (F : List Nat) (h : Wt w p A c ns st F) (ht : s.size ≤ 10000) (t : List UInt8) (hst : s.data.toList = t) :
    Calls Tryz.prog 106 #[.pointer (some ⟨p, 0, none⟩), .string s] w (WPost w p A c ns F (W (some t) st)) := by
  have e : (⟨t.toArray⟩ : ByteArray) = s := by subst hst; cases s; simp
  rw [← e]
  refine wadd_any t w p A c ns st F h ?_
  subst hst
  rw [Array.length_toList]
  exact ht

/-- The writer fails. -/
theorem Wt.fail {w : World} {p : Nat} {A : Option Addr} {c : Nat} {ns : List Nd} {st : Wr} {F : List Nat} (h : Wt w p A c ns st F) :
    (∃ b, w.cell? ⟨p, 2, none⟩ = some (.bool b)) ∧ w.frozen? ⟨p, 2, none⟩ = false ∧ Wk w p A c ns F none (w.setCell ⟨p, 2, none⟩ (.bool true)) := by
  obtain ⟨v, fl, acc, h1, h2, h3, h4, rfl, h6⟩ := h
  exact ⟨⟨_, h1.cell.2.2⟩, h1.frozen 2, ⟨_, ⟨_, true, acc, h1.set2 true, h2.set 2 _, h3, rfl, rfl, h6.keepG ((Keep.refl [p] w).setCell (.inl (by simp)) _) (Nat.le_of_lt h1.lt) fun b hb => by simp at hb; omega⟩, (Keep.refl _ w).setCell (.inl (by simp)) _, fun b hb => .inl hb⟩⟩

theorem str_app (a b : ByteArray) : (a ++ b).data.toList = a.data.toList ++ b.data.toList := by rw [ByteArray.data_append, Array.toList_append]

set_option maxHeartbeats 4000000 in
set_option maxRecDepth 100000 in
theorem wpoint_any (s : ByteArray) (esc : List Int) (hE : EscOf s esc) (z : Int) (w : World) (p : Nat) (A : Option Addr) (c : Nat) (ns : List Nd) (st : Wr) (F : List Nat) (h : Wt w p A c ns st F) :
    Calls Tryz.prog 105 #[.pointer (some ⟨p, 0, none⟩), .int .i64 z, .string s] w (WPost w p A c ns F (W (pointO esc z) st)) := by
  have cP := isPoint_any z w
  obtain ⟨⟨b0, hb0⟩, hf0, hk0⟩ := h.fail
  have HK0 := Lib.hid hk0
  clear hk0
  cases hp : pt z with
  | false =>
    rw [hp] at cP
    have hR : Hid (W (pointO esc z) st = none) := by show _ = none; unfold pointO; rw [hp]; exact W_no st
    clear hp h hE
    go_enter Tryz.func105, Tryz.ntmps105
    go_wp2_with (go_at_call 144; refine cP.mono ?_; rintro e w' ⟨rfl, rfl⟩)
    go_end0
    exact ⟨rfl, by rw [hR.out]; exact HK0.out⟩
  | true =>
    rw [hp] at cP
    have hO : Hid (pointO esc z = some (pointT esc z)) := by show _ = _; unfold pointO; rw [hp]; rfl
    rw [hO.out]
    by_cases q10 : z = 10
    · subst q10
      have cA := wadd_str ⟨#[92, 110]⟩ w p A c ns st F h (by decide) (pointT esc 10) (by unfold pointT; rfl)
      clear hp hE hb0 hf0 h
      go_enter Tryz.func105, Tryz.ntmps105
      go_wp2_with (first | (go_at_call 144; refine cP.mono ?_; rintro e w' ⟨rfl, rfl⟩) | (go_at_call 106; refine cA.mono ?_; rintro e w1 ⟨rfl, hk⟩))
      go_end0
      exact ⟨rfl, hk⟩
    by_cases q9 : z = 9
    · subst q9
      have cA := wadd_str ⟨#[92, 116]⟩ w p A c ns st F h (by decide) (pointT esc 9) (by unfold pointT; rfl)
      clear hp hE hb0 hf0 h
      go_enter Tryz.func105, Tryz.ntmps105
      go_wp2_with (first | (go_at_call 144; refine cP.mono ?_; rintro e w' ⟨rfl, rfl⟩) | (go_at_call 106; refine cA.mono ?_; rintro e w1 ⟨rfl, hk⟩))
      go_end0
      exact ⟨rfl, hk⟩
    by_cases q13 : z = 13
    · subst q13
      have cA := wadd_str ⟨#[92, 114]⟩ w p A c ns st F h (by decide) (pointT esc 13) (by unfold pointT; rfl)
      clear hp hE hb0 hf0 h
      go_enter Tryz.func105, Tryz.ntmps105
      go_wp2_with (first | (go_at_call 144; refine cP.mono ?_; rintro e w' ⟨rfl, rfl⟩) | (go_at_call 106; refine cA.mono ?_; rintro e w1 ⟨rfl, hk⟩))
      go_end0
      exact ⟨rfl, hk⟩
    have hpi := pt_iff.1 hp
    have hw32 : IntKind.i32.wrap z = z := by unfold IntKind.wrap; simp [IntKind.bits, IntKind.signed]; omega
    obtain ⟨u, hu⟩ : ∃ u, Utf8.encode z = u := ⟨_, rfl⟩
    have hul : u.data.toList = encodeRune z := by rw [← hu, encode_bytes hp]
    have hus : u.size ≤ 4 := by have := (encodeRune_length z).2; rw [← hul, Array.length_toList] at this; exact this
    have hcu : ∀ W, (convert 21 9 (.int .i32 z)).run Tryz.prog W = .ok (.string u) W := fun W => by rw [run_convert_int_string W 21 9 .i32 z (by rw [Tryz.underlying21]; rfl) Tryz.underlying9, hu]
    have cC := contains_any s z w hE.1 hp
    rw [hE.2 z hp] at cC
    have H := Lib.hid h
    have HU := Lib.hid hul
    clear hp hb0 hf0 h hpi hu hul hE HK0
    by_cases qm : z ∈ esc
    · have hT : Hid (pointT esc z = 92 :: encodeRune z) := by show _ = _; unfold pointT; rw [if_neg q10, if_neg q9, if_neg q13, if_pos qm]
      rw [decide_eq_true qm] at cC
      obtain ⟨bs, hbs⟩ : ∃ bs : ByteArray, (⟨#[92]⟩ : ByteArray) ++ u = bs := ⟨_, rfl⟩
      have hbl : bs.data.toList = pointT esc z := by
        rw [← hbs, str_app, HU.out, hT.out]
        exact List.singleton_append
      have hbz : bs.size ≤ 10000 := by
        have e1 : bs.size = (⟨#[92]⟩ : ByteArray).size + u.size := by rw [← hbs, ByteArray.size_append]
        have e2 : (⟨#[92]⟩ : ByteArray).size = 1 := rfl
        omega
      have cA : ∀ w1, Below w.heap.size w w1 → Calls Tryz.prog 106 #[.pointer (some ⟨p, 0, none⟩), .string bs] w1 (WPost w1 p A c ns F (W (some (pointT esc z)) st)) := fun w1 hb =>
        wadd_str bs w1 p A c ns st F (H.out.keep0 (Keep.ofBelow hb)) hbz _ hbl
      clear hbl hbz
      clear qm
      go_enter Tryz.func105, Tryz.ntmps105
      go_wp2_with (first | (go_at_call 144; refine cP.mono ?_; rintro e w' ⟨rfl, rfl⟩) | (go_at_call 145; with_reducible refine cC.mono ?_; rintro e w1 ⟨rfl, hb1⟩) | (go_at_call 106; refine (cA _ hb1).mono ?_; rintro e w2 ⟨rfl, hk⟩))
      go_end0
      exact ⟨rfl, Wk.tr (Keep.ofBelow hb1).nil (fun b hb => .inl hb) hk⟩
    · have hT : Hid (pointT esc z = encodeRune z) := by show _ = _; unfold pointT; rw [if_neg q10, if_neg q9, if_neg q13, if_neg qm]
      rw [decide_eq_false qm] at cC
      have cA : ∀ w1, Below w.heap.size w w1 → Calls Tryz.prog 106 #[.pointer (some ⟨p, 0, none⟩), .string u] w1 (WPost w1 p A c ns F (W (some (pointT esc z)) st)) := fun w1 hb =>
        wadd_str u w1 p A c ns st F (H.out.keep0 (Keep.ofBelow hb)) (by omega) _ (by rw [HU.out, hT.out])
      clear qm
      go_enter Tryz.func105, Tryz.ntmps105
      go_wp2_with (first | (go_at_call 144; refine cP.mono ?_; rintro e w' ⟨rfl, rfl⟩) | (go_at_call 145; with_reducible refine cC.mono ?_; rintro e w1 ⟨rfl, hb1⟩) | (go_at_call 106; refine (cA _ hb1).mono ?_; rintro e w2 ⟨rfl, hk⟩))
      go_end0
      exact ⟨rfl, Wk.tr (Keep.ofBelow hb1).nil (fun b hb => .inl hb) hk⟩

end Go.Proofs.YtdkjfppjbkdelaaGreatDoor

/- The program's writer of patterns: times. Conditions: numbers are ints. -/
namespace Go.Proofs.YtdkjfppjbkdelaaGreatDoor
set_option linter.unusedVariables false
open Go.RowKit
open Go.Lib (encodeRune itoa)

def I64 (n : Int) : Prop := -9223372036854775808 ≤ n ∧ n ≤ 9223372036854775807

set_option maxHeartbeats 1000000 in
theorem implNum (n : Int) (w : World) (hn : I64 n) (hT : Lib.TabIs Tryz.prog w "internal/strconv.uint64pow10" .u64 Lib.pow10Tab) :
    Calls Tryz.prog 147 #[.int .i64 n] w fun e w' => e = .returned (.string ⟨(itoa n).toArray⟩) ∧ Below w.heap.size w w' := by
  have cI : Calls Tryz.prog 176 #[.int .i64 n] w fun e w' => e = .returned (.string ⟨(itoa n).toArray⟩) ∧ Below w.heap.size w w' := by
    refine (Tryz.strconv_Itoa n hn.1 hn.2 w hT).mono ?_
    rintro e w' ⟨rfl, k, os, rfl⟩
    exact ⟨rfl, Lib.below_grow _ w (Nat.le_refl _) k os⟩
  generalize (⟨(itoa n).toArray⟩ : ByteArray) = b at cI ⊢
  clear hT
  go_enter Tryz.func147, Tryz.ntmps147
  go_wp2_with (go_at_call 176; refine cI.mono ?_; rintro e w2 ⟨rfl, hb2⟩)
  go_ret
  exact ⟨rfl, hb2⟩

theorem Wt.tab {w : World} {p : Nat} {A : Option Addr} {c : Nat} {ns : List Nd} {st : Wr} {F : List Nat} (h : Wt w p A c ns st F) : Lib.TabIs Tryz.prog w "internal/strconv.uint64pow10" .u64 Lib.pow10Tab := by
  obtain ⟨v, fl, acc, _, _, _, _, _, h6⟩ := h
  exact h6.2.1
theorem itoa_small (n : Int) (hn : I64 n) : (itoa n).length ≤ 100 := Nat.le_trans (Lib.itoa_length_le n hn.1 hn.2) (by omega)
theorem strOf (n : Int) (hn : I64 n) : ∃ a : ByteArray, (⟨(itoa n).toArray⟩ : ByteArray) = a ∧ a.data.toList = itoa n ∧ a.size ≤ 100 := ⟨_, rfl, rfl, by have := itoa_small n hn; simpa [ByteArray.size] using this⟩
theorem app3 (x y : ByteArray) (hx : x.size ≤ 300) (hy : y.size ≤ 300) : ∃ b : ByteArray, x ++ y = b ∧ b.data.toList = x.data.toList ++ y.data.toList ∧ b.size = x.size + y.size := ⟨_, rfl, str_app x y, ByteArray.size_append⟩

set_option maxHeartbeats 4000000 in
set_option maxRecDepth 100000 in
theorem wtimes_any (lo hi : Int) (hl : I64 lo) (hh : I64 hi) (w : World) (p : Nat) (A : Option Addr) (c : Nat) (ns : List Nd) (st : Wr) (F : List Nat) (h : Wt w p A c ns st F) :
    Calls Tryz.prog 109 #[.pointer (some ⟨p, 0, none⟩), .int .i64 lo, .int .i64 hi] w (WPost w p A c ns F (W (oftenO lo hi) st)) := by
  obtain ⟨⟨b0, hb0⟩, hf0, hk0⟩ := h.fail
  have HK0 := Lib.hid hk0
  clear hk0
  by_cases h1 : lo < 0
  · have hR : Hid (W (oftenO lo hi) st = none) := by show _ = none; unfold oftenO; rw [if_pos (.inl h1)]; exact W_no st
    clear h
    go_enter Tryz.func109, Tryz.ntmps109
    go_wp2
    go_end0
    exact ⟨rfl, by rw [hR.out]; exact HK0.out⟩
  by_cases h2 : hi < -1
  · have hR : Hid (W (oftenO lo hi) st = none) := by show _ = none; unfold oftenO; rw [if_pos (.inr h2)]; exact W_no st
    clear h
    go_enter Tryz.func109, Tryz.ntmps109
    go_wp2
    go_end0
    exact ⟨rfl, by rw [hR.out]; exact HK0.out⟩
  clear hb0 hf0 HK0
  have hO : Hid (oftenO lo hi = some (oftenT lo hi)) := by show _ = _; unfold oftenO; rw [if_neg (by omega)]
  rw [hO.out]
  have H := Lib.hid h
  have cA : ∀ (bs : ByteArray) (t : List UInt8) (w1 : World), bs.data.toList = t → bs.size ≤ 10000 → Below w.heap.size w w1 → Calls Tryz.prog 106 #[.pointer (some ⟨p, 0, none⟩), .string bs] w1 (WPost w1 p A c ns F (W (some t) st)) := fun bs t w1 hbl hbz hb =>
    wadd_str bs w1 p A c ns st F (H.out.keep0 (Keep.ofBelow hb)) hbz _ hbl
  have CA := Lib.hid cA
  have fin : ∀ (t : List UInt8) (w1 w2 : World), Below w.heap.size w w1 → Wk w1 p A c ns F (W (some t) st) w2 → Wk w p A c ns F (W (some t) st) w2 := fun t w1 w2 hb hk => Wk.tr (Keep.ofBelow hb).nil (fun b hb => .inl hb) hk
  have cN : ∀ n, I64 n → ∀ w1, Below w.heap.size w w1 → Calls Tryz.prog 147 #[.int .i64 n] w1 fun e w' => e = .returned (.string ⟨(itoa n).toArray⟩) ∧ Below w1.heap.size w1 w' := fun n hn w1 hb => implNum n w1 hn (H.out.keep0 (Keep.ofBelow hb)).tab
  have CN := Lib.hid cN
  clear h cA cN hO
  by_cases q1 : lo = 0 ∧ hi = -1
  · obtain ⟨rfl, rfl⟩ := q1
    have cB := CA.out ⟨#[42]⟩ (oftenT 0 (-1)) w (by rfl) (by decide) (Below.refl _ _)
    go_enter Tryz.func109, Tryz.ntmps109
    go_wp2_with (go_at_call 106; refine cB.mono ?_; rintro e w2 ⟨rfl, hk⟩)
    go_end0
    exact ⟨rfl, hk⟩
  by_cases q2 : lo = 1 ∧ hi = -1
  · obtain ⟨rfl, rfl⟩ := q2
    have cB := CA.out ⟨#[43]⟩ (oftenT 1 (-1)) w (by rfl) (by decide) (Below.refl _ _)
    go_enter Tryz.func109, Tryz.ntmps109
    go_wp2_with (go_at_call 106; refine cB.mono ?_; rintro e w2 ⟨rfl, hk⟩)
    go_end0
    exact ⟨rfl, hk⟩
  by_cases q3 : lo = 0 ∧ hi = 1
  · obtain ⟨rfl, rfl⟩ := q3
    have cB := CA.out ⟨#[63]⟩ (oftenT 0 1) w (by rfl) (by decide) (Below.refl _ _)
    go_enter Tryz.func109, Tryz.ntmps109
    go_wp2_with (go_at_call 106; refine cB.mono ?_; rintro e w2 ⟨rfl, hk⟩)
    go_end0
    exact ⟨rfl, hk⟩
  have cL := CN.out lo hl w (Below.refl _ _)
  obtain ⟨a, ha, hal, has⟩ := strOf lo hl
  rw [ha] at cL
  have e123 : (⟨#[123]⟩ : ByteArray).size = 1 := rfl
  have e125 : (⟨#[125]⟩ : ByteArray).size = 1 := rfl
  have e44 : (⟨#[44]⟩ : ByteArray).size = 1 := rfl
  have e2 : (⟨#[44, 125]⟩ : ByteArray).size = 2 := rfl
  obtain ⟨b1, hb1, hbl1, hbs1⟩ := app3 ⟨#[123]⟩ a (by omega) (by omega)
  rw [e123] at hbs1
  by_cases q4 : hi = -1
  · subst q4
    have hT : oftenT lo (-1) = 123 :: (itoa lo ++ [44, 125]) := by unfold oftenT; rw [if_neg q1, if_neg q2, if_neg q3, if_pos rfl]
    obtain ⟨b2, hb2, hbl2, hbs2⟩ := app3 b1 ⟨#[44, 125]⟩ (by omega) (by omega)
    rw [e2] at hbs2
    have cB := fun w1 => CA.out b2 (oftenT lo (-1)) w1 (by rw [hbl2, hbl1, hal, hT]; simp) (by omega)
    have hn0 : ((lo : Int) == 0 && ((-1 : Int) == -1)) = false := by simp; omega
    have hz0 : ¬ lo = 0 := by omega
    have hz1 : ¬ lo = 1 := by omega
    clear hbl1 hbl2 hal hT q1 q2 q3 hn0 e123 e125 e44 e2 ha
    go_enter Tryz.func109, Tryz.ntmps109
    go_wp2_with (first | (go_at_call 147; refine cL.mono ?_; rintro e w1 ⟨rfl, hw1⟩) | (go_at_call 106; refine (cB _ hw1).mono ?_; rintro e w2 ⟨rfl, hk⟩))
    go_end0
    exact ⟨rfl, fin _ _ _ hw1 hk⟩
  by_cases q5 : lo = hi
  · subst q5
    have hT : oftenT lo lo = 123 :: (itoa lo ++ [125]) := by unfold oftenT; rw [if_neg q1, if_neg q2, if_neg q3, if_neg q4, if_pos rfl]
    obtain ⟨b2, hb2, hbl2, hbs2⟩ := app3 b1 ⟨#[125]⟩ (by omega) (by omega)
    rw [e125] at hbs2
    have cB := fun w1 => CA.out b2 (oftenT lo lo) w1 (by rw [hbl2, hbl1, hal, hT]; simp) (by omega)
    clear hbl1 hbl2 hal hT q1 q2 q3 e123 e125 e44 e2 ha
    cases hB0 : (lo == 0) <;> cases hB1 : (lo == 1)
    all_goals
      go_enter Tryz.func109, Tryz.ntmps109
      go_wp2_with (first | (go_at_call 147; refine cL.mono ?_; rintro e w1 ⟨rfl, hw1⟩) | (go_at_call 106; refine (cB _ hw1).mono ?_; rintro e w2 ⟨rfl, hk⟩))
      all_goals (go_end0; exact ⟨rfl, fin _ _ _ hw1 hk⟩)
  have hT : oftenT lo hi = 123 :: (itoa lo ++ 44 :: (itoa hi ++ [125])) := by unfold oftenT; rw [if_neg q1, if_neg q2, if_neg q3, if_neg q4, if_neg q5]
  obtain ⟨a', ha', hal', has'⟩ := strOf hi hh
  have cH := fun w1 => CN.out hi hh w1
  rw [ha'] at cH
  obtain ⟨b2, hb2, hbl2, hbs2⟩ := app3 b1 ⟨#[44]⟩ (by omega) (by omega)
  rw [e44] at hbs2
  obtain ⟨b3, hb3, hbl3, hbs3⟩ := app3 b2 a' (by omega) (by omega)
  obtain ⟨b4, hb4, hbl4, hbs4⟩ := app3 b3 ⟨#[125]⟩ (by omega) (by omega)
  rw [e125] at hbs4
  have cB := fun w1 => CA.out b4 (oftenT lo hi) w1 (by rw [hbl4, hbl3, hbl2, hbl1, hal, hal', hT]; simp) (by omega)
  clear hbl1 hbl2 hbl3 hbl4 hal hal' hT e123 e125 e44 e2 ha ha'
  cases hB0 : (lo == 0) <;> cases hB1 : (lo == 1)
  all_goals
    (try have g1 : ¬ hi = 1 := fun e => q3 ⟨by simpa using hB0, e⟩)
    clear q1 q2 q3
    go_enter Tryz.func109, Tryz.ntmps109
    go_wp2_with (first | (go_at_call 147; (first | (with_reducible refine cL.mono ?_; rintro e w1 ⟨rfl, hw1⟩) | (with_reducible refine (cH _ hw1).mono ?_; rintro e w3 ⟨rfl, hw3⟩))) | (go_at_call 106; refine (cB _ (hw1.trans (hw3.mono hw1.size))).mono ?_; rintro e w2 ⟨rfl, hk⟩))
    all_goals (go_end0; exact ⟨rfl, fin _ _ _ (hw1.trans (hw3.mono hw1.size)) hk⟩)

end Go.Proofs.YtdkjfppjbkdelaaGreatDoor
