/- spec.l01Cased turns letters of a text by a number; impl.shifted turns bytes of a text. Conditions: at most 1048576 bytes; impl: utf8's tables. -/
import Derived.Test.YtbdacfljdpdmiaaDoorSpecText
import Derived.Test.YtbdacfljdpdmiaaDoorImplOk
import Derived.Lib.ConvBytes
namespace Go.Proofs.YtbdacfljdpdmiaaDoor
open Go.RowKit
open Go.Lib (encodeRuneZ encodeRune byteCells runeCells encodeRuneZ_length)

/-- A code point turned by a number if it lies among 26. -/
def caseP (lo dy c : Int) : Int := if lo ≤ c ∧ c ≤ lo + 25 then c + dy else c
def casedList (lo dy : Int) (l : List Int) (k : Nat) : List Int := (l.take k).map (caseP lo dy) ++ l.drop k
theorem casedList_length (lo dy : Int) (l : List Int) (k : Nat) (h : k ≤ l.length) : (casedList lo dy l k).length = l.length := by simp [casedList]; omega
theorem casedList_at (lo dy : Int) (l : List Int) (k : Nat) (h : k < l.length) : (casedList lo dy l k)[k]? = some l[k] := by
  simp [casedList, List.getElem?_append, show min k l.length = k by omega, h]
theorem casedList_turn (lo dy : Int) (l : List Int) (k : Nat) (h : k < l.length) (u : Int) (hu : u = caseP lo dy l[k]) :
    ((casedList lo dy l k).map (Value.int .i64)).set k (.int .i64 u) = (casedList lo dy l (k + 1)).map (Value.int .i64) := by
  subst hu
  apply List.ext_getElem?
  intro j
  simp only [casedList, List.getElem?_set, List.getElem?_map, List.getElem?_append, List.length_take, List.length_map, List.length_append, List.getElem?_take, List.getElem?_drop, List.length_drop]
  by_cases h1 : k = j
  · subst h1
    simp [h, show min k l.length = k by omega, show min (k + 1) l.length = k + 1 by omega, show k < k + (l.length - k) by omega]
  · rcases Nat.lt_or_gt_of_ne h1 with h2 | h2
    · simp [show ¬ j < k by omega, show ¬ j < k + 1 by omega, h1, show min k l.length = k by omega, show min (k+1) l.length = k + 1 by omega, show k + (j - k) = j by omega, show k + 1 + (j - (k + 1)) = j by omega]
    · simp [show j < k by omega, show j < k + 1 by omega, h1, show min k l.length = k by omega, show min (k+1) l.length = k + 1 by omega]
theorem casedList_stay (lo dy : Int) (l : List Int) (k : Nat) (h : k < l.length) (hu : caseP lo dy l[k] = l[k]) : casedList lo dy l k = casedList lo dy l (k + 1) := by
  unfold casedList
  rw [List.take_succ_eq_append_getElem h, List.map_append, List.append_assoc]
  simp only [List.map_cons, List.map_nil, hu]
  rw [List.singleton_append, ← List.drop_eq_getElem_cons h]
theorem casedList_end (lo dy : Int) (l : List Int) (k : Nat) (h : l.length ≤ k) : casedList lo dy l k = l.map (caseP lo dy) := by
  simp [casedList, List.take_of_length_le h, List.drop_eq_nil_of_le h]

def casedOf (lo dy : Int) (s : ByteArray) : List UInt8 := ((runesOf s).map fun l => cat (l.map (caseP lo dy))).getD []

set_option maxHeartbeats 2000000 in
set_option maxRecDepth 100000 in
theorem specCased (s : ByteArray) (lo dy : Int) (w : World) (hs : s.size ≤ 1048576) (h1 : 1 ≤ lo) (h2 : lo ≤ 1000) (h3 : -1000 ≤ dy) (h4 : dy ≤ 1000) (hpt : ∀ z, pt z = true → pt (caseP lo dy z) = true) :
    Calls Tryd.prog 50 #[.string s, .int .i64 lo, .int .i64 dy] w (StrIs (casedOf lo dy s) w) := by
  have cR := specRunes s w hs
  have HPT := Lib.hid hpt; clear hpt
  cases ho : runesOf s with
  | none =>
    have HE := Lib.hid (show casedOf lo dy s = [] by unfold casedOf; rw [ho]; rfl)
    rw [ho] at cR
    clear ho
    go_enter Tryd.func50, Tryd.ntmps50
    go_wp2_with fail
    refine cR.mono ?_
    rintro e w1 ⟨v, rfl, hown, hb⟩
    clear cR hown
    go_wp2
    go_ret
    exact ⟨by rw [HE.out]; rfl, hb⟩
  | some l =>
    have HE := Lib.hid (show casedOf lo dy s = cat (l.map (caseP lo dy)) by unfold casedOf; rw [ho]; rfl)
    obtain ⟨hcat, hpts, hsz⟩ := text_cat ho
    have hll : l.length ≤ 1048576 := by
      have := cat_length_ge l
      rw [hcat] at this
      have e : s.data.toList.length = s.size := Array.length_toList
      omega
    have HP := Lib.hid hpts
    rw [ho] at cR
    clear ho hcat hpts
    go_enter Tryd.func50, Tryd.ntmps50
    go_wp2_with fail
    refine cR.mono ?_
    rintro e w1 ⟨v, rfl, hown, hb⟩
    obtain ⟨A1, c1, rfl⟩ := own_form hown
    clear cR
    go_wp2
    go_loopw [9] (fun i wr => ∃ k : Nat, k ≤ l.length ∧ i = .int .i64 k ∧ wr.ownsRow w.heap.size 3 1 (.slice A1 l.length c1) l.length ((casedList lo dy l k).map (Value.int .i64)) ∧ Below w.heap.size w wr) (fun i _ => l.length - (intOf i).toNat)
    case atStart => exact ⟨0, Nat.zero_le _, rfl, by simpa [casedList] using hown, hb⟩
    case round =>
      obtain ⟨k, hk, rfl, hownr, hbel⟩ := hrel
      clear hown hb
      by_cases hlt : k < l.length
      · obtain ⟨g, rfl⟩ : ∃ g, A1 = some ⟨g, 0, none⟩ := by
          rcases hownr.2 with ⟨_, h0⟩ | ⟨g, cap, cur, hv, _⟩
          · omega
          · injection hv with hA; exact ⟨g, hA⟩
        obtain ⟨z, hz⟩ : ∃ z, l[k] = z := ⟨_, rfl⟩
        have hcr : wr.cell? ⟨g, k, none⟩ = some (.int .i64 z) := by
          rw [hownr.cellAt k (by omega), List.getElem?_map, casedList_at lo dy l k hlt, hz]; rfl
        have hfo : wr.frozen? ⟨g, k, none⟩ = false := hownr.frozenAt k
        have hpz := pt_iff.1 (HP.out l[k] (List.getElem_mem hlt))
        rw [hz] at hpz
        have b1 : 1 ≤ z := hpz.1
        have b2 : z ≤ 1114111 := hpz.2.1
        clear hpz
        have hgb := own_block hownr g rfl
        by_cases hin : lo ≤ z ∧ z ≤ lo + 25
        · have d1 : decide (lo ≤ z ∧ z ≤ lo + 25) = true := decide_eq_true hin
          have hst := hownr.stored k (.int .i64 (z + dy))
          rw [casedList_turn lo dy l k hlt (z + dy) (by rw [hz]; unfold caseP; rw [if_pos hin])] at hst
          have HS := Lib.hid hst.1
          clear hst hownr hin hz
          go_wp2_with (go_at_call 54; refine (between_any _ _ _ _).mono ?_; rintro e w' ⟨rfl, rfl⟩)
          go_roundw
          case rel => exact ⟨k + 1, hlt, by go_num, HS.out, hbel.setCell hgb _⟩
          case measure => simp [intOf]; omega
        · have d1 : decide (lo ≤ z ∧ z ≤ lo + 25) = false := decide_eq_false hin
          have HS := Lib.hid (casedList_stay lo dy l k hlt (by rw [hz]; unfold caseP; rw [if_neg hin]))
          clear hin hz
          go_wp2_with (go_at_call 54; refine (between_any _ _ _ _).mono ?_; rintro e w' ⟨rfl, rfl⟩)
          go_roundw
          case rel => exact ⟨k + 1, hlt, by go_num, by rw [← HS.out]; exact hownr, hbel⟩
          case measure => simp [intOf]; omega
      · have hN := Nums.own hownr
        rw [casedList_end lo dy l k (by omega)] at hN
        have cT : Calls Tryd.prog 49 #[.slice A1 l.length c1] wr (StrIs (cat (l.map (caseP lo dy))) wr) := by
          have := specText A1 c1 (l.map (caseP lo dy)) wr (by simpa using hll) hN (fun z hz => by
            obtain ⟨y, hy, rfl⟩ := List.mem_map.1 hz
            exact HPT.out y (HP.out y hy))
          simpa using this
        clear hN hownr
        go_wp2_with (go_at_call 49; refine cT.mono ?_; rintro e w2 ⟨rfl, hb2⟩)
        go_ret
        exact ⟨by rw [HE.out]; rfl, hbel.trans (hb2.mono hbel.size)⟩

/-- The row of bytes that a conversion of a string has made, by now holding l. -/
def BytesAt (w : World) (g : Nat) (l : List UInt8) : Prop :=
  ∃ cur : Array Value, w.heap[g]? = some (.cells cur 5 (cur.size, cur.size + 1)) ∧ cur.toList.take l.length = byteCells l
theorem BytesAt.cell {w : World} {g : Nat} {l : List UInt8} (h : BytesAt w g l) (j : Nat) (hj : j < l.length) : w.cell? ⟨g, j, none⟩ = some (.int .u8 (l[j].toNat : Int)) := by
  obtain ⟨cur, h1, h2⟩ := h
  rw [cell_of_row w g j cur _ _ h1]
  have h3 : (cur.toList.take l.length)[j]? = some (.int .u8 (l[j].toNat : Int)) := by rw [h2]; simp [byteCells, hj]
  rw [List.getElem?_take, if_pos hj] at h3
  simpa using h3
theorem BytesAt.frozen {w : World} {g : Nat} {l : List UInt8} (h : BytesAt w g l) (j : Nat) (hj : j < l.length) : w.frozen? ⟨g, j, none⟩ = false := by
  obtain ⟨cur, h1, h2⟩ := h
  have h3 := congrArg List.length h2
  simp [byteCells] at h3
  simp [World.frozen?, h1]
  omega
theorem BytesAt.set_ {w : World} {g : Nat} {l : List UInt8} (h : BytesAt w g l) (j : Nat) (b : UInt8) : BytesAt (w.setCell ⟨g, j, none⟩ (.int .u8 (b.toNat : Int))) g (l.set j b) := by
  obtain ⟨cur, h1, h2⟩ := h
  refine ⟨cur.setIfInBounds j (.int .u8 (b.toNat : Int)), ?_, ?_⟩
  · simp [World.setCell, Array.getElem?_modify, h1]
  · rw [List.length_set, Array.toList_setIfInBounds, List.take_set, h2]
    simp [byteCells]
theorem BytesAt.made (w : World) (s : ByteArray) : BytesAt (Lib.bytesWorld w 5 s) w.heap.size s.data.toList := by
  refine ⟨_, Lib.bytesWorld_at_new w _ s, ?_⟩
  unfold Lib.bytesCells
  rw [Array.toList_append, List.take_append_of_le_length (by simp), List.take_of_length_le (by simp)]
  simp [byteCells]
theorem BytesAt.conv {P : Program} {w : World} {g cap : Nat} {src dst : TypeId} {l : List UInt8} (h : BytesAt w g l)
    (hs : P.underlying src = some (.slice 5)) (he : P.underlying 5 = some (.int .u8)) (hd : P.underlying dst = some .string) :
    (convert src dst (.slice (some ⟨g, 0, none⟩) l.length cap)).run P w = .ok (.string ⟨l.toArray⟩) w :=
  run_convert_bytes_back w src dst _ ⟨g, 0, none⟩ cap l hs he hd fun j hj => by rw [Addr.add_lit, Nat.zero_add]; exact h.cell j hj

/-- A byte turned if it lies in a range. -/
def turnB (a b g x : UInt8) : UInt8 := if a.toNat ≤ x.toNat ∧ x.toNat ≤ b.toNat then x - a + g else x
def turnList (a b g : UInt8) (l : List UInt8) (k : Nat) : List UInt8 := (l.take k).map (turnB a b g) ++ l.drop k
theorem turnList_length (a b g : UInt8) (l : List UInt8) (k : Nat) : (turnList a b g l k).length = l.length := by simp [turnList]; omega
theorem turnList_at (a b g : UInt8) (l : List UInt8) (k : Nat) (h : k < l.length) : (turnList a b g l k)[k]'(by rw [turnList_length]; exact h) = l[k] := by
  simp [turnList, show min k l.length = k by omega]
theorem turnList_step (a b g : UInt8) (l : List UInt8) (k : Nat) (h : k < l.length) : (turnList a b g l k).set k (turnB a b g l[k]) = turnList a b g l (k + 1) := by
  apply List.ext_getElem?
  intro j
  simp only [turnList, List.getElem?_set, List.getElem?_map, List.getElem?_append, List.length_take, List.length_map, List.length_append, List.getElem?_take, List.getElem?_drop, List.length_drop]
  by_cases h1 : k = j
  · subst h1
    simp [h, show min k l.length = k by omega, show min (k + 1) l.length = k + 1 by omega, show k < k + (l.length - k) by omega]
  · rcases Nat.lt_or_gt_of_ne h1 with h2 | h2
    · simp [show ¬ j < k by omega, show ¬ j < k + 1 by omega, h1, show min k l.length = k by omega, show min (k+1) l.length = k + 1 by omega, show k + (j - k) = j by omega, show k + 1 + (j - (k + 1)) = j by omega]
    · simp [show j < k by omega, show j < k + 1 by omega, h1, show min k l.length = k by omega, show min (k+1) l.length = k + 1 by omega]
theorem turnList_stay (a b g : UInt8) (l : List UInt8) (k : Nat) (h : k < l.length) (hu : turnB a b g l[k] = l[k]) : turnList a b g l k = turnList a b g l (k + 1) := by
  rw [← turnList_step a b g l k h, hu, ← turnList_at a b g l k h, List.set_getElem_self]
theorem turnList_end (a b g : UInt8) (l : List UInt8) (k : Nat) (h : l.length ≤ k) : turnList a b g l k = l.map (turnB a b g) := by
  simp [turnList, List.take_of_length_le h, List.drop_eq_nil_of_le h]
theorem turn_num {a b g x : UInt8} (h1 : a.toNat ≤ x.toNat) (h2 : x.toNat ≤ b.toNat) (h3 : b.toNat - a.toNat + g.toNat < 256) : ((turnB a b g x).toNat : Int) = (x.toNat : Int) - a.toNat + g.toNat := by
  unfold turnB
  rw [if_pos ⟨h1, h2⟩, UInt8.toNat_add, UInt8.toNat_sub_of_le _ _ (UInt8.le_iff_toNat_le.2 h1)]
  omega

def shiftedOf (a b g : UInt8) (s : ByteArray) : List UInt8 := if (runesOf s).isSome then s.data.toList.map (turnB a b g) else []

set_option maxHeartbeats 2000000 in
set_option maxRecDepth 100000 in
theorem implShifted (s : ByteArray) (a b g : UInt8) (w : World) (hs : s.size ≤ 1048576) (hT : Tabs w) (hab : a.toNat ≤ b.toNat) (hg : b.toNat - a.toNat + g.toNat < 256) :
    Calls Tryd.prog 51 #[.string s, .int .u8 a.toNat, .int .u8 b.toNat, .int .u8 g.toNat] w (StrIs (shiftedOf a b g s) w) := by
  have cO := implTextOk s w hs hT
  clear hT
  unfold shiftedOf
  cases ho : (runesOf s).isSome with
  | false =>
    rw [ho] at cO
    clear ho
    go_enter Tryd.func51, Tryd.ntmps51
    go_wp2_with fail
    refine cO.mono ?_
    rintro e w1 ⟨rfl, hb⟩
    clear cO
    go_wp2
    go_ret
    exact ⟨rfl, hb⟩
  | true =>
    rw [ho] at cO
    clear ho
    go_enter Tryd.func51, Tryd.ntmps51
    go_wp2_with fail
    refine cO.mono ?_
    rintro e w1 ⟨rfl, hb⟩
    have hcv := Lib.run_convert_string_bytes (P := Tryd.prog) w1 9 22 5 s Tryd.underlying9 Tryd.underlying22 Tryd.underlying5
    have hat := BytesAt.made w1 s
    have hb2 : Below w.heap.size w (Lib.bytesWorld w1 5 s) := hb.trans ⟨rfl, rfl, rfl, by rw [Lib.bytesWorld_size]; omega, fun k hk => Lib.bytesWorld_at_old w1 _ s k (by have := hb.size; omega)⟩
    have hz := hb.size
    clear cO hb
    obtain ⟨l, hl⟩ : ∃ l, s.data.toList = l := ⟨_, rfl⟩
    have hsl : s.size = l.length := by rw [← hl]; exact Array.length_toList.symm
    rw [hl] at hat
    have HL := Lib.hid hl
    generalize Lib.bytesWorld w1 5 s = w2 at hcv hat hb2
    generalize grownCap w1 s.size 0 5 = cap at hcv
    rw [hsl] at hcv hs
    have hat0 : BytesAt w2 w1.heap.size (turnList a b g l 0) := by simpa [turnList] using hat
    clear hl hsl hat
    go_wp2
    go_loopw [19] (fun i wr => ∃ k : Nat, k ≤ l.length ∧ i = .int .i64 k ∧ BytesAt wr w1.heap.size (turnList a b g l k) ∧ Below w.heap.size w wr) (fun i _ => l.length - (intOf i).toNat)
    case atStart => exact ⟨0, Nat.zero_le _, rfl, hat0, hb2⟩
    case round =>
      obtain ⟨k, hk, rfl, hat, hbel⟩ := hrel
      clear hat0 hb2 hcv
      by_cases hlt : k < l.length
      · obtain ⟨x, hx⟩ : ∃ x, l[k] = x := ⟨_, rfl⟩
        have hcr : wr.cell? ⟨w1.heap.size, k, none⟩ = some (.int .u8 (x.toNat : Int)) := by
          rw [hat.cell k (by rw [turnList_length]; exact hlt), turnList_at a b g l k hlt, hx]
        have hfo := hat.frozen k (by rw [turnList_length]; exact hlt)
        have hx1 := x.toNat_lt
        have ha1 := a.toNat_lt
        have hb1 := b.toNat_lt
        have hg1 := g.toNat_lt
        by_cases hin : a.toNat ≤ x.toNat ∧ x.toNat ≤ b.toNat
        · have i1 := hin.1
          have i2 := hin.2
          have hst := hat.set_ k (turnB a b g x)
          rw [turn_num hin.1 hin.2 hg] at hst
          have hst2 : BytesAt (wr.setCell ⟨w1.heap.size, k, none⟩ (.int .u8 ((x.toNat : Int) - a.toNat + g.toNat))) w1.heap.size (turnList a b g l (k + 1)) := by
            rw [← turnList_step a b g l k hlt, hx]; exact hst
          have HS := Lib.hid hst2
          clear hst hst2 hat hin hx
          go_wp2
          go_roundw
          case rel => exact ⟨k + 1, hlt, by go_num, HS.out, hbel.setCell hz _⟩
          case measure => simp [intOf]; omega
        · have HS := Lib.hid (turnList_stay a b g l k hlt (by rw [hx]; unfold turnB; rw [if_neg hin]))
          have HA := Lib.hid hat
          clear hat hx
          by_cases i1 : a.toNat ≤ x.toNat
          all_goals
            go_wp2
            go_roundw
            case rel => exact ⟨k + 1, hlt, by go_num, by rw [← HS.out]; exact HA.out, hbel⟩
            case measure => simp [intOf]; omega
      · rw [turnList_end a b g l k (by omega)] at hat
        have hcv2 := hat.conv (P := Tryd.prog) (cap := cap) (src := 22) (dst := 9) Tryd.underlying22 Tryd.underlying5 Tryd.underlying9
        rw [List.length_map] at hcv2
        clear hat
        go_wp2
        go_ret
        exact ⟨by rw [HL.out]; rfl, hbel⟩

end Go.Proofs.YtbdacfljdpdmiaaDoor
