/- spec.Quote and impl.Quote put a text in quotes. Conditions: at most 1048576 bytes; impl: utf8's tables. -/
import Derived.Test.YtbdacfljdpdmiabDoorSpecText
import Derived.Test.YtbdacfljdpdmiabDoorImplRunes
import Derived.Deep.DeepMust
namespace Go.Proofs.YtbdacfljdpdmiabDoor
open Go.RowKit
open Go.Lib (encodeRuneZ encodeRune byteCells runeCells encodeRuneZ_length)

/-- A byte as it stands in quotes. -/
def qb (b : UInt8) : List UInt8 := if b = 34 ∨ b = 92 then [92, b] else if b = 10 then [92, 110] else if b = 9 then [92, 116] else if b = 13 then [92, 114] else [b]
def quoted (l : List UInt8) : List UInt8 := l.flatMap qb
theorem quoted_append (a b : List UInt8) : quoted (a ++ b) = quoted a ++ quoted b := by simp [quoted]
theorem quoted_snoc (a : List UInt8) (b : UInt8) : quoted (a ++ [b]) = quoted a ++ qb b := by simp [quoted]
theorem qb_length (b : UInt8) : (qb b).length ≤ 2 := by
  unfold qb
  repeat' split
  all_goals simp
theorem quoted_length (l : List UInt8) : (quoted l).length ≤ 2 * l.length := by
  induction l with
  | nil => simp [quoted]
  | cons b l ih =>
    have := qb_length b
    simp only [quoted, List.flatMap_cons, List.length_append, List.length_cons] at *
    omega
def quoteOf (s : ByteArray) : List UInt8 := if (runesOf s).isSome then 34 :: quoted s.data.toList ++ [34] else []

theorem new_list (w : World) (cs : List Value) (e : TypeId) : ∀ (j : Nat) (u : Value), cs[j]? = some u → (w.alloc (.cells cs.toArray e)).cell? ((⟨w.heap.size, 0, none⟩ : Addr).add j) = some u := by
  intro j u hu
  rw [Addr.add_lit, Nat.zero_add, cell_of_row _ w.heap.size j _ e (0, 0) (heap_alloc_new w _), List.getElem?_toArray]
  exact hu
theorem bytes_one (l : List UInt8) : ∀ u ∈ byteCells l, u.oneCell' = true := by
  intro u hu
  simp only [byteCells, List.mem_map] at hu
  obtain ⟨x, _, rfl⟩ := hu
  rfl

theorem own_cat {w : World} {B : Nat} {e : TypeId} {v : Value} {a b : List UInt8} (h : w.ownsRow B e 1 v (a.length + b.length) (byteCells a ++ byteCells b)) :
    w.ownsRow B e 1 v (a ++ b).length (byteCells (a ++ b)) := by
  rw [byteCells_append, List.length_append]; exact h

theorem special (x : UInt8) : x = 34 ∨ x = 92 ∨ x = 10 ∨ x = 9 ∨ x = 13 ∨ (x ≠ 34 ∧ x ≠ 92 ∧ x ≠ 10 ∧ x ≠ 9 ∧ x ≠ 13) := by
  by_cases h1 : x = 34
  · exact .inl h1
  by_cases h2 : x = 92
  · exact .inr (.inl h2)
  by_cases h3 : x = 10
  · exact .inr (.inr (.inl h3))
  by_cases h4 : x = 9
  · exact .inr (.inr (.inr (.inl h4)))
  by_cases h5 : x = 13
  · exact .inr (.inr (.inr (.inr (.inl h5))))
  exact .inr (.inr (.inr (.inr (.inr ⟨h1, h2, h3, h4, h5⟩))))
theorem byte_ne {x : UInt8} {k : Nat} {hk : k < 256} (h : x ≠ UInt8.ofNatLT k hk) : ((x.toNat : Int) == (k : Int)) = false := by
  have : x.toNat ≠ k := fun e => h (UInt8.toNat.inj (by rw [e]; rfl))
  simp; omega
theorem qb_other {x : UInt8} (h1 : x ≠ 34) (h2 : x ≠ 92) (h3 : x ≠ 10) (h4 : x ≠ 9) (h5 : x ≠ 13) : qb x = [x] := by
  unfold qb; rw [if_neg (by simp [h1, h2]), if_neg h3, if_neg h4, if_neg h5]
theorem closing (acc : List UInt8) (B : Nat) (W : World) (A : Option Addr) (c : Nat) (h : W.ownsRow B 5 1 (.slice A (acc.length + 1) c) (acc.length + 1) (byteCells acc ++ byteCells [34])) :
    (convert 24 9 (.slice A (acc.length + 1) c)).run Tryd.prog W = .ok (.string ⟨(acc ++ [34]).toArray⟩) W := by
  have h2 := own_cat (a := acc) (b := [34]) h
  exact conv_own (P := Tryd.prog) (dst := 9) Tryd.underlying24 Tryd.underlying5 Tryd.underlying9 h2

/-- What the tests on a byte say, and what is appended. -/
def Tests (n : Int) (a b c d e : Bool) : Prop := (n == 34) = a ∧ (n == 92) = b ∧ (n == 10) = c ∧ (n == 9) = d ∧ (n == 13) = e

def QRel (s : ByteArray) (w : World) (v i : Value) (wr : World) : Prop :=
  ∃ k : Nat, k ≤ s.size ∧ i = .int .i64 k ∧ wr.ownsRow w.heap.size 5 1 v (34 :: quoted (s.data.toList.take k)).length (byteCells (34 :: quoted (s.data.toList.take k))) ∧ Below w.heap.size w wr

theorem take_byte (s : ByteArray) (k : Nat) (h : k < s.size) : s.data.toList.take (k + 1) = s.data.toList.take k ++ [s[k]] := by
  rw [List.take_succ_eq_append_getElem (by simpa using h)]; rfl

theorem specTextOkQ (s : ByteArray) (w : World) (hs : s.size ≤ 1048576) : Calls Tryd.prog 6 #[.string s] w (BoolIs (runesOf s).isSome w) := by
  have cR := specRunes s w hs
  go_enter Tryd.func6, Tryd.ntmps6
  go_wp2_with fail
  refine cR.mono ?_
  rintro e w1 ⟨v, rfl, hown, hb⟩
  clear cR hown
  go_wp2
  go_ret
  exact ⟨rfl, hb⟩

set_option maxHeartbeats 4000000 in
set_option maxRecDepth 100000 in
theorem specQuote (s : ByteArray) (w : World) (hs : s.size ≤ 1048576) : Calls Tryd.prog 4 #[.string s] w (StrIs (quoteOf s) w) := by
  obtain ⟨i0, hi, hz0, hz1, hz2⟩ := info_parts Tryd.infoByte
  have cO := specTextOkQ s w hs
  unfold quoteOf
  cases ho : (runesOf s).isSome with
  | false =>
    rw [ho] at cO
    clear ho
    go_enter Tryd.func4, Tryd.ntmps4
    go_wp2_with fail
    refine cO.mono ?_
    rintro e w1 ⟨rfl, hb⟩
    clear cO
    go_wp2
    go_ret
    exact ⟨rfl, hb⟩
  | true =>
    rw [ho] at cO
    clear ho
    go_enter Tryd.func4, Tryd.ntmps4
    go_wp2_with fail
    refine cO.mono ?_
    rintro e w1 ⟨rfl, hb⟩
    clear cO
    go_wp2
    go_loopw [3, 4] (fun v i wr => QRel s w v i wr) (fun _ i _ => s.size - (intOf i).toNat)
    case atStart =>
      refine ⟨0, Nat.zero_le _, rfl, ?_, hb.alloc hb.size _⟩
      exact World.ownsRow_lit w1 #[.int .u8 34] 1 hb.size (by unfold maxLen; omega) rfl
    case round =>
      obtain ⟨k, hk, rfl, hown, hbel⟩ := hrel
      have hql := quoted_length (s.data.toList.take k)
      have htl : (s.data.toList.take k).length ≤ k := List.length_take_le _ _
      by_cases hlt : k < s.size
      · obtain ⟨x, hx⟩ : ∃ x, s[k] = x := ⟨_, rfl⟩
        have HT := Lib.hid (take_byte s k hlt)
        rw [hx] at HT
        obtain ⟨acc, hacc⟩ : ∃ acc, 34 :: quoted (s.data.toList.take k) = acc := ⟨_, rfl⟩
        have hal : acc.length ≤ 2097153 := by rw [← hacc]; simp; omega
        rw [hacc] at hown
        have HQ : Hid (34 :: quoted (s.data.toList.take (k + 1)) = acc ++ qb x) := by
          show _ = _
          rw [HT.out, quoted_snoc, ← hacc]; rfl
        clear hacc hql htl hb
        obtain ⟨A1, c1, rfl⟩ := own_form hown
        have hx1 := x.toNat_lt
        rcases special x with rfl | rfl | rfl | rfl | rfl | ⟨n1, n2, n3, n4, n5⟩
        · go_wp2_with (at_builtin; go_must (refine wpList_append_own _ rfl _ _ 24 rfl w.heap.size 5 i0 (.int .u8 0) 1 1 Tryd.underlying24 hi hz0 hz1 hz2 rfl (by decide) _ _ _ rfl (hown.alloc _) ⟨wr.heap.size, 0, none⟩ _ _ [.int .u8 92, .int .u8 34] rfl rfl (new_list wr [.int .u8 92, .int .u8 34] 5) (bytes_one [92, 34]) (by unfold maxLen; omega) (by omega) (by have := hbel.size; simp; omega) ?_); intro v' w2 hown2 hgrow2 _; obtain ⟨A2, c2, rfl⟩ := own_form hown2)
          have hb1 : Below w.heap.size w w2 := (hbel.alloc hbel.size _).grown hgrow2 (by have := hbel.size; simp; omega) (own_block hown)
          have O2 := Lib.hid (own_cat (a := acc) (b := ([92, 34] : List UInt8)) hown2)
          clear hown2 hgrow2 hown hbel
          go_wp2
          go_roundw
          case rel => exact ⟨k + 1, hlt, by go_num, by rw [HQ.out, show qb 34 = [92, 34] by rfl]; simpa using O2.out, hb1⟩
          case measure => simp [intOf]; omega
        · go_wp2_with (at_builtin; go_must (refine wpList_append_own _ rfl _ _ 24 rfl w.heap.size 5 i0 (.int .u8 0) 1 1 Tryd.underlying24 hi hz0 hz1 hz2 rfl (by decide) _ _ _ rfl (hown.alloc _) ⟨wr.heap.size, 0, none⟩ _ _ [.int .u8 92, .int .u8 92] rfl rfl (new_list wr [.int .u8 92, .int .u8 92] 5) (bytes_one [92, 92]) (by unfold maxLen; omega) (by omega) (by have := hbel.size; simp; omega) ?_); intro v' w2 hown2 hgrow2 _; obtain ⟨A2, c2, rfl⟩ := own_form hown2)
          have hb1 : Below w.heap.size w w2 := (hbel.alloc hbel.size _).grown hgrow2 (by have := hbel.size; simp; omega) (own_block hown)
          have O2 := Lib.hid (own_cat (a := acc) (b := ([92, 92] : List UInt8)) hown2)
          clear hown2 hgrow2 hown hbel
          go_wp2
          go_roundw
          case rel => exact ⟨k + 1, hlt, by go_num, by rw [HQ.out, show qb 92 = [92, 92] by rfl]; simpa using O2.out, hb1⟩
          case measure => simp [intOf]; omega
        · go_wp2_with (at_builtin; go_must (refine wpList_append_own _ rfl _ _ 24 rfl w.heap.size 5 i0 (.int .u8 0) 1 1 Tryd.underlying24 hi hz0 hz1 hz2 rfl (by decide) _ _ _ rfl (hown.alloc _) ⟨wr.heap.size, 0, none⟩ _ _ [.int .u8 92, .int .u8 110] rfl rfl (new_list wr [.int .u8 92, .int .u8 110] 5) (bytes_one [92, 110]) (by unfold maxLen; omega) (by omega) (by have := hbel.size; simp; omega) ?_); intro v' w2 hown2 hgrow2 _; obtain ⟨A2, c2, rfl⟩ := own_form hown2)
          have hb1 : Below w.heap.size w w2 := (hbel.alloc hbel.size _).grown hgrow2 (by have := hbel.size; simp; omega) (own_block hown)
          have O2 := Lib.hid (own_cat (a := acc) (b := ([92, 110] : List UInt8)) hown2)
          clear hown2 hgrow2 hown hbel
          go_wp2
          go_roundw
          case rel => exact ⟨k + 1, hlt, by go_num, by rw [HQ.out, show qb 10 = [92, 110] by rfl]; simpa using O2.out, hb1⟩
          case measure => simp [intOf]; omega
        · go_wp2_with (at_builtin; go_must (refine wpList_append_own _ rfl _ _ 24 rfl w.heap.size 5 i0 (.int .u8 0) 1 1 Tryd.underlying24 hi hz0 hz1 hz2 rfl (by decide) _ _ _ rfl (hown.alloc _) ⟨wr.heap.size, 0, none⟩ _ _ [.int .u8 92, .int .u8 116] rfl rfl (new_list wr [.int .u8 92, .int .u8 116] 5) (bytes_one [92, 116]) (by unfold maxLen; omega) (by omega) (by have := hbel.size; simp; omega) ?_); intro v' w2 hown2 hgrow2 _; obtain ⟨A2, c2, rfl⟩ := own_form hown2)
          have hb1 : Below w.heap.size w w2 := (hbel.alloc hbel.size _).grown hgrow2 (by have := hbel.size; simp; omega) (own_block hown)
          have O2 := Lib.hid (own_cat (a := acc) (b := ([92, 116] : List UInt8)) hown2)
          clear hown2 hgrow2 hown hbel
          go_wp2
          go_roundw
          case rel => exact ⟨k + 1, hlt, by go_num, by rw [HQ.out, show qb 9 = [92, 116] by rfl]; simpa using O2.out, hb1⟩
          case measure => simp [intOf]; omega
        · go_wp2_with (at_builtin; go_must (refine wpList_append_own _ rfl _ _ 24 rfl w.heap.size 5 i0 (.int .u8 0) 1 1 Tryd.underlying24 hi hz0 hz1 hz2 rfl (by decide) _ _ _ rfl (hown.alloc _) ⟨wr.heap.size, 0, none⟩ _ _ [.int .u8 92, .int .u8 114] rfl rfl (new_list wr [.int .u8 92, .int .u8 114] 5) (bytes_one [92, 114]) (by unfold maxLen; omega) (by omega) (by have := hbel.size; simp; omega) ?_); intro v' w2 hown2 hgrow2 _; obtain ⟨A2, c2, rfl⟩ := own_form hown2)
          have hb1 : Below w.heap.size w w2 := (hbel.alloc hbel.size _).grown hgrow2 (by have := hbel.size; simp; omega) (own_block hown)
          have O2 := Lib.hid (own_cat (a := acc) (b := ([92, 114] : List UInt8)) hown2)
          clear hown2 hgrow2 hown hbel
          go_wp2
          go_roundw
          case rel => exact ⟨k + 1, hlt, by go_num, by rw [HQ.out, show qb 13 = [92, 114] by rfl]; simpa using O2.out, hb1⟩
          case measure => simp [intOf]; omega
        · have t1 : ((x.toNat : Int) == 34) = false := byte_ne n1
          have t2 : ((x.toNat : Int) == 92) = false := byte_ne n2
          have t3 : ((x.toNat : Int) == 10) = false := byte_ne n3
          have t4 : ((x.toNat : Int) == 9) = false := byte_ne n4
          have t5 : ((x.toNat : Int) == 13) = false := byte_ne n5
          have HB := Lib.hid (qb_other n1 n2 n3 n4 n5)
          clear n1 n2 n3 n4 n5
          go_wp2_with (at_builtin; go_must (refine wpList_append_own _ rfl _ _ 24 rfl w.heap.size 5 i0 (.int .u8 0) 1 1 Tryd.underlying24 hi hz0 hz1 hz2 rfl (by decide) _ _ _ rfl (hown.alloc _) ⟨wr.heap.size, 0, none⟩ _ _ [.int .u8 x.toNat] rfl rfl (new_list wr [.int .u8 x.toNat] 5) (bytes_one [x]) (by unfold maxLen; omega) (by omega) (by have := hbel.size; simp; omega) ?_); intro v' w2 hown2 hgrow2 _; obtain ⟨A2, c2, rfl⟩ := own_form hown2)
          have hb1 : Below w.heap.size w w2 := (hbel.alloc hbel.size _).grown hgrow2 (by have := hbel.size; simp; omega) (own_block hown)
          have O2 := Lib.hid (own_cat (a := acc) (b := [x]) hown2)
          clear hown2 hgrow2 hown hbel
          go_wp2
          go_roundw
          case rel => exact ⟨k + 1, hlt, by go_num, by rw [HQ.out, HB.out]; simpa using O2.out, hb1⟩
          case measure => simp [intOf]; omega
      · have HA := Lib.hid (show s.data.toList.take k = s.data.toList from List.take_of_length_le (by rw [Array.length_toList]; show s.size ≤ k; omega))
        obtain ⟨acc, hacc⟩ : ∃ acc, 34 :: quoted (s.data.toList.take k) = acc := ⟨_, rfl⟩
        have hal : acc.length ≤ 2097153 := by rw [← hacc]; simp; omega
        have HC : Hid (34 :: quoted s.data.toList ++ [34] = acc ++ [34]) := by
          show _ = _
          rw [← hacc, HA.out]
        rw [hacc] at hown
        clear hacc hql htl hb
        obtain ⟨A1, c1, rfl⟩ := own_form hown
        have CV := Lib.hid (closing acc w.heap.size)
        go_wp2_with (at_builtin; go_must (refine wpList_append_own _ rfl _ _ 24 rfl w.heap.size 5 i0 (.int .u8 0) 1 1 Tryd.underlying24 hi hz0 hz1 hz2 rfl (by decide) _ _ _ rfl (hown.alloc _) ⟨wr.heap.size, 0, none⟩ _ _ [.int .u8 34] rfl rfl (new_list wr [.int .u8 34] 5) (bytes_one [34]) (by unfold maxLen; omega) (by omega) (by have := hbel.size; simp; omega) ?_); intro v' w2 hown2 hgrow2 _; obtain ⟨A2, c2, rfl⟩ := own_form hown2; have hcv := CV.out _ _ _ hown2)
        have hb1 : Below w.heap.size w w2 := (hbel.alloc hbel.size _).grown hgrow2 (by have := hbel.size; simp; omega) (own_block hown)
        clear hown2 hgrow2 hown hbel
        go_wp2
        go_ret
        exact ⟨by rw [show 34 :: (quoted s.data.toList ++ [34]) = acc ++ [34] from HC.out]; rfl, hb1⟩

end Go.Proofs.YtbdacfljdpdmiabDoor
