/- The specification's characters and times of a pattern's text. Conditions: a code point; ints. -/
import Derived.Test.YtdkjfppjbkdelaaGreatDoorRxTxtA
import Derived.Test.YtdkjfppjbkdelaaGreatDoorSpecRunesA
import Derived.Test.YtdkjfppjbkdelaaGreatDoorNumText
import Derived.Test.YtdkjfppjbkdelaaGreatDoorRxWB
namespace Go.Proofs.YtdkjfppjbkdelaaGreatDoor
set_option linter.unusedVariables false
open Go.RowKit
open Go.Lib (encodeRune itoa)

theorem StrIs.str {l : List UInt8} {w w' : World} {e : Ending} {b : ByteArray} (h : StrIs l w e w') (hb : (⟨l.toArray⟩ : ByteArray) = b) : e = .returned (.string b) ∧ Below w.heap.size w w' := by subst hb; exact h

/-- Where the loop over the signs stands: none of those ahead is the code point. -/
def ChRel (s : ByteArray) (c : Int) (w : World) (i : Value) (wr : World) : Prop :=
  ∃ k : Nat, k ≤ s.size ∧ i = .int .i64 k ∧ (∀ j (h : j < s.size), j < k → ((s[j]'h).toNat : Int) ≠ c) ∧ Below w.heap.size w wr

theorem hasB_at {s : ByteArray} {c : Int} {k : Nat} (h : k < s.size) (e : ((s[k]'h).toNat : Int) = c) (hc : c < 128) : hasB s c = true := by
  unfold hasB
  rw [decide_eq_true hc, Bool.true_and, List.contains_iff_mem]
  have : c.toNat.toUInt8 = s[k]'h := by rw [← e]; simp
  rw [this]
  exact Array.getElem_mem_toList (xs := s.data) h
theorem hasB_none {s : ByteArray} {c : Int} (hp : pt c = true) (h : ∀ j (hj : j < s.size), ((s[j]'hj).toNat : Int) ≠ c) : hasB s c = false := by
  have hpi := pt_iff.1 hp
  cases hq : hasB s c with
  | false => rfl
  | true =>
    unfold hasB at hq
    rw [Bool.and_eq_true, decide_eq_true_iff, List.contains_iff_mem] at hq
    obtain ⟨hc, hm⟩ := hq
    obtain ⟨j, hj, e⟩ := List.mem_iff_getElem.1 hm
    have hj2 : j < s.size := by simpa using hj
    have := h j hj2
    exfalso
    apply this
    have e2 : s[j]'hj2 = c.toNat.toUInt8 := by rw [← e]; simp; rfl
    rw [e2]
    have : c.toNat < 256 := by omega
    simp; omega

theorem extract_one {s : ByteArray} {k j : Nat} (h : k < s.size) (hj : k + 1 = j) : (s.extract k j).data.toList = [s[k]'h] := by
  subst hj
  rw [ByteArray.data_extract, Array.toList_extract]
  have hl : k < s.data.toList.length := by rw [Array.length_toList]; exact h
  show (s.data.toList.drop k).take (k + 1 - k) = _
  rw [show k + 1 - k = 1 by omega, List.drop_eq_getElem_cons hl]
  simp; rfl
theorem enc_small {c : Int} (hp : pt c = true) (hc : c < 128) {x : UInt8} (e : (x.toNat : Int) = c) : encodeRune c = [x] := by
  unfold encodeRune
  rw [enc1 hp hc]
  subst e
  simp

set_option maxHeartbeats 4000000 in
set_option maxRecDepth 100000 in
theorem char_any (s : ByteArray) (esc : List Int) (hE : EscOf s esc) (c : Int) (w : World) (hp : pt c = true) :
    Calls Tryz.prog 67 #[.int .i64 c, .string s] w (StrIs (pointT esc c) w) := by
  have hpi := pt_iff.1 hp
  have h100 := hE.1.2.1
  by_cases q10 : c = 10
  · subst q10
    clear hE hp hpi
    go_enter Tryz.func67, Tryz.ntmps67
    go_wp2
    go_ret
    exact ⟨rfl, Below.refl _ _⟩
  by_cases q9 : c = 9
  · subst q9
    clear hE hp hpi
    go_enter Tryz.func67, Tryz.ntmps67
    go_wp2
    go_ret
    exact ⟨rfl, Below.refl _ _⟩
  by_cases q13 : c = 13
  · subst q13
    clear hE hp hpi
    go_enter Tryz.func67, Tryz.ntmps67
    go_wp2
    go_ret
    exact ⟨rfl, Below.refl _ _⟩
  have hT : Hid (pointT esc c = if hasB s c = true then 92 :: encodeRune c else encodeRune c) := by
    show _ = _
    unfold pointT
    rw [if_neg q10, if_neg q9, if_neg q13, hE.2 c hp]
    by_cases h : c ∈ esc <;> simp [h]
  have HP := Lib.hid hp
  have HA := Lib.hid hE.1
  clear hE hp hpi
  go_enter Tryz.func67, Tryz.ntmps67
  go_wp2
  go_loopw [5] (ChRel s c w) (fun i _ => s.size - (intOf i).toNat)
  case atStart => exact ⟨0, Nat.zero_le _, rfl, fun j _ h => absurd h (by omega), Below.refl _ _⟩
  case round =>
    obtain ⟨k, hk, rfl, hno, hbel⟩ := hrel
    have HNo := Lib.hid hno
    clear hno
    by_cases hlt : k < s.size
    · obtain ⟨x, hx⟩ : ∃ x, s[k]'hlt = x := ⟨_, rfl⟩
      have hxl := HA.out.at k hlt
      rw [hx] at hxl
      by_cases hc : (x.toNat : Int) = c
      · have hb : hasB s c = true := hasB_at hlt (by rw [hx]; exact hc) (by omega)
        have hT2 : Hid (pointT esc c = 92 :: encodeRune c) := by show _ = _; rw [hT.out, if_pos hb]
        have hen := enc_small HP.out (by omega) hc
        obtain ⟨j, hj⟩ : ∃ j, k + 1 = j := ⟨_, rfl⟩
        have hex := extract_one hlt hj
        rw [hx] at hex
        have hjz : (k : Int) + 1 = (j : Int) := by omega
        have hjs : j ≤ s.size := by omega
        have hkj : k ≤ j := by omega
        obtain ⟨u, hu⟩ : ∃ u, s.extract k j = u := ⟨_, rfl⟩
        rw [hu] at hex
        have hus : u.size ≤ 100 := by
          have : u.data.toList.length = 1 := by rw [hex]; rfl
          rw [Array.length_toList] at this
          show u.data.size ≤ 100
          omega
        obtain ⟨bs, hbs, hbl, _⟩ := app3 ⟨#[92]⟩ u (by decide) (by omega)
        have hfin : Hid ((⟨(pointT esc c).toArray⟩ : ByteArray) = bs) := by
          show _ = _
          rw [hT2.out, hen]
          have e1 : bs.data.toList = [92, x] := by rw [hbl, hex]; rfl
          have e2 : bs = ⟨bs.data.toList.toArray⟩ := by cases bs; simp
          rw [e2, e1]
        have hbc : ((c : Int) == (x.toNat : Int)) = true := by rw [beq_iff_eq]; exact hc.symm
        clear hT hT2 hen hex hbl hb hj hc
        go_wp2
        all_goals (go_ret; exact ⟨by rw [hfin.out]; rfl, hbel⟩)
      · have hbc : ((c : Int) == (x.toNat : Int)) = false := by rw [beq_eq_false_iff_ne]; exact fun e => hc e.symm
        have HNo2 : Hid (∀ j (h : j < s.size), j < k + 1 → ((s[j]'h).toNat : Int) ≠ c) := fun j h hjk => by
          by_cases e : j = k
          · subst e; rw [hx]; exact hc
          · exact HNo.out j h (by omega)
        clear hc
        go_wp2
        go_roundw
        case rel => exact ⟨k + 1, hlt, by go_num, HNo2.out, hbel⟩
        case measure => simp [intOf]; omega
    · have hT2 : Hid (pointT esc c = cat [c]) := by
        show _ = _
        rw [hT.out, hasB_none HP.out fun j hj => HNo.out j hj (by omega)]
        simp [cat]
      obtain ⟨w1, hw1⟩ : ∃ w1, wr.alloc (.cells #[.int .i64 c] 3) = w1 := ⟨_, rfl⟩
      have b1 : Below wr.heap.size wr w1 := by rw [← hw1]; exact (Below.refl _ _).alloc (Nat.le_refl _) _
      have hN1 : Nums .i64 w1 w1.heap.size (some ⟨wr.heap.size, 0, none⟩) [c] := fun j hj => by
        obtain rfl : j = 0 := by simp at hj; omega
        refine ⟨wr.heap.size, 0, rfl, by rw [← hw1, alloc_size1]; omega, ?_⟩
        rw [← hw1, cell_of_row _ _ _ _ _ _ (heap_alloc_new wr _)]; rfl
      have cS := specText (some ⟨wr.heap.size, 0, none⟩) 1 [c] w1 (by simp) hN1 (by simp; exact HP.out)
      have HB1 := Lib.hid (hbel.trans (b1.mono hbel.size))
      have hB1 : Hid (∀ W, Below w1.heap.size w1 W → Below w.heap.size w W) := fun W h => HB1.out.trans (h.mono HB1.out.size)
      rw [← hT2.out] at cS
      have cS2 := cS.mono fun e w' h => StrIs.str h rfl
      obtain ⟨bs, hbs⟩ : ∃ bs : ByteArray, (⟨(pointT esc c).toArray⟩ : ByteArray) = bs := ⟨_, rfl⟩
      rw [hbs] at cS2
      have HBS := Lib.hid hbs
      clear hbs cS hN1 b1 hT
      go_wp2_with (go_at_call 76; refine cS2.mono ?_; rintro e w3 ⟨rfl, b3⟩)
      all_goals (go_ret; exact ⟨by rw [HBS.out]; rfl, hB1.out _ b3⟩)

end Go.Proofs.YtdkjfppjbkdelaaGreatDoor

/- The specification's times of a pattern's text; its comparing of ints and nodes. Conditions: ints. -/
namespace Go.Proofs.YtdkjfppjbkdelaaGreatDoor
set_option linter.unusedVariables false
open Go.RowKit
open Go.Lib (encodeRune itoa)

set_option maxHeartbeats 4000000 in
set_option maxRecDepth 100000 in
theorem often_any (lo hi : Int) (hl : I64 lo) (hh : I64 hi) (w : World) : Calls Tryz.prog 68 #[.int .i64 lo, .int .i64 hi] w (StrIs (oftenT lo hi) w) := by
  have cN : ∀ n, I64 n → ∀ w1, Calls Tryz.prog 112 #[.int .i64 n] w1 (StrIs (itoa n) w1) := fun n hn w1 => specNumText n w1 hn.1 hn.2
  by_cases q1 : lo = 0 ∧ hi = -1
  · obtain ⟨rfl, rfl⟩ := q1
    go_enter Tryz.func68, Tryz.ntmps68
    go_wp2
    go_ret
    exact ⟨rfl, Below.refl _ _⟩
  by_cases q2 : lo = 1 ∧ hi = -1
  · obtain ⟨rfl, rfl⟩ := q2
    go_enter Tryz.func68, Tryz.ntmps68
    go_wp2
    go_ret
    exact ⟨rfl, Below.refl _ _⟩
  by_cases q3 : lo = 0 ∧ hi = 1
  · obtain ⟨rfl, rfl⟩ := q3
    go_enter Tryz.func68, Tryz.ntmps68
    go_wp2
    go_ret
    exact ⟨rfl, Below.refl _ _⟩
  obtain ⟨a, ha, hal, has⟩ := strOf lo hl
  have cL := (cN lo hl w).mono fun e w' h => StrIs.str h ha
  have e123 : (⟨#[123]⟩ : ByteArray).size = 1 := rfl
  have e125 : (⟨#[125]⟩ : ByteArray).size = 1 := rfl
  have e44 : (⟨#[44]⟩ : ByteArray).size = 1 := rfl
  have e2 : (⟨#[44, 125]⟩ : ByteArray).size = 2 := rfl
  obtain ⟨b1, hb1, hbl1, hbs1⟩ := app3 ⟨#[123]⟩ a (by omega) (by omega)
  rw [e123] at hbs1
  have fin : ∀ (b : ByteArray) (t : List UInt8), b.data.toList = t → (⟨t.toArray⟩ : ByteArray) = b := fun b t h => by subst h; cases b; simp
  by_cases q4 : hi = -1
  · subst q4
    have hT : oftenT lo (-1) = 123 :: (itoa lo ++ [44, 125]) := by unfold oftenT; rw [if_neg q1, if_neg q2, if_neg q3, if_pos rfl]
    obtain ⟨b2, hb2, hbl2, hbs2⟩ := app3 b1 ⟨#[44, 125]⟩ (by omega) (by omega)
    have hF := Lib.hid (fin b2 (oftenT lo (-1)) (by rw [hbl2, hbl1, hal, hT]; simp))
    have hz0 : ¬ lo = 0 := by omega
    have hz1 : ¬ lo = 1 := by omega
    clear hbl1 hbl2 hal hT q1 q2 q3 e123 e125 e44 e2 ha fin cN
    go_enter Tryz.func68, Tryz.ntmps68
    go_wp2_with (go_at_call 112; refine cL.mono ?_; rintro e w1 ⟨rfl, hw1⟩)
    all_goals (go_ret; exact ⟨by rw [hF.out]; rfl, hw1⟩)
  by_cases q5 : lo = hi
  · subst q5
    have hT : oftenT lo lo = 123 :: (itoa lo ++ [125]) := by unfold oftenT; rw [if_neg q1, if_neg q2, if_neg q3, if_neg q4, if_pos rfl]
    obtain ⟨b2, hb2, hbl2, hbs2⟩ := app3 b1 ⟨#[125]⟩ (by omega) (by omega)
    have hF := Lib.hid (fin b2 (oftenT lo lo) (by rw [hbl2, hbl1, hal, hT]; simp))
    clear hbl1 hbl2 hal hT q1 q2 q3 e123 e125 e44 e2 ha fin cN
    cases hB0 : (lo == 0) <;> cases hB1 : (lo == 1)
    all_goals
      go_enter Tryz.func68, Tryz.ntmps68
      go_wp2_with (go_at_call 112; refine cL.mono ?_; rintro e w1 ⟨rfl, hw1⟩)
      all_goals (go_ret; exact ⟨by rw [hF.out]; rfl, hw1⟩)
  have hT : oftenT lo hi = 123 :: (itoa lo ++ 44 :: (itoa hi ++ [125])) := by unfold oftenT; rw [if_neg q1, if_neg q2, if_neg q3, if_neg q4, if_neg q5]
  obtain ⟨a', ha', hal', has'⟩ := strOf hi hh
  have cH := fun w1 => (cN hi hh w1).mono fun e w' h => StrIs.str h ha'
  obtain ⟨b2, hb2, hbl2, hbs2⟩ := app3 b1 ⟨#[44]⟩ (by omega) (by omega)
  rw [e44] at hbs2
  obtain ⟨b3, hb3, hbl3, hbs3⟩ := app3 b2 a' (by omega) (by omega)
  obtain ⟨b4, hb4, hbl4, hbs4⟩ := app3 b3 ⟨#[125]⟩ (by omega) (by omega)
  rw [e125] at hbs4
  have hF := Lib.hid (fin b4 (oftenT lo hi) (by rw [hbl4, hbl3, hbl2, hbl1, hal, hal', hT]; simp))
  clear hbl1 hbl2 hbl3 hbl4 hal hal' hT e123 e125 e44 e2 ha ha' fin cN
  cases hB0 : (lo == 0) <;> cases hB1 : (lo == 1)
  all_goals
    (try have g1 : ¬ hi = 1 := fun e => q3 ⟨by simpa using hB0, e⟩)
    clear q1 q2 q3
    go_enter Tryz.func68, Tryz.ntmps68
    go_wp2_with (go_at_call 112; (first | (with_reducible refine cL.mono ?_; rintro e w1 ⟨rfl, hw1⟩) | (with_reducible refine (cH _).mono ?_; rintro e w3 ⟨rfl, hw3⟩)))
    all_goals (go_ret; exact ⟨by rw [hF.out]; rfl, hw1.trans (hw3.mono hw1.size)⟩)

theorem drewQ {w wr : World} {n m : Nat} (h : wr = w.drewN n) : ∃ k, wr.drewN m = w.drewN k := ⟨n + m, by rw [h, World.drewN_drewN]⟩
def EqRel (xs ys : List Int) (w : World) (i : Value) (wr : World) : Prop :=
  ∃ k : Nat, k ≤ xs.length ∧ i = .int .i64 k ∧ (xs.drop k == ys.drop k) = (xs == ys) ∧ ∃ n, wr = w.drewN n

set_option maxHeartbeats 2000000 in
set_option maxRecDepth 100000 in
theorem ints_any (A B : Option Addr) (c d : Nat) (xs ys : List Int) (w : World) (b1 b2 : Nat) (hx : xs.length ≤ 1048576) (hy : ys.length ≤ 1048576) (h1 : Nums .i64 w b1 A xs) (h2 : Nums .i64 w b2 B ys) :
    Calls Tryz.prog 129 #[.slice A xs.length c, .slice B ys.length d] w fun e w' => e = .returned (.bool (xs == ys)) ∧ ∃ n, w' = w.drewN n := by
  by_cases hl : xs.length = ys.length
  · have hlz : ((xs.length : Int) == (ys.length : Int)) = true := by simp; omega
    have hln : ((xs.length : Int) != (ys.length : Int)) = false := by simp; omega
    have HL := Lib.hid hl
    clear hl
    go_enter Tryz.func129, Tryz.ntmps129
    go_wp2
    clear hlz hln
    go_loopw [5] (EqRel xs ys w) (fun i _ => xs.length - (intOf i).toNat)
    case atStart => exact ⟨0, Nat.zero_le _, rfl, rfl, 0, rfl⟩
    case round =>
      obtain ⟨k, hk, rfl, he, n, hwr⟩ := hrel
      have N1 : Nums .i64 wr b1 A xs := by rw [hwr]; exact h1
      have N2 : Nums .i64 wr b2 B ys := by rw [hwr]; exact h2
      have HW := Lib.hid hwr
      clear hwr
      by_cases hlt : k < xs.length
      · have hlt2 : k < ys.length := by have := HL.out; omega
        obtain ⟨p, o, rfl, _, c0⟩ := N1 k hlt
        obtain ⟨q, o', rfl, _, d0⟩ := N2 k hlt2
        rw [List.drop_eq_getElem_cons hlt, List.drop_eq_getElem_cons hlt2] at he
        obtain ⟨x, hxx⟩ : ∃ x, xs[k] = x := ⟨_, rfl⟩
        obtain ⟨y, hyy⟩ : ∃ y, ys[k] = y := ⟨_, rfl⟩
        rw [hxx] at c0 he
        rw [hyy] at d0 he
        have HE := Lib.hid he
        have hkz : (k : Int) < (ys.length : Int) := by omega
        clear N1 N2 hxx hyy he h1 h2
        by_cases hxy : x = y
        · subst hxy
          have HE2 : Hid ((xs.drop (k + 1) == ys.drop (k + 1)) = (xs == ys)) := by show _ = _; rw [← HE.out]; simp
          clear HE
          go_wp2
          go_quiet (fail)
          go_wp2
          go_roundw
          case rel => exact ⟨k + 1, hlt, by go_num, HE2.out, drewQ HW.out⟩
          case measure => simp [intOf]; omega
        · have hb : (x == y) = false := by simpa using hxy
          have HE2 : Hid (false = (xs == ys)) := by show _ = _; rw [← HE.out]; simp [hxy]
          clear HE hxy
          go_wp2
          go_quiet (fail)
          go_wp2
          go_ret
          exact ⟨ret_bool HE2.out, drewQ HW.out⟩
      · have HE2 : Hid (true = (xs == ys)) := by show _ = _; rw [← he, List.drop_eq_nil_of_le (by omega), List.drop_eq_nil_of_le (by have := HL.out; omega)]; rfl
        clear he N1 N2
        go_wp2
        go_ret
        exact ⟨ret_bool HE2.out, n, HW.out⟩
  · have hlz : ((xs.length : Int) == (ys.length : Int)) = false := by simp; omega
    have hR : Hid (false = (xs == ys)) := by show _ = _; symm; rw [beq_eq_false_iff_ne]; intro e; exact hl (by rw [e])
    go_enter Tryz.func129, Tryz.ntmps129
    go_wp2
    all_goals (go_ret; exact ⟨ret_bool hR.out, 0, rfl⟩)

end Go.Proofs.YtdkjfppjbkdelaaGreatDoor
