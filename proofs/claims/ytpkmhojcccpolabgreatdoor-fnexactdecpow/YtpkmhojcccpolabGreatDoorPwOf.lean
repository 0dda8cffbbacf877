/- spec.NumText writes an int in decimal. No condition but that the number is an int's. -/
import Derived.Test.YtpkmhojcccpolabGreatDoorSpecNat1
import Derived.Laws.AppendOwn
import Derived.OwnWalk
import Derived.Lib.ItoaNum
import Derived.Lib.ItoaLen
import Derived.Test.YtpkmhojcccpolabGreatDoorSpecDec2
import Derived.Test.YtpkmhojcccpolabGreatDoorPwTail
import Derived.Test.YtpkmhojcccpolabGreatDoorImplDec5
import Derived.Lib.AppendIntMem
import Derived.Test.YtpkmhojcccpolabGreatDoorPwMath
namespace Go.Proofs.YtpkmhojcccpolabGreatDoor.NumT
open Go.RowKit
open Go.Lib (encodeRuneZ encodeRune byteCells runeCells encodeRuneZ_length decDigits itoa)

theorem Tryz.infoByte : (Tryz.prog.info? 5).map (fun i => (i.zero, i.size, i.bytes)) = some (some (.int .u8 0), 1, 1) := by kernel_rfl
def StrIs (l : List UInt8) (w : World) (e : Ending) (w' : World) : Prop := e = .returned (.string ⟨l.toArray⟩) ∧ Below w.heap.size w w'
theorem own_empty (w w1 : World) (e : TypeId) (h : w.heap.size ≤ w1.heap.size) : (w1.alloc (.cells #[] e)).ownsRow w.heap.size e 1 (.slice (some ⟨w1.heap.size, 0, none⟩) 0 0) 0 [] :=
  World.ownsRow_lit w1 #[] 0 h (Nat.zero_le _) rfl

/-- The digits of what is left, ahead of those that are written. -/
def digOn (m : Int) (acc : List UInt8) : List UInt8 := if m = 0 then acc else decDigits m.natAbs ++ acc

theorem tmod_nat (m : Int) : (m.tmod 10).natAbs = m.natAbs % 10 := Int.natAbs_tmod m 10
theorem tdiv_nat (m : Int) : (m.tdiv 10).natAbs = m.natAbs / 10 := Int.natAbs_tdiv m 10

theorem digOn_step (m : Int) (acc : List UInt8) (hm : m ≠ 0) (d : Nat) (hd : d = m.natAbs % 10) : digOn m acc = digOn (m.tdiv 10) (UInt8.ofNat (48 + d) :: acc) := by
  subst hd
  unfold digOn
  rw [if_neg hm]
  have h1 := tdiv_nat m
  by_cases h : m.natAbs < 10
  · rw [if_pos (by omega), decDigits, dif_pos h, Nat.mod_eq_of_lt h]
    rfl
  · rw [if_neg (by omega), decDigits, dif_neg h, h1]
    simp

theorem one_byte (w : World) (c : Int) (e : TypeId) (B : Nat) (hB : B ≤ w.heap.size) : (w.alloc (.cells #[.int .u8 c] e)).ownsRow B e 1 (.slice (some ⟨w.heap.size, 0, none⟩) 1 1) 1 [.int .u8 c] :=
  World.ownsRow_lit w #[.int .u8 c] 1 hB (by unfold maxLen; omega) rfl

theorem bytes_one (l : List UInt8) : ∀ u ∈ byteCells l, u.oneCell' = true := by
  intro u hu
  simp only [byteCells, List.mem_map] at hu
  obtain ⟨x, _, rfl⟩ := hu
  rfl

theorem ahead {w : World} {B : Nat} {e : TypeId} {v : Value} {acc : List UInt8} {d : Nat} (hd : d < 200) (h : w.ownsRow B e 1 v (1 + acc.length) ([.int .u8 (48 + (d : Int))] ++ byteCells acc)) :
    w.ownsRow B e 1 v (UInt8.ofNat (48 + d) :: acc).length (byteCells (UInt8.ofNat (48 + d) :: acc)) := by
  have e1 : byteCells (UInt8.ofNat (48 + d) :: acc) = [.int .u8 (48 + (d : Int))] ++ byteCells acc := by
    simp [byteCells]; omega
  rw [e1, List.length_cons, Nat.add_comm]
  exact h

theorem own_some {w : World} {base : Nat} {e : TypeId} {size : Nat} {v : Value} {n : Nat} {xs : List Value} (h : w.ownsRow base e size v n xs) (hn : 0 < n) : ∃ g c, v = .slice (some ⟨g, 0, none⟩) n c := by
  rcases h.2 with ⟨_, h0⟩ | ⟨g, cap, cur, rfl, _⟩
  · omega
  · exact ⟨_, _, rfl⟩

def NumRel (n : Int) (w : World) (v m : Value) (wr : World) : Prop :=
  ∃ (k : Int) (acc : List UInt8) (g c : Nat), m = .int .i64 k ∧ -9223372036854775808 ≤ k ∧ k ≤ 9223372036854775807 ∧ v = .slice (some ⟨g, 0, none⟩) acc.length c ∧
    wr.ownsRow w.heap.size 5 1 (.slice (some ⟨g, 0, none⟩) acc.length c) acc.length (byteCells acc) ∧ digOn k acc = decDigits n.natAbs ∧ acc.length + (if k = 0 then 0 else Lib.nDigits k.natAbs) ≤ 100 ∧ Below w.heap.size w wr

theorem num_len (k : Int) (hk : k ≠ 0) (a : Nat) (h : a + (if k = 0 then 0 else Lib.nDigits k.natAbs) ≤ 100) : a + 1 + (if k.tdiv 10 = 0 then 0 else Lib.nDigits (k.tdiv 10).natAbs) ≤ 100 := by
  rw [if_neg hk] at h
  have h1 := tdiv_nat k
  by_cases h0 : k.natAbs < 10
  · rw [if_pos (by omega)]
    rw [Lib.nDigits_small h0] at h
    omega
  · rw [if_neg (by omega), h1]
    rw [Lib.nDigits_big h0] at h
    omega

theorem digit_of (k : Int) : ∃ d : Nat, d < 10 ∧ d = k.natAbs % 10 ∧ ((k.tmod 10 < 0 ∧ -(k.tmod 10) = (d : Int)) ∨ (¬ k.tmod 10 < 0 ∧ k.tmod 10 = (d : Int))) := by
  have h1 := tmod_nat k
  refine ⟨k.natAbs % 10, by omega, rfl, ?_⟩
  omega

set_option maxHeartbeats 2000000 in
set_option maxRecDepth 100000 in
theorem specNumText (n : Int) (w : World) (h0 : -9223372036854775808 ≤ n) (h1 : n ≤ 9223372036854775807) : Calls Tryz.prog 23 #[.int .i64 n] w (StrIs (itoa n) w) := by
  obtain ⟨i0, hi, hz0, hz1, hz2⟩ := info_parts Tryz.infoByte
  by_cases hn : n = 0
  · subst hn
    go_enter Tryz.func23, Tryz.ntmps23
    go_wp2
    go_ret
    have e : itoa 0 = [48] := by simp [itoa, decDigits]
    exact ⟨by rw [e]; rfl, Below.refl _ _⟩
  · have hnb : (n == 0) = false := by simpa using hn
    go_enter Tryz.func23, Tryz.ntmps23
    go_wp2
    go_loopw [3, 4] (fun v m wr => NumRel n w v m wr) (fun _ m _ => (intOf m).natAbs)
    case atStart =>
      refine ⟨n, [], w.heap.size, 0, rfl, h0, h1, rfl, own_empty w w _ (Nat.le_refl _), by unfold digOn; rw [if_neg hn]; simp, ?_, (Below.refl _ _).alloc (Nat.le_refl _) _⟩
      rw [if_neg hn]
      have := Lib.nDigits_le20 n.natAbs (by omega)
      simp
      omega
    case round =>
      obtain ⟨k, acc, g, c, rfl, hk0, hk1, rfl, hown, hdig, hlen, hbel⟩ := hrel
      have HD := Lib.hid hdig; clear hdig
      have HL := Lib.hid hlen
      have hacc : acc.length ≤ 100 := by omega
      clear hlen
      by_cases hk : k = 0
      · subst hk
        have HA := Lib.hid (show acc = decDigits n.natAbs by rw [← HD.out]; rfl)
        by_cases hneg : n < 0
        · have HI := Lib.hid (show itoa n = 45 :: acc by unfold itoa; rw [if_pos hneg, HA.out])
          have cv : ∀ W A c, W.ownsRow w.heap.size 5 1 (.slice A (1 + acc.length) c) (1 + acc.length) ([.int .u8 45] ++ byteCells acc) → (convert 56 9 (.slice A (1 + acc.length) c)).run Tryz.prog W = .ok (.string ⟨(45 :: acc).toArray⟩) W := fun W A c h => by
            have e1 : byteCells (45 :: acc) = [.int .u8 45] ++ byteCells acc := by simp [byteCells]
            have h2 : W.ownsRow w.heap.size 5 1 (.slice A (1 + acc.length) c) (45 :: acc).length (byteCells (45 :: acc)) := by rw [e1, List.length_cons, Nat.add_comm]; rw [Nat.add_comm] at h; exact h
            exact conv_own (P := Tryz.prog) (dst := 9) Tryz.underlying56 Tryz.underlying5 Tryz.underlying9 h2
          have CV := Lib.hid cv; clear cv
          go_wp2_with (at_builtin; refine wpList_append_own _ rfl (.tmp 28) (.tmp 29) 56 rfl w.heap.size 5 i0 (.int .u8 0) 1 1 Tryz.underlying56 hi hz0 hz1 hz2 rfl (by decide) _ 1 [.int .u8 (45)] rfl (one_byte wr _ _ _ hbel.size) ⟨g, 0, none⟩ acc.length c (byteCells acc) rfl (by simp [byteCells]) ((hown.alloc _).cells (g := g) rfl) (bytes_one acc) (by unfold maxLen; omega) (by omega) (by have := hbel.size; simp; omega) ?_; intro v' w1 hown1 hgrow1 _; obtain ⟨A2, c2, rfl⟩ := own_form hown1; have hcv := CV.out _ _ _ hown1)
          have hb1 : Below w.heap.size w w1 := (hbel.alloc hbel.size _).grown hgrow1 (by have := hbel.size; simp; omega) (fun k hk => by have := hbel.size; cases hk; exact this)
          clear hown1 hgrow1 hown hbel
          go_wp2
          go_ret
          exact ⟨by rw [HI.out]; rfl, hb1⟩
        · have HI := Lib.hid (show itoa n = acc by unfold itoa; rw [if_neg hneg, HA.out]; congr 1; omega)
          have hcv := conv_own (P := Tryz.prog) (dst := 9) Tryz.underlying56 Tryz.underlying5 Tryz.underlying9 hown
          go_wp2
          go_ret
          exact ⟨by rw [HI.out]; rfl, hbel⟩
      · have hkb : (k != 0) = true := by simpa using hk
        obtain ⟨d, hd1, hd2, hd3⟩ := digit_of k
        have HS := Lib.hid (digOn_step k acc hk d hd2)
        have HN := Lib.hid (num_len k hk acc.length HL.out)
        have hq := Lib.hid (show (k.tdiv 10).natAbs < k.natAbs ∧ -9223372036854775808 ≤ k.tdiv 10 ∧ k.tdiv 10 ≤ 9223372036854775807 by have := tdiv_nat k; omega)
        clear hd2
        rcases hd3 with ⟨g1, g2⟩ | ⟨g1, g2⟩
        all_goals
          go_wp2_with (at_builtin; refine wpList_append_own _ rfl (.tmp 23) (.tmp 24) 56 rfl w.heap.size 5 i0 (.int .u8 0) 1 1 Tryz.underlying56 hi hz0 hz1 hz2 rfl (by decide) _ 1 [.int .u8 (48 + (d : Int))] rfl (one_byte wr _ _ _ hbel.size) ⟨g, 0, none⟩ acc.length c (byteCells acc) rfl (by simp [byteCells]) ((hown.alloc _).cells (g := g) rfl) (bytes_one acc) (by unfold maxLen; omega) (by omega) (by have := hbel.size; simp; omega) ?_; intro v' w1 hown1 hgrow1 _; obtain ⟨g2', c2, rfl⟩ := own_some hown1 (by omega))
          have hb1 : Below w.heap.size w w1 := (hbel.alloc hbel.size _).grown hgrow1 (by have := hbel.size; simp; omega) (fun k hk => by have := hbel.size; cases hk; exact this)
          have O1 := Lib.hid (ahead (by omega) hown1)
          clear hown1 hgrow1 hown hbel
          go_wp2
          go_roundw
          case rel => exact ⟨k.tdiv 10, UInt8.ofNat (48 + d) :: acc, g2', c2, rfl, hq.out.2.1, hq.out.2.2, by simp; omega, by have := O1.out; simpa [Nat.add_comm] using this, by rw [← HS.out]; exact HD.out, by simpa using HN.out, hb1⟩
          case measure => exact hq.out.1

end Go.Proofs.YtpkmhojcccpolabGreatDoor.NumT

/- spec.DecOf: an int as a decimal. No condition but that the number is an int's. -/
namespace Go.Proofs.YtpkmhojcccpolabGreatDoor
set_option linter.unusedVariables false
open Go.RowKit

theorem dec_nat : ∀ v : Nat, Lib.decDigits v = natOf v := by
  intro v
  induction v using Nat.strongRecOn with
  | _ v ih =>
    rw [Lib.decDigits]
    by_cases h : v < 10
    · rw [dif_pos h, natOf_small h]; rfl
    · rw [dif_neg h, natOf_big h, ih (v / 10) (by omega)]; rfl
theorem itoa_neg {n : Int} (h : n < 0) : Lib.itoa n = 45 :: natOf n.natAbs := by unfold Lib.itoa; rw [if_pos h, dec_nat]
theorem itoa_pos {n : Int} (h : ¬ n < 0) : Lib.itoa n = natOf n.natAbs := by
  unfold Lib.itoa
  rw [if_neg h, dec_nat]
  congr 1; omega
/-- An int as a decimal. -/
def decOfV (n : Int) : DecV := (formOf (decide (n < 0)) n.natAbs 0).1
theorem nat20 {n : Int} (h0 : -9223372036854775808 ≤ n) (h1 : n ≤ 9223372036854775807) : (natOf n.natAbs).length ≤ 30 := by
  have := nat_len_le (v := n.natAbs) (k := 20) (by omega)
  omega
theorem ext_cons (b : UInt8) (l : List UInt8) : (⟨(b :: l).toArray⟩ : ByteArray).extract 1 (⟨(b :: l).toArray⟩ : ByteArray).size = ⟨l.toArray⟩ := by
  apply ByteArray.ext
  rw [ByteArray.data_extract]
  show (b :: l).toArray.extract 1 (b :: l).length = l.toArray
  apply Array.ext'
  simp

set_option maxHeartbeats 1000000 in
set_option maxRecDepth 100000 in
theorem specDecOf (n : Int) (w : World) (h0 : -9223372036854775808 ≤ n) (h1 : n ≤ 9223372036854775807) : Calls Tryz.prog 12 #[.int .i64 n] w (AnsD (decOfV n) w) := by
  have cN := fun W => NumT.specNumText n W h0 h1
  unfold NumT.StrIs at cN
  have K0 := DecAt.new w false ⟨#[]⟩ 0
  have B0 : Below w.heap.size w (w.alloc (.cells #[.bool false, .string ⟨#[]⟩, .int .i64 0] 25)) := (Below.refl _ _).alloc (Nat.le_refl _) _
  obtain ⟨u, hu⟩ : ∃ z : ByteArray, ⟨(natOf n.natAbs).toArray⟩ = z := ⟨_, rfl⟩
  have lu : u.data.toList = natOf n.natAbs := by rw [← hu]
  have zu : u.size ≤ 30 := by rw [← size_list, lu]; exact nat20 h0 h1
  have nu : nv u = n.natAbs := by unfold nv; rw [lu, val_natOf]
  have cF0 : ∀ neg W, _ := fun neg W => specForm neg u 0 false W (by omega) (by rw [lu]; exact natOf_digs _) (by omega) (by omega)
  simp only [Bool.false_eq_true, if_false, nu] at cF0
  by_cases hn : n < 0
  · have hd : decide (n < 0) = true := decide_eq_true hn
    have HV : Hid (decOfV n = (formOf true n.natAbs 0).1) := by show _ = _; unfold decOfV; rw [hd]
    rw [itoa_neg hn] at cN
    obtain ⟨t, ht⟩ : ∃ z : ByteArray, ⟨(45 :: natOf n.natAbs).toArray⟩ = z := ⟨_, rfl⟩
    have et : t.extract 1 t.size = u := by rw [← ht, ext_cons, hu]
    have zt : 1 ≤ t.size := by rw [← ht]; show 1 ≤ (45 :: natOf n.natAbs).length; simp
    rw [ht] at cN
    have cF := cF0 true
    unfold AnsDC at cF
    have HR : Hid (AnsD (decOfV n) w = AnsD (formOf true n.natAbs 0).1 w) := by show _ = _; rw [HV.out]
    rw [HR.out]
    obtain ⟨R, hR⟩ : ∃ R, formOf true n.natAbs 0 = R := ⟨_, rfl⟩
    rw [hR] at cF ⊢
    obtain ⟨⟨rn, rd, re⟩, rc⟩ := R
    dsimp only at cF ⊢
    obtain ⟨rs, hrs⟩ : ∃ rs : ByteArray, ⟨rd.toArray⟩ = rs := ⟨_, rfl⟩
    rw [hrs] at cF
    clear HR HV hR cF0 lu nu hu ht
    have zti : (1 : Int) ≤ (t.size : Int) := by omega
    go_enter Tryz.func12, Tryz.ntmps12
    go_wp2_with fail
    refine (cN _).mono ?_
    rintro r w1 ⟨rfl, B1⟩
    have K1 := K0.belowS B1
    have D1 := below_kept B0 (Nat.le_refl _) B1
    clear cN B1 B0 K0
    go_wp2_with fail
    refine (cF _).mono ?_
    rintro r w3 ⟨rfl, B3⟩
    obtain ⟨N4, N5, K5, D5⟩ := two_rows (rn := rn) (rs := rs) (re := re) (K1.belowS B3) (below_kept D1 (Nat.le_refl _) B3)
    clear cF B3 K1 D1
    go_wp2_with (first | (with_reducible show wpList _ _ _ (⟨_, .store _ _ _, _, _, _, _⟩ :: _) _ _; first | refine store_dec w3.heap.size rfl rfl N4 ?_ | refine store_dec w.heap.size rfl rfl K5 ?_) | (with_reducible show wpList _ _ _ (⟨_, .load _ _, _, _, _, _⟩ :: _) _ _; refine load_dec w3.heap.size rfl N5 ?_))
    refine bodyPost_ret (results_dec rfl _ _ rfl K5.row) rfl ⟨?_, below_row3 D5 (Nat.le_refl _) _⟩
    rw [← hrs]
  · have hd : decide (n < 0) = false := decide_eq_false hn
    have HV : Hid (decOfV n = (formOf false n.natAbs 0).1) := by show _ = _; unfold decOfV; rw [hd]
    rw [itoa_pos hn, hu] at cN
    have cF := cF0 false
    unfold AnsDC at cF
    have HR : Hid (AnsD (decOfV n) w = AnsD (formOf false n.natAbs 0).1 w) := by show _ = _; rw [HV.out]
    rw [HR.out]
    obtain ⟨R, hR⟩ : ∃ R, formOf false n.natAbs 0 = R := ⟨_, rfl⟩
    rw [hR] at cF ⊢
    obtain ⟨⟨rn, rd, re⟩, rc⟩ := R
    dsimp only at cF ⊢
    obtain ⟨rs, hrs⟩ : ∃ rs : ByteArray, ⟨rd.toArray⟩ = rs := ⟨_, rfl⟩
    rw [hrs] at cF
    clear HR HV hR cF0 lu nu hu
    go_enter Tryz.func12, Tryz.ntmps12
    go_wp2_with fail
    refine (cN _).mono ?_
    rintro r w1 ⟨rfl, B1⟩
    have K1 := K0.belowS B1
    have D1 := below_kept B0 (Nat.le_refl _) B1
    clear cN B1 B0 K0
    go_wp2_with fail
    refine (cF _).mono ?_
    rintro r w3 ⟨rfl, B3⟩
    obtain ⟨N4, N5, K5, D5⟩ := two_rows (rn := rn) (rs := rs) (re := re) (K1.belowS B3) (below_kept D1 (Nat.le_refl _) B3)
    clear cF B3 K1 D1
    go_wp2_with (first | (with_reducible show wpList _ _ _ (⟨_, .store _ _ _, _, _, _, _⟩ :: _) _ _; first | refine store_dec w3.heap.size rfl rfl N4 ?_ | refine store_dec w.heap.size rfl rfl K5 ?_) | (with_reducible show wpList _ _ _ (⟨_, .load _ _, _, _, _, _⟩ :: _) _ _; refine load_dec w3.heap.size rfl N5 ?_))
    refine bodyPost_ret (results_dec rfl _ _ rfl K5.row) rfl ⟨?_, below_row3 D5 (Nat.le_refl _) _⟩
    rw [← hrs]

end Go.Proofs.YtpkmhojcccpolabGreatDoor

/- impl.cutSign and impl.DecOf. Conditions: at most 1048576 bytes; strconv's table of powers lies as Go's text lays it. -/
namespace Go.Proofs.YtpkmhojcccpolabGreatDoor
set_option linter.unusedVariables false
open Go.RowKit

/-- A sign ahead of a text, and the rest. -/
def cutS : List UInt8 → Bool × List UInt8
  | [] => (false, [])
  | b :: r => if b = 43 ∨ b = 45 then (decide (b = 45), r) else (false, b :: r)

theorem cons_of {s : ByteArray} (h : 0 < s.size) : s.data.toList = s[0] :: s.data.toList.drop 1 := by
  have hl := size_list s
  have := List.drop_eq_getElem_cons (l := s.data.toList) (i := 0) (by omega)
  rw [List.drop_zero] at this
  exact this
theorem drop_of {s : ByteArray} (h : 0 < s.size) : (⟨(s.data.toList.drop 1).toArray⟩ : ByteArray) = s.extract 1 s.size := by
  rw [← Lib.ext_list s 1]

set_option maxHeartbeats 1000000 in
set_option maxRecDepth 100000 in
theorem implCutSign (s : ByteArray) (w : World) (hs : s.size ≤ 1048576) :
    Calls Tryz.prog 27 #[.string s] w fun r w' => r = .returned (.tuple #[.bool (cutS s.data.toList).1, .string ⟨(cutS s.data.toList).2.toArray⟩]) ∧ Below w.heap.size w w' := by
  obtain ⟨R, hR⟩ : ∃ R, cutS s.data.toList = R := ⟨_, rfl⟩
  rw [hR]
  have HR := Lib.hid hR
  clear hR
  by_cases h0 : s.size = 0
  · have hnil : s.toList.isEmpty = true := by rw [List.isEmpty_iff]; exact toList_nil.2 h0
    have HV : Hid (R = (false, s.data.toList)) := by
      show _ = _
      rw [← HR.out, show s.data.toList = [] from List.eq_nil_of_length_eq_zero (by rw [size_list]; exact h0)]
      rfl
    clear h0 HR
    go_enter Tryz.func27, Tryz.ntmps27
    go_wp2
    go_ret2
    exact ⟨by rw [HV.out]; simp, Below.refl _ _⟩
  · have hnil : s.toList.isEmpty = false := by rw [List.isEmpty_eq_false_iff]; exact fun h => h0 (toList_nil.1 h)
    have hp : 0 < s.size := by omega
    obtain ⟨x, hx⟩ : ∃ x, s[0] = x := ⟨_, rfl⟩
    obtain ⟨t, ht⟩ : ∃ t : ByteArray, s.extract 1 s.size = t := ⟨_, rfl⟩
    have hc := cons_of hp
    rw [hx] at hc
    have c43 : x = 43 ↔ x.toNat = 43 := ⟨fun e => by rw [e]; rfl, fun e => UInt8.toNat_inj.1 (by show x.toNat = 43; exact e)⟩
    have c45 : x = 45 ↔ x.toNat = 45 := ⟨fun e => by rw [e]; rfl, fun e => UInt8.toNat_inj.1 (by show x.toNat = 45; exact e)⟩
    have HV : Hid (R = if x.toNat = 43 ∨ x.toNat = 45 then (decide (x.toNat = 45), s.data.toList.drop 1) else (false, s.data.toList)) := by
      show _ = _
      rw [← HR.out, hc]
      unfold cutS
      simp only [c43, c45, List.drop_succ_cons, List.drop_zero]
    have HD := Lib.hid (drop_of hp)
    have hzi : (1 : Int) ≤ (s.size : Int) := by omega
    have B0 : Below w.heap.size w w.drew := (Below.refl _ _).drew
    clear hc HR c43 c45
    by_cases g1 : x.toNat = 43
    · have HE : Hid (R = (false, s.data.toList.drop 1)) := by show _ = _; rw [HV.out, if_pos (.inl g1), decide_eq_false (by omega)]
      have e1 : ((x.toNat : Int) == 43) = true := by rw [beq_iff_eq]; omega
      have e2 : ((x.toNat : Int) == 45) = false := by rw [beq_eq_false_iff_ne]; omega
      clear HV g1
      go_enter Tryz.func27, Tryz.ntmps27
      go_wp2_with fail
      refine wp_region_kept_all (fun w' => Below w.heap.size w w') (by kernel_rfl) (by kernel_rfl) (fun _ _ d _ _ h => by cases d <;> exact h) B0 ?_
      iterate 7 (refine kept_step (fun K hK => ?_); go_simp; refine ⟨_, fun W hW => .inl (by go_simp; exact rfl), hK _ ?_⟩; clear hK K)
      refine kept_nil ?_
      intro W hW
      go_wp2
      go_ret2
      exact ⟨by rw [HE.out]; show _ = Ending.returned (.tuple #[.bool false, .string ⟨(s.data.toList.drop 1).toArray⟩]); rw [HD.out, ht]; rfl, hW⟩
    · by_cases g2 : x.toNat = 45
      · have HE : Hid (R = (true, s.data.toList.drop 1)) := by show _ = _; rw [HV.out, if_pos (.inr g2), decide_eq_true g2]
        have e1 : ((x.toNat : Int) == 43) = false := by rw [beq_eq_false_iff_ne]; omega
        have e2 : ((x.toNat : Int) == 45) = true := by rw [beq_iff_eq]; omega
        clear HV g1 g2
        go_enter Tryz.func27, Tryz.ntmps27
        go_wp2_with fail
        refine wp_region_kept_all (fun w' => Below w.heap.size w w') (by kernel_rfl) (by kernel_rfl) (fun _ _ d _ _ h => by cases d <;> exact h) B0 ?_
        iterate 7 (refine kept_step (fun K hK => ?_); go_simp; refine ⟨_, fun W hW => .inl (by go_simp; exact rfl), hK _ ?_⟩; clear hK K)
        refine kept_nil ?_
        intro W hW
        go_wp2
        go_ret2
        exact ⟨by rw [HE.out]; show _ = Ending.returned (.tuple #[.bool true, .string ⟨(s.data.toList.drop 1).toArray⟩]); rw [HD.out, ht]; rfl, hW⟩
      · have HE : Hid (R = (false, s.data.toList)) := by show _ = _; rw [HV.out, if_neg (by omega)]
        have e1 : ((x.toNat : Int) == 43) = false := by rw [beq_eq_false_iff_ne]; omega
        have e2 : ((x.toNat : Int) == 45) = false := by rw [beq_eq_false_iff_ne]; omega
        clear HV g1 g2
        go_enter Tryz.func27, Tryz.ntmps27
        go_wp2
        go_ret2
        exact ⟨by rw [HE.out]; simp, Below.refl _ _⟩

theorem cut_digs {l : List UInt8} (hd : Digs l) : cutS l = (false, l) := by
  cases l with
  | nil => rfl
  | cons b r =>
    have := hd.cons.1
    unfold IsD at this
    show (if b = 43 ∨ b = 45 then (decide (b = 45), r) else (false, b :: r)) = _
    rw [if_neg]
    rintro (g | g)
    · rw [g] at this; exact absurd this.1 (by decide)
    · rw [g] at this; exact absurd this.1 (by decide)
theorem cut_itoa (n : Int) : cutS (Lib.itoa n) = (decide (n < 0), natOf n.natAbs) := by
  by_cases h : n < 0
  · rw [itoa_neg h, decide_eq_true h]; rfl
  · rw [itoa_pos h, decide_eq_false h]; exact cut_digs (natOf_digs _)

set_option maxHeartbeats 1000000 in
set_option maxRecDepth 100000 in
theorem implDecOf (n : Int) (w : World) (h0 : -9223372036854775808 ≤ n) (h1 : n ≤ 9223372036854775807) (t : ByteArray) (ht : t = ⟨(Lib.itoa n).toArray⟩)
    (cI : ∀ W, Below w.heap.size w W → Calls Tryz.prog 28 #[.int .i64 n] W fun e w' => e = .returned (.string t) ∧ Below W.heap.size W w') :
    Calls Tryz.prog 15 #[.int .i64 n] w (AnsD (decOfV n) w) := by
  have lt : t.data.toList = Lib.itoa n := by rw [ht]
  have zt : t.size ≤ 31 := by
    rw [← size_list, lt]
    have := nat20 h0 h1
    by_cases h : n < 0
    · rw [itoa_neg h, List.length_cons]; omega
    · rw [itoa_pos h]; omega
  have cC := fun W => implCutSign t W (by omega)
  rw [lt, cut_itoa] at cC
  dsimp only at cC
  have K0 := DecAt.new w false ⟨#[]⟩ 0
  have B0 : Below w.heap.size w (w.alloc (.cells #[.bool false, .string ⟨#[]⟩, .int .i64 0] 25)) := (Below.refl _ _).alloc (Nat.le_refl _) _
  obtain ⟨u, hu⟩ : ∃ z : ByteArray, ⟨(natOf n.natAbs).toArray⟩ = z := ⟨_, rfl⟩
  have lu : u.data.toList = natOf n.natAbs := by rw [← hu]
  have zu : u.size ≤ 30 := by rw [← size_list, lu]; exact nat20 h0 h1
  have nu : nv u = n.natAbs := by unfold nv; rw [lu, val_natOf]
  rw [hu] at cC
  have cF := fun W => implNorm (decide (n < 0)) u 0 W (by omega) (by rw [lu]; exact natOf_digs _) (by omega) (by omega)
  rw [nu] at cF
  unfold decOfV
  obtain ⟨R, hR⟩ : ∃ R, formOf (decide (n < 0)) n.natAbs 0 = R := ⟨_, rfl⟩
  rw [hR] at cF ⊢
  unfold AnsDC at cF
  obtain ⟨⟨rn, rd, re⟩, rc⟩ := R
  dsimp only at cF ⊢
  obtain ⟨rs, hrs⟩ : ∃ rs : ByteArray, ⟨rd.toArray⟩ = rs := ⟨_, rfl⟩
  rw [hrs] at cF
  generalize decide (n < 0) = neg at *
  clear hR lu nu hu ht lt
  go_enter Tryz.func15, Tryz.ntmps15
  go_wp2_with fail
  refine (cI _ B0).mono ?_
  rintro r w1 ⟨rfl, B1⟩
  have K1 := K0.belowS B1
  have D1 := below_kept B0 (Nat.le_refl _) B1
  clear cI B1 B0 K0
  go_wp2_with fail
  refine (cC _).mono ?_
  rintro r w2 ⟨rfl, B2⟩
  have K2 := K1.belowS B2
  have D2 := below_kept D1 (Nat.le_refl _) B2
  clear cC B2 D1 K1
  go_wp2_with fail
  refine (cF _).mono ?_
  rintro r w3 ⟨rfl, B3⟩
  obtain ⟨N4, N5, K5, D5⟩ := two_rows (rn := rn) (rs := rs) (re := re) (K2.belowS B3) (below_kept D2 (Nat.le_refl _) B3)
  clear cF B3 K2 D2
  go_wp2_with (first | (with_reducible show wpList _ _ _ (⟨_, .store _ _ _, _, _, _, _⟩ :: _) _ _; first | refine store_dec w3.heap.size rfl rfl N4 ?_ | refine store_dec w.heap.size rfl rfl K5 ?_) | (with_reducible show wpList _ _ _ (⟨_, .load _ _, _, _, _, _⟩ :: _) _ _; refine load_dec w3.heap.size rfl N5 ?_))
  refine bodyPost_ret (results_dec rfl _ _ rfl K5.row) rfl ⟨?_, below_row3 D5 (Nat.le_refl _) _⟩
  rw [← hrs]

end Go.Proofs.YtpkmhojcccpolabGreatDoor

/- Powers of decimals, plainly. No program in it. -/
namespace Go.Proofs.YtpkmhojcccpolabGreatDoor
set_option linter.unusedVariables false
open Go.RowKit

def oneD : DecV := ⟨false, [49], 0⟩
theorem one_ok : oneD.Ok := .inr ⟨digs_one ⟨by decide, by decide⟩, by decide, by decide, by decide, by decide, by decide, by decide⟩
theorem one_eq : decOfV 1 = oneD := by
  have := form_self one_ok
  unfold decOfV
  have e : formOf (decide ((1 : Int) < 0)) (1 : Int).natAbs 0 = formOf oneD.neg (val oneD.dig) oneD.exp := rfl
  rw [e, this]
theorem mul_ok {a b : DecV} (ha : a.Ok) (hb : b.Ok) : (mulR a b).1.Ok := by unfold mulR; rw [if_pos ⟨ha, hb⟩]; exact form_ok _ _ _
theorem mul_code {a b : DecV} (ha : a.Ok) (hb : b.Ok) : (mulR a b).2 = 0 ∨ mulR a b = (DecV.zero, 1) := by unfold mulR; rw [if_pos ⟨ha, hb⟩]; exact form_code _ _ _
theorem mul_one {a : DecV} (ha : a.Ok) : mulR oneD a = (a, 0) := by
  unfold mulR
  rw [if_pos ⟨one_ok, ha⟩]
  have e1 : (oneD.neg != a.neg) = a.neg := by cases a.neg <;> rfl
  have e2 : val oneD.dig * val a.dig = val a.dig := by show 1 * val a.dig = _; omega
  have e3 : oneD.exp + a.exp = a.exp := by show 0 + a.exp = _; omega
  rw [e1, e2, e3]
  exact form_self ha
/-- The power, factor by factor; stuck where it is too great. -/
noncomputable def powN (a : DecV) : Nat → DecV × Int
  | 0 => (oneD, 0)
  | k + 1 => if (powN a k).2 = 0 then mulR (powN a k).1 a else powN a k
theorem pow_ok {a : DecV} (ha : a.Ok) : ∀ k, (powN a k).1.Ok
  | 0 => one_ok
  | k + 1 => by
    unfold powN
    split
    · exact mul_ok (pow_ok ha k) ha
    · exact pow_ok ha k
theorem pow_code {a : DecV} (ha : a.Ok) : ∀ k, (powN a k).2 = 0 ∨ powN a k = (DecV.zero, 1)
  | 0 => .inl rfl
  | k + 1 => by
    unfold powN
    split
    · exact mul_code (pow_ok ha k) ha
    · exact pow_code ha k
theorem pow_stuck {a : DecV} {k : Nat} (h : (powN a k).2 ≠ 0) : ∀ d, powN a (k + d) = powN a k
  | 0 => rfl
  | d + 1 => by
    have ih := pow_stuck h d
    show (if (powN a (k + d)).2 = 0 then mulR (powN a (k + d)).1 a else powN a (k + d)) = _
    rw [ih, if_neg h]
theorem pow_step {a : DecV} {k : Nat} (h : (powN a k).2 = 0) : powN a (k + 1) = mulR (powN a k).1 a := by
  show (if (powN a k).2 = 0 then mulR (powN a k).1 a else powN a k) = _
  rw [if_pos h]
theorem pow_one {a : DecV} (ha : a.Ok) : powN a 1 = (a, 0) := by rw [pow_step (k := 0) rfl]; exact mul_one ha
noncomputable def powR (a : DecV) (n : Int) : DecV × Int :=
  if a.Ok ∧ -99 ≤ n ∧ n ≤ 99 then (if n < 0 then (if (powN a n.natAbs).2 = 0 then divR oneD (powN a n.natAbs).1 else (DecV.zero, (powN a n.natAbs).2)) else powN a n.natAbs) else (DecV.zero, 3)

/-- A decimal's bytes. -/
def DecV.bs (d : DecV) : ByteArray := ⟨d.dig.toArray⟩
theorem dOf_bs (d : DecV) : dOf d.neg d.bs d.exp = d := rfl
theorem bs_of {n : Bool} {s : ByteArray} {e : Int} : (dOf n s e).bs = s := mk_list s
theorem bs_size {d : DecV} (h : d.Ok) : d.bs.size ≤ 20 := h.len
end Go.Proofs.YtpkmhojcccpolabGreatDoor
