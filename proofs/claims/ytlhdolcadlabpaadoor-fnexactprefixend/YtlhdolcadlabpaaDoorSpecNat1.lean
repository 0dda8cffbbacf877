/- The specification's naturals: NatOk, l02Trim, l02Zeros, l02Digit, l02Cmp. Conditions: at most 1048576 bytes. -/
import Derived.Test.YtlhdolcadlabpaaDoorRows
import Derived.Test.YtlhdolcadlabpaaDoorMem
import Derived.Test.YtlhdolcadlabpaaDoorUtf
import Derived.Test.YtlhdolcadlabpaaDoorNatMath
import Derived.Deep.QuietTactic
import Derived.BigQuiet
import Derived.Deep.DeepMust
import Derived.IntWalk
import Derived.Lib.ValidAsc
namespace Go.Proofs.YtlhdolcadlabpaaDoor
set_option linter.unusedVariables false
open Go.RowKit
open Go.Lib (byteCells)

theorem Tryd.infoByteN : (Tryd.prog.info? 5).map (fun i => (i.zero, i.size, i.bytes)) = some (some (.int .u8 0), 1, 1) := by kernel_rfl

/-- A natural of at most 600 digits. -/
def NatS (s : ByteArray) : Prop := Canon s.data.toList ∧ Digs s.data.toList ∧ s.size ≤ 600
def AnsB (P : Prop) (w : World) (e : Ending) (w' : World) : Prop := ∃ b : Bool, e = .returned (.bool b) ∧ (b = true ↔ P) ∧ Below w.heap.size w w'
def AnsS (l : List UInt8) (w : World) (e : Ending) (w' : World) : Prop := e = .returned (.string ⟨l.toArray⟩) ∧ Below w.heap.size w w'
def AnsN (n : Int) (w : World) (e : Ending) (w' : World) : Prop := e = .returned (.int .i64 n) ∧ Below w.heap.size w w'

theorem size_list (s : ByteArray) : s.data.toList.length = s.size := Array.length_toList
theorem at_list (s : ByteArray) (k : Nat) (h : k < s.size) : s.data.toList[k]'(by rw [size_list]; exact h) = s[k] := rfl

theorem betweenN (n lo hi : Int) (w : World) :
    Calls Tryd.prog 22 #[.int .i64 n, .int .i64 lo, .int .i64 hi] w fun e w' => e = .returned (.bool (decide (lo ≤ n ∧ n ≤ hi))) ∧ w = w' := by
  have rb : ∀ {a b : Bool}, a = b → Ending.returned (.bool a) = .returned (.bool b) := fun h => by rw [h]
  by_cases h1 : lo ≤ n
  · by_cases h2 : n ≤ hi
    all_goals
      go_enter Tryd.func22, Tryd.ntmps22
      go_wp2
      go_ret
      exact ⟨rb (by simp [h1, h2]), rfl⟩
  · go_enter Tryd.func22, Tryd.ntmps22
    go_wp2
    go_ret
    exact ⟨rb (by simp; omega), rfl⟩

theorem head_at (s : ByteArray) (h : 0 < s.size) : s.data.toList.head? = some s[0] := by
  have h1 : 0 < s.data.toList.length := by rw [size_list]; exact h
  rw [List.head?_eq_getElem?, List.getElem?_eq_getElem h1]
  rfl

set_option maxHeartbeats 2000000 in
set_option maxRecDepth 100000 in
theorem specNatOk (s : ByteArray) (w : World) (hs : s.size ≤ 1048576) : Calls Tryd.prog 21 #[.string s] w (AnsB (NatS s) w) := by
  have hsl := Lib.hid (size_list s)
  by_cases h0 : 1 ≤ s.size
  · by_cases h1 : s.size ≤ 600
    · obtain ⟨x, hx⟩ : ∃ x, s[0] = x := ⟨_, rfl⟩
      have hhd := Lib.hid (head_at s h0)
      rw [hx] at hhd
      by_cases h2 : 1 < s.size ∧ x = 48
      · obtain ⟨h3, rfl⟩ := h2
        go_enter Tryd.func21, Tryd.ntmps21
        go_wp2
        go_ret
        refine ⟨false, rfl, ⟨fun h => (by cases h), fun h => ?_⟩, Below.refl _ _⟩
        rcases h.1.2 with h4 | h4
        · rw [hsl.out] at h4; omega
        · exact absurd hhd.out h4
      · have hcan : Hid (Canon s.data.toList) := by
          refine ⟨fun e => ?_, ?_⟩
          · have := hsl.out; rw [e] at this; simp at this; omega
          · by_cases h3 : 1 < s.size
            · right; rw [hhd.out]; intro e; exact h2 ⟨h3, Option.some.inj e⟩
            · left; rw [hsl.out]; omega
        have hx1 : 1 < s.size → ((x.toNat : Int) == 48) = false := fun h => beq_eq_false_iff_ne.2 (fun e => h2 ⟨h, UInt8.toNat_inj.1 (by show x.toNat = 48; omega)⟩)
        clear hhd h2
        go_enter Tryd.func21, Tryd.ntmps21
        by_cases h3 : 1 < s.size
        all_goals
          (first | have hx2 := hx1 h3 | skip)
          clear hx1
          go_wp2
          go_loopw [3] (fun i wr => ∃ k : Nat, k ≤ s.size ∧ i = .int .i64 k ∧ Digs (s.data.toList.take k) ∧ Below w.heap.size w wr) (fun i _ => s.size - (intOf i).toNat)
          case atStart => exact ⟨0, Nat.zero_le _, rfl, digs_nil, Below.refl _ _⟩
          case round =>
            obtain ⟨k, hk, rfl, hd, hbel⟩ := hrel
            have HD := Lib.hid hd
            clear hd
            by_cases hlt : k < s.size
            · obtain ⟨y, hy⟩ : ∃ y, s[k] = y := ⟨_, rfl⟩
              have hy1 := y.toNat_lt
              have HT : Hid (s.data.toList.take (k + 1) = s.data.toList.take k ++ [y]) := by
                show _ = _
                rw [List.take_succ_eq_append_getElem (by rw [hsl.out]; exact hlt), at_list s k hlt, hy]
              by_cases hdy : IsD y
              · have e1 : decide ((48 : Int) ≤ (y.toNat : Int) ∧ (y.toNat : Int) ≤ 57) = true := decide_eq_true (by unfold IsD at hdy; omega)
                have hdy' := Lib.hid hdy
                clear hdy
                go_wp2_with (go_at_call 22; refine (betweenN _ _ _ _).mono ?_; rintro e w' ⟨rfl, rfl⟩)
                go_roundw
                case rel => exact ⟨k + 1, hlt, by go_num, by rw [HT.out]; exact HD.out.append (digs_one hdy'.out), hbel⟩
                case measure => simp [intOf]; omega
              · have e1 : decide ((48 : Int) ≤ (y.toNat : Int) ∧ (y.toNat : Int) ≤ 57) = false := decide_eq_false (by unfold IsD at hdy; omega)
                have hdy' := Lib.hid hdy
                clear hdy
                go_wp2_with (go_at_call 22; refine (betweenN _ _ _ _).mono ?_; rintro e w' ⟨rfl, rfl⟩)
                go_ret
                refine ⟨false, rfl, ⟨fun h => (by cases h), fun h => ?_⟩, hbel⟩
                exact absurd (h.2.1 y (List.mem_of_mem_take (i := k + 1) (by rw [HT.out]; simp))) hdy'.out
            · have HA : Hid (s.data.toList.take k = s.data.toList) := List.take_of_length_le (by rw [hsl.out]; omega)
              go_wp2
              go_ret
              exact ⟨true, rfl, ⟨fun _ => ⟨hcan.out, by have := HD.out; rw [HA.out] at this; exact this, h1⟩, fun _ => rfl⟩, hbel⟩
    · have h1i : (600 : Int) < (s.size : Int) := by omega
      have h0i : ¬ (s.size : Int) < 1 := by omega
      go_enter Tryd.func21, Tryd.ntmps21
      go_wp2
      go_ret
      exact ⟨false, rfl, ⟨fun h => (by cases h), fun h => absurd h.2.2 h1⟩, Below.refl _ _⟩
  · have h0i : (s.size : Int) < 1 := by omega
    go_enter Tryd.func21, Tryd.ntmps21
    go_wp2
    go_ret
    exact ⟨false, rfl, ⟨fun h => (by cases h), fun h => absurd (List.length_pos_iff.2 h.1.1) (by rw [hsl.out]; omega)⟩, Below.refl _ _⟩

def strSize : Value → Nat
  | .string t => t.size
  | _ => 0
theorem list_full (t : ByteArray) (h : t.size ≠ 0) : t.toList.isEmpty = false := by
  rw [ByteArray.toList_eq]
  cases hd : t.data.toList with
  | nil => exact absurd (by rw [← size_list, hd]; rfl : t.size = 0) h
  | cons _ _ => rfl
theorem trim_step (t : ByteArray) (h : 1 < t.size) (hx : t[0] = 48) : trim (t.extract 1 t.size).data.toList = trim t.data.toList := by
  have hl := size_list t
  have e : (t.extract 1 t.size).data.toList = t.data.toList.drop 1 := by rw [Lib.ext_list]
  rw [e]
  have h0 : t.data.toList[0]'(by omega) = 48 := hx
  cases hd : t.data.toList with
  | nil => rw [hd] at hl; simp at hl; omega
  | cons b l =>
    cases l with
    | nil => rw [hd] at hl; simp at hl; omega
    | cons c l =>
      have hb : b = 48 := by simpa [hd] using h0
      show trim (c :: l) = _
      rw [trim, if_pos hb]
theorem trim_stop (t : ByteArray) (h : 1 < t.size) (hx : t[0] ≠ 48) : trim t.data.toList = t.data.toList := by
  have hl := size_list t
  have h0 : t.data.toList[0]'(by omega) ≠ 48 := hx
  cases hd : t.data.toList with
  | nil => rw [hd] at hl; simp at hl; omega
  | cons b l =>
    cases l with
    | nil => rw [hd] at hl; simp at hl; omega
    | cons c l =>
      have hb : b ≠ 48 := by simpa [hd] using h0
      rw [trim, if_neg hb]
theorem trim_short (t : ByteArray) (h : t.size = 1) : trim t.data.toList = t.data.toList := by
  have hl := size_list t
  cases hd : t.data.toList with
  | nil => rw [hd] at hl; simp at hl; omega
  | cons b l =>
    cases l with
    | nil => rfl
    | cons c l => rw [hd] at hl; simp at hl; omega

set_option maxHeartbeats 2000000 in
set_option maxRecDepth 100000 in
theorem specTrim (s : ByteArray) (w : World) (hs : s.size ≤ 1048576) : Calls Tryd.prog 48 #[.string s] w (AnsS (trim s.data.toList) w) := by
  go_enter Tryd.func48, Tryd.ntmps48
  go_wp2
  go_loopw [0] (fun v wr => ∃ t : ByteArray, v = .string t ∧ t.size ≤ s.size ∧ trim t.data.toList = trim s.data.toList ∧ Below w.heap.size w wr) (fun v _ => strSize v)
  case atStart => exact ⟨s, rfl, Nat.le_refl _, rfl, Below.refl _ _⟩
  case round =>
    obtain ⟨t, rfl, hts, htr, hbel⟩ := hrel
    have HT := Lib.hid htr
    have hsl := Lib.hid (size_list t)
    clear htr
    by_cases h1 : 1 < t.size
    · obtain ⟨x, hx⟩ : ∃ x, t[0] = x := ⟨_, rfl⟩
      by_cases hx48 : x = 48
      · subst hx48
        have HE : Hid (trim (t.extract 1 t.size).data.toList = trim t.data.toList) := trim_step t h1 hx
        have HS : Hid ((t.extract 1 t.size).size = t.size - 1) := by show _ = _; simp
        go_wp2
        go_roundw
        case rel => exact ⟨_, rfl, by rw [HS.out]; omega, HE.out.trans HT.out, hbel⟩
        case measure => show (t.extract 1 t.size).size < t.size; rw [HS.out]; omega
      · have e1 : ((x.toNat : Int) == 48) = false := beq_eq_false_iff_ne.2 (fun e => hx48 (UInt8.toNat_inj.1 (by show x.toNat = 48; omega)))
        have HE : Hid (trim t.data.toList = t.data.toList) := trim_stop t h1 (by rw [hx]; exact hx48)
        have hte : t.toList.isEmpty = false := list_full t (by omega)
        go_wp2
        go_ret
        exact ⟨by rw [← HT.out, HE.out]; rfl, hbel⟩
    · by_cases h0 : t.size = 0
      · obtain rfl : t = ⟨#[]⟩ := ByteArray.ext (Array.eq_empty_of_size_eq_zero h0)
        go_wp2
        go_ret
        exact ⟨by rw [← HT.out]; rfl, hbel⟩
      · have hte : t.toList.isEmpty = false := list_full t h0
        have HE : Hid (trim t.data.toList = t.data.toList) := trim_short t (by omega)
        go_wp2
        go_ret
        exact ⟨by rw [← HT.out, HE.out]; rfl, hbel⟩

theorem own_catN {w : World} {B : Nat} {e : TypeId} {v : Value} {a b : List UInt8} (h : w.ownsRow B e 1 v (a.length + b.length) (byteCells a ++ byteCells b)) :
    w.ownsRow B e 1 v (a ++ b).length (byteCells (a ++ b)) := by
  rw [byteCells_append, List.length_append]; exact h
theorem new_listN (w : World) (cs : List Value) (e : TypeId) : ∀ (j : Nat) (u : Value), cs[j]? = some u → (w.alloc (.cells cs.toArray e)).cell? ((⟨w.heap.size, 0, none⟩ : Addr).add j) = some u := by
  intro j u hu
  rw [Addr.add_lit, Nat.zero_add, cell_of_row _ w.heap.size j _ e (0, 0) (heap_alloc_new w _), List.getElem?_toArray]
  exact hu
theorem bytes_oneN (l : List UInt8) : ∀ u ∈ byteCells l, u.oneCell' = true := by
  intro u hu
  simp only [byteCells, List.mem_map] at hu
  obtain ⟨x, _, rfl⟩ := hu
  rfl

set_option maxHeartbeats 2000000 in
set_option maxRecDepth 100000 in
theorem specZeros (n : Nat) (w : World) (hn : n ≤ 1048576) : Calls Tryd.prog 24 #[.int .i64 n] w (AnsS (List.replicate n 48) w) := by
  obtain ⟨i0, hi, hz0, hz1, hz2⟩ := info_parts Tryd.infoByteN
  go_enter Tryd.func24, Tryd.ntmps24
  go_wp2
  go_loopw [3, 4] (fun v i wr => ∃ k : Nat, k ≤ n ∧ i = .int .i64 k ∧ wr.ownsRow w.heap.size 5 1 v (List.replicate k (48 : UInt8)).length (byteCells (List.replicate k (48 : UInt8))) ∧ Below w.heap.size w wr) (fun _ i _ => n - (intOf i).toNat)
  case atStart => exact ⟨0, Nat.zero_le _, rfl, World.ownsRow_lit w #[] 0 (Nat.le_refl _) (Nat.zero_le _) rfl, (Below.refl _ _).alloc (Nat.le_refl _) _⟩
  case round =>
    obtain ⟨k, hk, rfl, hown, hbel⟩ := hrel
    have HS := Lib.hid (List.replicate_succ' (n := k) (a := (48 : UInt8)))
    have HL := Lib.hid (List.length_replicate (n := k) (a := (48 : UInt8)))
    obtain ⟨acc, hacc⟩ : ∃ acc, List.replicate k (48 : UInt8) = acc := ⟨_, rfl⟩
    rw [hacc] at hown HS HL
    have hal : acc.length ≤ 1048576 := by rw [HL.out]; omega
    clear HL
    obtain ⟨A1, c1, rfl⟩ := own_form hown
    by_cases hlt : k < n
    · clear hacc
      go_wp2_with (at_builtin; go_must (refine wpList_append_own _ rfl _ _ 22 rfl w.heap.size 5 i0 (.int .u8 0) 1 1 Tryd.underlying22 hi hz0 hz1 hz2 rfl (by decide) _ _ _ rfl (hown.alloc _) ⟨wr.heap.size, 0, none⟩ _ _ [.int .u8 48] rfl rfl (new_listN wr [.int .u8 48] 5) (bytes_oneN [48]) (by unfold maxLen; omega) (by omega) (by have := hbel.size; simp; omega) ?_); intro v' w2 hown2 hgrow2 _; obtain ⟨A2, c2, rfl⟩ := own_form hown2)
      have hb1 : Below w.heap.size w w2 := (hbel.alloc hbel.size _).grown hgrow2 (by have := hbel.size; simp; omega) (own_block hown)
      have O2 := Lib.hid (own_catN (a := acc) (b := ([48] : List UInt8)) hown2)
      clear hown2 hgrow2 hown hbel
      go_wp2
      go_roundw
      case rel => exact ⟨k + 1, hlt, by go_num, by rw [HS.out]; simpa using O2.out, hb1⟩
      case measure => simp [intOf]; omega
    · have hcv := conv_own (P := Tryd.prog) (dst := 9) Tryd.underlying22 Tryd.underlying5 Tryd.underlying9 hown
      obtain rfl : k = n := by omega
      have HA := Lib.hid hacc
      clear hacc
      go_wp2
      go_ret
      exact ⟨by rw [HA.out]; rfl, hbel⟩

set_option maxHeartbeats 2000000 in
set_option maxRecDepth 100000 in
theorem specDigit (s : ByteArray) (k : Nat) (w : World) (hs : s.size ≤ 1048576) (hk : k ≤ 10000000) (hd : Digs s.data.toList) : Calls Tryd.prog 59 #[.string s, .int .i64 k] w (AnsN (digAt s.data.toList k) w) := by
  have hsl := size_list s
  by_cases h : k < s.size
  · obtain ⟨j, hj⟩ : ∃ j : Nat, s.size - 1 - k = j := ⟨_, rfl⟩
    have hjs : j < s.size := by omega
    obtain ⟨x, hx⟩ : ∃ x, s[j] = x := ⟨_, rfl⟩
    have hdx : IsD x := hd x (by rw [← hx]; exact List.getElem_mem (l := s.data.toList) (by rw [hsl]; exact hjs))
    have HE : Hid (digAt s.data.toList k = x.toNat - 48) := by
      show _ = _
      unfold digAt
      rw [if_pos (by rw [hsl]; exact h), hsl, hj]
      simp only [List.getD, List.getElem?_eq_getElem (show j < s.data.toList.length by rw [hsl]; exact hjs), Option.getD_some]
      rw [at_list s j hjs, hx]; rfl
    unfold IsD at hdx
    have e1 : (s.size : Int) - 1 - (k : Int) = (j : Int) := by omega
    have e2 : (x.toNat : Int) - 48 = ((x.toNat - 48 : Nat) : Int) := by omega
    obtain ⟨h48, h57⟩ := hdx
    have v1 := IntWalk.u8_in ((x.toNat : Int) - 48) ⟨by omega, by omega⟩
    clear hd hsl hj
    go_enter Tryd.func59, Tryd.ntmps59
    go_wp2
    go_ret
    exact ⟨by rw [HE.out, ← e2]; rfl, Below.refl _ _⟩
  · have HE : Hid (digAt s.data.toList k = 0) := by
      show _ = _
      unfold digAt
      rw [if_neg (by rw [hsl]; exact h)]
    clear hd hsl
    go_enter Tryd.func59, Tryd.ntmps59
    go_wp2
    go_ret
    exact ⟨by rw [HE.out]; rfl, Below.refl _ _⟩

end Go.Proofs.YtlhdolcadlabpaaDoor
