/- The specification's naturals: NatOk, l02Trim, l02Zeros, l02Digit, l02Cmp. Conditions: at most 1048576 bytes. -/
import Derived.Test.YthijeckcjfnbcaaGreatDoorRows
import Derived.Test.YthijeckcjfnbcaaGreatDoorMem
import Derived.Test.YthijeckcjfnbcaaGreatDoorUtf
import Derived.Test.YthijeckcjfnbcaaGreatDoorNatMath
import Derived.Deep.QuietTactic
import Derived.BigQuiet
import Derived.Deep.DeepMust
import Derived.IntWalk
import Derived.Lib.ValidAsc
namespace Go.Proofs.YthijeckcjfnbcaaGreatDoor
set_option linter.unusedVariables false
open Go.RowKit
open Go.Lib (byteCells)

theorem Tryz.infoByteN : (Tryz.prog.info? 5).map (fun i => (i.zero, i.size, i.bytes)) = some (some (.int .u8 0), 1, 1) := by kernel_rfl

/-- A natural of at most 600 digits. -/
def NatS (s : ByteArray) : Prop := Canon s.data.toList ∧ Digs s.data.toList ∧ s.size ≤ 600
def AnsB (P : Prop) (w : World) (e : Ending) (w' : World) : Prop := ∃ b : Bool, e = .returned (.bool b) ∧ (b = true ↔ P) ∧ Below w.heap.size w w'
def AnsS (l : List UInt8) (w : World) (e : Ending) (w' : World) : Prop := e = .returned (.string ⟨l.toArray⟩) ∧ Below w.heap.size w w'
def AnsN (n : Int) (w : World) (e : Ending) (w' : World) : Prop := e = .returned (.int .i64 n) ∧ Below w.heap.size w w'

theorem size_list (s : ByteArray) : s.data.toList.length = s.size := Array.length_toList
theorem at_list (s : ByteArray) (k : Nat) (h : k < s.size) : s.data.toList[k]'(by rw [size_list]; exact h) = s[k] := rfl

theorem betweenN (n lo hi : Int) (w : World) :
    Calls Tryz.prog 53 #[.int .i64 n, .int .i64 lo, .int .i64 hi] w fun e w' => e = .returned (.bool (decide (lo ≤ n ∧ n ≤ hi))) ∧ w = w' := by
  have rb : ∀ {a b : Bool}, a = b → Ending.returned (.bool a) = .returned (.bool b) := fun h => by rw [h]
  by_cases h1 : lo ≤ n
  · by_cases h2 : n ≤ hi
    all_goals
      go_enter Tryz.func53, Tryz.ntmps53
      go_wp2
      go_ret
      exact ⟨rb (by simp [h1, h2]), rfl⟩
  · go_enter Tryz.func53, Tryz.ntmps53
    go_wp2
    go_ret
    exact ⟨rb (by simp; omega), rfl⟩

theorem head_at (s : ByteArray) (h : 0 < s.size) : s.data.toList.head? = some s[0] := by
  have h1 : 0 < s.data.toList.length := by rw [size_list]; exact h
  rw [List.head?_eq_getElem?, List.getElem?_eq_getElem h1]
  rfl

set_option maxHeartbeats 2000000 in
set_option maxRecDepth 100000 in
theorem specNatOk (s : ByteArray) (w : World) (hs : s.size ≤ 1048576) : Calls Tryz.prog 24 #[.string s] w (AnsB (NatS s) w) := by
  have hsl := Lib.hid (size_list s)
  by_cases h0 : 1 ≤ s.size
  · by_cases h1 : s.size ≤ 600
    · obtain ⟨x, hx⟩ : ∃ x, s[0] = x := ⟨_, rfl⟩
      have hhd := Lib.hid (head_at s h0)
      rw [hx] at hhd
      by_cases h2 : 1 < s.size ∧ x = 48
      · obtain ⟨h3, rfl⟩ := h2
        go_enter Tryz.func24, Tryz.ntmps24
        go_wp2
        go_ret
        refine ⟨false, rfl, ⟨fun h => (by cases h), fun h => ?_⟩, Below.refl _ _⟩
        rcases h.1.2 with h4 | h4
        · rw [hsl.out] at h4; omega
        · exact absurd hhd.out h4
      · have hcan : Hid (Canon s.data.toList) := by
          refine ⟨fun e => ?_, ?_⟩
          · have := hsl.out; rw [e] at this; simp at this; omega
          · by_cases h3 : 1 < s.size
            · right; rw [hhd.out]; intro e; exact h2 ⟨h3, Option.some.inj e⟩
            · left; rw [hsl.out]; omega
        have hx1 : 1 < s.size → ((x.toNat : Int) == 48) = false := fun h => beq_eq_false_iff_ne.2 (fun e => h2 ⟨h, UInt8.toNat_inj.1 (by show x.toNat = 48; omega)⟩)
        clear hhd h2
        go_enter Tryz.func24, Tryz.ntmps24
        by_cases h3 : 1 < s.size
        all_goals
          (first | have hx2 := hx1 h3 | skip)
          clear hx1
          go_wp2
          go_loopw [3] (fun i wr => ∃ k : Nat, k ≤ s.size ∧ i = .int .i64 k ∧ Digs (s.data.toList.take k) ∧ Below w.heap.size w wr) (fun i _ => s.size - (intOf i).toNat)
          case atStart => exact ⟨0, Nat.zero_le _, rfl, digs_nil, Below.refl _ _⟩
          case round =>
            obtain ⟨k, hk, rfl, hd, hbel⟩ := hrel
            have HD := Lib.hid hd
            clear hd
            by_cases hlt : k < s.size
            · obtain ⟨y, hy⟩ : ∃ y, s[k] = y := ⟨_, rfl⟩
              have hy1 := y.toNat_lt
              have HT : Hid (s.data.toList.take (k + 1) = s.data.toList.take k ++ [y]) := by
                show _ = _
                rw [List.take_succ_eq_append_getElem (by rw [hsl.out]; exact hlt), at_list s k hlt, hy]
              by_cases hdy : IsD y
              · have e1 : decide ((48 : Int) ≤ (y.toNat : Int) ∧ (y.toNat : Int) ≤ 57) = true := decide_eq_true (by unfold IsD at hdy; omega)
                have hdy' := Lib.hid hdy
                clear hdy
                go_wp2_with (go_at_call 53; refine (betweenN _ _ _ _).mono ?_; rintro e w' ⟨rfl, rfl⟩)
                go_roundw
                case rel => exact ⟨k + 1, hlt, by go_num, by rw [HT.out]; exact HD.out.append (digs_one hdy'.out), hbel⟩
                case measure => simp [intOf]; omega
              · have e1 : decide ((48 : Int) ≤ (y.toNat : Int) ∧ (y.toNat : Int) ≤ 57) = false := decide_eq_false (by unfold IsD at hdy; omega)
                have hdy' := Lib.hid hdy
                clear hdy
                go_wp2_with (go_at_call 53; refine (betweenN _ _ _ _).mono ?_; rintro e w' ⟨rfl, rfl⟩)
                go_ret
                refine ⟨false, rfl, ⟨fun h => (by cases h), fun h => ?_⟩, hbel⟩
                exact absurd (h.2.1 y (List.mem_of_mem_take (i := k + 1) (by rw [HT.out]; simp))) hdy'.out
            · have HA : Hid (s.data.toList.take k = s.data.toList) := List.take_of_length_le (by rw [hsl.out]; omega)
              go_wp2
              go_ret
              exact ⟨true, rfl, ⟨fun _ => ⟨hcan.out, by have := HD.out; rw [HA.out] at this; exact this, h1⟩, fun _ => rfl⟩, hbel⟩
    · have h1i : (600 : Int) < (s.size : Int) := by omega
      have h0i : ¬ (s.size : Int) < 1 := by omega
      go_enter Tryz.func24, Tryz.ntmps24
      go_wp2
      go_ret
      exact ⟨false, rfl, ⟨fun h => (by cases h), fun h => absurd h.2.2 h1⟩, Below.refl _ _⟩
  · have h0i : (s.size : Int) < 1 := by omega
    go_enter Tryz.func24, Tryz.ntmps24
    go_wp2
    go_ret
    exact ⟨false, rfl, ⟨fun h => (by cases h), fun h => absurd (List.length_pos_iff.2 h.1.1) (by rw [hsl.out]; omega)⟩, Below.refl _ _⟩

def strSize : Value → Nat
  | .string t => t.size
  | _ => 0
theorem list_full (t : ByteArray) (h : t.size ≠ 0) : t.toList.isEmpty = false := by
  rw [ByteArray.toList_eq]
  cases hd : t.data.toList with
  | nil => exact absurd (by rw [← size_list, hd]; rfl : t.size = 0) h
  | cons _ _ => rfl
theorem trim_step (t : ByteArray) (h : 1 < t.size) (hx : t[0] = 48) : trim (t.extract 1 t.size).data.toList = trim t.data.toList := by
  have hl := size_list t
  have e : (t.extract 1 t.size).data.toList = t.data.toList.drop 1 := by rw [Lib.ext_list]
  rw [e]
  have h0 : t.data.toList[0]'(by omega) = 48 := hx
  cases hd : t.data.toList with
  | nil => rw [hd] at hl; simp at hl; omega
  | cons b l =>
    cases l with
    | nil => rw [hd] at hl; simp at hl; omega
    | cons c l =>
      have hb : b = 48 := by simpa [hd] using h0
      show trim (c :: l) = _
      rw [trim, if_pos hb]
theorem trim_stop (t : ByteArray) (h : 1 < t.size) (hx : t[0] ≠ 48) : trim t.data.toList = t.data.toList := by
  have hl := size_list t
  have h0 : t.data.toList[0]'(by omega) ≠ 48 := hx
  cases hd : t.data.toList with
  | nil => rw [hd] at hl; simp at hl; omega
  | cons b l =>
    cases l with
    | nil => rw [hd] at hl; simp at hl; omega
    | cons c l =>
      have hb : b ≠ 48 := by simpa [hd] using h0
      rw [trim, if_neg hb]
theorem trim_short (t : ByteArray) (h : t.size = 1) : trim t.data.toList = t.data.toList := by
  have hl := size_list t
  cases hd : t.data.toList with
  | nil => rw [hd] at hl; simp at hl; omega
  | cons b l =>
    cases l with
    | nil => rfl
    | cons c l => rw [hd] at hl; simp at hl; omega

set_option maxHeartbeats 2000000 in
set_option maxRecDepth 100000 in
theorem specTrim (s : ByteArray) (w : World) (hs : s.size ≤ 1048576) : Calls Tryz.prog 69 #[.string s] w (AnsS (trim s.data.toList) w) := by
  go_enter Tryz.func69, Tryz.ntmps69
  go_wp2
  go_loopw [0] (fun v wr => ∃ t : ByteArray, v = .string t ∧ t.size ≤ s.size ∧ trim t.data.toList = trim s.data.toList ∧ Below w.heap.size w wr) (fun v _ => strSize v)
  case atStart => exact ⟨s, rfl, Nat.le_refl _, rfl, Below.refl _ _⟩
  case round =>
    obtain ⟨t, rfl, hts, htr, hbel⟩ := hrel
    have HT := Lib.hid htr
    have hsl := Lib.hid (size_list t)
    clear htr
    by_cases h1 : 1 < t.size
    · obtain ⟨x, hx⟩ : ∃ x, t[0] = x := ⟨_, rfl⟩
      by_cases hx48 : x = 48
      · subst hx48
        have HE : Hid (trim (t.extract 1 t.size).data.toList = trim t.data.toList) := trim_step t h1 hx
        have HS : Hid ((t.extract 1 t.size).size = t.size - 1) := by show _ = _; simp
        go_wp2
        go_roundw
        case rel => exact ⟨_, rfl, by rw [HS.out]; omega, HE.out.trans HT.out, hbel⟩
        case measure => show (t.extract 1 t.size).size < t.size; rw [HS.out]; omega
      · have e1 : ((x.toNat : Int) == 48) = false := beq_eq_false_iff_ne.2 (fun e => hx48 (UInt8.toNat_inj.1 (by show x.toNat = 48; omega)))
        have HE : Hid (trim t.data.toList = t.data.toList) := trim_stop t h1 (by rw [hx]; exact hx48)
        have hte : t.toList.isEmpty = false := list_full t (by omega)
        go_wp2
        go_ret
        exact ⟨by rw [← HT.out, HE.out]; rfl, hbel⟩
    · by_cases h0 : t.size = 0
      · obtain rfl : t = ⟨#[]⟩ := ByteArray.ext (Array.eq_empty_of_size_eq_zero h0)
        go_wp2
        go_ret
        exact ⟨by rw [← HT.out]; rfl, hbel⟩
      · have hte : t.toList.isEmpty = false := list_full t h0
        have HE : Hid (trim t.data.toList = t.data.toList) := trim_short t (by omega)
        go_wp2
        go_ret
        exact ⟨by rw [← HT.out, HE.out]; rfl, hbel⟩

theorem own_catN {w : World} {B : Nat} {e : TypeId} {v : Value} {a b : List UInt8} (h : w.ownsRow B e 1 v (a.length + b.length) (byteCells a ++ byteCells b)) :
    w.ownsRow B e 1 v (a ++ b).length (byteCells (a ++ b)) := by
  rw [byteCells_append, List.length_append]; exact h
theorem new_listN (w : World) (cs : List Value) (e : TypeId) : ∀ (j : Nat) (u : Value), cs[j]? = some u → (w.alloc (.cells cs.toArray e)).cell? ((⟨w.heap.size, 0, none⟩ : Addr).add j) = some u := by
  intro j u hu
  rw [Addr.add_lit, Nat.zero_add, cell_of_row _ w.heap.size j _ e (0, 0) (heap_alloc_new w _), List.getElem?_toArray]
  exact hu
theorem bytes_oneN (l : List UInt8) : ∀ u ∈ byteCells l, u.oneCell' = true := by
  intro u hu
  simp only [byteCells, List.mem_map] at hu
  obtain ⟨x, _, rfl⟩ := hu
  rfl

set_option maxHeartbeats 2000000 in
set_option maxRecDepth 100000 in
theorem specZeros (n : Nat) (w : World) (hn : n ≤ 1048576) : Calls Tryz.prog 96 #[.int .i64 n] w (AnsS (List.replicate n 48) w) := by
  obtain ⟨i0, hi, hz0, hz1, hz2⟩ := info_parts Tryz.infoByteN
  go_enter Tryz.func96, Tryz.ntmps96
  go_wp2
  go_loopw [3, 4] (fun v i wr => ∃ k : Nat, k ≤ n ∧ i = .int .i64 k ∧ wr.ownsRow w.heap.size 5 1 v (List.replicate k (48 : UInt8)).length (byteCells (List.replicate k (48 : UInt8))) ∧ Below w.heap.size w wr) (fun _ i _ => n - (intOf i).toNat)
  case atStart => exact ⟨0, Nat.zero_le _, rfl, World.ownsRow_lit w #[] 0 (Nat.le_refl _) (Nat.zero_le _) rfl, (Below.refl _ _).alloc (Nat.le_refl _) _⟩
  case round =>
    obtain ⟨k, hk, rfl, hown, hbel⟩ := hrel
    have HS := Lib.hid (List.replicate_succ' (n := k) (a := (48 : UInt8)))
    have HL := Lib.hid (List.length_replicate (n := k) (a := (48 : UInt8)))
    obtain ⟨acc, hacc⟩ : ∃ acc, List.replicate k (48 : UInt8) = acc := ⟨_, rfl⟩
    rw [hacc] at hown HS HL
    have hal : acc.length ≤ 1048576 := by rw [HL.out]; omega
    clear HL
    obtain ⟨A1, c1, rfl⟩ := own_form hown
    by_cases hlt : k < n
    · clear hacc
      go_wp2_with (at_builtin; go_must (refine wpList_append_own _ rfl _ _ 22 rfl w.heap.size 5 i0 (.int .u8 0) 1 1 Tryz.underlying22 hi hz0 hz1 hz2 rfl (by decide) _ _ _ rfl (hown.alloc _) ⟨wr.heap.size, 0, none⟩ _ _ [.int .u8 48] rfl rfl (new_listN wr [.int .u8 48] 5) (bytes_oneN [48]) (by unfold maxLen; omega) (by omega) (by have := hbel.size; simp; omega) ?_); intro v' w2 hown2 hgrow2 _; obtain ⟨A2, c2, rfl⟩ := own_form hown2)
      have hb1 : Below w.heap.size w w2 := (hbel.alloc hbel.size _).grown hgrow2 (by have := hbel.size; simp; omega) (own_block hown)
      have O2 := Lib.hid (own_catN (a := acc) (b := ([48] : List UInt8)) hown2)
      clear hown2 hgrow2 hown hbel
      go_wp2
      go_roundw
      case rel => exact ⟨k + 1, hlt, by go_num, by rw [HS.out]; simpa using O2.out, hb1⟩
      case measure => simp [intOf]; omega
    · have hcv := conv_own (P := Tryz.prog) (dst := 9) Tryz.underlying22 Tryz.underlying5 Tryz.underlying9 hown
      obtain rfl : k = n := by omega
      have HA := Lib.hid hacc
      clear hacc
      go_wp2
      go_ret
      exact ⟨by rw [HA.out]; rfl, hbel⟩

set_option maxHeartbeats 2000000 in
set_option maxRecDepth 100000 in
theorem specDigit (s : ByteArray) (k : Nat) (w : World) (hs : s.size ≤ 1048576) (hk : k ≤ 10000000) (hd : Digs s.data.toList) : Calls Tryz.prog 71 #[.string s, .int .i64 k] w (AnsN (digAt s.data.toList k) w) := by
  have hsl := size_list s
  by_cases h : k < s.size
  · obtain ⟨j, hj⟩ : ∃ j : Nat, s.size - 1 - k = j := ⟨_, rfl⟩
    have hjs : j < s.size := by omega
    obtain ⟨x, hx⟩ : ∃ x, s[j] = x := ⟨_, rfl⟩
    have hdx : IsD x := hd x (by rw [← hx]; exact List.getElem_mem (l := s.data.toList) (by rw [hsl]; exact hjs))
    have HE : Hid (digAt s.data.toList k = x.toNat - 48) := by
      show _ = _
      unfold digAt
      rw [if_pos (by rw [hsl]; exact h), hsl, hj]
      simp only [List.getD, List.getElem?_eq_getElem (show j < s.data.toList.length by rw [hsl]; exact hjs), Option.getD_some]
      rw [at_list s j hjs, hx]; rfl
    unfold IsD at hdx
    have e1 : (s.size : Int) - 1 - (k : Int) = (j : Int) := by omega
    have e2 : (x.toNat : Int) - 48 = ((x.toNat - 48 : Nat) : Int) := by omega
    obtain ⟨h48, h57⟩ := hdx
    have v1 := IntWalk.u8_in ((x.toNat : Int) - 48) ⟨by omega, by omega⟩
    clear hd hsl hj
    go_enter Tryz.func71, Tryz.ntmps71
    go_wp2
    go_ret
    exact ⟨by rw [HE.out, ← e2]; rfl, Below.refl _ _⟩
  · have HE : Hid (digAt s.data.toList k = 0) := by
      show _ = _
      unfold digAt
      rw [if_neg (by rw [hsl]; exact h)]
    clear hd hsl
    go_enter Tryz.func71, Tryz.ntmps71
    go_wp2
    go_ret
    exact ⟨by rw [HE.out]; rfl, Below.refl _ _⟩

end Go.Proofs.YthijeckcjfnbcaaGreatDoor

/- The specification's naturals held against each other, added, taken off. Conditions: digits, at most 1048576 bytes. -/
namespace Go.Proofs.YthijeckcjfnbcaaGreatDoor
set_option linter.unusedVariables false
open Go.RowKit
open Go.Lib (byteCells)

def cmpN (a b : Nat) : Int := if a < b then -1 else if a = b then 0 else 1

set_option maxHeartbeats 2000000 in
set_option maxRecDepth 100000 in
theorem specCmp (s t : ByteArray) (w : World) (hs : s.size ≤ 1048576) (ht : t.size ≤ 1048576) (ds : Digs s.data.toList) (dt : Digs t.data.toList) :
    Calls Tryz.prog 67 #[.string s, .string t] w (AnsN (cmpN (val s.data.toList) (val t.data.toList)) w) := by
  have cS := fun W => specTrim s W hs
  have cT := fun W => specTrim t W ht
  rw [trim_eq ds] at cS
  rw [trim_eq dt] at cT
  unfold AnsS at cS cT
  clear ds dt
  generalize val s.data.toList = a at *
  generalize val t.data.toList = b at *
  obtain ⟨p, hp⟩ : ∃ p : ByteArray, ⟨(natOf a).toArray⟩ = p := ⟨_, rfl⟩
  obtain ⟨q, hq⟩ : ∃ q : ByteArray, ⟨(natOf b).toArray⟩ = q := ⟨_, rfl⟩
  have hpl : p.toList = natOf a := by rw [ByteArray.toList_eq, ← hp]
  have hql : q.toList = natOf b := by rw [ByteArray.toList_eq, ← hq]
  have hps : p.size = (natOf a).length := by rw [← hp]; rfl
  have hqs : q.size = (natOf b).length := by rw [← hq]; rfl
  obtain ⟨f1, f2, f3, f4⟩ := held_facts a b
  rw [← hps, ← hqs, ← hpl, ← hql] at f1 f2
  rw [← hpl, ← hql] at f3
  rw [← hpl] at f4
  rw [hp] at cS
  rw [hq] at cT
  have hab : a = b → p = q := fun h => by rw [← hp, ← hq, h]
  clear hp hq hpl hql hps hqs
  have F := Lib.hid (And.intro f1 (And.intro f2 (And.intro f3 (And.intro f4 hab))))
  clear f1 f2 f3 f4 hab
  go_enter Tryz.func67, Tryz.ntmps67
  go_wp2_with fail
  refine (cS _).mono ?_
  rintro e w1 ⟨rfl, B1⟩
  go_wp2_with fail
  refine (cT _).mono ?_
  rintro e w2 ⟨rfl, B2⟩
  have D2 := B1.trans (B2.mono B1.size)
  clear cS cT B1 B2
  obtain ⟨f1, f2, f3, f4, f5⟩ := F.out
  clear F
  rcases Nat.lt_trichotomy a b with h | h | h
  · have HC : Hid (cmpN a b = -1) := by show _ = _; unfold cmpN; rw [if_pos h]
    rcases f1 h with h1 | ⟨h1, h2⟩
    · have h1i : (p.size : Int) < (q.size : Int) := by omega
      clear f1 f2 f3 f4 f5 h h1
      go_wp2
      go_ret
      exact ⟨by rw [HC.out]; rfl, D2⟩
    · have h1i : ¬ (p.size : Int) < (q.size : Int) := by omega
      have h2i : ((p.size : Int) == (q.size : Int)) = true := beq_iff_eq.2 (by omega)
      clear f1 f2 f3 f4 f5 h h1
      go_wp2
      go_ret
      exact ⟨by rw [HC.out]; rfl, D2⟩
  · have HC : Hid (cmpN a b = 0) := by show _ = _; unfold cmpN; rw [if_neg (by omega), if_pos h]
    obtain rfl := f5 h
    clear f1 f2 f3 f5 h
    go_wp2
    go_ret
    exact ⟨by rw [HC.out]; rfl, D2⟩
  · have HC : Hid (cmpN a b = 1) := by show _ = _; unfold cmpN; rw [if_neg (by omega), if_neg (by omega)]
    have hne : (p.toList == q.toList) = false := beq_eq_false_iff_ne.2 (fun e => by have := f3 e; omega)
    rcases f2 h with h1 | ⟨h1, h2⟩
    · have h1i : ¬ (p.size : Int) < (q.size : Int) := by omega
      have h2i : ((p.size : Int) == (q.size : Int)) = false := beq_eq_false_iff_ne.2 (by omega)
      clear f1 f2 f3 f4 f5 h h1
      go_wp2
      go_ret
      exact ⟨by rw [HC.out]; rfl, D2⟩
    · have h1i : ¬ (p.size : Int) < (q.size : Int) := by omega
      have h2i : ((p.size : Int) == (q.size : Int)) = true := beq_iff_eq.2 (by omega)
      clear f1 f2 f3 f4 f5 h h1
      go_wp2
      go_ret
      exact ⟨by rw [HC.out]; rfl, D2⟩

end Go.Proofs.YthijeckcjfnbcaaGreatDoor

/- The specification's naturals added, taken off. Conditions: digits, at most 1048576 bytes. -/
namespace Go.Proofs.YthijeckcjfnbcaaGreatDoor
set_option linter.unusedVariables false
open Go.RowKit
open Go.Lib (byteCells)

theorem own_some {w : World} {base : Nat} {e : TypeId} {v : Value} {n : Nat} {xs : List Value} (h : w.ownsRow base e 1 v (n + 1) xs) : ∃ g c, v = .slice (some ⟨g, 0, none⟩) (n + 1) c := by
  rcases h.2 with ⟨rfl, h0⟩ | ⟨g, cap, cur, rfl, _⟩
  · omega
  · exact ⟨_, _, rfl⟩

theorem own_cells {w : World} {base : Nat} {e : TypeId} {g n c : Nat} {xs : List Value} (h : w.ownsRow base e 1 (.slice (some ⟨g, 0, none⟩) n c) n xs) : ∀ (j : Nat) (u : Value), xs[j]? = some u → w.cell? ((⟨g, 0, none⟩ : Addr).add j) = some u :=
  fun j u hu => h.cells (g := g) rfl j u hu

/-- A digit ahead of a row of digits: the row, and what it tells. -/
theorem ahead_step {acc : List UInt8} {k c d : Nat} (hd : Digs acc) (hl : acc.length = k) {X Y : Nat} (hv : val acc + c * 10 ^ k = X) (e : Y = (d - c) * 10 ^ k + X) (hc : c ≤ d) :
    Digs (dig (d % 10) :: acc) ∧ (dig (d % 10) :: acc).length = k + 1 ∧ val (dig (d % 10) :: acc) + d / 10 * 10 ^ (k + 1) = Y := by
  have hm : d % 10 < 10 := Nat.mod_lt _ (by omega)
  refine ⟨fun b hb => ?_, by simp [hl], ?_⟩
  · rcases List.mem_cons.1 hb with rfl | hb
    · exact dig_is hm
    · exact hd b hb
  · rw [val_cons, dv_dig hm, hl, Nat.pow_succ]
    subst hv
    rw [e]
    have h1 : d / 10 * (10 ^ k * 10) = d / 10 * 10 * 10 ^ k := by rw [Nat.mul_comm (10 ^ k) 10, Nat.mul_assoc]
    rw [h1]
    have h2 : d % 10 * 10 ^ k + d / 10 * 10 * 10 ^ k = d * 10 ^ k := by
      rw [← Nat.add_mul]; congr 1; omega
    have h3 : (d - c) * 10 ^ k + c * 10 ^ k = d * 10 ^ k := by
      rw [← Nat.add_mul]; congr 1; omega
    omega

theorem lit_own (W : World) (b : UInt8) {base : Nat} (h : base ≤ W.heap.size) : (W.alloc (.cells #[.int .u8 (b.toNat : Int)] 5)).ownsRow base 5 1 (.slice (some ⟨W.heap.size, 0, none⟩) 1 1) ([b] : List UInt8).length (byteCells [b]) :=
  World.ownsRow_lit W #[.int .u8 (b.toNat : Int)] 1 h (by unfold maxLen; omega) rfl

theorem row_keptN {w w' : World} {base B : Nat} {e : TypeId} {size n : Nat} {v : Value} {xs : List Value} (h : w.ownsRow base e size v n xs) (hb : Below B w w') (hB : w.heap.size ≤ B) : w'.ownsRow base e size v n xs :=
  h.kept (row := none) ⟨hb.os, hb.tape, hb.output, hb.size, fun k hk _ => hb.block k (by omega)⟩ (by cases hv : v.ownBlock <;> simp)

def AddRel (la lb : List UInt8) (w : World) (v cv kv : Value) (wr : World) : Prop :=
  ∃ (k c : Nat) (acc : List UInt8) (g cp : Nat), kv = .int .i64 k ∧ cv = .int .i64 c ∧ v = .slice (some ⟨g, 0, none⟩) acc.length cp ∧ wr.ownsRow w.heap.size 5 1 v acc.length (byteCells acc) ∧
    Digs acc ∧ acc.length = k ∧ c ≤ 1 ∧ val acc + c * 10 ^ k = low la k + low lb k ∧ (k ≤ max la.length lb.length ∨ k = max la.length lb.length + 1 ∧ c = 0) ∧ Below w.heap.size w wr

set_option maxHeartbeats 1000000 in
set_option maxRecDepth 100000 in
theorem specAdd (s t : ByteArray) (w : World) (hs : s.size ≤ 100000) (ht : t.size ≤ 100000) (ds : Digs s.data.toList) (dt : Digs t.data.toList) :
    Calls Tryz.prog 66 #[.string s, .string t] w (AnsS (natOf (val s.data.toList + val t.data.toList)) w) := by
  obtain ⟨i0, hi, hz0, hz1, hz2⟩ := info_parts Tryz.infoByteN
  have hsl := size_list s
  have htl := size_list t
  have cA := fun (k : Nat) (W : World) (h : k ≤ 10000000) => specDigit s k W (by omega) h ds
  have cB := fun (k : Nat) (W : World) (h : k ≤ 10000000) => specDigit t k W (by omega) h dt
  have hdA := fun k => digAt_lt ds k
  have hdB := fun k => digAt_lt dt k
  have lsA := low_succ s.data.toList
  have lsB := low_succ t.data.toList
  have HI := Lib.hid (And.intro hdA (And.intro hdB (And.intro lsA lsB)))
  clear hdA hdB lsA lsB ds dt
  go_enter Tryz.func66, Tryz.ntmps66
  go_wp2
  go_loopw [5, 6, 7] (fun v cv kv wr => AddRel s.data.toList t.data.toList w v cv kv wr) (fun _ _ kv _ => max s.size t.size + 2 - (intOf kv).toNat)
  case atStart =>
    exact ⟨0, 0, [], w.heap.size, 0, rfl, rfl, rfl, World.ownsRow_lit w #[] 0 (Nat.le_refl _) (Nat.zero_le _) rfl, digs_nil, rfl, by omega, by rw [low_zero, low_zero]; rfl, .inl (Nat.zero_le _), (Below.refl _ _).alloc (Nat.le_refl _) _⟩
  case round =>
    obtain ⟨k, c, acc, g, cp, rfl, rfl, rfl, hown, hdg, hal, hc1, hval, hkm, hbel⟩ := hrel
    rw [hsl, htl] at hkm
    have HV := Lib.hid (And.intro hdg (And.intro hal hval))
    have hacl : acc.length ≤ 1048576 := by omega
    clear hdg hal hval
    by_cases hgo : k < s.size ∨ k < t.size ∨ 0 < c
    · have hkM : k ≤ max s.size t.size := by omega
      obtain ⟨x, hx⟩ : ∃ x, digAt s.data.toList k = x := ⟨_, rfl⟩
      obtain ⟨y, hy⟩ : ∃ y, digAt t.data.toList k = y := ⟨_, rfl⟩
      have cA1 := fun W => cA k W (by omega)
      have cB1 := fun W => cB k W (by omega)
      have hx1 := HI.out.1 k
      have hy1 := HI.out.2.1 k
      have hlast : Hid (k = max s.size t.size → x = 0 ∧ y = 0) := fun h => by
        rw [← hx, ← hy]
        unfold digAt
        rw [if_neg (by rw [hsl]; omega), if_neg (by rw [htl]; omega)]; exact ⟨rfl, rfl⟩
      have HL : Hid (low s.data.toList (k + 1) + low t.data.toList (k + 1) = (x + y + c - c) * 10 ^ k + (low s.data.toList k + low t.data.toList k)) := by
        show _ = _
        rw [HI.out.2.2.1, HI.out.2.2.2, hx, hy, show x + y + c - c = x + y by omega, Nat.add_mul]; omega
      rw [hx] at cA1 hx1
      rw [hy] at cB1 hy1
      clear hx hy
      obtain ⟨b, hb⟩ : ∃ b, dig ((x + y + c) % 10) = b := ⟨_, rfl⟩
      have HS := Lib.hid (ahead_step (d := x + y + c) HV.out.1 HV.out.2.1 HV.out.2.2 HL.out (by omega))
      rw [hb] at HS
      have hbv : (48 : Int) + ((x : Int) + (y : Int) + (c : Int)) % 10 = (b.toNat : Int) := by rw [← hb, dig_toNat (by omega)]; omega
      obtain ⟨c', hc'⟩ : ∃ c', (x + y + c) / 10 = c' := ⟨_, rfl⟩
      rw [hc'] at HS
      have hcv : ((x : Int) + (y : Int) + (c : Int)) / 10 = (c' : Int) := by omega
      have hc2 : c' ≤ 1 := by omega
      have hc3 : Hid (x = 0 ∧ y = 0 → c' = 0) := fun h => by omega
      have hbl := b.toNat_lt
      clear hb hc' hkm
      have hcase : (k : Int) < (s.size : Int) ∨ ((s.size : Int) ≤ (k : Int) ∧ (k : Int) < (t.size : Int)) ∨ ((s.size : Int) ≤ (k : Int) ∧ (t.size : Int) ≤ (k : Int) ∧ (0 : Int) < (c : Int)) := by omega
      have hrest : Hid (k + 1 ≤ max s.data.toList.length t.data.toList.length ∨ k + 1 = max s.data.toList.length t.data.toList.length + 1 ∧ c' = 0) := by
        rw [hsl, htl]
        by_cases hM : k = max s.size t.size
        · exact .inr ⟨by omega, hc3.out (hlast.out hM)⟩
        · exact .inl (by omega)
      clear hgo hlast hc3 HL HI cA cB HV
      rcases hcase with h1 | ⟨h1, h2⟩ | ⟨h1, h2, h3⟩
      all_goals
        go_wp2_with fail
        refine (cA1 _).mono ?_
        rintro e wA ⟨rfl, BA⟩
        go_wp2_with fail
        refine (cB1 _).mono ?_
        rintro e wB ⟨rfl, BB⟩
        have D2 := hbel.trans ((BA.trans (BB.mono BA.size)).mono hbel.size)
        have hown1 := row_keptN (row_keptN hown BA (Nat.le_refl _)) BB (Nat.le_refl _)
        clear hown hbel BA BB cA1 cB1
        have hlit := lit_own wB b D2.size
        go_wp2_with (at_builtin; go_must (refine wpList_append_own _ rfl _ _ 22 rfl w.heap.size 5 i0 (.int .u8 0) 1 1 Tryz.underlying22 hi hz0 hz1 hz2 rfl (by decide) _ _ _ rfl hlit ⟨g, 0, none⟩ _ _ (byteCells acc) rfl (by simp [byteCells]) (own_cells (hown1.alloc _)) (bytes_oneN acc) (by unfold maxLen; simp; omega) (by simp; omega) (by have := D2.size; simp; omega) ?_); intro v' w2 hown2 hgrow2 _; have hown3 := own_catN (a := [b]) (b := acc) hown2; obtain ⟨g2, c2, rfl⟩ := own_some (n := acc.length) (by rw [Nat.add_comm] at hown2; exact hown2))
        have hb1 : Below w.heap.size w w2 := (D2.alloc D2.size _).grown hgrow2 (by have := D2.size; simp; omega) (own_block hlit)
        have O3 := Lib.hid hown3
        clear hown2 hown3 hgrow2 hown1 hlit D2
        go_wp2
        go_roundw
        case rel => exact ⟨k + 1, c', b :: acc, g2, c2, by go_num, by rw [hcv], rfl, O3.out, HS.out.1, HS.out.2.1, hc2, HS.out.2.2, hrest.out, hb1⟩
        case measure => simp [intOf]; omega
    · have hc0 : c = 0 := by omega
      subst hc0
      have h1 : (s.size : Int) ≤ (k : Int) := by omega
      have h2 : (t.size : Int) ≤ (k : Int) := by omega
      have HE : Hid (trim acc = natOf (val s.data.toList + val t.data.toList)) := by
        show _ = _
        rw [trim_eq HV.out.1]
        congr 1
        have := HV.out.2.2
        rw [low_all (by rw [hsl]; omega), low_all (by rw [htl]; omega)] at this
        omega
      have hcvt := conv_own (P := Tryz.prog) (dst := 9) Tryz.underlying22 Tryz.underlying5 Tryz.underlying9 hown
      have cT := specTrim (⟨acc.toArray⟩ : ByteArray) wr (show acc.length ≤ _ by omega)
      clear HI cA cB HV hgo hkm
      go_wp2_with fail
      refine cT.mono ?_
      rintro e w2 ⟨rfl, B2⟩
      have D2 := hbel.trans (B2.mono hbel.size)
      clear B2 hbel cT hcvt hown
      go_wp2
      go_ret
      exact ⟨by rw [← HE.out]; rfl, D2⟩

end Go.Proofs.YthijeckcjfnbcaaGreatDoor

/- The specification's naturals taken off. Conditions: digits, at most 100000 bytes; what is taken off is no greater and no longer. -/
namespace Go.Proofs.YthijeckcjfnbcaaGreatDoor
set_option linter.unusedVariables false
open Go.RowKit
open Go.Lib (byteCells)

theorem off_step {acc : List UInt8} {k o x y d o' A B : Nat} (hd : Digs acc) (hl : acc.length = k) (hv : val acc + B = A + o * 10 ^ k) (he : d + y + o = x + 10 * o') (hd10 : d < 10) :
    Digs (dig d :: acc) ∧ (dig d :: acc).length = k + 1 ∧ val (dig d :: acc) + (y * 10 ^ k + B) = (x * 10 ^ k + A) + o' * 10 ^ (k + 1) := by
  refine ⟨fun b hb => ?_, by simp [hl], ?_⟩
  · rcases List.mem_cons.1 hb with rfl | hb
    · exact dig_is hd10
    · exact hd b hb
  · rw [val_cons, dv_dig hd10, hl, Nat.pow_succ]
    have h1 : o' * (10 ^ k * 10) = 10 * o' * 10 ^ k := by rw [Nat.mul_comm (10 ^ k) 10, ← Nat.mul_assoc, Nat.mul_comm o' 10]
    have h2 : (d + y + o) * 10 ^ k = (x + 10 * o') * 10 ^ k := by rw [he]
    rw [Nat.add_mul, Nat.add_mul, Nat.add_mul] at h2
    rw [h1]
    omega

def SubRel (la lb : List UInt8) (w : World) (v ov kv : Value) (wr : World) : Prop :=
  ∃ (k o : Nat) (acc : List UInt8) (g cp : Nat), kv = .int .i64 k ∧ ov = .int .i64 o ∧ v = .slice (some ⟨g, 0, none⟩) acc.length cp ∧ wr.ownsRow w.heap.size 5 1 v acc.length (byteCells acc) ∧
    Digs acc ∧ acc.length = k ∧ o ≤ 1 ∧ val acc + low lb k = low la k + o * 10 ^ k ∧ k ≤ la.length ∧ Below w.heap.size w wr

set_option maxHeartbeats 1000000 in
set_option maxRecDepth 100000 in
theorem specSub (s t : ByteArray) (w : World) (hs : s.size ≤ 100000) (hts : t.size ≤ s.size) (ds : Digs s.data.toList) (dt : Digs t.data.toList) (hle : val t.data.toList ≤ val s.data.toList) :
    Calls Tryz.prog 68 #[.string s, .string t] w (AnsS (natOf (val s.data.toList - val t.data.toList)) w) := by
  obtain ⟨i0, hi, hz0, hz1, hz2⟩ := info_parts Tryz.infoByteN
  have hsl := size_list s
  have htl := size_list t
  have cA := fun (k : Nat) (W : World) (h : k ≤ 10000000) => specDigit s k W (by omega) h ds
  have cB := fun (k : Nat) (W : World) (h : k ≤ 10000000) => specDigit t k W (by omega) h dt
  have hdA := fun k => digAt_lt ds k
  have hdB := fun k => digAt_lt dt k
  have lsA := low_succ s.data.toList
  have lsB := low_succ t.data.toList
  have HI := Lib.hid (And.intro hdA (And.intro hdB (And.intro lsA lsB)))
  have HLE := Lib.hid hle
  clear hdA hdB lsA lsB ds dt hle
  go_enter Tryz.func68, Tryz.ntmps68
  go_wp2
  go_loopw [5, 6, 7] (fun v ov kv wr => SubRel s.data.toList t.data.toList w v ov kv wr) (fun _ _ kv _ => s.size - (intOf kv).toNat)
  case atStart =>
    exact ⟨0, 0, [], w.heap.size, 0, rfl, rfl, rfl, World.ownsRow_lit w #[] 0 (Nat.le_refl _) (Nat.zero_le _) rfl, digs_nil, rfl, by omega, by rw [low_zero, low_zero]; rfl, Nat.zero_le _, (Below.refl _ _).alloc (Nat.le_refl _) _⟩
  case round =>
    obtain ⟨k, o, acc, g, cp, rfl, rfl, rfl, hown, hdg, hal, ho1, hval, hkm, hbel⟩ := hrel
    rw [hsl] at hkm
    have HV := Lib.hid (And.intro hdg (And.intro hal hval))
    have hacl : acc.length ≤ 1048576 := by omega
    clear hdg hal hval
    by_cases hlt : k < s.size
    · have hkn : Hid (k + 1 ≤ s.data.toList.length) := by show _ ≤ _; rw [hsl]; exact hlt
      obtain ⟨x, hx⟩ : ∃ x, digAt s.data.toList k = x := ⟨_, rfl⟩
      obtain ⟨y, hy⟩ : ∃ y, digAt t.data.toList k = y := ⟨_, rfl⟩
      have cA1 := fun W => cA k W (by omega)
      have cB1 := fun W => cB k W (by omega)
      have hx1 := HI.out.1 k
      have hy1 := HI.out.2.1 k
      have HX := Lib.hid (HI.out.2.2.1 k)
      have HY := Lib.hid (HI.out.2.2.2 k)
      rw [hx] at cA1 hx1 HX
      rw [hy] at cB1 hy1 HY
      clear hx hy
      have hdo : ∃ d o' : Nat, d < 10 ∧ o' ≤ 1 ∧ d + y + o = x + 10 * o' := by
        by_cases h : y + o ≤ x
        · exact ⟨x - y - o, 0, by omega, by omega, by omega⟩
        · exact ⟨x + 10 - y - o, 1, by omega, by omega, by omega⟩
      obtain ⟨d, o', hd10, ho', hdo⟩ := hdo
      have HS := Lib.hid (off_step HV.out.1 HV.out.2.1 HV.out.2.2 hdo hd10)
      rw [← HX.out, ← HY.out] at HS
      obtain ⟨b, hb⟩ : ∃ b, dig d = b := ⟨_, rfl⟩
      rw [hb] at HS
      have hb48 : (b.toNat : Int) = 48 + (d : Int) := by rw [← hb, dig_toNat hd10]; omega
      have hbl := b.toNat_lt
      clear hb HX HY HI cA cB HV
      have hcase : (o' = 0 ∧ ¬ (x : Int) - (y : Int) - (o : Int) < 0 ∧ 48 + ((x : Int) - (y : Int) - (o : Int)) = (b.toNat : Int)) ∨ (o' = 1 ∧ (x : Int) - (y : Int) - (o : Int) < 0 ∧ 48 + ((x : Int) - (y : Int) - (o : Int) + 10) = (b.toNat : Int)) := by omega
      clear hb48 hdo hd10
      rcases hcase with ⟨rfl, h1, h2⟩ | ⟨rfl, h1, h2⟩
      all_goals
        go_wp2_with fail
        refine (cA1 _).mono ?_
        rintro e wA ⟨rfl, BA⟩
        go_wp2_with fail
        refine (cB1 _).mono ?_
        rintro e wB ⟨rfl, BB⟩
        have D2 := hbel.trans ((BA.trans (BB.mono BA.size)).mono hbel.size)
        have hown1 := row_keptN (row_keptN hown BA (Nat.le_refl _)) BB (Nat.le_refl _)
        clear hown hbel BA BB cA1 cB1
        have hlit := lit_own wB b D2.size
        go_wp2_with (at_builtin; go_must (refine wpList_append_own _ rfl _ _ 22 rfl w.heap.size 5 i0 (.int .u8 0) 1 1 Tryz.underlying22 hi hz0 hz1 hz2 rfl (by decide) _ _ _ rfl hlit ⟨g, 0, none⟩ _ _ (byteCells acc) rfl (by simp [byteCells]) (own_cells (hown1.alloc _)) (bytes_oneN acc) (by unfold maxLen; simp; omega) (by simp; omega) (by have := D2.size; simp; omega) ?_); intro v' w2 hown2 hgrow2 _; have hown3 := own_catN (a := [b]) (b := acc) hown2; obtain ⟨g2, c2, rfl⟩ := own_some (n := acc.length) (by rw [Nat.add_comm] at hown2; exact hown2))
        have hb1 : Below w.heap.size w w2 := (D2.alloc D2.size _).grown hgrow2 (by have := D2.size; simp; omega) (own_block hlit)
        have O3 := Lib.hid hown3
        clear hown2 hown3 hgrow2 hown1 hlit D2
        go_wp2
        go_roundw
        case rel => exact ⟨k + 1, _, b :: acc, g2, c2, by go_num, rfl, rfl, O3.out, HS.out.1, HS.out.2.1, ho', HS.out.2.2, hkn.out, hb1⟩
        case measure => simp [intOf]; omega
    · have HE : Hid (trim acc = natOf (val s.data.toList - val t.data.toList)) := by
        show _ = _
        rw [trim_eq HV.out.1]
        congr 1
        have h3 := HV.out.2.2
        have h4 := val_lt HV.out.1
        rw [low_all (l := t.data.toList) (by rw [htl]; omega), low_all (l := s.data.toList) (by rw [hsl]; omega)] at h3
        rw [HV.out.2.1] at h4
        have h5 := HLE.out
        have h6 : o = 0 ∨ o = 1 := by omega
        rcases h6 with rfl | rfl <;> omega
      have hcvt := conv_own (P := Tryz.prog) (dst := 9) Tryz.underlying22 Tryz.underlying5 Tryz.underlying9 hown
      have cT := specTrim (⟨acc.toArray⟩ : ByteArray) wr (show acc.length ≤ _ by omega)
      clear HI cA cB HV hkm
      go_wp2_with fail
      refine cT.mono ?_
      rintro e w2 ⟨rfl, B2⟩
      have D2 := hbel.trans (B2.mono hbel.size)
      clear B2 hbel cT hcvt hown
      go_wp2
      go_ret
      exact ⟨by rw [← HE.out]; rfl, D2⟩

end Go.Proofs.YthijeckcjfnbcaaGreatDoor

/- spec.NatCmp, NatAdd, NatSub. Conditions: at most 1048576 bytes. -/
namespace Go.Proofs.YthijeckcjfnbcaaGreatDoor
set_option linter.unusedVariables false
open Go.RowKit
open Go.Lib (byteCells)

instance (b : UInt8) : Decidable (IsD b) := inferInstanceAs (Decidable (_ ∧ _))
instance (l : List UInt8) : Decidable (Digs l) := inferInstanceAs (Decidable (∀ b ∈ l, IsD b))
instance (l : List UInt8) : Decidable (Canon l) := inferInstanceAs (Decidable (_ ∧ _))
instance (s : ByteArray) : Decidable (NatS s) := inferInstanceAs (Decidable (_ ∧ _ ∧ _))

/-- The number of a string. -/
def nv (s : ByteArray) : Nat := val s.data.toList
/-- A result within 600 digits. -/
def fits (v : Nat) : List UInt8 × Bool := if (natOf v).length ≤ 600 then (natOf v, true) else ([], false)
def Ans2 (p : List UInt8 × Bool) (w : World) (e : Ending) (w' : World) : Prop := e = .returned (.tuple #[.string ⟨p.1.toArray⟩, .bool p.2]) ∧ Below w.heap.size w w'

def cmpOf (s t : ByteArray) : Int := if NatS s ∧ NatS t then cmpN (nv s) (nv t) else 2
def addOf (s t : ByteArray) : List UInt8 × Bool := if NatS s ∧ NatS t then fits (nv s + nv t) else ([], false)
def subOf (s t : ByteArray) : List UInt8 × Bool := if NatS s ∧ NatS t ∧ nv t ≤ nv s then (natOf (nv s - nv t), true) else ([], false)

theorem NatS.eq {s : ByteArray} (h : NatS s) : s.data.toList = natOf (nv s) := (canon_eq h.2.1 h.1).symm
theorem NatS.mono {s t : ByteArray} (h : NatS s) (g : NatS t) (hle : nv t ≤ nv s) : t.size ≤ s.size := by
  rcases Nat.lt_or_ge s.size t.size with h1 | h1
  · have := canon_len_lt h.2.1 g.2.1 g.1 (by rw [size_list, size_list]; exact h1) h.1.1
    unfold nv at hle
    omega
  · exact h1

theorem AnsB.get {P : Prop} {w w' : World} {e : Ending} (h : AnsB P w e w') : (e = .returned (.bool true) ∧ P ∨ e = .returned (.bool false) ∧ ¬ P) ∧ Below w.heap.size w w' := by
  obtain ⟨b, rfl, hb, hB⟩ := h
  refine ⟨?_, hB⟩
  cases b with
  | true => exact .inl ⟨rfl, hb.1 rfl⟩
  | false => exact .inr ⟨rfl, fun h => by cases hb.2 h⟩




end Go.Proofs.YthijeckcjfnbcaaGreatDoor

/- spec.NatSub, spec.l02Div. Conditions: at most 1048576 bytes; l02Div: naturals, the second not 0. -/
namespace Go.Proofs.YthijeckcjfnbcaaGreatDoor
set_option linter.unusedVariables false
open Go.RowKit
open Go.Lib (byteCells)


theorem natOf_len_mono {a b : Nat} (h : a ≤ b) : (natOf a).length ≤ (natOf b).length := by
  rcases Nat.lt_or_ge (natOf b).length (natOf a).length with h1 | h1
  · have := canon_len_lt (natOf_digs b) (natOf_digs a) (natOf_canon a) h1 (natOf_ne b)
    rw [val_natOf, val_natOf] at this
    omega
  · exact h1

/-- One digit more of a division. -/
theorem div_step {P x B q d : Nat} (hB : 0 < B) (hq : q = P / B) (h : (10 * (P % B) + x) / B = d) : 10 * q + d = (10 * P + x) / B := by
  have h1 := Nat.div_add_mod P B
  subst hq
  have : 10 * P + x = (10 * (P / B)) * B + (10 * (P % B) + x) := by
    have : 10 * P = 10 * (P / B) * B + 10 * (P % B) := by rw [Nat.mul_assoc, ← Nat.mul_add, Nat.mul_comm (P / B) B, h1]
    omega
  rw [this, Nat.add_comm (10 * (P / B) * B), Nat.add_mul_div_right _ _ hB, h]
  omega
theorem mod_step {P x B : Nat} : (10 * (P % B) + x) % B = (10 * P + x) % B := by
  rw [Nat.add_mod, Nat.mul_mod, Nat.mod_mod, ← Nat.mul_mod, ← Nat.add_mod]

theorem trim_len : ∀ (l : List UInt8), l ≠ [] → (trim l).length ≤ l.length
  | [], h => absurd rfl h
  | [b], _ => Nat.le_refl _
  | b :: c :: l, _ => by
    rw [trim]
    split
    · have := trim_len (c :: l) (by simp)
      simp at this ⊢; omega
    · exact Nat.le_refl _
theorem ext_one (s : ByteArray) (i : Nat) (h : i < s.size) : (s.extract i (i + 1)).data.toList = [s[i]] := by
  have hl := size_list s
  rw [ByteArray.data_extract, Array.toList_extract]
  simp only [List.extract_eq_take_drop, Nat.add_sub_cancel_left]
  rw [List.drop_eq_getElem_cons (by rw [hl]; exact h)]
  rfl

def DivRel (la : List UInt8) (B : Nat) (w : World) (v rv iv : Value) (wr : World) : Prop :=
  ∃ (i : Nat) (acc : List UInt8), i ≤ la.length ∧ iv = .int .i64 i ∧ rv = .string ⟨(natOf (val (la.take i) % B)).toArray⟩ ∧ wr.ownsRow w.heap.size 5 1 v acc.length (byteCells acc) ∧ Digs acc ∧ acc.length = i ∧ val acc = val (la.take i) / B ∧ Below w.heap.size w wr

def Ans22 (p q : List UInt8) (w : World) (e : Ending) (w' : World) : Prop := e = .returned (.tuple #[.string ⟨p.toArray⟩, .string ⟨q.toArray⟩]) ∧ Below w.heap.size w w'


end Go.Proofs.YthijeckcjfnbcaaGreatDoor

/- spec.NatDiv, spec.NatShift. Conditions: at most 1048576 bytes. -/
namespace Go.Proofs.YthijeckcjfnbcaaGreatDoor
set_option linter.unusedVariables false
open Go.RowKit
open Go.Lib (byteCells)

def Ans3 (p q : List UInt8) (b : Bool) (w : World) (e : Ending) (w' : World) : Prop := e = .returned (.tuple #[.string ⟨p.toArray⟩, .string ⟨q.toArray⟩, .bool b]) ∧ Below w.heap.size w w'
def divOf (s t : ByteArray) : List UInt8 × List UInt8 × Bool := if NatS s ∧ NatS t ∧ 0 < nv t then (natOf (nv s / nv t), natOf (nv s % nv t), true) else ([], [], false)
def shiftOf (s : ByteArray) (n : Int) : List UInt8 × Bool := if NatS s ∧ 0 ≤ n ∧ n ≤ 600 then fits (nv s * 10 ^ n.toNat) else ([], false)

theorem zero_of {t : ByteArray} (h : NatS t) (h0 : ¬ 0 < nv t) : t = ⟨#[48]⟩ := by
  have h1 := h.eq
  rw [show nv t = 0 by omega, natOf_small (by omega)] at h1
  apply ByteArray.ext
  apply Array.ext'
  rw [h1]; rfl
theorem not_zero {t : ByteArray} (h0 : 0 < nv t) : (t.toList == [48]) = false := by
  refine beq_eq_false_iff_ne.2 fun e => ?_
  rw [ByteArray.toList_eq] at e
  unfold nv at h0
  rw [e] at h0
  exact absurd h0 (by decide)
theorem val_zeros (n : Nat) : val (List.replicate n 48) = 0 ∧ Digs (List.replicate n (48 : UInt8)) := by
  induction n with
  | zero => exact ⟨rfl, digs_nil⟩
  | succ n ih =>
    rw [List.replicate_succ']
    refine ⟨by rw [val_snoc, ih.1]; rfl, ih.2.append (digs_one ⟨by decide, by decide⟩)⟩



end Go.Proofs.YthijeckcjfnbcaaGreatDoor

/- Plain mathematics for spec.l02Round: head and tail of a number's digits, half a step, rounding. No program in it. -/
namespace Go.Proofs.YthijeckcjfnbcaaGreatDoor
set_option linter.unusedVariables false
open Go.RowKit
open Go.Lib (byteCells)

/-- A number without its last n digits, rounded half to even. -/
def rnd (v n : Nat) : Nat := if 10 ^ n < 2 * (v % 10 ^ n) ∨ 2 * (v % 10 ^ n) = 10 ^ n ∧ v / 10 ^ n % 2 = 1 then v / 10 ^ n + 1 else v / 10 ^ n

theorem same_len_eq : ∀ {a b : List UInt8}, Digs a → Digs b → a.length = b.length → val a = val b → a = b
  | [], [], _, _, _, _ => rfl
  | [], _ :: _, _, _, h, _ => by simp at h
  | _ :: _, [], _, _, h, _ => by simp at h
  | x :: a, y :: b, ha, hb, h, hv => by
    have hl : a.length = b.length := by simpa using h
    have h1 := val_lt ha.cons.2
    have h2 := val_lt hb.cons.2
    rw [val_cons, val_cons, hl] at hv
    rw [hl] at h1
    have hp : dv x = dv y := by
      rcases Nat.lt_trichotomy (dv x) (dv y) with h3 | h3 | h3
      · have : (dv x + 1) * 10 ^ b.length ≤ dv y * 10 ^ b.length := Nat.mul_le_mul_right _ h3
        rw [Nat.add_mul] at this
        omega
      · exact h3
      · have : (dv y + 1) * 10 ^ b.length ≤ dv x * 10 ^ b.length := Nat.mul_le_mul_right _ h3
        rw [Nat.add_mul] at this
        omega
    have hxy : x = y := by rw [← dig_dv ha.cons.1, ← dig_dv hb.cons.1, hp]
    rw [hp] at hv
    rw [hxy, same_len_eq ha.cons.2 hb.cons.2 hl (by omega)]

/-- The parts of a number's digits behind noughts: the head tells the quotient, the tail the rest. -/
theorem parts_of {l : List UInt8} (hd : Digs l) (n : Nat) :
    let L := List.replicate n (48 : UInt8) ++ l
    Digs (L.take l.length) ∧ Digs (L.drop l.length) ∧ (L.drop l.length).length = n ∧ val (L.take l.length) = val l / 10 ^ n ∧ val (L.drop l.length) = val l % 10 ^ n := by
  intro L
  have hL : Digs L := (val_zeros n).2.append hd
  have hv : val L = val l := by show val (List.replicate n 48 ++ l) = _; rw [val_append, (val_zeros n).1]; omega
  have h1 : Digs (L.take l.length) := fun b hb => hL b (List.mem_of_mem_take hb)
  have h2 : Digs (L.drop l.length) := fun b hb => hL b (List.mem_of_mem_drop hb)
  have h3 : (L.drop l.length).length = n := by show ((List.replicate n (48 : UInt8) ++ l).drop l.length).length = n; simp
  have h4 := val_lt h2
  rw [h3] at h4
  have h5 : val l = val (L.take l.length) * 10 ^ n + val (L.drop l.length) := by
    rw [← hv, ← h3, ← val_append, List.take_append_drop]
  have hp : 0 < 10 ^ n := Nat.pow_pos (by omega)
  refine ⟨h1, h2, h3, ?_, ?_⟩
  · rw [h5, Nat.add_comm, Nat.add_mul_div_right _ _ hp, Nat.div_eq_of_lt h4]; omega
  · rw [h5, Nat.add_comm, Nat.add_mul_mod_self_right, Nat.mod_eq_of_lt h4]

theorem half_val (n : Nat) : val (53 :: List.replicate n 48) = 5 * 10 ^ n ∧ Digs (53 :: List.replicate n (48 : UInt8)) ∧ (53 :: List.replicate n (48 : UInt8)).length = n + 1 := by
  refine ⟨by rw [val_cons, (val_zeros n).1, List.length_replicate]; rfl, fun b hb => ?_, by simp⟩
  rcases List.mem_cons.1 hb with rfl | hb
  · exact ⟨by decide, by decide⟩
  · exact (val_zeros n).2 b hb


end Go.Proofs.YthijeckcjfnbcaaGreatDoor
