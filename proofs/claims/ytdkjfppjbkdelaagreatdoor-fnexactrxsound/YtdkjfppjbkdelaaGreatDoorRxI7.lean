/- The program's reader of patterns: class. Conditions: at most 1000 code points. -/
import Derived.Test.YtdkjfppjbkdelaaGreatDoorRxIA
import Derived.Test.YtdkjfppjbkdelaaGreatDoorUtf
namespace Go.Proofs.YtdkjfppjbkdelaaGreatDoor
set_option linter.unusedVariables false
open Go.RowKit Go.Lib

theorem Tryz.infoByte7 : (Tryz.prog.info? 5).map (fun i => (i.zero, i.size, i.bytes)) = some (some (.int .u8 0), 1, 1) := by kernel_rfl

def ClassRel (s : List Int) (i : Nat) (w : World) (p : Nat) (PA : Option Addr) (pc d : Nat) (nv : Value) (v : Value) (wr : World) : Prop :=
  ∃ (bs : List UInt8) (a f : Nat), a ≤ s.length + 2 ∧ s.length < a + f ∧ wr.ownsRow (p + 1) 5 1 v bs.length (byteCells bs) ∧ (∀ b, v.ownBlock = some b → w.heap.size ≤ b) ∧ bs.map bi ++ lets s f a = lets s (s.length + 1) (i + 2) ∧ a = i + 2 + bs.length ∧ Keep [p] w wr ∧ Rs wr p s PA pc a d nv

def ClassIs (w : World) (p : Nat) (s : List Int) (PA : Option Addr) (pc i d : Nat) (nv : Value) (e : Ending) (w' : World) : Prop :=
  match classR s i with
  | some (l, j) => ∃ v, e = .returned (.tuple #[v, .bool true]) ∧ RowI w' w.heap.size v l ∧ Keep [p] w w' ∧ Rs w' p s PA pc j d nv
  | none => ∃ v, e = .returned (.tuple #[v, .bool false]) ∧ Keep [p] w w'
theorem letter_byte {x : Int} (h : isLet x = true) : 0 ≤ x ∧ x < 128 ∧ bi (UInt8.ofNat x.toNat) = x := by
  have h1 : 97 ≤ x ∧ x ≤ 122 ∨ 65 ≤ x ∧ x ≤ 90 := by simpa [isLet] using h
  refine ⟨by omega, by omega, ?_⟩
  unfold bi
  rw [UInt8.toNat_ofNat']
  omega
theorem byte_cell {x : Int} (h : isLet x = true) : byteCells [UInt8.ofNat x.toNat] = [.int .u8 x] := by
  have := (letter_byte h).2.2
  unfold bi at this
  simp only [byteCells, List.map_cons, List.map_nil]
  rw [this]
theorem new_byte (w : World) (x : Int) (e : TypeId) : ∀ j u, ([.int .u8 x] : List Value)[j]? = some u → (w.alloc (.cells #[.int .u8 x] e)).cell? ((⟨w.heap.size, 0, none⟩ : Addr).add j) = some u := by
  intro j u hu
  rw [Addr.add_lit, Nat.zero_add, cell_of_row _ w.heap.size j _ e (0, 0) (heap_alloc_new w _)]
  rw [show (#[.int .u8 x] : Array Value) = ([.int .u8 x] : List Value).toArray from rfl, List.getElem?_toArray]
  exact hu

theorem lets_end {s : List Int} {f a : Nat} (h : isLet (pk s a) = false) : lets s f a = [] := by
  cases f with
  | zero => rfl
  | succ f => rw [lets, if_neg (by rw [h]; simp)]
theorem class_eq {s : List Int} {i a : Nat} {L : List Int} (h : lets s (s.length + 1) (i + 2) = L) (ha : a = i + 2 + L.length) : classR s i = if classOf L ≠ [] ∧ pk s a = 58 ∧ pk s (a + 1) = 93 then some (classOf L, a + 2) else none := by
  unfold classR
  rw [h, ha, show i + 2 + L.length + 1 = i + 3 + L.length by omega, show i + 2 + L.length + 2 = i + 4 + L.length by omega]
theorem row_low {w : World} {B B' : Nat} {v : Value} {l : List Int} (h : RowI w B v l) (hb : B' ≤ B) : RowI w B' v l := by
  refine ⟨h.1, ?_⟩
  rcases h.2 with h0 | ⟨g, cap, cur, hv, hg, r⟩
  · exact .inl h0
  · exact .inr ⟨g, cap, cur, hv, Nat.le_trans hb hg, r⟩
section
variable {w w' : World} {p : Nat} {s : List Int} {PA : Option Addr} {pc i d j : Nat} {nv v : Value} {l : List Int} {e : Ending}
theorem ClassIs.yes (h : classR s i = some (l, j)) (he : e = .returned (.tuple #[v, .bool true])) (hr : RowI w' w.heap.size v l) (hk : Keep [p] w w') (hs : Rs w' p s PA pc j d nv) : ClassIs w p s PA pc i d nv e w' := by
  unfold ClassIs; rw [h]; exact ⟨v, he, hr, hk, hs⟩
theorem ClassIs.no (h : classR s i = none) (he : e = .returned (.tuple #[v, .bool false])) (hk : Keep [p] w w') : ClassIs w p s PA pc i d nv e w' := by
  unfold ClassIs; rw [h]; exact ⟨v, he, hk⟩
end

set_option maxHeartbeats 4000000 in
set_option maxRecDepth 100000 in
theorem class_any (w : World) (p : Nat) (s : List Int) (PA : Option Addr) (pc i d : Nat) (nv : Value) (h : Rs w p s PA pc i d nv) (hs : s.length ≤ 1000) (hi : i + 2 ≤ s.length) (hP : Pos s) (hL : Nat) : Calls Tryz.prog 229 #[.pointer (some ⟨p, 0, none⟩)] w (ClassIs w p s PA pc i d nv) := by
  obtain ⟨i0, hi0, hz0, hz1, hz2⟩ := info_parts Tryz.infoByte7
  obtain ⟨c0, c1, c2, c3⟩ := h.cell
  have f1 := h.frozen 1
  have hp := h.lt
  have K0 := Lib.hid (h.keepSet 1 (.int .i64 ((i + 2 : Nat) : Int)))
  have R0 := Lib.hid (h.set1 (i + 2))
  have hz0' : (i : Int) + 2 = ((i + 2 : Nat) : Int) := by omega
  obtain ⟨m, hm⟩ : ∃ m, i + 2 = m := ⟨_, rfl⟩
  rw [hm] at hz0' K0 R0
  have HM := Lib.hid hm
  clear h hm
  go_enter Tryz.func229, Tryz.ntmps229
  go_wp2
  go_loopw [4] (ClassRel s i w p PA pc d nv) (fun _ wr => s.length + 3 - atOf p wr)
  case atStart => exact ⟨[], m, s.length + 1, by have := HM.out; omega, by omega, World.ownsRow_nil _ _ _ _, (fun b hb => by cases hb), (by rw [← HM.out]; rfl), (by rw [← HM.out]; rfl), K0.out, R0.out⟩
  case round =>
    obtain ⟨bs, a, f, hal, hf, hown, hfr, hlt, hab, hk, hr⟩ := hrel
    have HA := Lib.hid hr.atOf
    clear c0 c1 c2 c3 f1 K0 R0
    have hal' : a ≤ 1005 := by omega
    have cA := ahead0 wr p s PA pc a d nv hr hs hal'
    obtain ⟨x, hx⟩ : ∃ x, pk s a = x := ⟨_, rfl⟩
    have HX := Lib.hid hx
    rw [hx] at cA
    have HK := Lib.hid hk
    have HO := Lib.hid hown
    have HF := Lib.hid hfr
    have HL := Lib.hid hlt
    have HAB := Lib.hid hab
    obtain ⟨A, c, rfl⟩ := own_form hown
    clear hx hk hown hfr hlt hr hab
    go_wp2_with fail
    refine cA.mono ?_
    rintro e w1 ⟨rfl, k1, r1⟩
    have K1 := Lib.hid (HK.out.tr k1.nil)
    have O1 := Lib.hid (k1.row HO.out fun b hb => by simp)
    have R1 := Lib.hid r1
    clear k1 r1 cA
    go_wp2_with fail
    refine (isLetter_any x _).mono ?_
    rintro e w1' ⟨rfl, rfl⟩
    cases hl : isLet x with
    | true =>
      obtain ⟨x0, x1, x2⟩ := letter_byte hl
      have hbl : a < s.length := lt_of_pk (s := s) (i := a) (by rw [HX.out]; intro e; rw [e] at hl; simp [isLet] at hl)
      obtain ⟨f, rfl⟩ : ∃ g, f = g + 1 := ⟨f - 1, by omega⟩
      have hL2 : (bs ++ [UInt8.ofNat x.toNat]).map bi ++ lets s f (a + 1) = lets s (s.length + 1) (i + 2) := by
        have h0 := HL.out
        rw [lets, HX.out, if_pos hl] at h0
        rw [← h0, List.map_append, List.append_assoc]
        simp [x2]
      have HL2 := Lib.hid hL2
      have HBC := Lib.hid (byte_cell hl)
      have hconv : x % 256 = x := by omega
      clear hL2 hl x2
      have cA := ahead0 w1 p s PA pc a d nv R1.out hs hal'
      rw [HX.out] at cA
      have hbl1 : bs.length ≤ 2000 := by have := HAB.out; omega
      go_wp2_with fail
      refine cA.mono ?_
      rintro e w2 ⟨rfl, k2, r2⟩
      have K2 := Lib.hid (K1.out.tr k2.nil)
      have O2 := Lib.hid (k2.row O1.out fun b hb => by simp)
      have R2 := Lib.hid r2
      have z2 : p + 1 ≤ w2.heap.size := by have := r2.lt; omega
      clear k2 r2 cA
      have hz1' : (a : Int) + 1 = ((a + 1 : Nat) : Int) := by omega
      obtain ⟨m2, hm2⟩ : ∃ m2, a + 1 = m2 := ⟨_, rfl⟩
      rw [hm2] at hz1' HL2
      have HM2 := Lib.hid hm2
      clear hm2
      go_wp2_with (at_builtin; refine list_append_own rfl _ _ 22 rfl (p + 1) 5 i0 (.int .u8 0) 1 1 Tryz.underlying22 hi0 hz0 hz1 hz2 rfl (by decide) (.slice A bs.length c) bs.length (byteCells bs) rfl (O2.out.alloc _) ⟨w2.heap.size, 0, none⟩ 1 1 [.int .u8 x] rfl rfl (new_byte w2 x 5) (fun u hu => by simp at hu; subst hu; rfl) (by unfold maxLen; omega) (by omega) (by simp; omega) ?_; intro v' w3 hown3 hgrow3 hblk3; obtain ⟨A3, c3', rfl⟩ := own_form hown3; have K3 := Lib.hid ((Keep.refl [] w2).alloc (.cells #[.int .u8 x] 5)); have K3' := Lib.hid (K3.out.nil.tr (Keep.ofGrown hgrow3)); have R3 := R2.out.keep K3'.out (fun b hb => by have := (O2.out.lt b (by simpa using hb)).1; omega); obtain ⟨d0, d1, d2, d3⟩ := R3.cell; have g1 := R3.frozen 1)
      have R4 := Lib.hid (R3.set1 m2)
      have K4 := Lib.hid ((K2.out.trans K3'.out (fun b hb => .inr (HF.out b (by simpa using hb)))).setCell (p := p) (j := 1) (.inl (by simp)) (.int .i64 (m2 : Int)))
      have O4 := Lib.hid (R3.keepSet 1 (.int .i64 (m2 : Int)) |>.row hown3 fun b hb => by have := (hown3.lt b hb).1; simp; omega)
      have HB4 : Hid (∀ b, Value.ownBlock (.slice A3 (bs.length + 1) c3') = some b → w.heap.size ≤ b) := fun b hb => by
        rcases hblk3 b hb with h | h
        · exact HF.out b h
        · have := K2.out.size; rw [alloc_size1] at h; omega
      clear R3 hown3 hgrow3 hblk3 K3
      go_wp2
      go_roundw
      case rel => exact ⟨bs ++ [UInt8.ofNat x.toNat], m2, f, by have := HM2.out; omega, by have := HM2.out; omega, by rw [byteCells_append, HBC.out, List.length_append]; exact O4.out, HB4.out, HL2.out, by have := HM2.out; have := HAB.out; simp; omega, K4.out, R4.out⟩
      case measure => rw [R4.out.atOf, HA.out]; have := HM2.out; omega
    | false =>
      have hle : lets s (s.length + 1) (i + 2) = bs.map bi := by
        have h0 := HL.out
        rw [lets_end (by rw [HX.out]; exact hl), List.append_nil] at h0
        exact h0.symm
      have HC := Lib.hid (class_eq (a := a) hle (by rw [List.length_map]; exact HAB.out))
      have hcv := conv_own (P := Tryz.prog) (src := 22) (dst := 9) (e := 5) Tryz.underlying22 Tryz.underlying5 Tryz.underlying9 O1.out
      clear hl hle HL
      go_wp2_with fail
      refine (classEnds_any bs _).mono ?_
      rintro e w2 ⟨v, rfl, hrow, k2⟩
      obtain ⟨C, hC⟩ : ∃ C, classOf (bs.map bi) = C := ⟨_, rfl⟩
      rw [hC] at hrow HC
      obtain ⟨A2, c2, rfl⟩ := own_form hrow
      have hp1 : p < w1.heap.size := R1.out.lt
      have hCl : C.length ≤ 100 := by
        rw [← hC]; unfold classOf
        repeat' (split; · decide)
        decide
      have R2 := Lib.hid (R1.out.keep0 k2)
      have K2 := Lib.hid (K1.out.tr k2.nil)
      have W2 := Lib.hid (row_low hrow (show w.heap.size ≤ w1.heap.size from K1.out.size))
      have hpw : p < w.heap.size := hp
      clear hrow k2 hcv hC
      by_cases h58 : pk s a = 58
      · have hal2 : a < s.length := lt_of_pk (by omega)
        go_wp2_with fail
        refine (take_yes 58 _ p s PA pc a d nv R2.out hs hal' h58).mono ?_
        rintro e w3 ⟨rfl, k3, r3⟩
        have K3 := Lib.hid (K2.out.tr k3)
        have R3 := Lib.hid r3
        have W3 := Lib.hid (k3.row W2.out fun b hb => by have := (World.ownsRow.lt W2.out b hb).1; simp; omega)
        clear k3 r3
        by_cases h93 : pk s (a + 1) = 93
        · go_wp2_with fail
          refine (take_yes 93 _ p s PA pc (a + 1) d nv R3.out hs (by omega) h93).mono ?_
          rintro e w4 ⟨rfl, k4, r4⟩
          have K4 := Lib.hid (K3.out.tr k4)
          have R4 := Lib.hid r4
          have W4 := Lib.hid (k4.row W3.out fun b hb => by have := (World.ownsRow.lt W3.out b hb).1; simp; omega)
          clear k4 r4
          by_cases hC0 : C = []
          · have HC2 : Hid (classR s i = none) := by show classR s i = none; rw [HC.out, if_neg (fun h => h.1 hC0)]
            subst hC0
            clear HC h58 h93
            go_wp2
            go_ret2
            exact ClassIs.no HC2.out rfl K4.out
          · have HC2 : Hid (classR s i = some (C, a + 2)) := by show classR s i = _; rw [HC.out, if_pos ⟨hC0, h58, h93⟩]
            have hC1 : 0 < C.length := List.length_pos_iff.2 hC0
            clear HC h58 h93 hC0
            go_wp2
            go_ret2
            exact ClassIs.yes HC2.out rfl W4.out K4.out R4.out
        · have HC2 : Hid (classR s i = none) := by show classR s i = none; rw [HC.out, if_neg (fun h => h93 h.2.2)]
          clear HC h58
          go_wp2_with fail
          refine (take_no 93 _ p s PA pc (a + 1) d nv R3.out hs (by omega) h93).mono ?_
          rintro e w4 ⟨rfl, k4, r4⟩
          have K4 := Lib.hid (K3.out.tr k4.nil)
          clear k4 r4 h93
          go_wp2
          go_ret2
          exact ClassIs.no HC2.out rfl K4.out
      · have HC2 : Hid (classR s i = none) := by show classR s i = none; rw [HC.out, if_neg (fun h => h58 h.2.1)]
        clear HC
        go_wp2_with fail
        refine (take_no 58 _ p s PA pc a d nv R2.out hs hal' h58).mono ?_
        rintro e w3 ⟨rfl, k3, r3⟩
        have K3 := Lib.hid (K2.out.tr k3.nil)
        clear k3 r3 h58
        go_wp2
        go_ret2
        exact ClassIs.no HC2.out rfl K3.out

end Go.Proofs.YtdkjfppjbkdelaaGreatDoor
