/- spec.Joined joins texts as the plain function. Conditions: at most 1048576 strings, each of at most 1048576 bytes. -/
import Derived.Test.YtdkjfppjbkdelabDoorJoinMath
import Derived.Test.YtdkjfppjbkdelabDoorStrMem
import Derived.Test.YtdkjfppjbkdelabDoorImplOk
import Derived.Lib.AppendStr
namespace Go.Proofs.YtdkjfppjbkdelabDoor
set_option linter.unusedVariables false
open Go.RowKit
open Go.Lib (byteCells)

set_option maxHeartbeats 1000000 in
set_option maxRecDepth 100000 in
theorem specTextOkJ (s : ByteArray) (w : World) (hs : s.size ≤ 1048576) : Calls Tryd.prog 23 #[.string s] w (BoolIs (runesOf s).isSome w) := by
  have cR := specRunes s w hs
  unfold IntsAre at cR
  unfold BoolIs
  generalize (runesOf s).isSome = b at cR ⊢
  generalize (runesOf s).getD [] = l at cR
  go_enter Tryd.func23, Tryd.ntmps23
  go_wp2_with fail
  refine cR.mono ?_
  rintro e w1 ⟨v, rfl, hown, hb⟩
  obtain ⟨A, c, rfl⟩ := own_form hown
  clear hown cR
  go_wp2
  go_ret
  exact ⟨rfl, hb⟩

/-- A string and a flag. -/
def JoinIs (o : Option (List UInt8)) (w : World) (e : Ending) (w' : World) : Prop := e = .returned (.tuple #[.string ⟨(o.getD []).toArray⟩, .bool o.isSome]) ∧ Below w.heap.size w w'
theorem JoinIs.no {o : Option (List UInt8)} {w w' : World} (h : o = none) (hb : Below w.heap.size w w') : JoinIs o w (.returned (.tuple #[.string ⟨#[]⟩, .bool false])) w' := by subst h; exact ⟨rfl, hb⟩
theorem JoinIs.yes {o : Option (List UInt8)} {l : List UInt8} {w w' : World} (h : o = some l) (hb : Below w.heap.size w w') : JoinIs o w (.returned (.tuple #[.string ⟨l.toArray⟩, .bool true])) w' := by subst h; exact ⟨rfl, hb⟩
theorem strCells_eq (s : ByteArray) : Lib.strCells s = byteCells s.data.toList := rfl

theorem cells_join (a b : List UInt8) : byteCells (a ++ b) = byteCells a ++ byteCells b := by simp [byteCells]
theorem size_join (x : ByteArray) : x.data.toList.length = x.size := Array.length_toList
theorem row_join {w : World} {B : Nat} {e : TypeId} {v : Value} {a : List UInt8} {x : ByteArray} {m : Nat} (hm : a.length + x.size = m) (h : w.ownsRow B e 1 v m (byteCells a ++ Lib.strCells x)) : w.ownsRow B e 1 v (a ++ x.data.toList).length (byteCells (a ++ x.data.toList)) := by
  rw [cells_join, List.length_append, size_join, hm, ← strCells_eq]; exact h
theorem row_keep {w w' : World} {B : Nat} {e : TypeId} {n : Nat} {v : Value} {xs : List Value} (h : w.ownsRow B e 1 v n xs) (hb : Below w.heap.size w w') : w'.ownsRow B e 1 v n xs :=
  h.kept (row := none) ⟨hb.os, hb.tape, hb.output, hb.size, fun k hk _ => hb.block k hk⟩ (by cases hv : v.ownBlock <;> simp)

def SJRel (sep : ByteArray) (xs : List ByteArray) (R : Option (List UInt8)) (w : World) (v i : Value) (wr : World) : Prop :=
  ∃ (k : Nat) (acc : List UInt8), k ≤ xs.length ∧ i = .int .i64 k ∧ acc.length ≤ 1000 ∧ wr.ownsRow w.heap.size 5 1 v acc.length (byteCells acc) ∧ joinFrom sep (decide (k = 0)) acc (xs.drop k) = R ∧ Below w.heap.size w wr

set_option maxHeartbeats 4000000 in
set_option maxRecDepth 100000 in
theorem specJoined (A : Option Addr) (c : Nat) (xs : List ByteArray) (sep : ByteArray) (w : World) (hlen : xs.length ≤ 1048576) (hsz : ∀ x ∈ xs, x.size ≤ 1048576) (hs : sep.size ≤ 1048576) (hN : Strs w w.heap.size A xs) :
    Calls Tryd.prog 16 #[.slice A xs.length c, .string sep] w (JoinIs (joinR sep xs) w) := by
  obtain ⟨i0, hi, hz0, hz1, hz2⟩ := info_parts Tryd.infoByte
  have cT := specTextOkJ sep w hs
  obtain ⟨R, hR⟩ : ∃ R, joinR sep xs = R := ⟨_, rfl⟩
  rw [hR]
  have HR := Lib.hid hR
  have HSz := Lib.hid hsz
  have HN := Lib.hid hN
  clear hR hsz hN
  cases hsep : (runesOf sep).isSome with
  | false =>
    rw [hsep] at cT
    have HRn := Lib.hid (HR.out.symm.trans (joinR_no xs hsep))
    clear hsep
    go_enter Tryd.func16, Tryd.ntmps16
    go_wp2_with (go_at_call 23; refine cT.mono ?_; rintro e w1 ⟨rfl, b1⟩)
    go_ret2
    exact JoinIs.no HRn.out b1
  | true =>
    rw [hsep] at cT
    have HRy := Lib.hid ((joinR_yes xs hsep).symm.trans HR.out)
    have hs1 : sep.size ≤ 1000 := text_size hsep
    clear hsep
    go_enter Tryd.func16, Tryd.ntmps16
    go_wp2_with (go_at_call 23; refine cT.mono ?_; rintro e w1 ⟨rfl, b1⟩)
    clear cT
    go_loopw [6, 7] (fun v i wr => SJRel sep xs R w v i wr) (fun _ i _ => xs.length - (intOf i).toNat)
    case atStart => exact ⟨0, [], Nat.zero_le _, rfl, by simp, own_empty w w1 _ b1.size, HRy.out, b1.alloc b1.size _⟩
    case round =>
      obtain ⟨k, acc, hk, rfl, hal, hown, hgo, hbel⟩ := hrel
      have HG := Lib.hid hgo
      have HBel := Lib.hid hbel
      have HOwn := Lib.hid hown
      obtain ⟨A1, c1, rfl⟩ := own_form hown
      clear hgo
      by_cases hlt : k < xs.length
      · obtain ⟨b, o, rfl, hb, hc0⟩ := HN.out k hlt
        have hcW : Hid (∀ W, Below w.heap.size w W → W.cell? ⟨b, o + k, none⟩ = some (.string xs[k])) := fun W h => (h.cell (p := ⟨b, o + k, none⟩) hb).trans hc0
        have hxs := HSz.out _ (List.getElem_mem hlt)
        have HBad : Hid ((runesOf xs[k]).isSome = false → R = none) := fun h => HG.out.symm.trans (joinFrom_bad hlt h)
        have HLong : Hid ((runesOf xs[k]).isSome = true → 1000 < (joinOne sep (decide (k = 0)) acc xs[k]).length → R = none) := fun h h2 => HG.out.symm.trans (joinFrom_long hlt h h2)
        have HOn : Hid ((runesOf xs[k]).isSome = true → ¬ 1000 < (joinOne sep (decide (k = 0)) acc xs[k]).length → joinFrom sep (decide (k + 1 = 0)) (joinOne sep (decide (k = 0)) acc xs[k]) (xs.drop (k + 1)) = R) := fun h h2 => by rw [show decide (k + 1 = 0) = false by simp]; exact (joinFrom_on hlt h h2).symm.trans HG.out
        obtain ⟨x, hx⟩ : ∃ x, xs[k] = x := ⟨_, rfl⟩
        rw [hx] at hcW hxs HBad HLong HOn
        have hcr := hcW.out wr hbel
        have cX : ∀ W, Calls Tryd.prog 23 #[.string x] W (BoolIs (runesOf x).isSome W) := fun W => specTextOkJ x W hxs
        have hltz : (k : Int) < (xs.length : Int) := by omega
        clear hc0 hx hown hbel
        cases htx : (runesOf x).isSome with
        | false =>
          rw [htx] at cX
          have HRn := Lib.hid (HBad.out htx)
          clear htx
          go_wp2_with (go_at_call 23; refine (cX _).mono ?_; rintro e w2 ⟨rfl, b2⟩)
          go_ret2
          exact JoinIs.no HRn.out (HBel.out.trans (b2.mono HBel.out.size))
        | true =>
          rw [htx] at cX
          have hx1 : x.size ≤ 1000 := text_size htx
          have HL2 : Hid (1000 < (joinOne sep (decide (k = 0)) acc x).length → R = none) := fun h => HLong.out htx h
          have HO2 : Hid (¬ 1000 < (joinOne sep (decide (k = 0)) acc x).length → joinFrom sep (decide (k + 1 = 0)) (joinOne sep (decide (k = 0)) acc x) (xs.drop (k + 1)) = R) := fun h => HOn.out htx h
          clear htx HBad HLong HOn
          by_cases hk0 : k = 0
          · have hk0z : ¬ (0 : Int) < (k : Int) := by omega
            have hj : joinOne sep (decide (k = 0)) acc x = acc ++ x.data.toList := by rw [decide_eq_true hk0]; rfl
            obtain ⟨m, hm⟩ : ∃ m, acc.length + x.size = m := ⟨_, rfl⟩
            have hjl : (joinOne sep (decide (k = 0)) acc x).length = m := by rw [hj, List.length_append, size_join, hm]
            rw [hjl] at HL2 HO2
            have HJ := Lib.hid hj
            have HM := Lib.hid hm
            clear hj hjl hk0
            by_cases hL : 1000 < m
            · have hLz : (1000 : Int) < (m : Int) := by omega
              have HRn := Lib.hid (HL2.out hL)
              go_wp2_with (first | (go_at_call 23; refine (cX _).mono ?_; rintro e w2 ⟨rfl, b2⟩; have B2 := HBel.out.trans (b2.mono HBel.out.size); have hc2 := hcW.out w2 B2; have ho2 := row_keep HOwn.out b2; have z2 := B2.size) | (at_builtin; refine Lib.wpList_append_own_string _ rfl _ _ 43 9 rfl w.heap.size 5 i0 Tryd.underlying43 Tryd.underlying9 hi hz0 hz1 hz2 (.slice A1 acc.length c1) _ _ rfl ho2 x rfl (by unfold maxLen; omega) (by omega) z2 ?_; intro v3 w3 hov3 hgv3 _; rw [HM.out] at hov3; obtain ⟨A3, c3, rfl⟩ := own_form hov3))
              have B3 := B2.grown hgv3 z2 (own_block ho2)
              go_ret2
              exact JoinIs.no HRn.out B3
            · have hLz : ¬ (1000 : Int) < (m : Int) := by omega
              have HRn := Lib.hid (HO2.out hL)
              go_wp2_with (first | (go_at_call 23; refine (cX _).mono ?_; rintro e w2 ⟨rfl, b2⟩; have B2 := HBel.out.trans (b2.mono HBel.out.size); have hc2 := hcW.out w2 B2; have ho2 := row_keep HOwn.out b2; have z2 := B2.size) | (at_builtin; refine Lib.wpList_append_own_string _ rfl _ _ 43 9 rfl w.heap.size 5 i0 Tryd.underlying43 Tryd.underlying9 hi hz0 hz1 hz2 (.slice A1 acc.length c1) _ _ rfl ho2 x rfl (by unfold maxLen; omega) (by omega) z2 ?_; intro v3 w3 hov3 hgv3 _; rw [HM.out] at hov3; obtain ⟨A3, c3, rfl⟩ := own_form hov3))
              have B3 := B2.grown hgv3 z2 (own_block ho2)
              have HB3 := Lib.hid B3
              have HO3 := Lib.hid (row_join HM.out hov3)
              clear B3 hov3 hgv3 ho2 hc2 B2 b2 cX
              go_roundw
              case rel =>
                rw [HJ.out] at HRn
                exact ⟨k + 1, _, hlt, by go_num, by rw [List.length_append, size_join, HM.out]; omega, HO3.out, HRn.out, HB3.out⟩
              case measure => simp [intOf]; omega
          · have hk0z : (0 : Int) < (k : Int) := by omega
            have hj : joinOne sep (decide (k = 0)) acc x = (acc ++ sep.data.toList) ++ x.data.toList := by rw [decide_eq_false hk0]; rfl
            obtain ⟨m1, hm1⟩ : ∃ m1, acc.length + sep.size = m1 := ⟨_, rfl⟩
            obtain ⟨m, hm⟩ : ∃ m, m1 + x.size = m := ⟨_, rfl⟩
            have hjl : (joinOne sep (decide (k = 0)) acc x).length = m := by rw [hj, List.length_append, List.length_append, size_join, size_join, hm1, hm]
            rw [hjl] at HL2 HO2
            have HJ := Lib.hid hj
            have HM1 := Lib.hid hm1
            have HM := Lib.hid (show (acc ++ sep.data.toList).length + x.size = m by rw [List.length_append, size_join, hm1, hm])
            have hm1l : (acc ++ sep.data.toList).length = m1 := by rw [List.length_append, size_join, hm1]
            have hmb : m1 ≤ 2000 := by omega
            have HML := Lib.hid hm1l
            clear hj hjl hk0 hm1l
            by_cases hL : 1000 < m
            · have hLz : (1000 : Int) < (m : Int) := by omega
              have HRn := Lib.hid (HL2.out hL)
              go_wp2_with (first | (go_at_call 23; refine (cX _).mono ?_; rintro e w2 ⟨rfl, b2⟩; have B2 := HBel.out.trans (b2.mono HBel.out.size); have ho2 := row_keep HOwn.out b2; have z2 := B2.size) | (at_builtin; refine Lib.wpList_append_own_string _ rfl _ _ 43 9 rfl w.heap.size 5 i0 Tryd.underlying43 Tryd.underlying9 hi hz0 hz1 hz2 (.slice A1 acc.length c1) _ _ rfl ho2 sep rfl (by unfold maxLen; omega) (by omega) z2 ?_; intro v3 w3 hov3 hgv3 _; rw [HM1.out, strCells_eq, ← cells_join] at hov3; obtain ⟨A3, c3, rfl⟩ := own_form hov3; have B3 := B2.grown hgv3 z2 (own_block ho2); have z3 := B3.size; have hc3 := hcW.out w3 B3) | (at_builtin; refine Lib.wpList_append_own_string _ rfl _ _ 43 9 rfl w.heap.size 5 i0 Tryd.underlying43 Tryd.underlying9 hi hz0 hz1 hz2 (.slice A3 m1 c3) _ _ rfl hov3 x rfl (by unfold maxLen; omega) (by omega) z3 ?_; intro v4 w4 hov4 hgv4 _; rw [hm] at hov4; obtain ⟨A4, c4, rfl⟩ := own_form hov4))
              have B3 := B3.grown hgv4 z3 (own_block hov3)
              go_ret2
              exact JoinIs.no HRn.out B3
            · have hLz : ¬ (1000 : Int) < (m : Int) := by omega
              have HRn := Lib.hid (HO2.out hL)
              go_wp2_with (first | (go_at_call 23; refine (cX _).mono ?_; rintro e w2 ⟨rfl, b2⟩; have B2 := HBel.out.trans (b2.mono HBel.out.size); have ho2 := row_keep HOwn.out b2; have z2 := B2.size) | (at_builtin; refine Lib.wpList_append_own_string _ rfl _ _ 43 9 rfl w.heap.size 5 i0 Tryd.underlying43 Tryd.underlying9 hi hz0 hz1 hz2 (.slice A1 acc.length c1) _ _ rfl ho2 sep rfl (by unfold maxLen; omega) (by omega) z2 ?_; intro v3 w3 hov3 hgv3 _; rw [HM1.out, strCells_eq, ← cells_join] at hov3; obtain ⟨A3, c3, rfl⟩ := own_form hov3; have B3 := B2.grown hgv3 z2 (own_block ho2); have z3 := B3.size; have hc3 := hcW.out w3 B3) | (at_builtin; refine Lib.wpList_append_own_string _ rfl _ _ 43 9 rfl w.heap.size 5 i0 Tryd.underlying43 Tryd.underlying9 hi hz0 hz1 hz2 (.slice A3 m1 c3) _ _ rfl hov3 x rfl (by unfold maxLen; omega) (by omega) z3 ?_; intro v4 w4 hov4 hgv4 _; rw [hm] at hov4; obtain ⟨A4, c4, rfl⟩ := own_form hov4))
              have B4 := B3.grown hgv4 z3 (own_block hov3)
              have HB4 := Lib.hid B4
              have HO4 := Lib.hid (row_join HM.out hov4)
              clear B4 hov4 hgv4 hov3 hgv3 ho2 B2 b2 cX
              go_roundw
              case rel =>
                rw [HJ.out] at HRn
                exact ⟨k + 1, _, hlt, by go_num, by rw [List.length_append, HML.out, size_join]; omega, HO4.out, HRn.out, HB4.out⟩
              case measure => simp [intOf]; omega
      · have HE := Lib.hid (HG.out.symm.trans (joinFrom_end (by omega)))
        have hcv := conv_own (P := Tryd.prog) (dst := 9) Tryd.underlying43 Tryd.underlying5 Tryd.underlying9 hown
        clear hown hbel
        go_wp2
        go_ret2
        exact JoinIs.yes HE.out HBel.out

end Go.Proofs.YtdkjfppjbkdelabDoor
