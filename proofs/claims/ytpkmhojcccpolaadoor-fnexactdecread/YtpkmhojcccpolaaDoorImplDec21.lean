/- impl.DecRead. Condition: at most 1048576 bytes. -/
import Derived.Test.YtpkmhojcccpolaaDoorImplDec20
import Derived.Test.YtpkmhojcccpolaaDoorTailDec2
namespace Go.Proofs.YtpkmhojcccpolaaDoor
set_option linter.unusedVariables false
open Go.RowKit

theorem heldK {w0 w w' : World} {a : Nat} {n : Bool} {s : ByteArray} {e : Int} (h : DecAt w a n s e ∧ Below w0.heap.size w0 w) (hb : Below w.heap.size w w') : DecAt w' a n s e ∧ Below w0.heap.size w0 w' := ⟨h.1.belowS hb, below_kept h.2 (Nat.le_refl _) hb⟩
theorem results_dcR {fn : Func} {p u : Tmp} (h : fn.results = #[.cell p 26, .tmp u]) (tmps : Array Value) (w : World) {g : Nat} {n : Bool} {s : ByteArray} {e : Int} {x : Value}
    (hp : tmps.getD p undef = .pointer (some ⟨g, 0, none⟩)) (hu : tmps.getD u undef = x) (hg : DecAt w g n s e) : (results fn tmps).run Tryd.prog w = .ok (.tuple #[.agg (row3 n s e), x]) w := by
  have hl := run_loadVar_row (P := Tryd.prog) w g 26 26 (row3 n s e) (0, 0) _ hg Tryd.underlying26 rfl Tryd.sizeDec
  rw [results_cell_tmp h, hp, hu]
  simp [asAddr, Result.andThen, hl]
theorem isE (l : List UInt8) : (⟨l.toArray⟩ : ByteArray).size = l.length := rfl
theorem empty_iff {b : ByteArray} : b.toList.isEmpty = decide (b.size = 0) := by
  by_cases h : b.size = 0
  · rw [decide_eq_true h, List.isEmpty_iff]; exact toList_nil.2 h
  · rw [decide_eq_false h, List.isEmpty_eq_false_iff]; exact fun g => h (toList_nil.1 g)
theorem nil_of {b : ByteArray} : b.data.toList = [] ↔ b.size = 0 := by rw [← size_list]; exact List.length_eq_zero_iff.symm

set_option maxHeartbeats 4000000 in
set_option maxRecDepth 100000 in
theorem implDecRead (s : ByteArray) (w : World) (hs : s.size ≤ 1048576) :
    Calls Tryd.prog 17 #[.string s] w (AnsDC (readR s.data.toList) w) := by
  obtain ⟨R, hR⟩ : ∃ R, readR s.data.toList = R := ⟨_, rfl⟩
  rw [hR]
  unfold readR at hR
  rw [size_list] at hR
  have HR := Lib.hid hR
  clear hR
  have Lw : DecAt (w.alloc (.cells #[.bool false, .string ⟨#[]⟩, .int .i64 0] 26)) w.heap.size false ⟨#[]⟩ 0 ∧ Below w.heap.size w (w.alloc (.cells #[.bool false, .string ⟨#[]⟩, .int .i64 0] 26)) := ⟨DecAt.new w false ⟨#[]⟩ 0, (Below.refl _ _).alloc (Nat.le_refl _) _⟩
  by_cases hlen : 1000 < s.size
  · have HV : Hid (R = (DecV.zero, 3)) := by show _ = _; rw [← HR.out, if_pos hlen]
    have hli : (1000 : Int) < (s.size : Int) := by omega
    clear HR
    go_enter Tryd.func17, Tryd.ntmps17
    go_wp2_with (with_reducible show wpList _ _ _ (⟨_, .store _ _ _, _, _, _, _⟩ :: _) _ _; refine store_dec w.heap.size rfl rfl Lw.1 ?_)
    refine bodyPost_ret (results_dcR rfl _ _ rfl rfl Lw.1.row) rfl ⟨?_, below_row3 Lw.2 (Nat.le_refl _) _⟩
    rw [HV.out]; rfl
  · have hli : ¬ (1000 : Int) < (s.size : Int) := by omega
    have cC := fun W => implCutR s W (by omega)
    obtain ⟨⟨neg, r0⟩, h0⟩ : ∃ p, cutR s.data.toList = p := ⟨_, rfl⟩
    have z0 := cutR_len s.data.toList
    rw [h0, size_list] at z0
    have HR1 : Hid (R = readX (expOf (frac (dW r0)).2) neg (tW r0) (frac (dW r0)).1) := by
      show _ = _
      rw [← HR.out, if_neg hlen, h0]
    rw [h0] at cC
    dsimp only at cC z0
    obtain ⟨q0, hq0⟩ : ∃ q : ByteArray, ⟨r0.toArray⟩ = q := ⟨_, rfl⟩
    have l0 : q0.data.toList = r0 := by rw [← hq0]
    have s0 : q0.size ≤ 1000 := by rw [← size_list, l0]; omega
    rw [hq0] at cC
    have cD := fun W => implCutDigits q0 W (by omega)
    rw [l0] at cD
    have zW := len_tW r0
    have hdW0 := tW_digs r0
    obtain ⟨Wb, hWb⟩ : ∃ q : ByteArray, ⟨(tW r0).toArray⟩ = q := ⟨_, rfl⟩
    obtain ⟨q1, hq1⟩ : ∃ q : ByteArray, ⟨(dW r0).toArray⟩ = q := ⟨_, rfl⟩
    have lW : Wb.data.toList = tW r0 := by rw [← hWb]
    have l1 : q1.data.toList = dW r0 := by rw [← hq1]
    rw [hWb, hq1] at cD
    have hdW : Digs Wb.data.toList := by rw [lW]; exact hdW0
    have sW : Wb.size + q1.size = q0.size := by rw [← size_list, ← size_list q1, ← size_list q0, lW, l1, l0]; exact zW
    obtain ⟨r1, hr1⟩ : ∃ r, dW r0 = r := ⟨_, rfl⟩
    rw [hr1] at HR1 l1
    rw [← lW] at HR1
    have cP := fun W => (Tryd.strings_CutPrefix q1 ⟨#[46]⟩ W).mono (fun e w' (h : _ ∧ _) => (⟨h.1, by rw [h.2]; exact Below.refl _ _⟩ : _ ∧ Below W.heap.size W w'))
    rw [l1] at cP
    clear HR h0 hq0 l0 zW hdW0 hWb hq1 lW hr1
    by_cases hdot : ∃ t, r1 = 46 :: t
    · obtain ⟨t, rfl⟩ := hdot
      have e1 : Lib.hasPrefix (46 :: t) [46] = true := by simp [Lib.hasPrefix, List.isPrefixOf]
      have e2 : Lib.trimPrefix (46 :: t) [46] = t := by unfold Lib.trimPrefix; rw [if_pos e1]; rfl
      change ∀ W, Calls _ _ _ W fun e w' => e = .returned (.tuple #[.string ⟨(Lib.trimPrefix (46 :: t) [46]).toArray⟩, .bool (Lib.hasPrefix (46 :: t) [46])]) ∧ Below W.heap.size W w' at cP
      rw [e1, e2] at cP
      have efr : frac (46 :: t) = (tW t, dW t) := by rw [frac_cons, if_pos rfl]
      rw [efr] at HR1
      dsimp only at HR1
      have st : t.length + 1 = q1.size := by rw [← size_list, l1]; rfl
      obtain ⟨qt, hqt⟩ : ∃ q : ByteArray, ⟨t.toArray⟩ = q := ⟨_, rfl⟩
      have lt : qt.data.toList = t := by rw [← hqt]
      have sqt : qt.size = t.length := by rw [← size_list, lt]
      rw [hqt] at cP
      have cD2 := fun W => implCutDigits qt W (by omega)
      rw [lt] at cD2
      have zF := len_tW t
      have hdF0 := tW_digs t
      obtain ⟨Fb, hFb⟩ : ∃ q : ByteArray, ⟨(tW t).toArray⟩ = q := ⟨_, rfl⟩
      obtain ⟨q2, hq2⟩ : ∃ q : ByteArray, ⟨(dW t).toArray⟩ = q := ⟨_, rfl⟩
      have lF : Fb.data.toList = tW t := by rw [← hFb]
      have l2 : q2.data.toList = dW t := by rw [← hq2]
      rw [hFb, hq2] at cD2
      have hdF : Digs Fb.data.toList := by rw [lF]; exact hdF0
      have sF : Fb.size + q2.size = qt.size := by rw [← size_list, ← size_list q2, ← size_list qt, lF, l2, lt]; exact zF
      obtain ⟨r2, hr2⟩ : ∃ r, dW t = r := ⟨_, rfl⟩
      rw [hr2] at HR1 l2
      rw [← lF] at HR1
      have HR2 := HR1
      clear HR1 e1 e2 efr hqt lt zF hdF0 hFb hq2 lF hr2 l1
      go_enter Tryd.func17, Tryd.ntmps17
      go_wp2_with fail
      refine (cC _).mono ?_
      rintro r wa ⟨rfl, B⟩
      have Lwa := heldK Lw B
      clear B Lw cC
      go_wp2_with fail
      refine (cD _).mono ?_
      rintro r wb ⟨rfl, B⟩
      have Lwb := heldK Lwa B
      clear B Lwa cD
      go_wp2_with fail
      refine (cP _).mono ?_
      rintro r wc ⟨rfl, B⟩
      have Lwc := heldK Lwb B
      clear B Lwb cP
      go_wp2_with fail
      refine (cD2 _).mono ?_
      rintro r wd ⟨rfl, B⟩
      have Lwd := heldK Lwc B
      clear B Lwc cD2
      have cX := fun W => implExponent q2 W (by omega)
      rw [l2] at cX
      cases hx : expOf r2 with
      | none =>
        rw [hx] at cX
        change ∀ W, Calls _ _ _ W fun q w' => q = .returned (.tuple #[.int .i64 0, .bool false]) ∧ Below W.heap.size W w' at cX
        have HV : Hid (R = (DecV.zero, 3)) := by show _ = _; rw [HR2.out, hx, readX_none]
        clear HR2 hx
        go_wp2_with fail
        refine (cX _).mono ?_
        rintro r wx ⟨rfl, B⟩
        have Lwx := heldK Lwd B
        clear B Lwd cX
        go_wp2_with (with_reducible show wpList _ _ _ (⟨_, .store _ _ _, _, _, _, _⟩ :: _) _ _; refine store_dec w.heap.size rfl rfl Lwx.1 ?_)
        refine bodyPost_ret (results_dcR rfl _ _ rfl rfl Lwx.1.row) rfl ⟨?_, below_row3 Lwx.2 (Nat.le_refl _) _⟩
        rw [HV.out]; rfl
      | some x =>
        rw [hx] at cX
        change ∀ W, Calls _ _ _ W fun q w' => q = .returned (.tuple #[.int .i64 x, .bool true]) ∧ Below W.heap.size W w' at cX
        have hxb := exp_bound hx
        by_cases hz : Wb.size = 0 ∧ Fb.size = 0
        · have HV : Hid (R = (DecV.zero, 3)) := by show _ = _; rw [HR2.out, hx, readX_some]; rw [if_pos ⟨nil_of.2 hz.1, nil_of.2 hz.2⟩]
          have z1 : Wb.toList.isEmpty = true := by rw [empty_iff]; exact decide_eq_true hz.1
          have z2 : Fb.toList.isEmpty = true := by rw [empty_iff]; exact decide_eq_true hz.2
          clear HR2 hx hz
          go_wp2_with fail
          refine (cX _).mono ?_
          rintro r wx ⟨rfl, B⟩
          have Lwx := heldK Lwd B
          clear B Lwd cX
          go_wp2_with (with_reducible show wpList _ _ _ (⟨_, .store _ _ _, _, _, _, _⟩ :: _) _ _; refine store_dec w.heap.size rfl rfl Lwx.1 ?_)
          refine bodyPost_ret (results_dcR rfl _ _ rfl rfl Lwx.1.row) rfl ⟨?_, below_row3 Lwx.2 (Nat.le_refl _) _⟩
          rw [HV.out]; rfl
        · obtain ⟨u, hu⟩ : ∃ u : ByteArray, Wb ++ Fb = u := ⟨_, rfl⟩
          have lu : u.data.toList = Wb.data.toList ++ Fb.data.toList := by rw [← hu, ByteArray.data_append, Array.toList_append]
          have HV : Hid (R = formOf neg (nv u) (x - (Fb.size : Int))) := by
            show _ = _
            rw [HR2.out, hx, readX_some]
            rw [if_neg (fun g => hz ⟨nil_of.1 g.1, nil_of.1 g.2⟩)]
            unfold nv
            rw [lu, size_list]
          have hdu : Digs u.data.toList := by rw [lu]; exact hdW.append hdF
          have zu : u.size ≤ 1500 := by rw [← hu, ByteArray.size_append]; omega
          have z1 : Wb.toList.isEmpty = true ∧ Fb.toList.isEmpty = false ∨ Wb.toList.isEmpty = false := by
            rw [empty_iff, empty_iff]
            by_cases g : Wb.size = 0
            · exact .inl ⟨decide_eq_true g, decide_eq_false (fun g2 => hz ⟨g, g2⟩)⟩
            · exact .inr (decide_eq_false g)
          clear HR2 hx hz lu
          rcases z1 with ⟨z1, z2⟩ | z1
          all_goals
            go_wp2_with fail
            refine (cX _).mono ?_
            rintro r wx ⟨rfl, B⟩
            have Lwx := heldK Lwd B
            clear B Lwd cX
            have cF := fun W => implNorm neg u (x - (Fb.size : Int)) W (by omega) hdu (by omega) (by omega)
            rw [← HV.out] at cF
            obtain ⟨⟨rn, rd, re⟩, rc⟩ := R
            unfold AnsDC at cF
            dsimp only at cF
            obtain ⟨rs, hrs⟩ : ∃ rs : ByteArray, ⟨rd.toArray⟩ = rs := ⟨_, rfl⟩
            rw [hrs] at cF
            clear HV
            have hmx : Wb.size + Fb.size ≤ 9223372036854775807 := by omega
            have i1 := IntWalk.i64_in (x - (Fb.size : Int)) ⟨by omega, by omega⟩
            go_wp2_with fail
            refine (cF _).mono ?_
            rintro r wz ⟨rfl, B⟩
            have Lz := heldK Lwx B
            clear B cF
            go_wp2_with (with_reducible show wpList _ _ _ (⟨_, .store _ _ _, _, _, _, _⟩ :: _) _ _; refine store_dec w.heap.size rfl rfl Lz.1 ?_)
            refine bodyPost_ret (results_dcR rfl _ _ rfl rfl Lz.1.row) rfl ⟨?_, below_row3 Lz.2 (Nat.le_refl _) _⟩
            subst hrs
            rfl
    · have e1 : Lib.hasPrefix r1 [46] = false := by
        cases r1 with
        | nil => rfl
        | cons c t =>
          have hc : c ≠ 46 := fun h => hdot ⟨t, by rw [h]⟩
          simp [Lib.hasPrefix, List.isPrefixOf, Ne.symm hc]
      have e2 : Lib.trimPrefix r1 [46] = r1 := by unfold Lib.trimPrefix; rw [if_neg (by rw [e1]; simp)]
      change ∀ W, Calls _ _ _ W fun e w' => e = .returned (.tuple #[.string ⟨(Lib.trimPrefix r1 [46]).toArray⟩, .bool (Lib.hasPrefix r1 [46])]) ∧ Below W.heap.size W w' at cP
      rw [e1, e2] at cP
      have efr : frac r1 = ([], r1) := by
        cases r1 with
        | nil => rfl
        | cons c t => rw [frac_cons, if_neg (fun h => hdot ⟨t, by rw [h]⟩)]
      rw [efr] at HR1
      dsimp only at HR1
      obtain ⟨q5, hq5⟩ : ∃ q : ByteArray, ⟨r1.toArray⟩ = q := ⟨_, rfl⟩
      rw [hq5] at cP
      obtain ⟨r2, hr2⟩ : ∃ r, r1 = r := ⟨_, rfl⟩
      rw [hr2] at HR1
      obtain ⟨q2, hq2⟩ : ∃ q, q1 = q := ⟨_, rfl⟩
      have l2 : q2.data.toList = r2 := by rw [← hq2, ← hr2]; exact l1
      have HR2 := HR1
      subst hq2
      clear HR1 e1 e2 efr hr2 l1 hdot
      go_enter Tryd.func17, Tryd.ntmps17
      go_wp2_with fail
      refine (cC _).mono ?_
      rintro r wa ⟨rfl, B⟩
      have Lwa := heldK Lw B
      clear B Lw cC
      go_wp2_with fail
      refine (cD _).mono ?_
      rintro r wb ⟨rfl, B⟩
      have Lwb := heldK Lwa B
      clear B Lwa cD
      go_wp2_with fail
      refine (cP _).mono ?_
      rintro r wc ⟨rfl, B⟩
      have Lwc := heldK Lwb B
      clear B Lwb cP
      have cX := fun W => implExponent q1 W (by omega)
      rw [l2] at cX
      cases hx : expOf r2 with
      | none =>
        rw [hx] at cX
        change ∀ W, Calls _ _ _ W fun q w' => q = .returned (.tuple #[.int .i64 0, .bool false]) ∧ Below W.heap.size W w' at cX
        have HV : Hid (R = (DecV.zero, 3)) := by show _ = _; rw [HR2.out, hx, readX_none]
        clear HR2 hx
        go_wp2_with fail
        refine (cX _).mono ?_
        rintro r wx ⟨rfl, B⟩
        have Lwx := heldK Lwc B
        clear B Lwc cX
        go_wp2_with (with_reducible show wpList _ _ _ (⟨_, .store _ _ _, _, _, _, _⟩ :: _) _ _; refine store_dec w.heap.size rfl rfl Lwx.1 ?_)
        refine bodyPost_ret (results_dcR rfl _ _ rfl rfl Lwx.1.row) rfl ⟨?_, below_row3 Lwx.2 (Nat.le_refl _) _⟩
        rw [HV.out]; rfl
      | some x =>
        rw [hx] at cX
        change ∀ W, Calls _ _ _ W fun q w' => q = .returned (.tuple #[.int .i64 x, .bool true]) ∧ Below W.heap.size W w' at cX
        have hxb := exp_bound hx
        by_cases hz : Wb.size = 0
        · have HV : Hid (R = (DecV.zero, 3)) := by show _ = _; rw [HR2.out, hx, readX_some]; rw [if_pos ⟨nil_of.2 hz, rfl⟩]
          have z1 : Wb.toList.isEmpty = true := by rw [empty_iff]; exact decide_eq_true hz
          clear HR2 hx hz
          go_wp2_with fail
          refine (cX _).mono ?_
          rintro r wx ⟨rfl, B⟩
          have Lwx := heldK Lwc B
          clear B Lwc cX
          go_wp2_with (with_reducible show wpList _ _ _ (⟨_, .store _ _ _, _, _, _, _⟩ :: _) _ _; refine store_dec w.heap.size rfl rfl Lwx.1 ?_)
          refine bodyPost_ret (results_dcR rfl _ _ rfl rfl Lwx.1.row) rfl ⟨?_, below_row3 Lwx.2 (Nat.le_refl _) _⟩
          rw [HV.out]; rfl
        · obtain ⟨u, hu⟩ : ∃ u : ByteArray, Wb ++ (⟨#[]⟩ : ByteArray) = u := ⟨_, rfl⟩
          have lu : u.data.toList = Wb.data.toList := by rw [← hu, ByteArray.data_append, Array.toList_append]; simp
          have HV : Hid (R = formOf neg (nv u) x) := by
            show _ = _
            rw [HR2.out, hx, readX_some]
            rw [if_neg (fun g => hz (nil_of.1 g.1))]
            unfold nv
            rw [lu, List.append_nil]
            show formOf neg _ (x - ((0 : Nat) : Int)) = _
            rw [show x - ((0 : Nat) : Int) = x by omega]
          have hdu : Digs u.data.toList := by rw [lu]; exact hdW
          have zu : u.size ≤ 1500 := by rw [← size_list, lu, size_list]; omega
          have z1 : Wb.toList.isEmpty = false := by rw [empty_iff]; exact decide_eq_false hz
          clear HR2 hx hz lu
          go_wp2_with fail
          refine (cX _).mono ?_
          rintro r wx ⟨rfl, B⟩
          have Lwx := heldK Lwc B
          clear B Lwc cX
          have cF := fun W => implNorm neg u x W (by omega) hdu (by omega) (by omega)
          rw [← HV.out] at cF
          obtain ⟨⟨rn, rd, re⟩, rc⟩ := R
          unfold AnsDC at cF
          dsimp only at cF
          obtain ⟨rs, hrs⟩ : ∃ rs : ByteArray, ⟨rd.toArray⟩ = rs := ⟨_, rfl⟩
          rw [hrs] at cF
          clear HV
          have hmx : Wb.size + (⟨#[]⟩ : ByteArray).size ≤ 9223372036854775807 := by show Wb.size + 0 ≤ _; omega
          go_wp2_with fail
          refine (cF _).mono ?_
          rintro r wz ⟨rfl, B⟩
          have Lz := heldK Lwx B
          clear B cF
          go_wp2_with (with_reducible show wpList _ _ _ (⟨_, .store _ _ _, _, _, _, _⟩ :: _) _ _; refine store_dec w.heap.size rfl rfl Lz.1 ?_)
          refine bodyPost_ret (results_dcR rfl _ _ rfl rfl Lz.1.row) rfl ⟨?_, below_row3 Lz.2 (Nat.le_refl _) _⟩
          subst hrs
          rfl

end Go.Proofs.YtpkmhojcccpolaaDoor
