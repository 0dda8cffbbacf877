/- spec.l03Read of a text that the scan takes whole. Conditions: not empty, at most 1000 bytes. -/
import Derived.Test.YtlhdolcadlabpaaDoorReadMath3
import Derived.Test.YtlhdolcadlabpaaDoorSpecDec2
import Derived.Test.YtlhdolcadlabpaaDoorTailA
namespace Go.Proofs.YtlhdolcadlabpaaDoor
set_option linter.unusedVariables false
open Go.RowKit

theorem results_dcS {fn : Func} {p u : Tmp} (h : fn.results = #[.cell p 25, .tmp u]) (tmps : Array Value) (w : World) {g : Nat} {n : Bool} {s : ByteArray} {e : Int} {x : Value}
    (hp : tmps.getD p undef = .pointer (some ⟨g, 0, none⟩)) (hu : tmps.getD u undef = x) (hg : DecAt w g n s e) : (results fn tmps).run Tryd.prog w = .ok (.tuple #[.agg (row3 n s e), x]) w := by
  have hl := run_loadVar_row (P := Tryd.prog) w g 25 25 (row3 n s e) (0, 0) _ hg Tryd.underlying25 rfl Tryd.sizeDec
  rw [results_cell_tmp h, hp, hu]
  simp [asAddr, Result.andThen, hl]
theorem way_digitR {s : ByteArray} {W F r1 r2 D : List UInt8} {i : Nat} {E : Int} {q : Bool} (h : WayR s.data.toList W F r1 r2 D i E q) (hk : i < s.size) (hx : isDig s[i] = true) : WayR s.data.toList W F r1 r2 (D ++ [s[i]]) (i + 1) (if q then E - 1 else E) q := wayR_digit h hk hx
def ReadRel (w : World) (s : ByteArray) (W F r1 r2 : List UInt8) (dv ev bv iv : Value) (wr : World) : Prop :=
  ∃ (i : Nat) (D : ByteArray) (E : Int) (q : Bool), i ≤ s.size ∧ D.size ≤ i ∧ -1000 ≤ E ∧ E ≤ 0 ∧ iv = .int .i64 i ∧ dv = .string D ∧ ev = .int .i64 E ∧ bv = .bool q ∧ WayR s.data.toList W F r1 r2 D.data.toList i E q ∧ DecAt wr w.heap.size false ⟨#[]⟩ 0 ∧ Below w.heap.size w wr
def ReadRel2 (w : World) (s : ByteArray) (t t0 : List UInt8) (sg : Bool) (iv nv mv : Value) (wr : World) : Prop :=
  ∃ (j m : Nat) (mi : Bool), j ≤ s.size ∧ iv = .int .i64 j ∧ nv = .int .i64 m ∧ mv = .bool mi ∧ ((s.data.toList.drop j = t ∧ t ≠ t0 ∧ m = 0 ∧ mi = false) ∨ ∃ P, t0 = P ++ s.data.toList.drop j ∧ mi = sg ∧ Cap m (val P)) ∧ DecAt wr w.heap.size false ⟨#[]⟩ 0 ∧ Below w.heap.size w wr

set_option maxHeartbeats 8000000 in
set_option maxRecDepth 100000 in
theorem specRead (s : ByteArray) (x : Int) (w : World) (hs : s.size ≤ 1000) (h1 : 1 ≤ s.size) (hxx : expOf (frac (dW (cutR s.data.toList).2)).2 = some x) (hnz : ¬ (tW (cutR s.data.toList).2 = [] ∧ (frac (dW (cutR s.data.toList).2)).1 = [])) :
    Calls Tryd.prog 27 #[.string s] w (AnsDC (formOf (cutR s.data.toList).1 (val (tW (cutR s.data.toList).2 ++ (frac (dW (cutR s.data.toList).2)).1)) (x - (frac (dW (cutR s.data.toList).2)).1.length)) w) := by
  have hp : 0 < s.size := by omega
  obtain ⟨x0, hx0⟩ : ∃ x, s[0] = x := ⟨_, rfl⟩
  obtain ⟨⟨neg, r0⟩, hr0⟩ : ∃ r, cutR s.data.toList = r := ⟨_, rfl⟩
  rw [hr0] at hxx hnz
  obtain ⟨R, hR⟩ : ∃ R, formOf (cutR s.data.toList).1 (val (tW (cutR s.data.toList).2 ++ (frac (dW (cutR s.data.toList).2)).1)) (x - (frac (dW (cutR s.data.toList).2)).1.length) = R := ⟨_, rfl⟩
  rw [hR]
  rw [hr0] at hR
  dsimp only at hxx hnz hR
  obtain ⟨W, hW⟩ : ∃ q, tW r0 = q := ⟨_, rfl⟩
  obtain ⟨r1, hr1⟩ : ∃ q, dW r0 = q := ⟨_, rfl⟩
  obtain ⟨⟨F, r2⟩, hfr⟩ : ∃ q, frac r1 = q := ⟨_, rfl⟩
  rw [hW, hr1, hfr] at hR
  rw [hr1, hfr] at hxx
  dsimp only at hxx hR
  have hdW : Digs W := by rw [← hW]; exact tW_digs r0
  have hdF : Digs F := by have := frac_digs r1; rw [hfr] at this; exact this
  have HR := Lib.hid hR
  have HFR := Lib.hid hfr
  have HXX := Lib.hid hxx
  have HDD := Lib.hid (hdW.append hdF)
  have hxb := exp_bound hxx
  have hp2 : ∃ p : Nat, p ≤ 1 ∧ r0 = s.data.toList.drop p ∧ ((p = 1 ∧ neg = false ∧ ((x0.toNat : Int) == 43) = true ∧ ((x0.toNat : Int) == 45) = false) ∨ (p = 1 ∧ neg = true ∧ ((x0.toNat : Int) == 43) = false ∧ ((x0.toNat : Int) == 45) = true) ∨ (p = 0 ∧ neg = false ∧ ((x0.toNat : Int) == 43) = false ∧ ((x0.toNat : Int) == 45) = false)) := by
    have e := drop_at hp
    rw [List.drop_zero, hx0] at e
    rw [e, cutR_cons] at hr0
    by_cases g : x0 = 43 ∨ x0 = 45
    · rw [if_pos g] at hr0
      have f1 : decide (x0 = 45) = neg := congrArg Prod.fst hr0
      have f2 : s.data.toList.drop (0 + 1) = r0 := congrArg Prod.snd hr0
      refine ⟨1, by omega, f2.symm, ?_⟩
      rcases g with g | g
      · exact .inl ⟨rfl, by rw [← f1, g]; rfl, by rw [g]; rfl, by rw [g]; rfl⟩
      · exact .inr (.inl ⟨rfl, by rw [← f1, g]; rfl, by rw [g]; rfl, by rw [g]; rfl⟩)
    · rw [if_neg g] at hr0
      have f1 : false = neg := congrArg Prod.fst hr0
      have f2 : x0 :: s.data.toList.drop (0 + 1) = r0 := congrArg Prod.snd hr0
      refine ⟨0, by omega, by rw [← f2, ← e]; rfl, .inr (.inr ⟨rfl, f1.symm, ?_, ?_⟩)⟩
      · rw [beq_eq_false_iff_ne]; exact fun e => g (.inl (UInt8.toNat_inj.1 (by show x0.toNat = 43; omega)))
      · rw [beq_eq_false_iff_ne]; exact fun e => g (.inr (UInt8.toNat_inj.1 (by show x0.toNat = 45; omega)))
  obtain ⟨p, hple, hpr, hcase⟩ := hp2
  have HST : Hid (WayR s.data.toList W F r1 r2 [] p 0 false) := ⟨by rw [← hpr, hW]; rfl, by rw [← hpr]; exact hr1, rfl⟩
  have hpi : (0 : Int) < (s.size : Int) := by omega
  have K0 := DecAt.new w false ⟨#[]⟩ 0
  have B0 : Below w.heap.size w (w.alloc (.cells #[.bool false, .string ⟨#[]⟩, .int .i64 0] 25)) := (Below.refl _ _).alloc (Nat.le_refl _) _
  clear hr0 hW hr1 hfr hR hxx hnz hpr hdW hdF
  rcases hcase with ⟨rfl, rfl, a1, a2⟩ | ⟨rfl, rfl, a1, a2⟩ | ⟨rfl, rfl, a1, a2⟩
  · go_enter Tryd.func27, Tryd.ntmps27
    go_wp2
    clear a1 a2
    go_loopw [5, 6, 7, 8] (fun dv ev bv iv wr => ReadRel w s W F r1 r2 dv ev bv iv wr) (fun _ _ _ iv _ => s.size - (intOf iv).toNat)
    case atStart => first | exact ⟨1, ⟨#[]⟩, 0, false, h1, Nat.zero_le _, by omega, by omega, rfl, rfl, rfl, rfl, HST.out, K0, B0⟩ | exact ⟨0, ⟨#[]⟩, 0, false, Nat.zero_le _, Nat.zero_le _, by omega, by omega, rfl, rfl, rfl, rfl, HST.out, K0, B0⟩
    case round =>
      clear HST hx0 K0 B0
      obtain ⟨i, Db, E0, q, hi, hDi, hE1, hE2, rfl, rfl, rfl, rfl, hway, K, D⟩ := hrel
      by_cases hlt : i < s.size
      · obtain ⟨c, hc⟩ : ∃ c, s[i] = c := ⟨_, rfl⟩
        have hcl := c.toNat_lt
        by_cases hD : isDig c = true
        · have hwd := way_digitR hway hlt (show isDig s[i] = true by rw [hc]; exact hD)
          have hcd := isDig_iff.1 hD
          unfold IsD at hcd
          have e46 : ((c.toNat : Int) == 46) = false := by rw [beq_eq_false_iff_ne]; omega
          have n1 : ((c.toNat : Int) != 101) = true := by rw [bne_iff_ne]; omega
          have n2 : ((c.toNat : Int) != 69) = true := by rw [bne_iff_ne]; omega
          obtain ⟨t1, ht1⟩ : ∃ t : ByteArray, s.extract i (i + 1) = t := ⟨_, rfl⟩
          have l1 : t1.data.toList = [s[i]] := by
            rw [← ht1, ByteArray.data_extract, Array.toList_extract, List.extract_eq_take_drop, drop_at hlt, show i + 1 - i = 1 by omega]
            rfl
          have z1 : t1.size = 1 := by rw [← size_list, l1]; rfl
          obtain ⟨D2, hD2⟩ : ∃ d : ByteArray, Db ++ t1 = d := ⟨_, rfl⟩
          have l2 : D2.data.toList = Db.data.toList ++ [s[i]] := by rw [← hD2, ByteArray.data_append, Array.toList_append, l1]
          have z2 : D2.size = Db.size + 1 := by rw [← hD2, ByteArray.size_append, z1]
          rw [← l2] at hwd
          obtain ⟨j, hj⟩ : ∃ j : Nat, i + 1 = j := ⟨_, rfl⟩
          have HWY := Lib.hid hwd
          rw [hj] at HWY ht1
          have hji : (i : Int) + 1 = (j : Int) := by omega
          have hjs : j ≤ s.size := by omega
          have hij : i ≤ j := by omega
          have hEb : q = true → -1000 ≤ E0 - 1 := fun hq => by
            subst hq
            have := hwd.2.2.1
            rw [if_pos rfl, size_list] at this
            omega
          clear hway hwd l1 l2
          cases q
          · go_wp2
            go_roundw
            case rel => exact ⟨j, D2, E0, false, hjs, by omega, hE1, hE2, by first | rfl | go_num, rfl, rfl, by first | rfl | go_num, HWY.out, K, D⟩
            case measure => simp [intOf]; omega
          · have hE3 := hEb rfl
            go_wp2
            go_roundw
            case rel => exact ⟨j, D2, E0 - 1, true, hjs, by omega, hE3, by omega, by first | rfl | go_num, by first | rfl | go_num, rfl, by first | rfl | go_num, HWY.out, K, D⟩
            case measure => simp [intOf]; omega
        · have hD2 : isDig c = false := by simpa using hD
          clear hD
          by_cases h46 : c.toNat = 46 ∧ q = false
          · obtain ⟨h46, rfl⟩ := h46
            have HWY := Lib.hid (wayR_dot hway hlt (by rw [hc]; exact UInt8.toNat_inj.1 h46) HFR.out)
            have e46 : ((c.toNat : Int) == 46) = true := by rw [beq_iff_eq]; omega
            have n1 : ((c.toNat : Int) != 101) = true := by rw [bne_iff_ne]; omega
            have n2 : ((c.toNat : Int) != 69) = true := by rw [bne_iff_ne]; omega
            clear hway h46
            go_wp2
            go_roundw
            case rel => exact ⟨i + 1, Db, E0, true, hlt, by omega, hE1, hE2, by go_num, rfl, rfl, rfl, HWY.out, K, D⟩
            case measure => simp [intOf]; omega
          · obtain ⟨g1, g2, g3⟩ := wayR_end hway HFR.out (fun hk => by rw [hc]; exact ⟨hD2, fun hq h => h46 ⟨by rw [h]; rfl, hq⟩⟩)
            have e := drop_at hlt
            rw [hc, g2] at e
            have hex := HXX.out
            rw [e, expOf_cons] at hex
            have hce : c = 101 ∨ c = 69 := by
              by_cases g : c = 101 ∨ c = 69
              · exact g
              · rw [if_neg g] at hex; cases hex
            rw [if_pos hce] at hex
            obtain ⟨t, ht⟩ : ∃ t, s.data.toList.drop (i + 1) = t := ⟨_, rfl⟩
            rw [ht] at hex
            obtain ⟨⟨sg, t0⟩, hcr⟩ : ∃ p, cutR t = p := ⟨_, rfl⟩
            rw [hcr] at hex
            dsimp only at hex
            have hgr : tW t0 ≠ [] ∧ dW t0 = [] := by
              constructor
              · intro h; rw [if_pos (.inl h)] at hex; cases hex
              · rcases Classical.em (dW t0 = []) with h | h
                · exact h
                · rw [if_pos (.inr h)] at hex; cases hex
            have htt : tW t0 = t0 := by have := tdW t0; rwa [hgr.2, List.append_nil] at this
            rw [if_neg (by rintro (h | h); exact hgr.1 h; exact h hgr.2), htt] at hex
            have HXV : Hid (x = if sg then -((min (val t0) 9999 : Nat) : Int) else ((min (val t0) 9999 : Nat) : Int)) := (Option.some.inj hex).symm
            have HDT : Hid (Digs t0) := by rw [← htt]; exact tW_digs t0
            have HCR := Lib.hid hcr
            have HRV : Hid (R = formOf false (nv Db) (x + E0)) := by
              show _ = _
              rw [← HR.out, g3]
              unfold nv
              rw [g1]
              congr 1
            have hDb : Digs Db.data.toList := by rw [g1]; exact HDD.out
            have HST : Hid ((s.data.toList.drop (i + 1) = t ∧ t ≠ t0 ∧ (0 : Nat) = 0 ∧ false = false) ∨ ∃ P, t0 = P ++ s.data.toList.drop (i + 1) ∧ false = sg ∧ Cap 0 (val P)) := by
              by_cases g : t = t0
              · refine .inr ⟨[], by rw [ht, g]; rfl, ?_, .inl ⟨rfl, by omega⟩⟩
                cases t with
                | nil => exact (congrArg Prod.fst hcr)
                | cons b r =>
                  rw [cutR_cons] at hcr
                  by_cases gb : b = 43 ∨ b = 45
                  · rw [if_pos gb] at hcr
                    have h9 : r = t0 := congrArg Prod.snd hcr
                    rw [← g] at h9
                    have := congrArg List.length h9
                    simp at this
                  · rw [if_neg gb] at hcr
                    exact congrArg Prod.fst hcr
              · exact .inl ⟨ht, g, rfl, rfl⟩
            have n1 : ((c.toNat : Int) != 101) = false ∨ (((c.toNat : Int) != 101) = true ∧ ((c.toNat : Int) != 69) = false) := by
              rcases hce with h | h
              · exact .inl (by rw [h]; rfl)
              · exact .inr ⟨by rw [h]; rfl, by rw [h]; rfl⟩
            have hit : i + 1 ≤ s.size := hlt
            clear g1 g2 g3 e hex hce ht hcr hgr htt h46 hway HXX HR
            rcases n1 with n1 | ⟨n1, n2⟩
            all_goals
              go_wp2
              go_loopw [8, 9, 10] (fun iv nv mv wr => ReadRel2 w s t t0 sg iv nv mv wr) (fun iv _ _ _ => s.size - (intOf iv).toNat)
              case atStart => exact ⟨i + 1, 0, false, hit, by first | rfl | go_num, rfl, rfl, (HST.out.imp (fun h => ⟨h.1, h.2.1, rfl, rfl⟩) id), K, D⟩
              case round =>
                clear K D HST
                obtain ⟨j, m, mi, hj, rfl, rfl, rfl, hst, K, D⟩ := hrel
                by_cases hjl : j < s.size
                · obtain ⟨y, hy⟩ : ∃ y, s[j] = y := ⟨_, rfl⟩
                  have hyl := y.toNat_lt
                  rcases hst with ⟨g1, g2, g3, g4⟩ | ⟨P, g1, g2, g3⟩
                  · have hys : (y = 43 ∨ y = 45) ∧ sg = decide (y = 45) ∧ s.data.toList.drop (j + 1) = t0 := by
                      have e := drop_at hjl
                      rw [g1, hy] at e
                      rw [e, cutR_cons] at HCR
                      have hc := HCR.out
                      by_cases g : y = 43 ∨ y = 45
                      · rw [if_pos g] at hc
                        exact ⟨g, (congrArg Prod.fst hc).symm, congrArg Prod.snd hc⟩
                      · rw [if_neg g] at hc
                        exact absurd (by rw [e]; exact congrArg Prod.snd hc) g2
                    subst g3
                    subst g4
                    obtain ⟨hy1, hy2, hy3⟩ := hys
                    have hnd : isDig y = false := by rcases hy1 with h | h <;> (rw [h]; decide)
                    have HN : Hid (t0 = [] ++ s.data.toList.drop (j + 1)) := by show _ = _; rw [hy3]; rfl
                    have e45 : ((y.toNat : Int) == 45) = true ∧ sg = true ∨ ((y.toNat : Int) == 45) = false ∧ sg = false := by
                      rcases hy1 with h | h
                      · exact .inr ⟨by rw [h]; rfl, by rw [hy2, h]; rfl⟩
                      · exact .inl ⟨by rw [h]; rfl, by rw [hy2, h]; rfl⟩
                    clear hy1 hy2 hy3 g1 g2
                    rcases e45 with ⟨e45, hsg⟩ | ⟨e45, hsg⟩
                    all_goals
                      have HSG := Lib.hid hsg
                      clear hsg
                      go_wp2_with (go_at_call 45; refine (specDigB _ _).mono ?_; rintro r w' ⟨rfl, rfl⟩)
                      go_roundw
                      case rel => exact ⟨j + 1, 0, _, hjl, by go_num, rfl, rfl, .inr ⟨[], HN.out, HSG.out.symm, .inl ⟨rfl, by omega⟩⟩, K, D⟩
                      case measure => simp [intOf]; omega
                  · have e := drop_at hjl
                    rw [hy] at e
                    have hdy : IsD y := HDT.out y (by rw [g1, e]; simp)
                    have hD : isDig y = true := isDig_iff.2 hdy
                    unfold IsD at hdy
                    have e45 : ((y.toNat : Int) == 45) = false := by rw [beq_eq_false_iff_ne]; omega
                    obtain ⟨d, hd⟩ : ∃ d : Nat, y.toNat - 48 = d := ⟨_, rfl⟩
                    have hyi : (y.toNat : Int) - 48 = (d : Int) := by omega
                    have HP : Hid (t0 = (P ++ [y]) ++ s.data.toList.drop (j + 1)) := by show _ = _; rw [g1, e]; simp
                    have HC : Hid (Cap (if m < 10000 then 10 * m + d else m) (val (P ++ [y]))) := by
                      show Cap _ _
                      rw [val_snoc, show dv y = d from hd]
                      exact cap_step g3 (by omega)
                    have hmb : m < 100000 := by unfold Cap at g3; omega
                    have v1 := IntWalk.u8_in (d : Int) ⟨by omega, by omega⟩
                    have v2 := IntWalk.i64_in (10 * (m : Int)) ⟨by omega, by omega⟩
                    have v3 := IntWalk.i64_in (10 * (m : Int) + (d : Int)) ⟨by omega, by omega⟩
                    have v4 := IntWalk.i64_in (d : Int) ⟨by omega, by omega⟩
                    clear g1 g3 e hd
                    by_cases hm : m < 10000
                    · have hmi : (m : Int) < 10000 := by omega
                      rw [if_pos hm] at HC
                      go_wp2_with (go_at_call 45; refine (specDigB _ _).mono ?_; rintro r w' ⟨rfl, rfl⟩)
                      go_roundw
                      case rel => exact ⟨j + 1, 10 * m + d, mi, hjl, by go_num, by go_num, by first | rfl | rw [g2], .inr ⟨P ++ [y], HP.out, g2, HC.out⟩, K, D⟩
                      case measure => simp [intOf]; omega
                    · have hmi : ¬ (m : Int) < 10000 := by omega
                      rw [if_neg hm] at HC
                      go_wp2_with (go_at_call 45; refine (specDigB _ _).mono ?_; rintro r w' ⟨rfl, rfl⟩)
                      go_roundw
                      case rel => exact ⟨j + 1, m, mi, hjl, by go_num, rfl, by first | rfl | rw [g2], .inr ⟨P ++ [y], HP.out, g2, HC.out⟩, K, D⟩
                      case measure => simp [intOf]; omega
                · have hend := drop_end hjl
                  have hfin : mi = sg ∧ Cap m (val t0) := by
                    rcases hst with ⟨g1, g2, g3, g4⟩ | ⟨P, g1, g2, g3⟩
                    · exfalso
                      rw [hend] at g1
                      apply g2
                      rw [← g1]
                      have := congrArg Prod.snd HCR.out
                      rw [← g1] at this
                      exact this
                    · rw [hend, List.append_nil] at g1
                      exact ⟨g2, by rw [g1]; exact g3⟩
                  obtain ⟨rfl, hcap⟩ := hfin
                  have hmm := cap_min hcap
                  have hmb : m < 100000 := by unfold Cap at hcap; omega
                  obtain ⟨A, hA⟩ : ∃ A : Nat, min m 9999 = A := ⟨_, rfl⟩
                  have HX : Hid (x = if mi then -(A : Int) else (A : Int)) := by show _ = _; rw [HXV.out, ← hA, hmm]
                  have hAb : A ≤ 9999 := by omega
                  clear hst hend hcap hmm HXV
                  cases mi
                  · have hx : x = (A : Int) := HX.out
                    have cF := fun W => specForm false Db (E0 + (A : Int)) false W (by omega) hDb (by omega) (by omega)
                    simp only [Bool.false_eq_true, if_false] at cF
                    rw [show formOf false (nv Db) (E0 + (A : Int)) = R by rw [HRV.out, hx]; congr 1; omega] at cF
                    clear HX hx HRV
                    by_cases hg : 9999 < m
                    · have hgi : (9999 : Int) < (m : Int) := by omega
                      have hA9 : A = 9999 := by omega
                      subst hA9
                      obtain ⟨⟨rn, rd, re⟩, rc⟩ := R
                      unfold AnsDC at cF
                      dsimp only at cF
                      obtain ⟨rs, hrs⟩ : ∃ rs : ByteArray, ⟨rd.toArray⟩ = rs := ⟨_, rfl⟩
                      rw [hrs] at cF
                      go_wp2_with (go_at_call 45; refine (specDigB _ _).mono ?_; rintro r w' ⟨rfl, rfl⟩)
                      refine (cF _).mono ?_
                      rintro r wz ⟨rfl, B⟩
                      have KZ := K.belowS B
                      have DZ := below_kept D (Nat.le_refl _) B
                      clear B cF K D
                      go_wp2_with (with_reducible show wpList _ _ _ (⟨_, .store _ _ _, _, _, _, _⟩ :: _) _ _; refine store_dec w.heap.size rfl rfl KZ ?_)
                      refine bodyPost_ret (results_dcS rfl _ _ rfl rfl KZ.row) rfl ⟨?_, below_row3 DZ (Nat.le_refl _) _⟩
                      subst hrs
                      rfl
                    · have hgi : ¬ (9999 : Int) < (m : Int) := by omega
                      have hA9 : A = m := by omega
                      subst hA9
                      obtain ⟨⟨rn, rd, re⟩, rc⟩ := R
                      unfold AnsDC at cF
                      dsimp only at cF
                      obtain ⟨rs, hrs⟩ : ∃ rs : ByteArray, ⟨rd.toArray⟩ = rs := ⟨_, rfl⟩
                      rw [hrs] at cF
                      go_wp2_with (go_at_call 45; refine (specDigB _ _).mono ?_; rintro r w' ⟨rfl, rfl⟩)
                      refine (cF _).mono ?_
                      rintro r wz ⟨rfl, B⟩
                      have KZ := K.belowS B
                      have DZ := below_kept D (Nat.le_refl _) B
                      clear B cF K D
                      go_wp2_with (with_reducible show wpList _ _ _ (⟨_, .store _ _ _, _, _, _, _⟩ :: _) _ _; refine store_dec w.heap.size rfl rfl KZ ?_)
                      refine bodyPost_ret (results_dcS rfl _ _ rfl rfl KZ.row) rfl ⟨?_, below_row3 DZ (Nat.le_refl _) _⟩
                      subst hrs
                      rfl
                  · have hx : x = -(A : Int) := HX.out
                    have cF := fun W => specForm false Db (E0 + -(A : Int)) false W (by omega) hDb (by omega) (by omega)
                    simp only [Bool.false_eq_true, if_false] at cF
                    rw [show formOf false (nv Db) (E0 + -(A : Int)) = R by rw [HRV.out, hx]; congr 1; omega] at cF
                    clear HX hx HRV
                    by_cases hg : 9999 < m
                    · have hgi : (9999 : Int) < (m : Int) := by omega
                      have hA9 : A = 9999 := by omega
                      subst hA9
                      obtain ⟨⟨rn, rd, re⟩, rc⟩ := R
                      unfold AnsDC at cF
                      dsimp only at cF
                      obtain ⟨rs, hrs⟩ : ∃ rs : ByteArray, ⟨rd.toArray⟩ = rs := ⟨_, rfl⟩
                      rw [hrs] at cF
                      go_wp2_with (go_at_call 45; refine (specDigB _ _).mono ?_; rintro r w' ⟨rfl, rfl⟩)
                      refine (cF _).mono ?_
                      rintro r wz ⟨rfl, B⟩
                      have KZ := K.belowS B
                      have DZ := below_kept D (Nat.le_refl _) B
                      clear B cF K D
                      go_wp2_with (with_reducible show wpList _ _ _ (⟨_, .store _ _ _, _, _, _, _⟩ :: _) _ _; refine store_dec w.heap.size rfl rfl KZ ?_)
                      refine bodyPost_ret (results_dcS rfl _ _ rfl rfl KZ.row) rfl ⟨?_, below_row3 DZ (Nat.le_refl _) _⟩
                      subst hrs
                      rfl
                    · have hgi : ¬ (9999 : Int) < (m : Int) := by omega
                      have hA9 : A = m := by omega
                      subst hA9
                      obtain ⟨⟨rn, rd, re⟩, rc⟩ := R
                      unfold AnsDC at cF
                      dsimp only at cF
                      obtain ⟨rs, hrs⟩ : ∃ rs : ByteArray, ⟨rd.toArray⟩ = rs := ⟨_, rfl⟩
                      rw [hrs] at cF
                      go_wp2_with (go_at_call 45; refine (specDigB _ _).mono ?_; rintro r w' ⟨rfl, rfl⟩)
                      refine (cF _).mono ?_
                      rintro r wz ⟨rfl, B⟩
                      have KZ := K.belowS B
                      have DZ := below_kept D (Nat.le_refl _) B
                      clear B cF K D
                      go_wp2_with (with_reducible show wpList _ _ _ (⟨_, .store _ _ _, _, _, _, _⟩ :: _) _ _; refine store_dec w.heap.size rfl rfl KZ ?_)
                      refine bodyPost_ret (results_dcS rfl _ _ rfl rfl KZ.row) rfl ⟨?_, below_row3 DZ (Nat.le_refl _) _⟩
                      subst hrs
                      rfl
      · obtain ⟨g1, g2, g3⟩ := wayR_end hway HFR.out (fun hk => absurd hk hlt)
        rw [drop_end hlt] at g2
        have hex := HXX.out
        rw [← g2] at hex
        have hx : (0 : Int) = x := Option.some.inj hex
        have hDb : Digs Db.data.toList := by rw [g1]; exact HDD.out
        have cF := fun W => specForm false Db E0 false W (by omega) hDb (by omega) (by omega)
        simp only [Bool.false_eq_true, if_false] at cF
        rw [show formOf false (nv Db) E0 = R by
          rw [← HR.out, g3, ← hx]
          unfold nv
          rw [g1]
          congr 1
          omega] at cF
        have hlti : ¬ (i : Int) < (s.size : Int) := by omega
        clear g1 g2 g3 hex hx hway HXX HR
        obtain ⟨⟨rn, rd, re⟩, rc⟩ := R
        unfold AnsDC at cF
        dsimp only at cF
        obtain ⟨rs, hrs⟩ : ∃ rs : ByteArray, ⟨rd.toArray⟩ = rs := ⟨_, rfl⟩
        rw [hrs] at cF
        go_wp2_with (go_at_call 45; refine (specDigB _ _).mono ?_; rintro r w' ⟨rfl, rfl⟩)
        refine (cF _).mono ?_
        rintro r wz ⟨rfl, B⟩
        have KZ := K.belowS B
        have DZ := below_kept D (Nat.le_refl _) B
        clear B cF K D
        go_wp2_with (with_reducible show wpList _ _ _ (⟨_, .store _ _ _, _, _, _, _⟩ :: _) _ _; refine store_dec w.heap.size rfl rfl KZ ?_)
        refine bodyPost_ret (results_dcS rfl _ _ rfl rfl KZ.row) rfl ⟨?_, below_row3 DZ (Nat.le_refl _) _⟩
        subst hrs
        rfl
  · go_enter Tryd.func27, Tryd.ntmps27
    go_wp2
    clear a1 a2
    go_loopw [5, 6, 7, 8] (fun dv ev bv iv wr => ReadRel w s W F r1 r2 dv ev bv iv wr) (fun _ _ _ iv _ => s.size - (intOf iv).toNat)
    case atStart => first | exact ⟨1, ⟨#[]⟩, 0, false, h1, Nat.zero_le _, by omega, by omega, rfl, rfl, rfl, rfl, HST.out, K0, B0⟩ | exact ⟨0, ⟨#[]⟩, 0, false, Nat.zero_le _, Nat.zero_le _, by omega, by omega, rfl, rfl, rfl, rfl, HST.out, K0, B0⟩
    case round =>
      clear HST hx0 K0 B0
      obtain ⟨i, Db, E0, q, hi, hDi, hE1, hE2, rfl, rfl, rfl, rfl, hway, K, D⟩ := hrel
      by_cases hlt : i < s.size
      · obtain ⟨c, hc⟩ : ∃ c, s[i] = c := ⟨_, rfl⟩
        have hcl := c.toNat_lt
        by_cases hD : isDig c = true
        · have hwd := way_digitR hway hlt (show isDig s[i] = true by rw [hc]; exact hD)
          have hcd := isDig_iff.1 hD
          unfold IsD at hcd
          have e46 : ((c.toNat : Int) == 46) = false := by rw [beq_eq_false_iff_ne]; omega
          have n1 : ((c.toNat : Int) != 101) = true := by rw [bne_iff_ne]; omega
          have n2 : ((c.toNat : Int) != 69) = true := by rw [bne_iff_ne]; omega
          obtain ⟨t1, ht1⟩ : ∃ t : ByteArray, s.extract i (i + 1) = t := ⟨_, rfl⟩
          have l1 : t1.data.toList = [s[i]] := by
            rw [← ht1, ByteArray.data_extract, Array.toList_extract, List.extract_eq_take_drop, drop_at hlt, show i + 1 - i = 1 by omega]
            rfl
          have z1 : t1.size = 1 := by rw [← size_list, l1]; rfl
          obtain ⟨D2, hD2⟩ : ∃ d : ByteArray, Db ++ t1 = d := ⟨_, rfl⟩
          have l2 : D2.data.toList = Db.data.toList ++ [s[i]] := by rw [← hD2, ByteArray.data_append, Array.toList_append, l1]
          have z2 : D2.size = Db.size + 1 := by rw [← hD2, ByteArray.size_append, z1]
          rw [← l2] at hwd
          obtain ⟨j, hj⟩ : ∃ j : Nat, i + 1 = j := ⟨_, rfl⟩
          have HWY := Lib.hid hwd
          rw [hj] at HWY ht1
          have hji : (i : Int) + 1 = (j : Int) := by omega
          have hjs : j ≤ s.size := by omega
          have hij : i ≤ j := by omega
          have hEb : q = true → -1000 ≤ E0 - 1 := fun hq => by
            subst hq
            have := hwd.2.2.1
            rw [if_pos rfl, size_list] at this
            omega
          clear hway hwd l1 l2
          cases q
          · go_wp2
            go_roundw
            case rel => exact ⟨j, D2, E0, false, hjs, by omega, hE1, hE2, by first | rfl | go_num, rfl, rfl, by first | rfl | go_num, HWY.out, K, D⟩
            case measure => simp [intOf]; omega
          · have hE3 := hEb rfl
            go_wp2
            go_roundw
            case rel => exact ⟨j, D2, E0 - 1, true, hjs, by omega, hE3, by omega, by first | rfl | go_num, by first | rfl | go_num, rfl, by first | rfl | go_num, HWY.out, K, D⟩
            case measure => simp [intOf]; omega
        · have hD2 : isDig c = false := by simpa using hD
          clear hD
          by_cases h46 : c.toNat = 46 ∧ q = false
          · obtain ⟨h46, rfl⟩ := h46
            have HWY := Lib.hid (wayR_dot hway hlt (by rw [hc]; exact UInt8.toNat_inj.1 h46) HFR.out)
            have e46 : ((c.toNat : Int) == 46) = true := by rw [beq_iff_eq]; omega
            have n1 : ((c.toNat : Int) != 101) = true := by rw [bne_iff_ne]; omega
            have n2 : ((c.toNat : Int) != 69) = true := by rw [bne_iff_ne]; omega
            clear hway h46
            go_wp2
            go_roundw
            case rel => exact ⟨i + 1, Db, E0, true, hlt, by omega, hE1, hE2, by go_num, rfl, rfl, rfl, HWY.out, K, D⟩
            case measure => simp [intOf]; omega
          · obtain ⟨g1, g2, g3⟩ := wayR_end hway HFR.out (fun hk => by rw [hc]; exact ⟨hD2, fun hq h => h46 ⟨by rw [h]; rfl, hq⟩⟩)
            have e := drop_at hlt
            rw [hc, g2] at e
            have hex := HXX.out
            rw [e, expOf_cons] at hex
            have hce : c = 101 ∨ c = 69 := by
              by_cases g : c = 101 ∨ c = 69
              · exact g
              · rw [if_neg g] at hex; cases hex
            rw [if_pos hce] at hex
            obtain ⟨t, ht⟩ : ∃ t, s.data.toList.drop (i + 1) = t := ⟨_, rfl⟩
            rw [ht] at hex
            obtain ⟨⟨sg, t0⟩, hcr⟩ : ∃ p, cutR t = p := ⟨_, rfl⟩
            rw [hcr] at hex
            dsimp only at hex
            have hgr : tW t0 ≠ [] ∧ dW t0 = [] := by
              constructor
              · intro h; rw [if_pos (.inl h)] at hex; cases hex
              · rcases Classical.em (dW t0 = []) with h | h
                · exact h
                · rw [if_pos (.inr h)] at hex; cases hex
            have htt : tW t0 = t0 := by have := tdW t0; rwa [hgr.2, List.append_nil] at this
            rw [if_neg (by rintro (h | h); exact hgr.1 h; exact h hgr.2), htt] at hex
            have HXV : Hid (x = if sg then -((min (val t0) 9999 : Nat) : Int) else ((min (val t0) 9999 : Nat) : Int)) := (Option.some.inj hex).symm
            have HDT : Hid (Digs t0) := by rw [← htt]; exact tW_digs t0
            have HCR := Lib.hid hcr
            have HRV : Hid (R = formOf true (nv Db) (x + E0)) := by
              show _ = _
              rw [← HR.out, g3]
              unfold nv
              rw [g1]
              congr 1
            have hDb : Digs Db.data.toList := by rw [g1]; exact HDD.out
            have HST : Hid ((s.data.toList.drop (i + 1) = t ∧ t ≠ t0 ∧ (0 : Nat) = 0 ∧ false = false) ∨ ∃ P, t0 = P ++ s.data.toList.drop (i + 1) ∧ false = sg ∧ Cap 0 (val P)) := by
              by_cases g : t = t0
              · refine .inr ⟨[], by rw [ht, g]; rfl, ?_, .inl ⟨rfl, by omega⟩⟩
                cases t with
                | nil => exact (congrArg Prod.fst hcr)
                | cons b r =>
                  rw [cutR_cons] at hcr
                  by_cases gb : b = 43 ∨ b = 45
                  · rw [if_pos gb] at hcr
                    have h9 : r = t0 := congrArg Prod.snd hcr
                    rw [← g] at h9
                    have := congrArg List.length h9
                    simp at this
                  · rw [if_neg gb] at hcr
                    exact congrArg Prod.fst hcr
              · exact .inl ⟨ht, g, rfl, rfl⟩
            have n1 : ((c.toNat : Int) != 101) = false ∨ (((c.toNat : Int) != 101) = true ∧ ((c.toNat : Int) != 69) = false) := by
              rcases hce with h | h
              · exact .inl (by rw [h]; rfl)
              · exact .inr ⟨by rw [h]; rfl, by rw [h]; rfl⟩
            have hit : i + 1 ≤ s.size := hlt
            clear g1 g2 g3 e hex hce ht hcr hgr htt h46 hway HXX HR
            rcases n1 with n1 | ⟨n1, n2⟩
            all_goals
              go_wp2
              go_loopw [8, 9, 10] (fun iv nv mv wr => ReadRel2 w s t t0 sg iv nv mv wr) (fun iv _ _ _ => s.size - (intOf iv).toNat)
              case atStart => exact ⟨i + 1, 0, false, hit, by first | rfl | go_num, rfl, rfl, (HST.out.imp (fun h => ⟨h.1, h.2.1, rfl, rfl⟩) id), K, D⟩
              case round =>
                clear K D HST
                obtain ⟨j, m, mi, hj, rfl, rfl, rfl, hst, K, D⟩ := hrel
                by_cases hjl : j < s.size
                · obtain ⟨y, hy⟩ : ∃ y, s[j] = y := ⟨_, rfl⟩
                  have hyl := y.toNat_lt
                  rcases hst with ⟨g1, g2, g3, g4⟩ | ⟨P, g1, g2, g3⟩
                  · have hys : (y = 43 ∨ y = 45) ∧ sg = decide (y = 45) ∧ s.data.toList.drop (j + 1) = t0 := by
                      have e := drop_at hjl
                      rw [g1, hy] at e
                      rw [e, cutR_cons] at HCR
                      have hc := HCR.out
                      by_cases g : y = 43 ∨ y = 45
                      · rw [if_pos g] at hc
                        exact ⟨g, (congrArg Prod.fst hc).symm, congrArg Prod.snd hc⟩
                      · rw [if_neg g] at hc
                        exact absurd (by rw [e]; exact congrArg Prod.snd hc) g2
                    subst g3
                    subst g4
                    obtain ⟨hy1, hy2, hy3⟩ := hys
                    have hnd : isDig y = false := by rcases hy1 with h | h <;> (rw [h]; decide)
                    have HN : Hid (t0 = [] ++ s.data.toList.drop (j + 1)) := by show _ = _; rw [hy3]; rfl
                    have e45 : ((y.toNat : Int) == 45) = true ∧ sg = true ∨ ((y.toNat : Int) == 45) = false ∧ sg = false := by
                      rcases hy1 with h | h
                      · exact .inr ⟨by rw [h]; rfl, by rw [hy2, h]; rfl⟩
                      · exact .inl ⟨by rw [h]; rfl, by rw [hy2, h]; rfl⟩
                    clear hy1 hy2 hy3 g1 g2
                    rcases e45 with ⟨e45, hsg⟩ | ⟨e45, hsg⟩
                    all_goals
                      have HSG := Lib.hid hsg
                      clear hsg
                      go_wp2_with (go_at_call 45; refine (specDigB _ _).mono ?_; rintro r w' ⟨rfl, rfl⟩)
                      go_roundw
                      case rel => exact ⟨j + 1, 0, _, hjl, by go_num, rfl, rfl, .inr ⟨[], HN.out, HSG.out.symm, .inl ⟨rfl, by omega⟩⟩, K, D⟩
                      case measure => simp [intOf]; omega
                  · have e := drop_at hjl
                    rw [hy] at e
                    have hdy : IsD y := HDT.out y (by rw [g1, e]; simp)
                    have hD : isDig y = true := isDig_iff.2 hdy
                    unfold IsD at hdy
                    have e45 : ((y.toNat : Int) == 45) = false := by rw [beq_eq_false_iff_ne]; omega
                    obtain ⟨d, hd⟩ : ∃ d : Nat, y.toNat - 48 = d := ⟨_, rfl⟩
                    have hyi : (y.toNat : Int) - 48 = (d : Int) := by omega
                    have HP : Hid (t0 = (P ++ [y]) ++ s.data.toList.drop (j + 1)) := by show _ = _; rw [g1, e]; simp
                    have HC : Hid (Cap (if m < 10000 then 10 * m + d else m) (val (P ++ [y]))) := by
                      show Cap _ _
                      rw [val_snoc, show dv y = d from hd]
                      exact cap_step g3 (by omega)
                    have hmb : m < 100000 := by unfold Cap at g3; omega
                    have v1 := IntWalk.u8_in (d : Int) ⟨by omega, by omega⟩
                    have v2 := IntWalk.i64_in (10 * (m : Int)) ⟨by omega, by omega⟩
                    have v3 := IntWalk.i64_in (10 * (m : Int) + (d : Int)) ⟨by omega, by omega⟩
                    have v4 := IntWalk.i64_in (d : Int) ⟨by omega, by omega⟩
                    clear g1 g3 e hd
                    by_cases hm : m < 10000
                    · have hmi : (m : Int) < 10000 := by omega
                      rw [if_pos hm] at HC
                      go_wp2_with (go_at_call 45; refine (specDigB _ _).mono ?_; rintro r w' ⟨rfl, rfl⟩)
                      go_roundw
                      case rel => exact ⟨j + 1, 10 * m + d, mi, hjl, by go_num, by go_num, by first | rfl | rw [g2], .inr ⟨P ++ [y], HP.out, g2, HC.out⟩, K, D⟩
                      case measure => simp [intOf]; omega
                    · have hmi : ¬ (m : Int) < 10000 := by omega
                      rw [if_neg hm] at HC
                      go_wp2_with (go_at_call 45; refine (specDigB _ _).mono ?_; rintro r w' ⟨rfl, rfl⟩)
                      go_roundw
                      case rel => exact ⟨j + 1, m, mi, hjl, by go_num, rfl, by first | rfl | rw [g2], .inr ⟨P ++ [y], HP.out, g2, HC.out⟩, K, D⟩
                      case measure => simp [intOf]; omega
                · have hend := drop_end hjl
                  have hfin : mi = sg ∧ Cap m (val t0) := by
                    rcases hst with ⟨g1, g2, g3, g4⟩ | ⟨P, g1, g2, g3⟩
                    · exfalso
                      rw [hend] at g1
                      apply g2
                      rw [← g1]
                      have := congrArg Prod.snd HCR.out
                      rw [← g1] at this
                      exact this
                    · rw [hend, List.append_nil] at g1
                      exact ⟨g2, by rw [g1]; exact g3⟩
                  obtain ⟨rfl, hcap⟩ := hfin
                  have hmm := cap_min hcap
                  have hmb : m < 100000 := by unfold Cap at hcap; omega
                  obtain ⟨A, hA⟩ : ∃ A : Nat, min m 9999 = A := ⟨_, rfl⟩
                  have HX : Hid (x = if mi then -(A : Int) else (A : Int)) := by show _ = _; rw [HXV.out, ← hA, hmm]
                  have hAb : A ≤ 9999 := by omega
                  clear hst hend hcap hmm HXV
                  cases mi
                  · have hx : x = (A : Int) := HX.out
                    have cF := fun W => specForm true Db (E0 + (A : Int)) false W (by omega) hDb (by omega) (by omega)
                    simp only [Bool.false_eq_true, if_false] at cF
                    rw [show formOf true (nv Db) (E0 + (A : Int)) = R by rw [HRV.out, hx]; congr 1; omega] at cF
                    clear HX hx HRV
                    by_cases hg : 9999 < m
                    · have hgi : (9999 : Int) < (m : Int) := by omega
                      have hA9 : A = 9999 := by omega
                      subst hA9
                      obtain ⟨⟨rn, rd, re⟩, rc⟩ := R
                      unfold AnsDC at cF
                      dsimp only at cF
                      obtain ⟨rs, hrs⟩ : ∃ rs : ByteArray, ⟨rd.toArray⟩ = rs := ⟨_, rfl⟩
                      rw [hrs] at cF
                      go_wp2_with (go_at_call 45; refine (specDigB _ _).mono ?_; rintro r w' ⟨rfl, rfl⟩)
                      refine (cF _).mono ?_
                      rintro r wz ⟨rfl, B⟩
                      have KZ := K.belowS B
                      have DZ := below_kept D (Nat.le_refl _) B
                      clear B cF K D
                      go_wp2_with (with_reducible show wpList _ _ _ (⟨_, .store _ _ _, _, _, _, _⟩ :: _) _ _; refine store_dec w.heap.size rfl rfl KZ ?_)
                      refine bodyPost_ret (results_dcS rfl _ _ rfl rfl KZ.row) rfl ⟨?_, below_row3 DZ (Nat.le_refl _) _⟩
                      subst hrs
                      rfl
                    · have hgi : ¬ (9999 : Int) < (m : Int) := by omega
                      have hA9 : A = m := by omega
                      subst hA9
                      obtain ⟨⟨rn, rd, re⟩, rc⟩ := R
                      unfold AnsDC at cF
                      dsimp only at cF
                      obtain ⟨rs, hrs⟩ : ∃ rs : ByteArray, ⟨rd.toArray⟩ = rs := ⟨_, rfl⟩
                      rw [hrs] at cF
                      go_wp2_with (go_at_call 45; refine (specDigB _ _).mono ?_; rintro r w' ⟨rfl, rfl⟩)
                      refine (cF _).mono ?_
                      rintro r wz ⟨rfl, B⟩
                      have KZ := K.belowS B
                      have DZ := below_kept D (Nat.le_refl _) B
                      clear B cF K D
                      go_wp2_with (with_reducible show wpList _ _ _ (⟨_, .store _ _ _, _, _, _, _⟩ :: _) _ _; refine store_dec w.heap.size rfl rfl KZ ?_)
                      refine bodyPost_ret (results_dcS rfl _ _ rfl rfl KZ.row) rfl ⟨?_, below_row3 DZ (Nat.le_refl _) _⟩
                      subst hrs
                      rfl
                  · have hx : x = -(A : Int) := HX.out
                    have cF := fun W => specForm true Db (E0 + -(A : Int)) false W (by omega) hDb (by omega) (by omega)
                    simp only [Bool.false_eq_true, if_false] at cF
                    rw [show formOf true (nv Db) (E0 + -(A : Int)) = R by rw [HRV.out, hx]; congr 1; omega] at cF
                    clear HX hx HRV
                    by_cases hg : 9999 < m
                    · have hgi : (9999 : Int) < (m : Int) := by omega
                      have hA9 : A = 9999 := by omega
                      subst hA9
                      obtain ⟨⟨rn, rd, re⟩, rc⟩ := R
                      unfold AnsDC at cF
                      dsimp only at cF
                      obtain ⟨rs, hrs⟩ : ∃ rs : ByteArray, ⟨rd.toArray⟩ = rs := ⟨_, rfl⟩
                      rw [hrs] at cF
                      go_wp2_with (go_at_call 45; refine (specDigB _ _).mono ?_; rintro r w' ⟨rfl, rfl⟩)
                      refine (cF _).mono ?_
                      rintro r wz ⟨rfl, B⟩
                      have KZ := K.belowS B
                      have DZ := below_kept D (Nat.le_refl _) B
                      clear B cF K D
                      go_wp2_with (with_reducible show wpList _ _ _ (⟨_, .store _ _ _, _, _, _, _⟩ :: _) _ _; refine store_dec w.heap.size rfl rfl KZ ?_)
                      refine bodyPost_ret (results_dcS rfl _ _ rfl rfl KZ.row) rfl ⟨?_, below_row3 DZ (Nat.le_refl _) _⟩
                      subst hrs
                      rfl
                    · have hgi : ¬ (9999 : Int) < (m : Int) := by omega
                      have hA9 : A = m := by omega
                      subst hA9
                      obtain ⟨⟨rn, rd, re⟩, rc⟩ := R
                      unfold AnsDC at cF
                      dsimp only at cF
                      obtain ⟨rs, hrs⟩ : ∃ rs : ByteArray, ⟨rd.toArray⟩ = rs := ⟨_, rfl⟩
                      rw [hrs] at cF
                      go_wp2_with (go_at_call 45; refine (specDigB _ _).mono ?_; rintro r w' ⟨rfl, rfl⟩)
                      refine (cF _).mono ?_
                      rintro r wz ⟨rfl, B⟩
                      have KZ := K.belowS B
                      have DZ := below_kept D (Nat.le_refl _) B
                      clear B cF K D
                      go_wp2_with (with_reducible show wpList _ _ _ (⟨_, .store _ _ _, _, _, _, _⟩ :: _) _ _; refine store_dec w.heap.size rfl rfl KZ ?_)
                      refine bodyPost_ret (results_dcS rfl _ _ rfl rfl KZ.row) rfl ⟨?_, below_row3 DZ (Nat.le_refl _) _⟩
                      subst hrs
                      rfl
      · obtain ⟨g1, g2, g3⟩ := wayR_end hway HFR.out (fun hk => absurd hk hlt)
        rw [drop_end hlt] at g2
        have hex := HXX.out
        rw [← g2] at hex
        have hx : (0 : Int) = x := Option.some.inj hex
        have hDb : Digs Db.data.toList := by rw [g1]; exact HDD.out
        have cF := fun W => specForm true Db E0 false W (by omega) hDb (by omega) (by omega)
        simp only [Bool.false_eq_true, if_false] at cF
        rw [show formOf true (nv Db) E0 = R by
          rw [← HR.out, g3, ← hx]
          unfold nv
          rw [g1]
          congr 1
          omega] at cF
        have hlti : ¬ (i : Int) < (s.size : Int) := by omega
        clear g1 g2 g3 hex hx hway HXX HR
        obtain ⟨⟨rn, rd, re⟩, rc⟩ := R
        unfold AnsDC at cF
        dsimp only at cF
        obtain ⟨rs, hrs⟩ : ∃ rs : ByteArray, ⟨rd.toArray⟩ = rs := ⟨_, rfl⟩
        rw [hrs] at cF
        go_wp2_with (go_at_call 45; refine (specDigB _ _).mono ?_; rintro r w' ⟨rfl, rfl⟩)
        refine (cF _).mono ?_
        rintro r wz ⟨rfl, B⟩
        have KZ := K.belowS B
        have DZ := below_kept D (Nat.le_refl _) B
        clear B cF K D
        go_wp2_with (with_reducible show wpList _ _ _ (⟨_, .store _ _ _, _, _, _, _⟩ :: _) _ _; refine store_dec w.heap.size rfl rfl KZ ?_)
        refine bodyPost_ret (results_dcS rfl _ _ rfl rfl KZ.row) rfl ⟨?_, below_row3 DZ (Nat.le_refl _) _⟩
        subst hrs
        rfl
  · go_enter Tryd.func27, Tryd.ntmps27
    go_wp2
    clear a1 a2
    go_loopw [5, 6, 7, 8] (fun dv ev bv iv wr => ReadRel w s W F r1 r2 dv ev bv iv wr) (fun _ _ _ iv _ => s.size - (intOf iv).toNat)
    case atStart => first | exact ⟨1, ⟨#[]⟩, 0, false, h1, Nat.zero_le _, by omega, by omega, rfl, rfl, rfl, rfl, HST.out, K0, B0⟩ | exact ⟨0, ⟨#[]⟩, 0, false, Nat.zero_le _, Nat.zero_le _, by omega, by omega, rfl, rfl, rfl, rfl, HST.out, K0, B0⟩
    case round =>
      clear HST hx0 K0 B0
      obtain ⟨i, Db, E0, q, hi, hDi, hE1, hE2, rfl, rfl, rfl, rfl, hway, K, D⟩ := hrel
      by_cases hlt : i < s.size
      · obtain ⟨c, hc⟩ : ∃ c, s[i] = c := ⟨_, rfl⟩
        have hcl := c.toNat_lt
        by_cases hD : isDig c = true
        · have hwd := way_digitR hway hlt (show isDig s[i] = true by rw [hc]; exact hD)
          have hcd := isDig_iff.1 hD
          unfold IsD at hcd
          have e46 : ((c.toNat : Int) == 46) = false := by rw [beq_eq_false_iff_ne]; omega
          have n1 : ((c.toNat : Int) != 101) = true := by rw [bne_iff_ne]; omega
          have n2 : ((c.toNat : Int) != 69) = true := by rw [bne_iff_ne]; omega
          obtain ⟨t1, ht1⟩ : ∃ t : ByteArray, s.extract i (i + 1) = t := ⟨_, rfl⟩
          have l1 : t1.data.toList = [s[i]] := by
            rw [← ht1, ByteArray.data_extract, Array.toList_extract, List.extract_eq_take_drop, drop_at hlt, show i + 1 - i = 1 by omega]
            rfl
          have z1 : t1.size = 1 := by rw [← size_list, l1]; rfl
          obtain ⟨D2, hD2⟩ : ∃ d : ByteArray, Db ++ t1 = d := ⟨_, rfl⟩
          have l2 : D2.data.toList = Db.data.toList ++ [s[i]] := by rw [← hD2, ByteArray.data_append, Array.toList_append, l1]
          have z2 : D2.size = Db.size + 1 := by rw [← hD2, ByteArray.size_append, z1]
          rw [← l2] at hwd
          obtain ⟨j, hj⟩ : ∃ j : Nat, i + 1 = j := ⟨_, rfl⟩
          have HWY := Lib.hid hwd
          rw [hj] at HWY ht1
          have hji : (i : Int) + 1 = (j : Int) := by omega
          have hjs : j ≤ s.size := by omega
          have hij : i ≤ j := by omega
          have hEb : q = true → -1000 ≤ E0 - 1 := fun hq => by
            subst hq
            have := hwd.2.2.1
            rw [if_pos rfl, size_list] at this
            omega
          clear hway hwd l1 l2
          cases q
          · go_wp2
            go_roundw
            case rel => exact ⟨j, D2, E0, false, hjs, by omega, hE1, hE2, by first | rfl | go_num, rfl, rfl, by first | rfl | go_num, HWY.out, K, D⟩
            case measure => simp [intOf]; omega
          · have hE3 := hEb rfl
            go_wp2
            go_roundw
            case rel => exact ⟨j, D2, E0 - 1, true, hjs, by omega, hE3, by omega, by first | rfl | go_num, by first | rfl | go_num, rfl, by first | rfl | go_num, HWY.out, K, D⟩
            case measure => simp [intOf]; omega
        · have hD2 : isDig c = false := by simpa using hD
          clear hD
          by_cases h46 : c.toNat = 46 ∧ q = false
          · obtain ⟨h46, rfl⟩ := h46
            have HWY := Lib.hid (wayR_dot hway hlt (by rw [hc]; exact UInt8.toNat_inj.1 h46) HFR.out)
            have e46 : ((c.toNat : Int) == 46) = true := by rw [beq_iff_eq]; omega
            have n1 : ((c.toNat : Int) != 101) = true := by rw [bne_iff_ne]; omega
            have n2 : ((c.toNat : Int) != 69) = true := by rw [bne_iff_ne]; omega
            clear hway h46
            go_wp2
            go_roundw
            case rel => exact ⟨i + 1, Db, E0, true, hlt, by omega, hE1, hE2, by go_num, rfl, rfl, rfl, HWY.out, K, D⟩
            case measure => simp [intOf]; omega
          · obtain ⟨g1, g2, g3⟩ := wayR_end hway HFR.out (fun hk => by rw [hc]; exact ⟨hD2, fun hq h => h46 ⟨by rw [h]; rfl, hq⟩⟩)
            have e := drop_at hlt
            rw [hc, g2] at e
            have hex := HXX.out
            rw [e, expOf_cons] at hex
            have hce : c = 101 ∨ c = 69 := by
              by_cases g : c = 101 ∨ c = 69
              · exact g
              · rw [if_neg g] at hex; cases hex
            rw [if_pos hce] at hex
            obtain ⟨t, ht⟩ : ∃ t, s.data.toList.drop (i + 1) = t := ⟨_, rfl⟩
            rw [ht] at hex
            obtain ⟨⟨sg, t0⟩, hcr⟩ : ∃ p, cutR t = p := ⟨_, rfl⟩
            rw [hcr] at hex
            dsimp only at hex
            have hgr : tW t0 ≠ [] ∧ dW t0 = [] := by
              constructor
              · intro h; rw [if_pos (.inl h)] at hex; cases hex
              · rcases Classical.em (dW t0 = []) with h | h
                · exact h
                · rw [if_pos (.inr h)] at hex; cases hex
            have htt : tW t0 = t0 := by have := tdW t0; rwa [hgr.2, List.append_nil] at this
            rw [if_neg (by rintro (h | h); exact hgr.1 h; exact h hgr.2), htt] at hex
            have HXV : Hid (x = if sg then -((min (val t0) 9999 : Nat) : Int) else ((min (val t0) 9999 : Nat) : Int)) := (Option.some.inj hex).symm
            have HDT : Hid (Digs t0) := by rw [← htt]; exact tW_digs t0
            have HCR := Lib.hid hcr
            have HRV : Hid (R = formOf false (nv Db) (x + E0)) := by
              show _ = _
              rw [← HR.out, g3]
              unfold nv
              rw [g1]
              congr 1
            have hDb : Digs Db.data.toList := by rw [g1]; exact HDD.out
            have HST : Hid ((s.data.toList.drop (i + 1) = t ∧ t ≠ t0 ∧ (0 : Nat) = 0 ∧ false = false) ∨ ∃ P, t0 = P ++ s.data.toList.drop (i + 1) ∧ false = sg ∧ Cap 0 (val P)) := by
              by_cases g : t = t0
              · refine .inr ⟨[], by rw [ht, g]; rfl, ?_, .inl ⟨rfl, by omega⟩⟩
                cases t with
                | nil => exact (congrArg Prod.fst hcr)
                | cons b r =>
                  rw [cutR_cons] at hcr
                  by_cases gb : b = 43 ∨ b = 45
                  · rw [if_pos gb] at hcr
                    have h9 : r = t0 := congrArg Prod.snd hcr
                    rw [← g] at h9
                    have := congrArg List.length h9
                    simp at this
                  · rw [if_neg gb] at hcr
                    exact congrArg Prod.fst hcr
              · exact .inl ⟨ht, g, rfl, rfl⟩
            have n1 : ((c.toNat : Int) != 101) = false ∨ (((c.toNat : Int) != 101) = true ∧ ((c.toNat : Int) != 69) = false) := by
              rcases hce with h | h
              · exact .inl (by rw [h]; rfl)
              · exact .inr ⟨by rw [h]; rfl, by rw [h]; rfl⟩
            have hit : i + 1 ≤ s.size := hlt
            clear g1 g2 g3 e hex hce ht hcr hgr htt h46 hway HXX HR
            rcases n1 with n1 | ⟨n1, n2⟩
            all_goals
              go_wp2
              go_loopw [8, 9, 10] (fun iv nv mv wr => ReadRel2 w s t t0 sg iv nv mv wr) (fun iv _ _ _ => s.size - (intOf iv).toNat)
              case atStart => exact ⟨i + 1, 0, false, hit, by first | rfl | go_num, rfl, rfl, (HST.out.imp (fun h => ⟨h.1, h.2.1, rfl, rfl⟩) id), K, D⟩
              case round =>
                clear K D HST
                obtain ⟨j, m, mi, hj, rfl, rfl, rfl, hst, K, D⟩ := hrel
                by_cases hjl : j < s.size
                · obtain ⟨y, hy⟩ : ∃ y, s[j] = y := ⟨_, rfl⟩
                  have hyl := y.toNat_lt
                  rcases hst with ⟨g1, g2, g3, g4⟩ | ⟨P, g1, g2, g3⟩
                  · have hys : (y = 43 ∨ y = 45) ∧ sg = decide (y = 45) ∧ s.data.toList.drop (j + 1) = t0 := by
                      have e := drop_at hjl
                      rw [g1, hy] at e
                      rw [e, cutR_cons] at HCR
                      have hc := HCR.out
                      by_cases g : y = 43 ∨ y = 45
                      · rw [if_pos g] at hc
                        exact ⟨g, (congrArg Prod.fst hc).symm, congrArg Prod.snd hc⟩
                      · rw [if_neg g] at hc
                        exact absurd (by rw [e]; exact congrArg Prod.snd hc) g2
                    subst g3
                    subst g4
                    obtain ⟨hy1, hy2, hy3⟩ := hys
                    have hnd : isDig y = false := by rcases hy1 with h | h <;> (rw [h]; decide)
                    have HN : Hid (t0 = [] ++ s.data.toList.drop (j + 1)) := by show _ = _; rw [hy3]; rfl
                    have e45 : ((y.toNat : Int) == 45) = true ∧ sg = true ∨ ((y.toNat : Int) == 45) = false ∧ sg = false := by
                      rcases hy1 with h | h
                      · exact .inr ⟨by rw [h]; rfl, by rw [hy2, h]; rfl⟩
                      · exact .inl ⟨by rw [h]; rfl, by rw [hy2, h]; rfl⟩
                    clear hy1 hy2 hy3 g1 g2
                    rcases e45 with ⟨e45, hsg⟩ | ⟨e45, hsg⟩
                    all_goals
                      have HSG := Lib.hid hsg
                      clear hsg
                      go_wp2_with (go_at_call 45; refine (specDigB _ _).mono ?_; rintro r w' ⟨rfl, rfl⟩)
                      go_roundw
                      case rel => exact ⟨j + 1, 0, _, hjl, by go_num, rfl, rfl, .inr ⟨[], HN.out, HSG.out.symm, .inl ⟨rfl, by omega⟩⟩, K, D⟩
                      case measure => simp [intOf]; omega
                  · have e := drop_at hjl
                    rw [hy] at e
                    have hdy : IsD y := HDT.out y (by rw [g1, e]; simp)
                    have hD : isDig y = true := isDig_iff.2 hdy
                    unfold IsD at hdy
                    have e45 : ((y.toNat : Int) == 45) = false := by rw [beq_eq_false_iff_ne]; omega
                    obtain ⟨d, hd⟩ : ∃ d : Nat, y.toNat - 48 = d := ⟨_, rfl⟩
                    have hyi : (y.toNat : Int) - 48 = (d : Int) := by omega
                    have HP : Hid (t0 = (P ++ [y]) ++ s.data.toList.drop (j + 1)) := by show _ = _; rw [g1, e]; simp
                    have HC : Hid (Cap (if m < 10000 then 10 * m + d else m) (val (P ++ [y]))) := by
                      show Cap _ _
                      rw [val_snoc, show dv y = d from hd]
                      exact cap_step g3 (by omega)
                    have hmb : m < 100000 := by unfold Cap at g3; omega
                    have v1 := IntWalk.u8_in (d : Int) ⟨by omega, by omega⟩
                    have v2 := IntWalk.i64_in (10 * (m : Int)) ⟨by omega, by omega⟩
                    have v3 := IntWalk.i64_in (10 * (m : Int) + (d : Int)) ⟨by omega, by omega⟩
                    have v4 := IntWalk.i64_in (d : Int) ⟨by omega, by omega⟩
                    clear g1 g3 e hd
                    by_cases hm : m < 10000
                    · have hmi : (m : Int) < 10000 := by omega
                      rw [if_pos hm] at HC
                      go_wp2_with (go_at_call 45; refine (specDigB _ _).mono ?_; rintro r w' ⟨rfl, rfl⟩)
                      go_roundw
                      case rel => exact ⟨j + 1, 10 * m + d, mi, hjl, by go_num, by go_num, by first | rfl | rw [g2], .inr ⟨P ++ [y], HP.out, g2, HC.out⟩, K, D⟩
                      case measure => simp [intOf]; omega
                    · have hmi : ¬ (m : Int) < 10000 := by omega
                      rw [if_neg hm] at HC
                      go_wp2_with (go_at_call 45; refine (specDigB _ _).mono ?_; rintro r w' ⟨rfl, rfl⟩)
                      go_roundw
                      case rel => exact ⟨j + 1, m, mi, hjl, by go_num, rfl, by first | rfl | rw [g2], .inr ⟨P ++ [y], HP.out, g2, HC.out⟩, K, D⟩
                      case measure => simp [intOf]; omega
                · have hend := drop_end hjl
                  have hfin : mi = sg ∧ Cap m (val t0) := by
                    rcases hst with ⟨g1, g2, g3, g4⟩ | ⟨P, g1, g2, g3⟩
                    · exfalso
                      rw [hend] at g1
                      apply g2
                      rw [← g1]
                      have := congrArg Prod.snd HCR.out
                      rw [← g1] at this
                      exact this
                    · rw [hend, List.append_nil] at g1
                      exact ⟨g2, by rw [g1]; exact g3⟩
                  obtain ⟨rfl, hcap⟩ := hfin
                  have hmm := cap_min hcap
                  have hmb : m < 100000 := by unfold Cap at hcap; omega
                  obtain ⟨A, hA⟩ : ∃ A : Nat, min m 9999 = A := ⟨_, rfl⟩
                  have HX : Hid (x = if mi then -(A : Int) else (A : Int)) := by show _ = _; rw [HXV.out, ← hA, hmm]
                  have hAb : A ≤ 9999 := by omega
                  clear hst hend hcap hmm HXV
                  cases mi
                  · have hx : x = (A : Int) := HX.out
                    have cF := fun W => specForm false Db (E0 + (A : Int)) false W (by omega) hDb (by omega) (by omega)
                    simp only [Bool.false_eq_true, if_false] at cF
                    rw [show formOf false (nv Db) (E0 + (A : Int)) = R by rw [HRV.out, hx]; congr 1; omega] at cF
                    clear HX hx HRV
                    by_cases hg : 9999 < m
                    · have hgi : (9999 : Int) < (m : Int) := by omega
                      have hA9 : A = 9999 := by omega
                      subst hA9
                      obtain ⟨⟨rn, rd, re⟩, rc⟩ := R
                      unfold AnsDC at cF
                      dsimp only at cF
                      obtain ⟨rs, hrs⟩ : ∃ rs : ByteArray, ⟨rd.toArray⟩ = rs := ⟨_, rfl⟩
                      rw [hrs] at cF
                      go_wp2_with (go_at_call 45; refine (specDigB _ _).mono ?_; rintro r w' ⟨rfl, rfl⟩)
                      refine (cF _).mono ?_
                      rintro r wz ⟨rfl, B⟩
                      have KZ := K.belowS B
                      have DZ := below_kept D (Nat.le_refl _) B
                      clear B cF K D
                      go_wp2_with (with_reducible show wpList _ _ _ (⟨_, .store _ _ _, _, _, _, _⟩ :: _) _ _; refine store_dec w.heap.size rfl rfl KZ ?_)
                      refine bodyPost_ret (results_dcS rfl _ _ rfl rfl KZ.row) rfl ⟨?_, below_row3 DZ (Nat.le_refl _) _⟩
                      subst hrs
                      rfl
                    · have hgi : ¬ (9999 : Int) < (m : Int) := by omega
                      have hA9 : A = m := by omega
                      subst hA9
                      obtain ⟨⟨rn, rd, re⟩, rc⟩ := R
                      unfold AnsDC at cF
                      dsimp only at cF
                      obtain ⟨rs, hrs⟩ : ∃ rs : ByteArray, ⟨rd.toArray⟩ = rs := ⟨_, rfl⟩
                      rw [hrs] at cF
                      go_wp2_with (go_at_call 45; refine (specDigB _ _).mono ?_; rintro r w' ⟨rfl, rfl⟩)
                      refine (cF _).mono ?_
                      rintro r wz ⟨rfl, B⟩
                      have KZ := K.belowS B
                      have DZ := below_kept D (Nat.le_refl _) B
                      clear B cF K D
                      go_wp2_with (with_reducible show wpList _ _ _ (⟨_, .store _ _ _, _, _, _, _⟩ :: _) _ _; refine store_dec w.heap.size rfl rfl KZ ?_)
                      refine bodyPost_ret (results_dcS rfl _ _ rfl rfl KZ.row) rfl ⟨?_, below_row3 DZ (Nat.le_refl _) _⟩
                      subst hrs
                      rfl
                  · have hx : x = -(A : Int) := HX.out
                    have cF := fun W => specForm false Db (E0 + -(A : Int)) false W (by omega) hDb (by omega) (by omega)
                    simp only [Bool.false_eq_true, if_false] at cF
                    rw [show formOf false (nv Db) (E0 + -(A : Int)) = R by rw [HRV.out, hx]; congr 1; omega] at cF
                    clear HX hx HRV
                    by_cases hg : 9999 < m
                    · have hgi : (9999 : Int) < (m : Int) := by omega
                      have hA9 : A = 9999 := by omega
                      subst hA9
                      obtain ⟨⟨rn, rd, re⟩, rc⟩ := R
                      unfold AnsDC at cF
                      dsimp only at cF
                      obtain ⟨rs, hrs⟩ : ∃ rs : ByteArray, ⟨rd.toArray⟩ = rs := ⟨_, rfl⟩
                      rw [hrs] at cF
                      go_wp2_with (go_at_call 45; refine (specDigB _ _).mono ?_; rintro r w' ⟨rfl, rfl⟩)
                      refine (cF _).mono ?_
                      rintro r wz ⟨rfl, B⟩
                      have KZ := K.belowS B
                      have DZ := below_kept D (Nat.le_refl _) B
                      clear B cF K D
                      go_wp2_with (with_reducible show wpList _ _ _ (⟨_, .store _ _ _, _, _, _, _⟩ :: _) _ _; refine store_dec w.heap.size rfl rfl KZ ?_)
                      refine bodyPost_ret (results_dcS rfl _ _ rfl rfl KZ.row) rfl ⟨?_, below_row3 DZ (Nat.le_refl _) _⟩
                      subst hrs
                      rfl
                    · have hgi : ¬ (9999 : Int) < (m : Int) := by omega
                      have hA9 : A = m := by omega
                      subst hA9
                      obtain ⟨⟨rn, rd, re⟩, rc⟩ := R
                      unfold AnsDC at cF
                      dsimp only at cF
                      obtain ⟨rs, hrs⟩ : ∃ rs : ByteArray, ⟨rd.toArray⟩ = rs := ⟨_, rfl⟩
                      rw [hrs] at cF
                      go_wp2_with (go_at_call 45; refine (specDigB _ _).mono ?_; rintro r w' ⟨rfl, rfl⟩)
                      refine (cF _).mono ?_
                      rintro r wz ⟨rfl, B⟩
                      have KZ := K.belowS B
                      have DZ := below_kept D (Nat.le_refl _) B
                      clear B cF K D
                      go_wp2_with (with_reducible show wpList _ _ _ (⟨_, .store _ _ _, _, _, _, _⟩ :: _) _ _; refine store_dec w.heap.size rfl rfl KZ ?_)
                      refine bodyPost_ret (results_dcS rfl _ _ rfl rfl KZ.row) rfl ⟨?_, below_row3 DZ (Nat.le_refl _) _⟩
                      subst hrs
                      rfl
      · obtain ⟨g1, g2, g3⟩ := wayR_end hway HFR.out (fun hk => absurd hk hlt)
        rw [drop_end hlt] at g2
        have hex := HXX.out
        rw [← g2] at hex
        have hx : (0 : Int) = x := Option.some.inj hex
        have hDb : Digs Db.data.toList := by rw [g1]; exact HDD.out
        have cF := fun W => specForm false Db E0 false W (by omega) hDb (by omega) (by omega)
        simp only [Bool.false_eq_true, if_false] at cF
        rw [show formOf false (nv Db) E0 = R by
          rw [← HR.out, g3, ← hx]
          unfold nv
          rw [g1]
          congr 1
          omega] at cF
        have hlti : ¬ (i : Int) < (s.size : Int) := by omega
        clear g1 g2 g3 hex hx hway HXX HR
        obtain ⟨⟨rn, rd, re⟩, rc⟩ := R
        unfold AnsDC at cF
        dsimp only at cF
        obtain ⟨rs, hrs⟩ : ∃ rs : ByteArray, ⟨rd.toArray⟩ = rs := ⟨_, rfl⟩
        rw [hrs] at cF
        go_wp2_with (go_at_call 45; refine (specDigB _ _).mono ?_; rintro r w' ⟨rfl, rfl⟩)
        refine (cF _).mono ?_
        rintro r wz ⟨rfl, B⟩
        have KZ := K.belowS B
        have DZ := below_kept D (Nat.le_refl _) B
        clear B cF K D
        go_wp2_with (with_reducible show wpList _ _ _ (⟨_, .store _ _ _, _, _, _, _⟩ :: _) _ _; refine store_dec w.heap.size rfl rfl KZ ?_)
        refine bodyPost_ret (results_dcS rfl _ _ rfl rfl KZ.row) rfl ⟨?_, below_row3 DZ (Nat.le_refl _) _⟩
        subst hrs
        rfl

end Go.Proofs.YtlhdolcadlabpaaDoor
