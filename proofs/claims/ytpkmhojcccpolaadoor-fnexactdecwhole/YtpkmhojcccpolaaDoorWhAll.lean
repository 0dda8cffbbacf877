/- A decimal as an int, plainly: by its value, and by strconv's reading of its text. No program in it. -/
import Derived.Test.YtpkmhojcccpolaaDoorDecTextMath
import Derived.Test.YtpkmhojcccpolaaDoorSpecDec12
import Derived.Lib.AtoiAllCases
import Derived.Test.YtpkmhojcccpolaaDoorSpecDec2
import Derived.Test.YtpkmhojcccpolaaDoorKept
import Derived.Test.YtpkmhojcccpolaaDoorImplDec16
import Derived.Lib.AtoiErrMem
import Derived.Test.YtpkmhojcccpolaaDoorLaidND
import Derived.Stop.LaidErr
import Derived.Deep.DeepLaidRun
namespace Go.Proofs.YtpkmhojcccpolaaDoor
set_option linter.unusedVariables false

/-- What is read is all digits, and their number. -/
theorem parse_ok : ∀ (l : List UInt8) (acc u : Nat), Lib.parseUint10 acc l = .ok u → Digs l ∧ u = acc * 10 ^ l.length + val l
  | [], acc, u, h => by
    simp only [Lib.parseUint10] at h
    injection h with h
    exact ⟨digs_nil, by rw [← h]; simp [val]⟩
  | c :: r, acc, u, h => by
    simp only [Lib.parseUint10] at h
    split at h
    · next hc =>
      split at h
      · cases h
      · split at h
        · cases h
        · obtain ⟨h1, h2⟩ := parse_ok r _ u h
          refine ⟨fun b hb => ?_, ?_⟩
          · rcases List.mem_cons.1 hb with rfl | hb
            · exact hc
            · exact h1 b hb
          · rw [h2, val_cons, List.length_cons, Nat.pow_succ, Nat.add_mul]
            have e1 : acc * 10 * 10 ^ r.length = acc * (10 ^ r.length * 10) := by rw [Nat.mul_assoc, Nat.mul_comm 10]
            have e2 : dv c = c.toNat - 48 := rfl
            rw [e1, e2, Nat.add_assoc]
    · cases h
theorem parse_of : ∀ (l : List UInt8) (acc : Nat), Digs l → acc * 10 ^ l.length + val l < 10000000000000000000 → Lib.parseUint10 acc l = .ok (acc * 10 ^ l.length + val l)
  | [], acc, _, _ => by simp [Lib.parseUint10, val]
  | c :: r, acc, hd, hb => by
    have hc := hd.cons.1
    have e2 : dv c = c.toNat - 48 := rfl
    have key : acc * 10 ^ (c :: r).length + val (c :: r) = (acc * 10 + (c.toNat - 48)) * 10 ^ r.length + val r := by
      rw [val_cons, List.length_cons, Nat.pow_succ, Nat.add_mul]
      have e1 : acc * 10 * 10 ^ r.length = acc * (10 ^ r.length * 10) := by rw [Nat.mul_assoc, Nat.mul_comm 10]
      rw [e1, e2, Nat.add_assoc]
    rw [key] at hb ⊢
    have hp : 1 ≤ 10 ^ r.length := Nat.pow_pos (by omega)
    have h1 : (acc * 10 + (c.toNat - 48)) * 1 ≤ (acc * 10 + (c.toNat - 48)) * 10 ^ r.length := Nat.mul_le_mul_left _ hp
    simp only [Lib.parseUint10]
    rw [if_pos (show 48 ≤ c.toNat ∧ c.toNat ≤ 57 from hc), if_neg (by omega), if_neg (by omega)]
    exact parse_of r _ hd.cons.2 hb

/-- The answer of impl, by strconv's reading. -/
def wholeI (l : List UInt8) : Int × Bool := match Lib.atoiAll l with
  | .ok v => if v < -1000000000000000000 ∨ 1000000000000000000 < v then (0, false) else (v, true)
  | _ => (0, false)
/-- The answer, by the value. -/
noncomputable def wholeR (d : DecV) : Int × Bool :=
  if d.Ok ∧ 0 ≤ d.exp ∧ val d.dig * 10 ^ d.exp.toNat ≤ 1000000000000000000 then (if d.neg then -((val d.dig * 10 ^ d.exp.toNat : Nat) : Int) else ((val d.dig * 10 ^ d.exp.toNat : Nat) : Int), true) else (0, false)

theorem mag_not {l : List UInt8} (h : ¬ Digs l) : ∀ u, Lib.parseMag l ≠ .ok u := by
  intro u hu
  unfold Lib.parseMag at hu
  split at hu
  · cases hu
  · exact h (parse_ok l 0 u hu).1
theorem whole_not {l : List UInt8} (neg : Bool) (h : ¬ Digs l) (h1 : l.head? ≠ some 43) (h2 : l.head? ≠ some 45) : wholeI ((if neg then [45] else []) ++ l) = (0, false) := by
  have hm := mag_not h
  unfold wholeI
  cases neg
  · rw [if_neg (by simp), List.nil_append]
    cases l with
    | nil => rfl
    | cons c r =>
      have c1 : c.toNat ≠ 43 := fun e => h1 (by rw [List.head?_cons]; congr 1; exact UInt8.toNat_inj.1 e)
      have c2 : c.toNat ≠ 45 := fun e => h2 (by rw [List.head?_cons]; congr 1; exact UInt8.toNat_inj.1 e)
      rw [Lib.atoiAll_plain c r c1 c2]
      cases hp : Lib.parseMag (c :: r) with
      | ok u => exact absurd hp (hm u)
      | «syntax» => rfl
      | range => rfl
  · rw [if_pos rfl]
    show (match Lib.atoiAll (45 :: l) with
      | .ok v => if v < -1000000000000000000 ∨ 1000000000000000000 < v then ((0, false) : Int × Bool) else (v, true)
      | _ => (0, false)) = _
    rw [Lib.atoiAll_minus]
    cases hp : Lib.parseMag l with
    | ok u => exact absurd hp (hm u)
    | «syntax» => rfl
    | range => rfl
theorem whole_digs {l : List UInt8} (neg : Bool) (h : Digs l) (h0 : l ≠ []) :
    wholeI ((if neg then [45] else []) ++ l) = if val l ≤ 1000000000000000000 then (if neg then -((val l : Nat) : Int) else ((val l : Nat) : Int), true) else (0, false) := by
  have hm : ∀ u, Lib.parseMag l = .ok u → u = val l := by
    intro u hu
    unfold Lib.parseMag at hu
    rw [if_neg h0] at hu
    have := (parse_ok l 0 u hu).2
    rw [this]; simp
  have hg : val l ≤ 1000000000000000000 → Lib.parseMag l = .ok (val l) := by
    intro hv
    unfold Lib.parseMag
    rw [if_neg h0]
    have := parse_of l 0 h (by rw [Nat.zero_mul, Nat.zero_add]; omega)
    rwa [Nat.zero_mul, Nat.zero_add] at this
  unfold wholeI
  cases neg
  · rw [if_neg (by simp), List.nil_append]
    obtain ⟨c, r, rfl⟩ : ∃ c r, l = c :: r := by cases l with | nil => exact absurd rfl h0 | cons c r => exact ⟨c, r, rfl⟩
    have hc := h.cons.1
    unfold IsD at hc
    rw [Lib.atoiAll_plain c r (by omega) (by omega)]
    by_cases hv : val (c :: r) ≤ 1000000000000000000
    · rw [hg hv, if_pos hv]
      have e : Lib.signless (.ok (val (c :: r))) = .ok ((val (c :: r) : Nat) : Int) := by show (if _ then _ else _) = _; rw [if_neg (by omega)]
      rw [e]
      show (if _ then _ else _) = _
      rw [if_neg (by omega)]; rfl
    · rw [if_neg hv]
      cases hp : Lib.parseMag (c :: r) with
      | ok u =>
        have hu := hm u hp
        subst hu
        by_cases h63 : 9223372036854775808 ≤ val (c :: r)
        · have e : Lib.signless (.ok (val (c :: r))) = .range := by show (if _ then _ else _) = _; rw [if_pos h63]
          rw [e]
        · have e : Lib.signless (.ok (val (c :: r))) = .ok ((val (c :: r) : Nat) : Int) := by show (if _ then _ else _) = _; rw [if_neg h63]
          rw [e]
          show (if _ then _ else _) = _
          rw [if_pos (by omega)]
      | «syntax» => rfl
      | range => rfl
  · rw [if_pos rfl]
    show (match Lib.atoiAll (45 :: l) with
      | .ok v => if v < -1000000000000000000 ∨ 1000000000000000000 < v then ((0, false) : Int × Bool) else (v, true)
      | _ => (0, false)) = _
    rw [Lib.atoiAll_minus]
    by_cases hv : val l ≤ 1000000000000000000
    · rw [hg hv, if_pos hv]
      have e : Lib.signed (.ok (val l)) = .ok (-((val l : Nat) : Int)) := by show (if _ then _ else _) = _; rw [if_neg (by omega)]
      rw [e]
      show (if _ then _ else _) = _
      rw [if_neg (by omega)]; rfl
    · rw [if_neg hv]
      cases hp : Lib.parseMag l with
      | ok u =>
        have hu := hm u hp
        subst hu
        by_cases h63 : 9223372036854775808 < val l
        · have e : Lib.signed (.ok (val l)) = .range := by show (if _ then _ else _) = _; rw [if_pos h63]
          rw [e]
        · have e : Lib.signed (.ok (val l)) = .ok (-((val l : Nat) : Int)) := by show (if _ then _ else _) = _; rw [if_neg h63]
          rw [e]
          show (if _ then _ else _) = _
          rw [if_pos (by omega)]
      | «syntax» => rfl
      | range => rfl

theorem not_digs {l : List UInt8} {b : UInt8} (hb : b ∈ l) (h : ¬ IsD b) : ¬ Digs l := fun g => h (g b hb)
theorem head_digs {l r : List UInt8} (h : Digs l) (h0 : l ≠ []) : (l ++ r).head? ≠ some 43 ∧ (l ++ r).head? ≠ some 45 := by
  cases l with
  | nil => exact absurd rfl h0
  | cons c t =>
    have hc := h.cons.1
    unfold IsD at hc
    constructor <;> (rw [List.cons_append, List.head?_cons]; intro e; rw [Option.some.inj e] at hc; revert hc; decide)
/-- strconv's reading of a decimal's text is the decimal's value. -/
theorem whole_text (d : DecV) : wholeI (textR d) = wholeR d := by
  unfold textR wholeR
  by_cases ok : d.Ok
  · rw [if_pos ok]
    by_cases hn : d.dig = []
    · have e := ok.nil hn
      subst e
      rw [if_pos hn]
      have e1 : val DecV.zero.dig * 10 ^ DecV.zero.exp.toNat = 0 := rfl
      rw [if_pos ⟨ok, by decide, by rw [e1]; omega⟩, e1]
      rfl
    · rw [if_neg hn]
      obtain ⟨p1, p2, p3⟩ := ok.pos hn
      have hd := ok.digs
      have hl := List.length_pos_iff.2 hn
      have hsg : signOf d = if d.neg then [45] else [] := rfl
      have hmag : d.mag = d.exp + d.dig.length - 1 := rfl
      have hpow := pos_of_head hd hn p2
      by_cases hc : d.mag < -7 ∨ 20 < d.mag
      · rw [if_pos hc, hsg]
        have h1 : ¬ Digs (sciOf d) := by
          unfold sciOf
          apply not_digs (b := 101)
          · rw [List.mem_append]; right; split <;> simp
          · unfold IsD; decide
        have ht : d.dig.take 1 ≠ [] := by
          intro e
          rw [List.take_eq_nil_iff] at e
          rcases e with e | e
          · omega
          · exact hn e
        have h2 : (sciOf d).head? ≠ some 43 ∧ (sciOf d).head? ≠ some 45 := by
          unfold sciOf
          rw [List.append_assoc]
          exact head_digs (fun b hb => hd b (List.mem_of_mem_take hb)) ht
        rw [whole_not d.neg h1 h2.1 h2.2]
        rw [if_neg]
        rintro ⟨_, g1, g2⟩
        have h3 : 10 ^ 20 ≤ val d.dig * 10 ^ d.exp.toNat := by
          have h4 : 10 ^ 20 ≤ 10 ^ (d.dig.length - 1 + d.exp.toNat) := Nat.pow_le_pow_right (by omega) (by omega)
          rw [Nat.pow_add] at h4
          exact Nat.le_trans h4 (Nat.mul_le_mul_right _ hpow)
        omega
      · rw [if_neg hc, hsg]
        by_cases he : 0 ≤ d.exp
        · have e1 : plainOf d = d.dig ++ List.replicate d.exp.toNat 48 := by unfold plainOf; rw [if_pos he]
          rw [e1, whole_digs d.neg (hd.append (val_zeros _).2) (by simp [hn]), val_pad]
          by_cases hv : val d.dig * 10 ^ d.exp.toNat ≤ 1000000000000000000
          · rw [if_pos hv]; exact (if_pos ⟨ok, he, hv⟩).symm
          · rw [if_neg hv]; exact (if_neg (fun g => hv g.2.2)).symm
        · have h1 : ¬ Digs (plainOf d) := by
            unfold plainOf
            rw [if_neg he]
            apply not_digs (b := 46)
            · split <;> simp
            · unfold IsD; decide
          have h2 : (plainOf d).head? ≠ some 43 ∧ (plainOf d).head? ≠ some 45 := by
            unfold plainOf
            rw [if_neg he]
            split
            · next hm =>
              have ht : d.dig.take (d.mag + 1).toNat ≠ [] := by
                intro e
                rw [List.take_eq_nil_iff] at e
                rcases e with e | e
                · omega
                · exact hn e
              rw [List.append_assoc]
              exact head_digs (fun b hb => hd b (List.mem_of_mem_take hb)) ht
            · exact ⟨by simp, by simp⟩
          rw [whole_not d.neg h1 h2.1 h2.2]
          exact (if_neg (fun g => he g.2.1)).symm
  · rw [if_neg ok, if_neg (fun g => ok g.1)]
    rfl

end Go.Proofs.YtpkmhojcccpolaaDoor

/- spec.DecWhole. Condition: at most 1048576 digits. -/
namespace Go.Proofs.YtpkmhojcccpolaaDoor
set_option linter.unusedVariables false
open Go.RowKit

/-- An answer of an int and a bool. -/
def AnsIB (p : Int × Bool) (w : World) (r : Ending) (w' : World) : Prop := r = .returned (.tuple #[.int .i64 p.1, .bool p.2]) ∧ Below w.heap.size w w'
abbrev ten18 : List UInt8 := [49, 48, 48, 48, 48, 48, 48, 48, 48, 48, 48, 48, 48, 48, 48, 48, 48, 48, 48]
theorem ten18_val : val ten18 = 1000000000000000000 := by decide
theorem ten18_nat : natOf 1000000000000000000 = ten18 := by
  have := canon_eq (l := ten18) (fun b hb => by
    simp only [ten18, List.mem_cons, List.not_mem_nil, or_false] at hb
    unfold IsD
    rcases hb with h | h | h | h | h | h | h | h | h | h | h | h | h | h | h | h | h | h | h <;> (subst h; decide)) ⟨by simp, .inr (by simp)⟩
  rwa [ten18_val] at this
theorem val_take_le (l : List UInt8) (k : Nat) : val (l.take k) ≤ val l := by
  have h := val_append (l.take k) (l.drop k)
  rw [List.take_append_drop] at h
  have hp : 1 ≤ 10 ^ (l.drop k).length := Nat.pow_pos (by omega)
  have h1 : val (l.take k) * 1 ≤ val (l.take k) * 10 ^ (l.drop k).length := Nat.mul_le_mul_left _ hp
  omega

set_option maxHeartbeats 2000000 in
set_option maxRecDepth 100000 in
theorem specDecWhole (n : Bool) (s : ByteArray) (e : Int) (w : World) (hs : s.size ≤ 1048576) (b1 : -9223372036854775808 ≤ e) (b2 : e ≤ 9223372036854775807) :
    Calls Tryd.prog 21 #[.agg #[.bool n, .string s, .int .i64 e]] w (AnsIB (wholeR (dOf n s e)) w) := by
  obtain ⟨R, hR⟩ : ∃ R, wholeR (dOf n s e) = R := ⟨_, rfl⟩
  rw [hR]
  unfold wholeR at hR
  have HR := Lib.hid hR
  clear hR
  have KA0 := DecAt.new w n s e
  have B0 : Below w.heap.size w (w.alloc (.cells #[.bool n, .string s, .int .i64 e] 26)) := (Below.refl _ _).alloc (Nat.le_refl _) _
  have cO := fun W => specDecOk n s e W hs b1 b2
  go_enter Tryd.func21, Tryd.ntmps21
  go_wp2_with fail
  refine (cO _).mono ?_
  intro r w1 hr
  obtain ⟨hb, B1⟩ := AnsB.get hr
  have KA := KA0.belowS B1
  have D := below_kept B0 (Nat.le_refl _) B1
  clear cO B1 hr B0 KA0
  obtain ⟨k0, k1, k2⟩ := KA.cell
  rcases hb with ⟨rfl, hb⟩ | ⟨rfl, hb⟩
  · have HP := Lib.hid hb
    clear hb
    obtain ⟨d1, q1, x1, x2⟩ := ok_size HP.out
    have HD := Lib.hid d1
    clear d1
    by_cases he : e < 0
    · have HV : Hid (R = (0, false)) := by show _ = _; rw [← HR.out, if_neg (fun g => by have := g.2.1; change 0 ≤ e at this; omega)]
      clear HR
      go_wp2
      go_ret2
      exact ⟨by rw [HV.out]; rfl, D⟩
    · obtain ⟨k, hk⟩ : ∃ k : Nat, e.toNat = k := ⟨_, rfl⟩
      have hke : (k : Int) = e := by omega
      obtain ⟨V, hV⟩ : ∃ V, val s.data.toList * 10 ^ k = V := ⟨_, rfl⟩
      have HW : Hid (R = if V ≤ 1000000000000000000 then (if n then -(V : Int) else (V : Int), true) else (0, false)) := by
        show _ = _
        rw [← HR.out]
        have e1 : val (dOf n s e).dig * 10 ^ (dOf n s e).exp.toNat = V := by show val s.data.toList * 10 ^ e.toNat = V; rw [hk]; exact hV
        rw [e1]
        by_cases hv : V ≤ 1000000000000000000
        · rw [if_pos ⟨HP.out, by show 0 ≤ e; omega, hv⟩, if_pos hv]; rfl
        · rw [if_neg (fun g => hv g.2.2), if_neg hv]
      clear HR
      obtain ⟨z, hz⟩ : ∃ z : ByteArray, ⟨(List.replicate k 48).toArray⟩ = z := ⟨_, rfl⟩
      have lz : z.data.toList = List.replicate k 48 := by rw [← hz]
      have zz : z.size = k := by rw [← size_list, lz, List.length_replicate]
      have cZ := fun W => specZeros k W (by omega)
      unfold AnsS at cZ
      rw [hz, hke] at cZ
      obtain ⟨u, hu⟩ : ∃ u : ByteArray, s ++ z = u := ⟨_, rfl⟩
      have lu : u.data.toList = s.data.toList ++ List.replicate k 48 := by rw [← hu, ByteArray.data_append, Array.toList_append, lz]
      have su : u.size = s.size + k := by rw [← hu, ByteArray.size_append, zz]
      have hdu : Digs u.data.toList := by rw [lu]; exact HD.out.append (val_zeros k).2
      have hvu : val u.data.toList = V := by rw [lu, val_pad]; exact hV
      have HC : Hid (s.size ≠ 0 → u.data.toList = natOf V ∧ 10 ^ (u.size - 1) ≤ V) := by
        intro h0
        have hne : s.data.toList ≠ [] := fun g => h0 (by have := size_list s; rw [g] at this; simpa using this.symm)
        have hh : u.data.toList.head? ≠ some 48 := by rw [lu, head_app hne]; exact (HP.out.pos hne).2.1
        have hnu : u.data.toList ≠ [] := by rw [lu]; simp [hne]
        refine ⟨?_, ?_⟩
        · rw [← hvu]; exact (canon_eq hdu ⟨hnu, .inr hh⟩).symm
        · have := pos_of_head hdu hnu hh
          rwa [size_list, hvu] at this
      have HU : Hid (V < 10 ^ u.size) := by have := val_lt hdu; rw [size_list, hvu] at this; exact this
      have hs0e : s.size = 0 → e = 0 := fun g => by
        have hz0 := HP.out.nil (List.eq_nil_of_length_eq_zero (by rw [show (dOf n s e).dig.length = s.size from size_list s]; exact g))
        exact congrArg DecV.exp hz0
      have HS0 := Lib.hid hs0e
      clear hs0e
      by_cases hl : (19 : Int) < e + (s.size : Int)
      · have HV : Hid (R = (0, false)) := by
          show _ = _
          rw [HW.out, if_neg]
          have h1 := (HC.out (fun g => by have := HS0.out g; omega)).2
          have h2 : 10 ^ 19 ≤ 10 ^ (u.size - 1) := Nat.pow_le_pow_right (by omega) (by omega)
          omega
        clear HW HC HU cZ lu hdu hvu
        go_wp2
        go_ret2
        exact ⟨by rw [HV.out]; rfl, D⟩
      · have hsz : u.size ≤ 19 := by omega
        have hmax : s.size + z.size ≤ 9223372036854775807 := by omega
        have hul := size_list u
        have HL := Lib.hid lu
        have HSU := Lib.hid su
        have HKE := Lib.hid hke
        clear lu lz hz su hke hk
        go_wp2_with fail
        refine wp_region_kept_all (fun w' => DecAt w' w.heap.size n s e ∧ Below w.heap.size w w') (by kernel_rfl) (by kernel_rfl) (fun _ _ d _ _ h => by cases d <;> exact h) ⟨KA, D.drew⟩ ?_
        iterate 4 (refine kept_step (fun K hK => ?_); go_simp; refine ⟨_, fun W hW => .inl (by obtain ⟨h0, h1, h2⟩ := hW.1.cell; go_simp; exact rfl), hK _ ?_⟩; clear hK K)
        (refine kept_step (fun K hK => ?_); go_simp; refine ⟨_, fun W hW => .inr (.inr ⟨_, _, ?_, (cZ W).mono (fun r w' h => ⟨h.1, ⟨hW.1.belowS h.2, below_kept hW.2 (Nat.le_refl _) h.2⟩⟩)⟩), hK _ ?_⟩; (· first | (go_simp; done) | (go_simp; rfl)); clear hK K)
        (refine kept_step (fun K hK => ?_); go_simp; refine ⟨.string u, fun W hW => .inl (by first | (go_simp; done) | (go_simp; omega)), hK _ ?_⟩; clear hK K)
        (refine kept_step (fun K hK => ?_); go_simp; refine ⟨_, fun W hW => .inl (by go_simp; exact rfl), hK _ ?_⟩; clear hK K)
        refine kept_nil ?_
        rintro W ⟨h0, h1⟩
        clear KA D k0 k1 k2 cZ
        obtain ⟨k0, k1, k2⟩ := h0.cell
        by_cases hb19 : u.size = 19 ∧ u.data.toList ≠ ten18
        · have HV : Hid (R = (0, false)) := by
            show _ = _
            rw [HW.out, if_neg]
            have hs0 : s.size ≠ 0 := fun g => by
              have h1 := HS0.out g
              have h2 := HSU.out
              have h3 := HKE.out
              have h4 := hb19.1
              omega
            obtain ⟨g1, g2⟩ := HC.out hs0
            rw [hb19.1] at g2
            intro g3
            have : V = 1000000000000000000 := by have : 10 ^ (19 - 1) = 1000000000000000000 := rfl; omega
            rw [this, ten18_nat] at g1
            exact hb19.2 g1
          have e1 : ((u.size : Int) == 19) = true := by rw [beq_iff_eq]; omega
          have e2 : (u.toList == [49, 48, 48, 48, 48, 48, 48, 48, 48, 48, 48, 48, 48, 48, 48, 48, 48, 48, 48]) = false := by rw [ByteArray.toList_eq, beq_eq_false_iff_ne]; exact hb19.2
          clear HW HC HU hdu hvu hb19
          go_wp2
          go_ret2
          exact ⟨by rw [HV.out]; rfl, h1⟩
        · have hle : V ≤ 1000000000000000000 := by
            by_cases g19 : u.size = 19
            · have g2 : u.data.toList = ten18 := by
                rcases Classical.em (u.data.toList = ten18) with g | g
                · exact g
                · exact absurd ⟨g19, g⟩ hb19
              rw [g2, ten18_val] at hvu
              omega
            · have : 10 ^ u.size ≤ 10 ^ 18 := Nat.pow_le_pow_right (by omega) (by omega)
              have := HU.out
              omega
          have HV : Hid (R = (if n then -(V : Int) else (V : Int), true)) := by show _ = _; rw [HW.out, if_pos hle]
          have HE := Lib.hid hdu
          have HF := Lib.hid hvu
          have e0 : (((u.size : Int) == 19) && !(u.toList == ten18)) = false := by
            by_cases g19 : u.size = 19
            · have g2 : u.data.toList = ten18 := by
                rcases Classical.em (u.data.toList = ten18) with g | g
                · exact g
                · exact absurd ⟨g19, g⟩ hb19
              rw [show (u.toList == ten18) = true by rw [ByteArray.toList_eq, beq_iff_eq]; exact g2]
              simp
            · rw [show ((u.size : Int) == 19) = false by rw [beq_eq_false_iff_ne]; omega]
              rfl
          clear HW HC HU hdu hvu hb19
          by_cases g19 : ((u.size : Int) == 19) = true
          all_goals
            (first | (rw [g19] at e0; have e2 : (u.toList == [49, 48, 48, 48, 48, 48, 48, 48, 48, 48, 48, 48, 48, 48, 48, 48, 48, 48, 48]) = true := by simpa using e0) | (have g20 : ((u.size : Int) == 19) = false := by simpa using g19))
            clear e0
            go_wp2
            go_loopw [5, 6] (fun nv iv wr => ∃ j : Nat, j ≤ u.size ∧ iv = .int .i64 j ∧ nv = .int .i64 (val (u.data.toList.take j) : Nat) ∧ DecAt wr w.heap.size n s e ∧ Below w.heap.size w wr) (fun _ iv _ => u.size - (intOf iv).toNat)
            case atStart => exact ⟨0, Nat.zero_le _, rfl, rfl, h0, h1⟩
            case round =>
              clear h0 h1 k0 k1 k2
              obtain ⟨j, hj, rfl, rfl, KA, D⟩ := hrel
              obtain ⟨k0, k1, k2⟩ := KA.cell
              by_cases hlt : j < u.size
              · obtain ⟨x, hx⟩ : ∃ x, u[j] = x := ⟨_, rfl⟩
                have hdx : IsD x := HE.out x (by rw [← hx]; exact List.getElem_mem (l := u.data.toList) (by rw [hul]; exact hlt))
                have HT : Hid (u.data.toList.take (j + 1) = u.data.toList.take j ++ [x]) := by
                  show _ = _
                  rw [List.take_succ_eq_append_getElem (by rw [hul]; exact hlt), at_list u j hlt, hx]
                have hle2 : val (u.data.toList.take (j + 1)) ≤ V := by rw [← HF.out]; exact val_take_le _ _
                rw [HT.out, val_snoc] at hle2
                obtain ⟨d, hd⟩ : ∃ d : Nat, x.toNat - 48 = d := ⟨_, rfl⟩
                have hdv : dv x = d := hd
                rw [hdv] at hle2
                unfold IsD at hdx
                have hxi : (x.toNat : Int) - 48 = (d : Int) := by omega
                have HN : Hid (val (u.data.toList.take (j + 1)) = 10 * val (u.data.toList.take j) + d) := by show _ = _; rw [HT.out, val_snoc, hdv]
                obtain ⟨A, hA⟩ : ∃ A, val (u.data.toList.take j) = A := ⟨_, rfl⟩
                rw [hA] at hle2 HN
                have v1 := IntWalk.u8_in (d : Int) ⟨by omega, by omega⟩
                have v2 := IntWalk.i64_in (10 * (A : Int)) ⟨by omega, by omega⟩
                have v3 := IntWalk.i64_in (10 * (A : Int) + (d : Int)) ⟨by omega, by omega⟩
                have v4 := IntWalk.i64_in (d : Int) ⟨by omega, by omega⟩
                clear hd hdv
                go_wp2
                go_roundw
                case rel => exact ⟨j + 1, hlt, by go_num, by rw [HN.out]; congr 1, KA, D⟩
                case measure => simp [intOf]; omega
              · have hje : j = u.size := by omega
                have HA : Hid (val (u.data.toList.take j) = V) := by show _ = _; rw [hje, ← hul, List.take_length]; exact HF.out
                rw [HA.out]
                cases n
                · go_wp2
                  go_ret2
                  exact ⟨by rw [HV.out]; rfl, D⟩
                · go_wp2
                  go_ret2
                  exact ⟨by rw [HV.out]; rfl, D⟩
  · have HV : Hid (R = (0, false)) := by show _ = _; rw [← HR.out, if_neg (fun g => hb g.1)]
    clear HR hb
    go_wp2
    go_ret2
    exact ⟨by rw [HV.out]; rfl, D⟩

end Go.Proofs.YtpkmhojcccpolaaDoor

/- impl.DecWhole. Conditions: at most 1048576 digits; strconv's table of powers and its two errors lie as Go's text lays them. -/
namespace Go.Proofs.YtpkmhojcccpolaaDoor
set_option linter.unusedVariables false
open Go.RowKit

/-- An error, or none, lies in a variable's block. -/
def ErrAt (w : World) (g : Nat) : Prop := ∃ ev : Value, w.cell? ⟨g, 0, none⟩ = some ev ∧ (ev = .nilIface ∨ ∃ te pe, ev = .iface te pe)
theorem ErrAt.below {w w' : World} {g : Nat} (h : ErrAt w g) (hb : Below w.heap.size w w') : ErrAt w' g := by
  obtain ⟨ev, h1, h2⟩ := h
  exact ⟨ev, cell_kept h1 hb, h2⟩
theorem text_len (d : DecV) : (textR d).length ≤ 400 := by
  unfold textR
  split
  · next ok =>
    have hl := ok.len
    have he := ok.exps
    have hm : d.mag = d.exp + d.dig.length - 1 := rfl
    split
    · simp
    · split
      · have h1 : (natOf d.mag.natAbs).length ≤ 30 := nat20 (n := d.mag) (by omega) (by omega)
        unfold signOf sciOf
        split <;> split <;> split <;> simp <;> omega
      · unfold signOf plainOf
        split <;> split <;> (try split) <;> simp <;> omega
  · simp

/-- What Atoi answers, whatever it reads: the number and whether there is an error. -/
theorem implAtoi (t : ByteArray) (w : World) (ht : t.size ≤ 1048576) (h1 : ErrAt w 0) (h2 : ErrAt w 1) :
    Calls Tryd.prog 51 #[.string t] w fun r w' => ∃ v ev, r = .returned (.tuple #[.int .i64 v, ev]) ∧ Below w.heap.size w w' ∧
      ((ev = .nilIface ∧ Lib.atoiAll t.data.toList = .ok v) ∨ ((∃ te pe, ev = .iface te pe) ∧ wholeI t.data.toList = (0, false))) := by
  cases ha : Lib.atoiAll t.data.toList with
  | ok v =>
    refine (Tryd.strconv_Atoi_ok t (by omega) v ha w).mono ?_
    rintro r w' ⟨rfl, h⟩
    refine ⟨v, .nilIface, rfl, ?_, .inl ⟨rfl, rfl⟩⟩
    rcases h with rfl | ⟨u, rfl⟩
    · exact Below.refl _ _
    · exact Lib.bytesWorld_below _ _ _
  | «syntax» =>
    obtain ⟨ev, e1, e2⟩ := h1
    refine (Tryd.strconv_Atoi_syntax t (by omega) ha ev w e1 e2).mono ?_
    rintro r w' ⟨N, rfl, _, _, hb⟩
    exact ⟨_, _, rfl, hb, .inr ⟨⟨_, _, rfl⟩, by unfold wholeI; rw [ha]⟩⟩
  | range =>
    obtain ⟨ev, e1, e2⟩ := h2
    refine (Tryd.strconv_Atoi_range t (by omega) ha ev w e1 e2).mono ?_
    rintro r w' ⟨N, rfl, _, _, hb⟩
    exact ⟨_, _, rfl, hb, .inr ⟨⟨_, _, rfl⟩, by unfold wholeI; rw [ha]⟩⟩

set_option maxHeartbeats 2000000 in
set_option maxRecDepth 100000 in
theorem implDecWhole (n : Bool) (s : ByteArray) (e : Int) (w : World) (hs : s.size ≤ 1048576) (b1 : -9223372036854775808 ≤ e) (b2 : e ≤ 9223372036854775807)
    (hT : Lib.TabBelow Tryd.prog w.heap.size w "internal/strconv.uint64pow10" .u64 Lib.pow10Tab) (h1 : ErrAt w 0) (h2 : ErrAt w 1) :
    Calls Tryd.prog 22 #[.agg #[.bool n, .string s, .int .i64 e]] w (AnsIB (wholeR (dOf n s e)) w) := by
  rw [← whole_text]
  have KA0 := DecAt.new w n s e
  have B0 : Below w.heap.size w (w.alloc (.cells #[.bool n, .string s, .int .i64 e] 26)) := (Below.refl _ _).alloc (Nat.le_refl _) _
  have cT : ∀ W, Below w.heap.size w W → Calls Tryd.prog 15 #[.agg #[.bool n, .string s, .int .i64 e]] W (AnsS (textR (dOf n s e)) W) := fun W hW => implDecText n s e W hs b1 b2 (fun V hV => hT V (below_kept hW (Nat.le_refl _) hV))
  have hlen := text_len (dOf n s e)
  obtain ⟨t, ht⟩ : ∃ t : ByteArray, ⟨(textR (dOf n s e)).toArray⟩ = t := ⟨_, rfl⟩
  have lt : t.data.toList = textR (dOf n s e) := by rw [← ht]
  have zt : t.size ≤ 400 := by rw [← size_list, lt]; exact hlen
  unfold AnsS at cT
  rw [ht] at cT
  rw [← lt]
  have cA := fun W h h' => implAtoi t W (by omega) h h'
  obtain ⟨k0, k1, k2⟩ := KA0.cell
  clear ht lt hlen hT
  unfold AnsIB
  go_enter Tryd.func22, Tryd.ntmps22
  go_wp2_with fail
  refine (cT _ B0).mono ?_
  rintro r w1 ⟨rfl, B1⟩
  have D1 := below_kept B0 (Nat.le_refl _) B1
  clear cT B1 B0 KA0 k0 k1 k2
  go_wp2_with fail
  refine (cA _ (h1.below D1) (h2.below D1)).mono ?_
  rintro r w2 ⟨v, ev, rfl, B2, hc⟩
  have D2 := below_kept D1 (Nat.le_refl _) B2
  clear cA B2 D1 h1 h2
  rcases hc with ⟨rfl, ha⟩ | ⟨⟨te, pe, rfl⟩, hw⟩
  · have HW : Hid (wholeI t.data.toList = if v < -1000000000000000000 ∨ 1000000000000000000 < v then (0, false) else (v, true)) := by show _ = _; unfold wholeI; rw [ha]
    clear ha
    by_cases c1 : v < -1000000000000000000
    · have HV : Hid (wholeI t.data.toList = (0, false)) := by show _ = _; rw [HW.out, if_pos (.inl c1)]
      clear HW
      go_wp2
      go_ret2
      exact ⟨by rw [HV.out]; rfl, D2⟩
    · by_cases c2 : 1000000000000000000 < v
      · have HV : Hid (wholeI t.data.toList = (0, false)) := by show _ = _; rw [HW.out, if_pos (.inr c2)]
        clear HW
        go_wp2
        go_ret2
        exact ⟨by rw [HV.out]; rfl, D2⟩
      · have HV : Hid (wholeI t.data.toList = (v, true)) := by show _ = _; rw [HW.out, if_neg (by omega)]
        clear HW
        go_wp2
        go_ret2
        exact ⟨by rw [HV.out]; rfl, D2⟩
  · have HV := Lib.hid hw
    clear hw
    go_wp2
    go_ret2
    exact ⟨by rw [HV.out]; rfl, D2⟩

end Go.Proofs.YtpkmhojcccpolaaDoor

/- The tables and the two errors of strconv that DecWhole's road names, as Go's text lays them. -/
namespace Go.Proofs.YtpkmhojcccpolaaDoor
open Go.Shelf Go.RowKit
namespace Num
abbrev numErr : List (String × DataW Unit) := [("math/bits.deBruijn32tab", Rows.laid_math_bits_deBruijn32tab), ("math/bits.deBruijn64tab", Rows.laid_math_bits_deBruijn64tab), ("internal/strconv.uint64pow10", Rows.laid_internal_strconv_uint64pow10), ("strconv.ErrRange", Rows.laid_strconv_ErrRange), ("strconv.ErrSyntax", Rows.laid_strconv_ErrSyntax)]
noncomputable def lowW : Nat := (World.holding Tryd.prog default ⟨#[], #[], []⟩).heap.size
noncomputable def laidWorldW (os : Os) : World :=
  let w0 := World.holding Tryd.prog os ⟨#[.cells #[.string ⟨#[118, 97, 108, 117, 101, 32, 111, 117, 116, 32, 111, 102, 32, 114, 97, 110, 103, 101]⟩] 148, .cells #[.string ⟨#[105, 110, 118, 97, 108, 105, 100, 32, 115, 121, 110, 116, 97, 120]⟩] 148], #[], []⟩
  let put (h : Array Obj) (g : Nat) (cs : Array Value) : Array Obj := h.modify g fun
    | .cells _ t frozen => .cells cs t frozen
    | o => o
  let h1 := put w0.heap 6 (cellsOf Rows.laid_math_bits_deBruijn32tab)
  let h2 := put h1 7 (cellsOf Rows.laid_math_bits_deBruijn64tab)
  let h3 := put h2 3 (cellsOf Rows.laid_internal_strconv_uint64pow10)
  let h4 := put h3 1 #[.iface 146 (.pointer (some ⟨lowW, 0, none⟩))]
  let h5 := put h4 0 #[.iface 146 (.pointer (some ⟨lowW + 1, 0, none⟩))]
  { w0 with heap := h5 }
theorem laid_metW (os : Os) (args : Array Value) : laidMet Tryd.prog numErr ((laidWorldW os).forCall (fun _ _ => 0) ⟨#[], args, []⟩).memory :=
  laidMet_of_run3 8 (by kernel_rfl) (by kernel_rfl) (by kernel_rfl)
/-- What is known of such a world. -/
def WholeLaid (W : World) : Prop := Lib.TabIs Tryd.prog W "internal/strconv.uint64pow10" .u64 Lib.pow10Tab ∧ ErrAt W 0 ∧ ErrAt W 1
theorem star_err : "*" ++ "errors.errorString" = "*errors.errorString" := by decide
theorem row_err (u : TypeId) (h : Tryd.prog.typeName? 3 u = some "*errors.errorString") : u = 146 :=
  typeName_ptr_named (nm := "errors.errorString") (by rw [star_err]; kernel_rfl) (by kernel_rfl) (by decide) u (by rw [star_err]; exact h)
theorem cellsErr : Tryd.prog.cellsOf 148 = 1 := by kernel_rfl
theorem cellsStr : Tryd.prog.cellsOf 9 = 1 := by kernel_rfl
theorem tab_of_laidW {W : World} (hL : laidMet Tryd.prog numErr W) : WholeLaid W := by
  refine ⟨?_, ?_, ?_⟩
  · exact tab_of_reads (g := 3) (t := 142) (e := 112) (n := 20) (by kernel_rfl) (by kernel_rfl) (by kernel_rfl) (by kernel_rfl) (by kernel_rfl) (by kernel_rfl) (by rw [← pow_eq]; exact Lib.laidMet.reads hL (.tail _ (.tail _ (.head _))))
  · have hg : Tryd.prog.globalNamed "strconv.ErrSyntax" = some 0 := by kernel_rfl
    obtain ⟨a, s, hv, _⟩ := laid_sentinel hL.tail.tail.tail.tail hg (by kernel_rfl) Tryd.underlying57 row_err Tryd.underlying146 Tryd.underlying148 rfl rfl Tryd.underlying9 cellsErr cellsStr
    exact ⟨_, by have := World.var?_cell hg hv 0; simpa using this, .inr ⟨_, _, rfl⟩⟩
  · have hg : Tryd.prog.globalNamed "strconv.ErrRange" = some 1 := by kernel_rfl
    obtain ⟨a, s, hv, _⟩ := laid_sentinel hL.tail.tail.tail hg (by kernel_rfl) Tryd.underlying57 row_err Tryd.underlying146 Tryd.underlying148 rfl rfl Tryd.underlying9 cellsErr cellsStr
    exact ⟨_, by have := World.var?_cell hg hv 0; simpa using this, .inr ⟨_, _, rfl⟩⟩
end Num
end Go.Proofs.YtpkmhojcccpolaaDoor
