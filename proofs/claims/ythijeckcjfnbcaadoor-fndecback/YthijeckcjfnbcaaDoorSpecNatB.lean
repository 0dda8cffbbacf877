/- spec.l02Mul, spec.NatMul. Conditions: naturals; at most 1048576 bytes. -/
import Derived.Test.YthijeckcjfnbcaaDoorSpecNatA
import Derived.StillTailTactics
namespace Go.Proofs.YthijeckcjfnbcaaDoor
set_option linter.unusedVariables false
open Go.RowKit
open Go.Lib (byteCells)

def mulOf (s t : ByteArray) : List UInt8 × Bool := if NatS s ∧ NatS t then fits (nv s * nv t) else ([], false)

theorem Tryd.infoIntN : (Tryd.prog.info? 3).map (fun i => (i.zero, i.size, i.bytes)) = some (some (.int .i64 0), 1, 8) := by kernel_rfl

set_option maxHeartbeats 2000000 in
set_option maxRecDepth 100000 in
theorem specDigitS (s : ByteArray) (k : Nat) (w : World) (hs : s.size ≤ 1048576) (hk : k ≤ 10000000) (hd : Digs s.data.toList) : Calls Tryd.prog 74 #[.string s, .int .i64 k] w fun e w' => e = .returned (.int .i64 (digAt s.data.toList k : Nat)) ∧ w' = w := by
  have hsl := size_list s
  by_cases h : k < s.size
  · obtain ⟨j, hj⟩ : ∃ j : Nat, s.size - 1 - k = j := ⟨_, rfl⟩
    have hjs : j < s.size := by omega
    obtain ⟨x, hx⟩ : ∃ x, s[j] = x := ⟨_, rfl⟩
    have hdx : IsD x := hd x (by rw [← hx]; exact List.getElem_mem (l := s.data.toList) (by rw [hsl]; exact hjs))
    have HE : Hid (digAt s.data.toList k = x.toNat - 48) := by
      show _ = _
      unfold digAt
      rw [if_pos (by rw [hsl]; exact h), hsl, hj]
      simp only [List.getD, List.getElem?_eq_getElem (show j < s.data.toList.length by rw [hsl]; exact hjs), Option.getD_some]
      rw [at_list s j hjs, hx]; rfl
    unfold IsD at hdx
    have e1 : (s.size : Int) - 1 - (k : Int) = (j : Int) := by omega
    have e2 : (x.toNat : Int) - 48 = ((x.toNat - 48 : Nat) : Int) := by omega
    obtain ⟨h48, h57⟩ := hdx
    have v1 := IntWalk.u8_in ((x.toNat : Int) - 48) ⟨by omega, by omega⟩
    clear hd hsl hj
    go_enter Tryd.func74, Tryd.ntmps74
    go_wp2
    go_ret
    exact ⟨by rw [HE.out, ← e2]; rfl, rfl⟩
  · have HE : Hid (digAt s.data.toList k = 0) := by
      show _ = _
      unfold digAt
      rw [if_neg (by rw [hsl]; exact h)]
    clear hd hsl
    go_enter Tryd.func74, Tryd.ntmps74
    go_wp2
    go_ret
    exact ⟨by rw [HE.out]; rfl, rfl⟩

def intCells (L : List Nat) : List Value := L.map fun n : Nat => Value.int .i64 (n : Int)
/-- The sums of the products of digits, so far. -/
structure Sums (la lb : List UInt8) (L : List Nat) (T B : Nat) : Prop where
  len : L.length = la.length + lb.length + 1
  sum : wsum L = T
  bound : ∀ n ∈ L, n ≤ B

theorem sums_set {la lb : List UInt8} {L : List Nat} {T B m v : Nat} (h : Sums la lb L T B) (hm : m < L.length) (hv : v ≤ 81) : Sums la lb (L.set m (L[m] + v)) (T + v * 10 ^ m) (B + 81) :=
  ⟨by rw [List.length_set]; exact h.len, by rw [wsum_set L m v hm, h.sum], fun n hn => by
    rcases List.mem_or_eq_of_mem_set hn with h1 | h1
    · exact Nat.le_trans (h.bound n h1) (by omega)
    · rw [h1]; have := h.bound _ (List.getElem_mem hm); omega⟩
theorem int_set (L : List Nat) (m v : Nat) : (intCells L).set m (.int .i64 (v : Int)) = intCells (L.set m v) := by
  unfold intCells; rw [List.map_set]

def MulRel (la lb : List UInt8) (w : World) (n : Nat) (iv : Value) (wr : World) : Prop :=
  ∃ (i : Nat) (L : List Nat), i ≤ la.length ∧ iv = .int .i64 (i : Int) ∧ Sums la lb L (low la i * val lb) (81 * 600 * i) ∧ wr.ownsRow w.heap.size 3 1 (.slice (some ⟨w.heap.size, 0, none⟩) n n) n (intCells L) ∧ Below w.heap.size w wr
def MulIn (la lb : List UInt8) (w : World) (n i x : Nat) (kv : Value) (wr : World) : Prop :=
  ∃ (k : Nat) (L : List Nat), k ≤ lb.length ∧ kv = .int .i64 (k : Int) ∧ Sums la lb L (low la i * val lb + x * 10 ^ i * low lb k) (81 * 600 * i + 81 * k) ∧ wr.ownsRow w.heap.size 3 1 (.slice (some ⟨w.heap.size, 0, none⟩) n n) n (intCells L) ∧ Below w.heap.size w wr
def MulOut (L : List Nat) (w : World) (v cv kv : Value) (wr : World) : Prop :=
  ∃ (k c : Nat) (acc : List UInt8) (g cp : Nat), k ≤ L.length ∧ kv = .int .i64 (k : Int) ∧ cv = .int .i64 (c : Int) ∧ v = .slice (some ⟨g, 0, none⟩) acc.length cp ∧ wr.ownsRow w.heap.size 5 1 v acc.length (byteCells acc) ∧
    Digs acc ∧ acc.length = k ∧ c ≤ 4000000 ∧ val acc + c * 10 ^ k = wsum (L.take k) ∧ Below w.heap.size w wr



end Go.Proofs.YthijeckcjfnbcaaDoor

/- spec.l02Round. Conditions: a natural, n at most 600. -/
namespace Go.Proofs.YthijeckcjfnbcaaDoor
set_option linter.unusedVariables false
open Go.RowKit
open Go.Lib (byteCells)

set_option maxHeartbeats 400000 in
set_option maxRecDepth 100000 in
theorem specTrimS (s : ByteArray) (w : World) (hs : s.size ≤ 1048576) : Calls Tryd.prog 51 #[.string s] w fun e w' => e = .returned (.string ⟨(trim s.data.toList).toArray⟩) ∧ w' = w := by
  go_enter Tryd.func51, Tryd.ntmps51
  go_wp2
  go_loopw [0] (fun v wr => ∃ t : ByteArray, v = .string t ∧ t.size ≤ s.size ∧ trim t.data.toList = trim s.data.toList ∧ wr = w) (fun v _ => strSize v)
  case atStart => exact ⟨s, rfl, Nat.le_refl _, rfl, rfl⟩
  case round =>
    obtain ⟨t, rfl, hts, htr, rfl⟩ := hrel
    have HT := Lib.hid htr
    have hsl := Lib.hid (size_list t)
    clear htr
    by_cases h1 : 1 < t.size
    · obtain ⟨x, hx⟩ : ∃ x, t[0] = x := ⟨_, rfl⟩
      by_cases hx48 : x = 48
      · subst hx48
        have HE : Hid (trim (t.extract 1 t.size).data.toList = trim t.data.toList) := trim_step t h1 hx
        have HS : Hid ((t.extract 1 t.size).size = t.size - 1) := by show _ = _; simp
        go_wp2
        go_roundw
        case rel => exact ⟨_, rfl, by rw [HS.out]; omega, HE.out.trans HT.out, by first | rfl | trivial⟩
        case measure => show (t.extract 1 t.size).size < t.size; rw [HS.out]; omega
      · have e1 : ((x.toNat : Int) == 48) = false := beq_eq_false_iff_ne.2 (fun e => hx48 (UInt8.toNat_inj.1 (by show x.toNat = 48; omega)))
        have HE : Hid (trim t.data.toList = t.data.toList) := trim_stop t h1 (by rw [hx]; exact hx48)
        have hte : t.toList.isEmpty = false := list_full t (by omega)
        go_wp2
        go_ret
        exact ⟨by rw [← HT.out, HE.out]; rfl, rfl⟩
    · by_cases h0 : t.size = 0
      · obtain rfl : t = ⟨#[]⟩ := ByteArray.ext (Array.eq_empty_of_size_eq_zero h0)
        go_wp2
        go_ret
        exact ⟨by rw [← HT.out]; rfl, rfl⟩
      · have hte : t.toList.isEmpty = false := list_full t h0
        have HE : Hid (trim t.data.toList = t.data.toList) := trim_short t (by omega)
        go_wp2
        go_ret
        exact ⟨by rw [← HT.out, HE.out]; rfl, rfl⟩

theorem digAt_zero (q : Nat) : digAt (natOf q) 0 = q % 10 := by
  have h1 : low (natOf q) 1 = digAt (natOf q) 0 := by have := low_succ (natOf q) 0; simpa [low_zero] using this
  rw [← h1]
  unfold low
  by_cases h : q < 10
  · rw [natOf_small h]; simp [val, dv_dig h]; omega
  · rw [natOf_big h]
    rw [show (natOf (q / 10) ++ [dig (q % 10)]).length - 1 = (natOf (q / 10)).length by simp]
    rw [List.drop_append_of_le_length (Nat.le_refl _), List.drop_length]
    simp [val, dv_dig (show q % 10 < 10 by omega)]

/-- The tail against half a step, as the strings are held against each other. -/
theorem half_facts {TL : List UInt8} {r n : Nat} (hd : Digs TL) (hl : TL.length = n + 1) (hv : val TL = r) :
    ((!(Op.bytesLess TL (53 :: List.replicate n 48) || (TL == (53 :: List.replicate n 48)))) = true ↔ 10 ^ (n + 1) < 2 * r) ∧ ((TL == (53 :: List.replicate n 48)) = true ↔ 2 * r = 10 ^ (n + 1)) := by
  obtain ⟨h1, h2, h3⟩ := half_val n
  have e : 10 ^ (n + 1) = 10 * 10 ^ n := by rw [Nat.pow_succ, Nat.mul_comm]
  have he : (TL == (53 :: List.replicate n 48)) = true ↔ 2 * r = 10 ^ (n + 1) := by
    rw [beq_iff_eq]
    constructor
    · intro h
      rw [h, h1] at hv
      omega
    · intro h
      exact same_len_eq hd h2 (by rw [h3, hl]) (by rw [h1, hv]; omega)
  have hlt : Op.bytesLess TL (53 :: List.replicate n 48) = true ↔ 2 * r < 10 ^ (n + 1) := by
    rw [less_iff, ← same_len_lt hd h2 (by rw [h3, hl]), h1, hv, e]; omega
  refine ⟨?_, he⟩
  rw [Bool.not_eq_true', Bool.or_eq_false_iff, ← Bool.not_eq_true, ← Bool.not_eq_true, hlt, he]
  omega

theorem binOp_gtrN (t : TypeId) (a b : ByteArray) : binOp .gtr t (.string a) (.string b) = pure (.bool (!(Op.bytesLess a.toList b.toList || (a.toList == b.toList)))) := by simp [binOp, Op.stringOp]

set_option maxHeartbeats 400000 in
set_option maxRecDepth 100000 in
theorem specRound (s : ByteArray) (n : Nat) (w : World) (hs : NatS s) (hn : n ≤ 600) : Calls Tryd.prog 52 #[.string s, .int .i64 n] w (AnsS (natOf (rnd (nv s) n)) w) := by
  rcases n with _ | p
  · have cT := specTrim s w (by have := hs.2.2; omega)
    rw [trim_eq hs.2.1] at cT
    have HE : Hid (rnd (nv s) 0 = val s.data.toList) := by show _ = _; unfold rnd; rw [if_neg (by simp; omega)]; simp [nv]
    unfold AnsS at cT
    clear hs
    go_enter Tryd.func52, Tryd.ntmps52
    go_wp2_with fail
    refine cT.mono ?_
    rintro e w2 ⟨rfl, B2⟩
    clear cT
    go_wp2
    go_ret
    exact ⟨by rw [HE.out]; rfl, B2⟩
  · obtain ⟨n, hnp⟩ : ∃ n, p + 1 = n := ⟨_, rfl⟩
    have cZ := fun W => specZeros n W (by omega)
    have cZ2 := fun W => specZeros p W (by omega)
    unfold AnsS at cZ cZ2
    have hs6 := hs.2.2
    have hni : ((n : Int) == 0) = false := beq_eq_false_iff_ne.2 (by omega)
    have hpi : (n : Int) - 1 = (p : Int) := by omega
    have hzl : (⟨(List.replicate n (48 : UInt8)).toArray⟩ : ByteArray).size = n := by show (List.replicate n (48 : UInt8)).length = n; simp
    have hul : ((⟨(List.replicate n (48 : UInt8)).toArray⟩ : ByteArray) ++ s).data.toList = List.replicate n 48 ++ s.data.toList := by rw [ByteArray.data_append, Array.toList_append]
    have huz : ((⟨(List.replicate n (48 : UInt8)).toArray⟩ : ByteArray) ++ s).size = n + s.size := by rw [ByteArray.size_append, hzl]
    have hP := parts_of hs.2.1 n
    simp only [← hul, size_list] at hP
    obtain ⟨z, hz⟩ : ∃ z : ByteArray, ⟨(List.replicate n (48 : UInt8)).toArray⟩ = z := ⟨_, rfl⟩
    rw [hz] at cZ hzl hul huz hP
    obtain ⟨u, hu⟩ : ∃ u, z ++ s = u := ⟨_, rfl⟩
    rw [hu] at hul huz hP
    obtain ⟨p1, p2, p3, p4, p5⟩ := hP
    have e0 : (u.extract 0 s.size).data.toList = u.data.toList.take s.size := by
      rw [ByteArray.data_extract, Array.toList_extract]
      simp [List.extract_eq_take_drop]
    have e1 : (u.extract s.size u.size).data.toList = u.data.toList.drop s.size := Lib.ext_list u s.size
    obtain ⟨hd, hhd⟩ : ∃ hd : ByteArray, ⟨(natOf (nv s / 10 ^ n)).toArray⟩ = hd := ⟨_, rfl⟩
    have cT : ∀ W, Calls Tryd.prog 51 #[.string (u.extract 0 s.size)] W fun e w' => e = .returned (.string hd) ∧ w' = W := fun W => by
      have := specTrimS (u.extract 0 s.size) W (by simp; omega)
      rw [e0, trim_eq p1, p4] at this
      rw [← hhd]; exact this
    obtain ⟨tl, htl⟩ : ∃ tl, u.extract s.size u.size = tl := ⟨_, rfl⟩
    rw [← e1, htl] at p2 p3 p5
    obtain ⟨zp, hzp⟩ : ∃ zp : ByteArray, ⟨(List.replicate p (48 : UInt8)).toArray⟩ = zp := ⟨_, rfl⟩
    rw [hzp] at cZ2
    have hzps : zp.size = p := by rw [← hzp]; show (List.replicate p (48 : UInt8)).length = p; simp
    obtain ⟨hf, hhf⟩ : ∃ hf : ByteArray, (⟨#[53]⟩ : ByteArray) ++ zp = hf := ⟨_, rfl⟩
    have hfl : hf.toList = 53 :: List.replicate p 48 := by rw [ByteArray.toList_eq, ← hhf, ByteArray.data_append, Array.toList_append, ← hzp]; rfl
    have p5' : val tl.data.toList = nv s % 10 ^ n := p5
    have hH := half_facts p2 (by rw [p3, hnp]) p5'
    rw [hnp, ← ByteArray.toList_eq, ← hfl] at hH
    have hdl : hd.data.toList = natOf (nv s / 10 ^ n) := by rw [← hhd]
    have hq : nv s / 10 ^ n ≤ nv s := Nat.div_le_self _ _
    have hdz : hd.size ≤ 600 := by
      rw [← size_list, hdl]
      have h1 := natOf_len_mono hq
      rw [← hs.eq, size_list] at h1
      omega
    have cD : ∀ W, Calls Tryd.prog 74 #[.string hd, .int .i64 0] W fun e w' => e = .returned (.int .i64 ((nv s / 10 ^ n % 10 : Nat) : Int)) ∧ w' = W := fun W => by
      have := specDigitS hd 0 W (by omega) (by omega) (by rw [hdl]; exact natOf_digs _)
      rw [hdl, digAt_zero] at this
      exact this
    have cA : ∀ W, Calls Tryd.prog 75 #[.string hd, .string ⟨#[49]⟩] W (AnsS (natOf (nv s / 10 ^ n + 1)) W) := fun W => by
      have := specAdd hd ⟨#[49]⟩ W (by omega) (by decide) (by rw [hdl]; exact natOf_digs _) (digs_one ⟨by decide, by decide⟩)
      rw [hdl, val_natOf] at this
      exact this
    unfold AnsS at cA
    have HR : Hid (rnd (nv s) (p + 1) = if 10 ^ n < 2 * (nv s % 10 ^ n) ∨ 2 * (nv s % 10 ^ n) = 10 ^ n ∧ nv s / 10 ^ n % 2 = 1 then nv s / 10 ^ n + 1 else nv s / 10 ^ n) := by show _ = _; rw [hnp]; rfl
    have ecast : ((p + 1 : Nat) : Int) = (n : Int) := by omega
    have HQ := Lib.hid hhd
    have HH := Lib.hid hH
    clear hnp hH hhd hdl p1 p2 p3 p4 p5 p5' e0 e1 hul hfl hz hq hs
    have hsub : (u.size : Int) - (n : Int) = (s.size : Int) := by omega
    have hus1 : (s.size : Int) ≤ (u.size : Int) := by omega
    have hus4 : (0 : Int) ≤ (s.size : Int) := by omega
    have v1 := IntWalk.i64_in ((u.size : Int) - (n : Int)) ⟨by omega, by omega⟩
    have v2 := IntWalk.i64_in (s.size : Int) ⟨by omega, by omega⟩
    have hu1 : u.size ≤ 1200 := by omega
    clear huz
    generalize nv s / 10 ^ n = q at *
    generalize nv s % 10 ^ n = r at *
    generalize rnd (nv s) (p + 1) = R at *
    rw [ecast]
    clear ecast
    go_enter Tryd.func52, Tryd.ntmps52
    go_wp2_with fail
    refine (cZ _).mono ?_
    rintro e w2 ⟨rfl, B2⟩
    clear cZ
    go_wp2_with fail
    refine wp_region_still_lit (by kernel_rfl) (by kernel_rfl) ?_
    iterate 6 still_step
    refine wpStill_step (fun K hK => ?_)
    go_simp
    refine ⟨.string hd, cT _, hK _ ?_⟩
    clear hK K
    iterate 8 still_step
    refine wpStill_nil ?_
    change Exit.then _ _ _ _ w2.drew
    have D2 := B2.drew
    clear B2 cT
    generalize w2.drew = w3 at *
    go_wp2_with fail
    refine (cZ2 _).mono ?_
    rintro e w4 ⟨rfl, B4⟩
    have D4 := D2.trans (B4.mono D2.size)
    clear cZ2 B4 D2
    obtain ⟨hG, hE⟩ := HH.out
    clear HH
    by_cases h1 : 10 ^ n < 2 * r
    · have g1 : binOp .gtr 9 (.string tl) (.string hf) = pure (.bool true) := by rw [binOp_gtrN, hG.2 h1]
      have HF : Hid (R = q + 1) := by show _ = _; rw [HR.out, if_pos (.inl h1)]
      clear hG hE h1 HR cD
      go_wp2_with fail
      refine (cA _).mono ?_
      rintro e w5 ⟨rfl, B5⟩
      have D5 := D4.trans (B5.mono D4.size)
      clear cA B5 D4
      go_wp2
      go_ret
      exact ⟨by rw [HF.out]; rfl, D5⟩
    · have g1 : binOp .gtr 9 (.string tl) (.string hf) = pure (.bool false) := by rw [binOp_gtrN, show (!(Op.bytesLess tl.toList hf.toList || (tl.toList == hf.toList))) = false by rw [← Bool.not_eq_true]; exact fun h => h1 (hG.1 h)]
      by_cases h2 : 2 * r = 10 ^ n
      · have g2 := hE.2 h2
        by_cases h3 : q % 2 = 1
        · have HF : Hid (R = q + 1) := by show _ = _; rw [HR.out, if_pos (.inr ⟨h2, h3⟩)]
          have g3 : ((q % 10 : Nat) : Int) % 2 = 1 := by omega
          clear hG hE h1 h2 h3 HR
          generalize q % 10 = d at *
          go_wp2_with fail
          refine (cD _).mono ?_
          rintro e w5 ⟨rfl, rfl⟩
          go_wp2_with fail
          refine (cA _).mono ?_
          rintro e w6 ⟨rfl, B5⟩
          have D5 := D4.trans (B5.mono D4.size)
          clear cA B5 D4
          go_wp2
          go_ret
          exact ⟨by rw [HF.out]; rfl, D5⟩
        · have HF : Hid (R = q) := by show _ = _; rw [HR.out, if_neg (fun h => h.elim h1 (fun h => h3 h.2))]
          have g3 : (((q % 10 : Nat) : Int) % 2 == 1) = false := beq_eq_false_iff_ne.2 (by omega)
          clear hG hE h1 h2 h3 HR cA
          generalize q % 10 = d at *
          go_wp2_with fail
          refine (cD _).mono ?_
          rintro e w5 ⟨rfl, rfl⟩
          go_wp2
          go_ret
          exact ⟨by rw [HF.out, ← HQ.out]; rfl, D4⟩
      · have g2 : (tl.toList == hf.toList) = false := by rw [← Bool.not_eq_true]; exact fun h => h2 (hE.1 h)
        have HF : Hid (R = q) := by show _ = _; rw [HR.out, if_neg (fun h => h.elim h1 (fun h => h2 h.1))]
        clear hG hE h1 h2 HR cA cD
        go_wp2
        go_ret
        exact ⟨by rw [HF.out, ← HQ.out]; rfl, D4⟩


end Go.Proofs.YthijeckcjfnbcaaDoor

/- spec.l02Div and spec.l02Round at rows of digits, noughts ahead let in. Conditions: digits; at most 600 bytes (l02Div), 2000 (l02Round). Prepared for chapter 3. -/
namespace Go.Proofs.YthijeckcjfnbcaaDoor
set_option linter.unusedVariables false
open Go.RowKit
open Go.Lib (byteCells)

theorem natOf_val_len {l : List UInt8} (h : Digs l) : (natOf (val l)).length ≤ l.length + 1 := by
  rw [← trim_eq h]
  by_cases h0 : l = []
  · subst h0; decide
  · exact Nat.le_succ_of_le (trim_len l h0)


set_option maxHeartbeats 400000 in
set_option maxRecDepth 100000 in
theorem specRoundG (s : ByteArray) (n : Nat) (w : World) (hs6 : s.size ≤ 2000) (ds : Digs s.data.toList) (hn : n ≤ 2000) : Calls Tryd.prog 52 #[.string s, .int .i64 n] w (AnsS (natOf (rnd (nv s) n)) w) := by
  rcases n with _ | p
  · have cT := specTrim s w (by omega)
    rw [trim_eq ds] at cT
    have HE : Hid (rnd (nv s) 0 = val s.data.toList) := by show _ = _; unfold rnd; rw [if_neg (by simp; omega)]; simp [nv]
    unfold AnsS at cT
    clear ds
    go_enter Tryd.func52, Tryd.ntmps52
    go_wp2_with fail
    refine cT.mono ?_
    rintro e w2 ⟨rfl, B2⟩
    clear cT
    go_wp2
    go_ret
    exact ⟨by rw [HE.out]; rfl, B2⟩
  · obtain ⟨n, hnp⟩ : ∃ n, p + 1 = n := ⟨_, rfl⟩
    have cZ := fun W => specZeros n W (by omega)
    have cZ2 := fun W => specZeros p W (by omega)
    unfold AnsS at cZ cZ2
    have hni : ((n : Int) == 0) = false := beq_eq_false_iff_ne.2 (by omega)
    have hpi : (n : Int) - 1 = (p : Int) := by omega
    have hzl : (⟨(List.replicate n (48 : UInt8)).toArray⟩ : ByteArray).size = n := by show (List.replicate n (48 : UInt8)).length = n; simp
    have hul : ((⟨(List.replicate n (48 : UInt8)).toArray⟩ : ByteArray) ++ s).data.toList = List.replicate n 48 ++ s.data.toList := by rw [ByteArray.data_append, Array.toList_append]
    have huz : ((⟨(List.replicate n (48 : UInt8)).toArray⟩ : ByteArray) ++ s).size = n + s.size := by rw [ByteArray.size_append, hzl]
    have hP := parts_of ds n
    simp only [← hul, size_list] at hP
    obtain ⟨z, hz⟩ : ∃ z : ByteArray, ⟨(List.replicate n (48 : UInt8)).toArray⟩ = z := ⟨_, rfl⟩
    rw [hz] at cZ hzl hul huz hP
    obtain ⟨u, hu⟩ : ∃ u, z ++ s = u := ⟨_, rfl⟩
    rw [hu] at hul huz hP
    obtain ⟨p1, p2, p3, p4, p5⟩ := hP
    have e0 : (u.extract 0 s.size).data.toList = u.data.toList.take s.size := by
      rw [ByteArray.data_extract, Array.toList_extract]
      simp [List.extract_eq_take_drop]
    have e1 : (u.extract s.size u.size).data.toList = u.data.toList.drop s.size := Lib.ext_list u s.size
    obtain ⟨hd, hhd⟩ : ∃ hd : ByteArray, ⟨(natOf (nv s / 10 ^ n)).toArray⟩ = hd := ⟨_, rfl⟩
    have cT : ∀ W, Calls Tryd.prog 51 #[.string (u.extract 0 s.size)] W fun e w' => e = .returned (.string hd) ∧ w' = W := fun W => by
      have := specTrimS (u.extract 0 s.size) W (by simp; omega)
      rw [e0, trim_eq p1, p4] at this
      rw [← hhd]; exact this
    obtain ⟨tl, htl⟩ : ∃ tl, u.extract s.size u.size = tl := ⟨_, rfl⟩
    rw [← e1, htl] at p2 p3 p5
    obtain ⟨zp, hzp⟩ : ∃ zp : ByteArray, ⟨(List.replicate p (48 : UInt8)).toArray⟩ = zp := ⟨_, rfl⟩
    rw [hzp] at cZ2
    have hzps : zp.size = p := by rw [← hzp]; show (List.replicate p (48 : UInt8)).length = p; simp
    obtain ⟨hf, hhf⟩ : ∃ hf : ByteArray, (⟨#[53]⟩ : ByteArray) ++ zp = hf := ⟨_, rfl⟩
    have hfl : hf.toList = 53 :: List.replicate p 48 := by rw [ByteArray.toList_eq, ← hhf, ByteArray.data_append, Array.toList_append, ← hzp]; rfl
    have p5' : val tl.data.toList = nv s % 10 ^ n := p5
    have hH := half_facts p2 (by rw [p3, hnp]) p5'
    rw [hnp, ← ByteArray.toList_eq, ← hfl] at hH
    have hdl : hd.data.toList = natOf (nv s / 10 ^ n) := by rw [← hhd]
    have hq : nv s / 10 ^ n ≤ nv s := Nat.div_le_self _ _
    have hdz : hd.size ≤ 2001 := by
      rw [← size_list, hdl]
      have h1 := natOf_len_mono hq
      have h2 := natOf_val_len ds
      rw [size_list] at h2
      change (natOf (nv s / 10 ^ n)).length ≤ (natOf (val s.data.toList)).length at h1
      omega
    have cD : ∀ W, Calls Tryd.prog 74 #[.string hd, .int .i64 0] W fun e w' => e = .returned (.int .i64 ((nv s / 10 ^ n % 10 : Nat) : Int)) ∧ w' = W := fun W => by
      have := specDigitS hd 0 W (by omega) (by omega) (by rw [hdl]; exact natOf_digs _)
      rw [hdl, digAt_zero] at this
      exact this
    have cA : ∀ W, Calls Tryd.prog 75 #[.string hd, .string ⟨#[49]⟩] W (AnsS (natOf (nv s / 10 ^ n + 1)) W) := fun W => by
      have := specAdd hd ⟨#[49]⟩ W (by omega) (by decide) (by rw [hdl]; exact natOf_digs _) (digs_one ⟨by decide, by decide⟩)
      rw [hdl, val_natOf] at this
      exact this
    unfold AnsS at cA
    have HR : Hid (rnd (nv s) (p + 1) = if 10 ^ n < 2 * (nv s % 10 ^ n) ∨ 2 * (nv s % 10 ^ n) = 10 ^ n ∧ nv s / 10 ^ n % 2 = 1 then nv s / 10 ^ n + 1 else nv s / 10 ^ n) := by show _ = _; rw [hnp]; rfl
    have ecast : ((p + 1 : Nat) : Int) = (n : Int) := by omega
    have HQ := Lib.hid hhd
    have HH := Lib.hid hH
    clear hnp hH hhd hdl p1 p2 p3 p4 p5 p5' e0 e1 hul hfl hz hq ds
    have hsub : (u.size : Int) - (n : Int) = (s.size : Int) := by omega
    have hus1 : (s.size : Int) ≤ (u.size : Int) := by omega
    have hus4 : (0 : Int) ≤ (s.size : Int) := by omega
    have v1 := IntWalk.i64_in ((u.size : Int) - (n : Int)) ⟨by omega, by omega⟩
    have v2 := IntWalk.i64_in (s.size : Int) ⟨by omega, by omega⟩
    have hu1 : u.size ≤ 4000 := by omega
    clear huz
    generalize nv s / 10 ^ n = q at *
    generalize nv s % 10 ^ n = r at *
    generalize rnd (nv s) (p + 1) = R at *
    rw [ecast]
    clear ecast
    go_enter Tryd.func52, Tryd.ntmps52
    go_wp2_with fail
    refine (cZ _).mono ?_
    rintro e w2 ⟨rfl, B2⟩
    clear cZ
    go_wp2_with fail
    refine wp_region_still_lit (by kernel_rfl) (by kernel_rfl) ?_
    iterate 6 still_step
    refine wpStill_step (fun K hK => ?_)
    go_simp
    refine ⟨.string hd, cT _, hK _ ?_⟩
    clear hK K
    iterate 8 still_step
    refine wpStill_nil ?_
    change Exit.then _ _ _ _ w2.drew
    have D2 := B2.drew
    clear B2 cT
    generalize w2.drew = w3 at *
    go_wp2_with fail
    refine (cZ2 _).mono ?_
    rintro e w4 ⟨rfl, B4⟩
    have D4 := D2.trans (B4.mono D2.size)
    clear cZ2 B4 D2
    obtain ⟨hG, hE⟩ := HH.out
    clear HH
    by_cases h1 : 10 ^ n < 2 * r
    · have g1 : binOp .gtr 9 (.string tl) (.string hf) = pure (.bool true) := by rw [binOp_gtrN, hG.2 h1]
      have HF : Hid (R = q + 1) := by show _ = _; rw [HR.out, if_pos (.inl h1)]
      clear hG hE h1 HR cD
      go_wp2_with fail
      refine (cA _).mono ?_
      rintro e w5 ⟨rfl, B5⟩
      have D5 := D4.trans (B5.mono D4.size)
      clear cA B5 D4
      go_wp2
      go_ret
      exact ⟨by rw [HF.out]; rfl, D5⟩
    · have g1 : binOp .gtr 9 (.string tl) (.string hf) = pure (.bool false) := by rw [binOp_gtrN, show (!(Op.bytesLess tl.toList hf.toList || (tl.toList == hf.toList))) = false by rw [← Bool.not_eq_true]; exact fun h => h1 (hG.1 h)]
      by_cases h2 : 2 * r = 10 ^ n
      · have g2 := hE.2 h2
        by_cases h3 : q % 2 = 1
        · have HF : Hid (R = q + 1) := by show _ = _; rw [HR.out, if_pos (.inr ⟨h2, h3⟩)]
          have g3 : ((q % 10 : Nat) : Int) % 2 = 1 := by omega
          clear hG hE h1 h2 h3 HR
          generalize q % 10 = d at *
          go_wp2_with fail
          refine (cD _).mono ?_
          rintro e w5 ⟨rfl, rfl⟩
          go_wp2_with fail
          refine (cA _).mono ?_
          rintro e w6 ⟨rfl, B5⟩
          have D5 := D4.trans (B5.mono D4.size)
          clear cA B5 D4
          go_wp2
          go_ret
          exact ⟨by rw [HF.out]; rfl, D5⟩
        · have HF : Hid (R = q) := by show _ = _; rw [HR.out, if_neg (fun h => h.elim h1 (fun h => h3 h.2))]
          have g3 : (((q % 10 : Nat) : Int) % 2 == 1) = false := beq_eq_false_iff_ne.2 (by omega)
          clear hG hE h1 h2 h3 HR cA
          generalize q % 10 = d at *
          go_wp2_with fail
          refine (cD _).mono ?_
          rintro e w5 ⟨rfl, rfl⟩
          go_wp2
          go_ret
          exact ⟨by rw [HF.out, ← HQ.out]; rfl, D4⟩
      · have g2 : (tl.toList == hf.toList) = false := by rw [← Bool.not_eq_true]; exact fun h => h2 (hE.1 h)
        have HF : Hid (R = q) := by show _ = _; rw [HR.out, if_neg (fun h => h.elim h1 (fun h => h2 h.1))]
        clear hG hE h1 h2 HR cA cD
        go_wp2
        go_ret
        exact ⟨by rw [HF.out, ← HQ.out]; rfl, D4⟩


end Go.Proofs.YthijeckcjfnbcaaDoor
