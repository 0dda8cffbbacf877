/- Plain mathematics of chapter 5: the nodes of a pattern that was read are regular. No program in it. -/
import Derived.Test.YtdkjfppjbkdelaaGreatDoorRxMathA
import Derived.Test.YtdkjfppjbkdelaaGreatDoorUtf
import Derived.Test.YtdkjfppjbkdelaaGreatDoorValidA
import Derived.Lib.ItoaNum
namespace Go.Proofs.YtdkjfppjbkdelaaGreatDoor
set_option linter.unusedVariables false

/-- All are code points. -/
def Pts (s : List Int) : Prop := ∀ x ∈ s, pt x = true
/-- Pairs of code points. -/
def pairsOk (l : List Int) : Prop := l.length % 2 = 0 ∧ ∀ x ∈ l, pt x = true
/-- A node as reading makes it. -/
inductive RegN : Nd → Prop where
  | plain (k : Int) (h : k = 1 ∨ k = 3 ∨ k = 5 ∨ k = 6) : RegN (plainNode k)
  | char (c : Int) (h : pt c = true) : RegN (charNode c)
  | set (b : Bool) (l : List Int) (h : pairsOk l) : RegN (setNode b l)
  | rep (lo hi kid : Int) (h : 0 ≤ lo ∧ lo ≤ 60 ∧ -1 ≤ hi ∧ hi ≤ 60) : RegN (repNode lo hi kid)
  | many (k : Int) (kids : List Int) (h : k = 7 ∨ k = 8) : RegN (manyNode k kids)
def AllReg (ns : List Nd) : Prop := ∀ n ∈ ns, RegN n

theorem AllReg.snoc {ns : List Nd} {n : Nd} (h : AllReg ns) (hn : RegN n) : AllReg (ns ++ [n]) := fun m hm => by
  rcases List.mem_append.1 hm with hm | hm
  · exact h m hm
  · simp at hm; subst hm; exact hn
theorem AllReg.nil : AllReg [] := fun n hn => by cases hn
theorem Pts.at {s : List Int} (h : Pts s) {i : Nat} (hi : i < s.length) : pt (pk s i) = true := by rw [pk_lt hi]; exact h _ (List.getElem_mem hi)
theorem pairsOk.append {a b : List Int} (ha : pairsOk a) (hb : pairsOk b) : pairsOk (a ++ b) := ⟨by have := ha.1; have := hb.1; simp; omega, fun x hx => by
  rcases List.mem_append.1 hx with hx | hx
  · exact ha.2 x hx
  · exact hb.2 x hx⟩
theorem pairsOk.two {a b : Int} (ha : pt a = true) (hb : pt b = true) : pairsOk [a, b] := ⟨by simp, fun x hx => by
  simp at hx
  rcases hx with rfl | rfl
  · exact ha
  · exact hb⟩

section
variable {s : List Int} (hP : Pts s)
include hP
theorem pointR_pt {i : Nat} {c : Int} {j : Nat} (hi : i < s.length) (h : pointR s i = some (c, j)) : pt c = true := by
  unfold pointR at h
  split at h
  · split at h
    · cases h; decide
    · split at h
      · cases h; decide
      · split at h
        · cases h; decide
        · split at h
          · cases h
          · next e => have := hP.at (lt_of_pk (s := s) (i := i + 1) (fun h0 => e (.inl h0))); cases h; exact this
  · have := hP.at hi; cases h; exact this
omit hP in
theorem classOf_pairs (n : List Int) : pairsOk (classOf n) := by
  unfold classOf
  repeat' (split; · exact ⟨by decide, by decide⟩)
  exact ⟨by decide, by simp⟩
theorem itemR_pairs {i : Nat} {l : List Int} {j : Nat} (h : itemR s i = .ok l j) : pairsOk l := by
  unfold itemR at h
  split at h
  · cases h
  next h0 =>
  have hi := lt_of_pk h0
  split at h
  · split at h
    · next e j' hc =>
      cases h
      unfold classR at hc
      split at hc
      · cases hc; exact classOf_pairs _
      · cases hc
    · cases h
  split at h
  · cases h
  next lo k hp =>
  have a := pointR_pt hP hi hp
  split at h
  · next hc =>
    split at h
    · cases h
    · next hi' k' hp2 =>
      have b := pointR_pt hP (lt_of_pk hc.2.2) hp2
      split at h
      · cases h; exact pairsOk.two a b
      · cases h
  · cases h; exact pairsOk.two a a
theorem itemsR_pairs : ∀ {f i : Nat} {b : Bool} {set e : List Int} {j : Nat}, pairsOk set → itemsR s f i b set = .ok e j → pairsOk e
  | 0, i, b, set, e, j, hs, h => by cases h
  | f + 1, i, b, set, e, j, hs, h => by
    rw [itemsR] at h
    split at h
    · cases h; exact hs
    · split at h
      · next e' k hk => exact itemsR_pairs (hs.append (itemR_pairs hP hk)) h
      · next hne => exact absurd h (hne _ _)
end

def RgI (s : List Int) (inner : Option (Nat → List Nd → Rd)) : Prop := ∀ g, inner = some g → ∀ i out, i ≤ s.length → AllReg out → ∀ n j o, g i out = .ok n j o → AllReg o

section
variable {s : List Int} (hP : Pts s) {inner : Option (Nat → List Nd → Rd)} (hB : RgI s inner) (hF : FarI s inner)
include hP hB
theorem atomR_reg {i : Nat} {out : List Nd} (hi : i < s.length) (hO : AllReg out) {n : Int} {j : Nat} {o : List Nd} (h : atomR s inner i out = .ok n j o) : AllReg o := by
  unfold atomR at h
  split at h
  · cases h
  split at h
  · unfold groupR at h
    split at h
    · cases h
    · next g =>
      split at h
      · cases h
      · next n' j' o' hg =>
        have b := hB g rfl (i + 1) out (by omega) hO _ _ _ hg
        split at h
        · cases h; exact b
        · cases h
  split at h
  · unfold bracketR at h
    split at h
    · next set k hk =>
      cases h
      exact hO.snoc (.set _ _ (itemsR_pairs hP ⟨rfl, fun x hx => by cases hx⟩ hk))
    · cases h
    · cases h
  split at h
  · cases h; exact hO.snoc (.plain _ (by omega))
  split at h
  · cases h; exact hO.snoc (.plain _ (by omega))
  split at h
  · cases h; exact hO.snoc (.plain _ (by omega))
  split at h
  · cases h
  · next hp => cases h; exact hO.snoc (.char _ (pointR_pt hP hi hp))
theorem pieceR_reg {i : Nat} {out : List Nd} (hi : i < s.length) (hO : AllReg out) {n : Int} {j : Nat} {o : List Nd} (h : pieceR s inner i out = .ok n j o) : AllReg o := by
  unfold pieceR at h
  split at h
  · cases h
  · next kid j' o' ha =>
    have b := atomR_reg hP hB hi hO ha
    split at h
    · cases h; exact b
    · cases h
    · next lo hi' k hr =>
      cases h
      refine b.snoc (.rep _ _ _ ?_)
      unfold repR at hr
      split at hr
      · cases hr; omega
      · split at hr
        · cases hr; omega
        · split at hr
          · cases hr; omega
          · split at hr
            · split at hr
              · next ht => cases hr; exact timesR_range ht
              · cases hr
            · cases hr
omit hP hB in
theorem join_reg {k : Int} (hk : k = 7 ∨ k = 8) {kids : List Int} {i : Nat} {out : List Nd} (hO : AllReg out) {n : Int} {j : Nat} {o : List Nd} (h : joinR k kids i out = .ok n j o) : AllReg o := by
  unfold joinR at h
  split at h
  · cases h; exact hO
  · cases h; exact hO.snoc (.many _ _ hk)
include hF
theorem seqR_reg : ∀ {f i : Nat} {out : List Nd} {kids : List Int} {n : Int} {j : Nat} {o : List Nd}, AllReg out → i ≤ s.length → seqR s inner f i out kids = .ok n j o → AllReg o
  | 0, i, out, kids, n, j, o, hO, hi, h => by cases h
  | f + 1, i, out, kids, n, j, o, hO, hi, h => by
    rw [seqR] at h
    split at h
    · split at h
      · cases h; exact hO.snoc (.plain _ (by omega))
      · exact join_reg (.inl rfl) hO h
    · next he =>
      have hil := lt_of_pk (ends_not he).1
      split at h
      · cases h
      · next m j' o' hp =>
        have b := pieceR_reg hP hB hil hO hp
        have p := pieceR_far hF (out := out) hil _ _ _ hp
        exact seqR_reg b (by omega) h
theorem altR_reg : ∀ {f i : Nat} {out : List Nd} {kids : List Int} {n : Int} {j : Nat} {o : List Nd}, AllReg out → i ≤ s.length → altR s inner f i out kids = .ok n j o → AllReg o
  | 0, i, out, kids, n, j, o, hO, hi, h => by cases h
  | f + 1, i, out, kids, n, j, o, hO, hi, h => by
    rw [altR] at h
    split at h
    · next h0 =>
      have hil := lt_of_pk (s := s) (i := i) (by omega)
      split at h
      · cases h
      · next m j' o' hp =>
        have p := rowR_far hF (out := out) (show i + 1 ≤ s.length by omega) _ _ _ hp
        exact altR_reg (seqR_reg hP hB hF hO (by omega) hp) p.2.1 h
    · exact join_reg (.inr rfl) hO h
theorem altsR_reg {i : Nat} {out : List Nd} (hO : AllReg out) {n : Int} {j : Nat} {o : List Nd} (hi : i ≤ s.length) (h : altsR s inner i out = .ok n j o) : AllReg o := by
  unfold altsR at h
  split at h
  · cases h
  · next m j' o' hp =>
    have p := rowR_far hF (out := out) hi _ _ _ hp
    exact altR_reg hP hB hF (seqR_reg hP hB hF hO hi hp) p.2.1 h
end
theorem innerD_reg {s : List Int} (hP : Pts s) : ∀ n, RgI s (innerD s n)
  | 0 => fun g h => by cases h
  | n + 1 => fun g h i out hi hO m j o hg => by
    cases h
    rw [altsD_eq] at hg
    exact altsR_reg hP (innerD_reg hP n) (innerD_far s n) hO hi hg
/-- What is read is regular, and within its bounds. -/
theorem wholeR_reg {s : List Int} (hP : Pts s) {n : Int} {j : Nat} {o : List Nd} (h : wholeR s = .ok n j o) : AllReg o ∧ o.length ≤ 400 ∧ sizeR o ≤ 1000 ∧ o ≠ [] := by
  unfold wholeR at h
  split at h
  · cases h
  · next n' j' o' ha =>
    split at h
    · cases h
    · split at h
      · cases h
      · next hq =>
        cases h
        rw [altsD_eq] at ha
        refine ⟨altsR_reg hP (innerD_reg hP 6) (innerD_far s 6) AllReg.nil (Nat.zero_le _) ha, by omega, by omega, ?_⟩
        · intro e
          have := altsR_far (innerD_far s 6) (Nat.zero_le _) _ _ _ ha
          rw [e] at this
          simp at this
          omega

end Go.Proofs.YtdkjfppjbkdelaaGreatDoor

/- Plain mathematics of chapter 5: reading the text of a pattern. No program in it. -/
namespace Go.Proofs.YtdkjfppjbkdelaaGreatDoor
set_option linter.unusedVariables false

/-- Reading a text of at most so many code points. -/
def rxR (t : ByteArray) (most : Nat) : Rd :=
  match runesOf t with
  | none => .err 1 0
  | some l => if most < l.length then .err 1 0 else wholeR l
theorem runes_small {t : ByteArray} {l : List Int} (h : runesOf t = some l) : Pos l ∧ l.length ≤ 1000 := by
  obtain ⟨h1, h2, h3⟩ := text_cat h
  refine ⟨fun x hx => ?_, ?_⟩
  · have := pt_iff.1 (h2 x hx); omega
  · unfold runesOf at h
    split at h
    · cases h
    · have : ∀ f i l, runesFrom t f i = some l → l.length ≤ f := by
        intro f
        induction f with
        | zero => intro i l h; rw [runesFrom] at h; cases h; simp
        | succ f ih =>
          intro i l h
          rw [runesFrom] at h
          split at h
          · split at h
            · cases h
            · obtain ⟨l', h4, rfl⟩ := Option.map_eq_some_iff.1 h
              have := ih _ _ h4
              simp; omega
          · cases h; simp
      have := this _ _ _ h
      omega

end Go.Proofs.YtdkjfppjbkdelaaGreatDoor

/- Plain mathematics of chapter 5: the text of a pattern, as the specification and as the program make it, and that both are one text where the nodes are regular. No program in it. -/
namespace Go.Proofs.YtdkjfppjbkdelaaGreatDoor
set_option linter.unusedVariables false
open Go.Lib (encodeRune itoa)

def escOut : List Int := [92, 94, 36, 46, 91, 124, 40, 41, 42, 43, 63, 123]
def escIn : List Int := [92, 93, 91, 94, 45]
/-- A code point, with what must stand ahead of it. -/
def pointT (esc : List Int) (c : Int) : List UInt8 :=
  if c = 10 then [92, 110] else if c = 9 then [92, 116] else if c = 13 then [92, 114] else if c ∈ esc then 92 :: encodeRune c else encodeRune c
/-- How often. -/
def oftenT (lo hi : Int) : List UInt8 :=
  if lo = 0 ∧ hi = -1 then [42] else if lo = 1 ∧ hi = -1 then [43] else if lo = 0 ∧ hi = 1 then [63] else if hi = -1 then 123 :: (itoa lo ++ [44, 125])
  else if lo = hi then 123 :: (itoa lo ++ [125]) else 123 :: (itoa lo ++ 44 :: (itoa hi ++ [125]))
/-- The items of a bracket. -/
def pairT (a b : Int) : List UInt8 := pointT escIn a ++ (if a = b then [] else 45 :: pointT escIn b)
def pairsT : List Int → List UInt8
  | a :: b :: r => pairT a b ++ pairsT r
  | _ => []
def setT (neg : Bool) (l : List Int) : List UInt8 := 91 :: ((if neg then [94] else []) ++ (pairsT l ++ [93]))
def kindAt (ns : List Nd) (k : Int) : Int := ((ns[k.toNat]?).map (·.kind)).getD 0
/-- Is a kid put between brackets? -/
def encl (p k : Int) : Bool := if p = 7 then decide (k = 7 ∨ k = 8 ∨ k = 1) else if p = 8 then decide (k = 8) else decide (k = 7 ∨ k = 8 ∨ k = 9 ∨ k = 1)
def par (b : Bool) (t : List UInt8) : List UInt8 := if b then 40 :: (t ++ [41]) else t
/-- What stands ahead of a kid. -/
def sepT (p : Int) (first : Bool) : List UInt8 := if first then [] else if p = 8 then [124] else []

/-! ### The specification's way: from the bottom up -/
def kidsT (ns : List Nd) (z : List (List UInt8)) (p : Int) : Bool → List Int → List UInt8
  | _, [] => []
  | first, k :: r => (sepT p first ++ par (encl p (kindAt ns k)) (z.getD k.toNat [])) ++ kidsT ns z p false r
def bodyS (ns : List Nd) (z : List (List UInt8)) (n : Nd) : Option (List UInt8) :=
  if n.kind = 1 then some []
  else if n.kind = 2 then (if pt n.lo then some (pointT escOut n.lo) else none)
  else if n.kind = 3 then some [46]
  else if n.kind = 4 then (if n.set.length % 2 = 0 ∧ n.set.all pt = true then some (setT n.neg n.set) else none)
  else if n.kind = 5 then some [94]
  else if n.kind = 6 then some [36]
  else if n.kind = 7 ∨ n.kind = 8 then some (kidsT ns z n.kind true n.kids)
  else if n.kind = 9 then (if n.kids.length = 1 ∧ 0 ≤ n.lo ∧ -1 ≤ n.hi then some (kidsT ns z 9 true n.kids ++ oftenT n.lo n.hi) else none)
  else none
def capT (t : List UInt8) : Option (List UInt8) := if 1000 < t.length then none else some t
def nodeS (ns : List Nd) (z : List (List UInt8)) (n : Nd) : Option (List UInt8) := (bodyS ns z n).bind capT
def textsS (ns : List Nd) : List Nd → List (List UInt8) → Option (List (List UInt8))
  | [], z => some z
  | n :: r, z => (nodeS ns z n).bind fun t => textsS ns r (z ++ [t])
def textS (ns : List Nd) : List UInt8 := if isTreeR ns = true then ((textsS ns ns []).map fun z => z.getD (ns.length - 1) []).getD [] else []

/-! ### The program's way: what each node writes, if it can -/
abbrev Wr := Option (List UInt8)
def catO (a b : Wr) : Wr := a.bind fun x => b.map fun y => x ++ y
def kidsO (ns : List Nd) (z : List Wr) (p : Int) : Bool → List Int → Wr
  | _, [] => some []
  | first, k :: r => catO (catO (some (sepT p first)) (if encl p (kindAt ns k) then catO (some [40]) (catO (z.getD k.toNat none) (some [41])) else z.getD k.toNat none)) (kidsO ns z p false r)
def pointO (esc : List Int) (c : Int) : Wr := if pt c then some (pointT esc c) else none
def pairO (a b : Int) : Wr := catO (pointO escIn a) (if a = b then some [] else catO (some [45]) (pointO escIn b))
def pairsO : List Int → Wr
  | a :: b :: r => catO (pairO a b) (pairsO r)
  | _ => some []
def setO (neg : Bool) (l : List Int) : Wr := catO (some [91]) (catO (some (if neg then [94] else [])) (catO (pairsO l) (some [93])))
def oftenO (lo hi : Int) : Wr := if lo < 0 ∨ hi < -1 then none else some (oftenT lo hi)
def bodyO (ns : List Nd) (z : List Wr) (n : Nd) : Wr :=
  if n.kind = 2 then pointO escOut n.lo
  else if n.kind = 3 then some [46]
  else if n.kind = 4 then setO n.neg n.set
  else if n.kind = 5 then some [94]
  else if n.kind = 6 then some [36]
  else if n.kind = 7 ∨ n.kind = 8 then kidsO ns z n.kind true n.kids
  else if n.kind = 9 then catO (kidsO ns z 9 true n.kids) (oftenO n.lo n.hi)
  else some []
def textsO (ns : List Nd) : List Nd → List Wr → List Wr
  | [], z => z
  | n :: r, z => textsO ns r (z ++ [bodyO ns z n])
/-- A writer that has written st writes t: it fails behind 1000 bytes. -/
def W (t st : Wr) : Wr := st.bind fun o => t.bind fun x => if o.length + x.length ≤ 1000 then some (o ++ x) else none
def hasT (n : Nd) : Bool := decide (1 ≤ n.kind ∧ n.kind ≤ 9) && (decide (n.set.length % 2 = 0) && (decide (n.kind ≠ 9) || decide (n.kids.length = 1)))
def textI (ns : List Nd) : List UInt8 := if isTreeR ns = true ∧ ns.all hasT = true then (W ((textsO ns ns []).getD (ns.length - 1) none) (some [])).getD [] else []

/-! ### The writer -/
theorem W_none (t : Wr) : W t none = none := rfl
theorem W_no (st : Wr) : W none st = none := by cases st <;> rfl
theorem W_cat (a b st : Wr) : W b (W a st) = W (catO a b) st := by
  cases st with
  | none => rfl
  | some o =>
    cases a with
    | none => rfl
    | some x =>
      cases b with
      | none => simp [W, catO]
      | some y =>
        simp only [W, catO, Option.bind_some, Option.map_some, List.length_append]
        by_cases h : o.length + x.length ≤ 1000
        · rw [if_pos h, Option.bind_some, List.length_append, List.append_assoc]
          by_cases h2 : o.length + x.length + y.length ≤ 1000
          · rw [if_pos h2, if_pos (by omega)]
          · rw [if_neg h2, if_neg (by omega)]
        · rw [if_neg h, if_neg (by omega)]; rfl
theorem W_nil (st : Wr) (h : ∀ o, st = some o → o.length ≤ 1000) : W (some []) st = st := by
  cases st with
  | none => rfl
  | some o => simp [W, h o rfl]
theorem W_len {t st : Wr} {o : List UInt8} (h : W t st = some o) : o.length ≤ 1000 := by
  unfold W at h
  obtain ⟨x, _, h⟩ := Option.bind_eq_some_iff.1 h
  obtain ⟨y, _, h⟩ := Option.bind_eq_some_iff.1 h
  split at h
  · cases h; simpa using by assumption
  · cases h
theorem catO_assoc (a b c : Wr) : catO (catO a b) c = catO a (catO b c) := by
  cases a <;> cases b <;> cases c <;> simp [catO]
theorem catO_nil (a : Wr) : catO a (some []) = a := by cases a <;> simp [catO]
theorem catO_ahead (a : Wr) : catO (some []) a = a := by cases a <;> simp [catO]
theorem catO_some (a b : List UInt8) : catO (some a) (some b) = some (a ++ b) := rfl
theorem textsO_eq (ns : List Nd) : ∀ (l : List Nd) (z : List Wr), (textsO ns l z).length = z.length + l.length ∧ ∀ j, j < z.length → (textsO ns l z).getD j none = z.getD j none
  | [], z => ⟨by simp [textsO], fun j hj => rfl⟩
  | n :: r, z => by
    rw [textsO]
    obtain ⟨h1, h2⟩ := textsO_eq ns r (z ++ [bodyO ns z n])
    refine ⟨by rw [h1]; simp; omega, fun j hj => ?_⟩
    rw [h2 j (by simp; omega)]
    simp [List.getD_eq_getElem?_getD, List.getElem?_append_left hj]
theorem kidsO_ext {ns : List Nd} {p : Int} {z z' : List Wr} : ∀ (ks : List Int) (b : Bool), (∀ k ∈ ks, z.getD k.toNat none = z'.getD k.toNat none) → kidsO ns z p b ks = kidsO ns z' p b ks
  | [], b, h => rfl
  | k :: r, b, h => by
    rw [kidsO, kidsO, h k (by simp), kidsO_ext r false fun x hx => h x (by simp [hx])]
theorem bodyO_ext {ns : List Nd} {n : Nd} {z z' : List Wr} (h : ∀ k ∈ n.kids, z.getD k.toNat none = z'.getD k.toNat none) : bodyO ns z n = bodyO ns z' n := by
  unfold bodyO
  rw [kidsO_ext n.kids true h, kidsO_ext n.kids true h]
/-- What each node writes, by its kids. -/
theorem textsO_at {ns : List Nd} : ∀ (l : List Nd) (z : List Wr), ns = ns.take z.length ++ l → z.length ≤ ns.length → (∀ j, (hj : j < ns.length) → ∀ k ∈ ns[j].kids, 0 ≤ k ∧ k < (j : Int)) →
    ∀ j, (hj : j < ns.length) → z.length ≤ j → (textsO ns l z).getD j none = bodyO ns (textsO ns l z) ns[j]
  | [], z, he, hz, hk, j, hj, h => by
    have := congrArg List.length he
    rw [List.append_nil, List.length_take] at this
    omega
  | n :: r, z, he, hz, hk, j, hj, h => by
    have hl := congrArg List.length he
    rw [List.length_append, List.length_take, List.length_cons] at hl
    have hlt : z.length < ns.length := by omega
    have hn : ns[z.length] = n := by
      have h1 : ns[z.length]? = some n := by
        rw [he, List.getElem?_append_right (by rw [List.length_take]; omega), List.length_take, show min z.length ns.length = z.length by omega]
        simp
      rw [List.getElem?_eq_getElem hlt] at h1
      exact Option.some.inj h1
    rw [textsO]
    obtain ⟨e1, e2⟩ := textsO_eq ns r (z ++ [bodyO ns z n])
    by_cases hj0 : j = z.length
    · subst hj0
      rw [e2 _ (by simp)]
      rw [hn]
      rw [List.getD_eq_getElem?_getD, List.getElem?_append_right (Nat.le_refl _)]
      simp
      refine bodyO_ext fun k hkk => ?_
      have := hk z.length hlt k (by rw [hn]; exact hkk)
      rw [e2 _ (by simp; omega)]
      simp [List.getD_eq_getElem?_getD, List.getElem?_append_left (show k.toNat < z.length by omega)]
    · refine textsO_at r (z ++ [bodyO ns z n]) ?_ (by simp; omega) hk j hj (by simp; omega)
      have h3 : ns.take (z.length + 1) = ns.take z.length ++ [n] := by rw [take_succ_get hlt, hn]
      rw [List.length_append, List.length_singleton, h3, List.append_assoc]
      exact he
theorem textO_body {ns : List Nd} (hk : ∀ j, (hj : j < ns.length) → ∀ k ∈ ns[j].kids, 0 ≤ k ∧ k < (j : Int)) {j : Nat} (hj : j < ns.length) : (textsO ns ns []).getD j none = bodyO ns (textsO ns ns []) ns[j] :=
  textsO_at ns [] (by simp) (by simp) hk j hj (by simp)

end Go.Proofs.YtdkjfppjbkdelaaGreatDoor

/- Plain mathematics of chapter 5: a pattern is sound for the program just where it is for the specification. No program in it. -/
namespace Go.Proofs.YtdkjfppjbkdelaaGreatDoor
set_option linter.unusedVariables false
open Go.Lib (encodeRune itoa)

theorem pairsO_ok : ∀ {l : List Int}, (∀ x ∈ l, pt x = true) → pairsO l = some (pairsT l)
  | [], h => rfl
  | [a], h => rfl
  | a :: b :: r, h => by
    have ha : pointO escIn a = some (pointT escIn a) := by unfold pointO; rw [if_pos (h a (by simp))]
    have hb : pointO escIn b = some (pointT escIn b) := by unfold pointO; rw [if_pos (h b (by simp))]
    have e1 : pairO a b = some (pairT a b) := by
      unfold pairO pairT
      rw [ha, hb]
      split <;> simp [catO]
    rw [pairsO, pairsT, e1, pairsO_ok (l := r) fun x hx => h x (by simp [hx])]
    rfl
theorem setO_ok {b : Bool} {l : List Int} (h : pairsOk l) : setO b l = some (setT b l) := by
  unfold setO setT
  rw [pairsO_ok h.2]
  simp [catO]
def Same (z : List Wr) (y : List (List UInt8)) : Prop := z.length = y.length ∧ ∀ j, j < z.length → z.getD j none = some (y.getD j []) ∧ (y.getD j []).length ≤ 1000
theorem kidsO_ok {ns : List Nd} {z : List Wr} {y : List (List UInt8)} {p : Int} (hz : Same z y) : ∀ (ks : List Int) (b : Bool), (∀ k ∈ ks, 0 ≤ k ∧ k < (z.length : Int)) → kidsO ns z p b ks = some (kidsT ns y p b ks)
  | [], b, h => rfl
  | k :: r, b, h => by
    have hk := h k (by simp)
    obtain ⟨e, _⟩ := hz.2 k.toNat (by omega)
    rw [kidsO, kidsT, e, kidsO_ok hz r false fun x hx => h x (by simp [hx])]
    unfold par
    split <;> simp [catO]
theorem body_ok {ns : List Nd} {z : List Wr} {y : List (List UInt8)} (hz : Same z y) {n : Nd} (hr : RegN n) (hk : ∀ k ∈ n.kids, 0 ≤ k ∧ k < (z.length : Int)) : ∃ t, bodyO ns z n = some t ∧ bodyS ns y n = some t := by
  cases hr with
  | plain k h =>
    rcases h with rfl | rfl | rfl | rfl
    · exact ⟨[], by simp [bodyO, plainNode], by simp [bodyS, plainNode]⟩
    · exact ⟨[46], by simp [bodyO, plainNode], by simp [bodyS, plainNode]⟩
    · exact ⟨[94], by simp [bodyO, plainNode], by simp [bodyS, plainNode]⟩
    · exact ⟨[36], by simp [bodyO, plainNode], by simp [bodyS, plainNode]⟩
  | char c h => exact ⟨pointT escOut c, by simp [bodyO, charNode, pointO, h], by simp [bodyS, charNode, h]⟩
  | set b l h =>
    have hall : l.all pt = true := by rw [List.all_eq_true]; exact h.2
    exact ⟨setT b l, by simp [bodyO, setNode, setO_ok h], by simp only [bodyS, setNode]; simp only [h.1, hall]; simp⟩
  | rep lo hi kid h =>
    have h1 : ¬ (lo < 0 ∨ hi < -1) := by omega
    refine ⟨kidsT ns y 9 true [kid] ++ oftenT lo hi, ?_, ?_⟩
    · simp only [bodyO, repNode]
      rw [kidsO_ok hz [kid] true hk]
      simp [oftenO, h1, catO]
    · simp only [bodyS, repNode]
      have h2 : (0 ≤ lo ∧ -1 ≤ hi) := by omega
      simp [h2]
  | many k kids h =>
    refine ⟨kidsT ns y k true kids, ?_, ?_⟩
    · simp only [bodyO, manyNode]
      rw [kidsO_ok hz kids true hk]
      rcases h with rfl | rfl <;> simp
    · simp only [bodyS, manyNode]
      rcases h with rfl | rfl <;> simp

/-- Not written within 1000 bytes. -/
def bad (x : Wr) : Prop := ∀ t, x = some t → 1000 < t.length
theorem bad_left {a b : Wr} (h : bad a) : bad (catO a b) := fun t ht => by
  cases a with
  | none => cases ht
  | some x => cases b with
    | none => cases ht
    | some y => cases ht; have := h x rfl; simp; omega
theorem bad_right {a b : Wr} (h : bad b) : bad (catO a b) := fun t ht => by
  cases a with
  | none => cases ht
  | some x => cases b with
    | none => cases ht
    | some y => cases ht; have := h y rfl; simp; omega
theorem kids_bad {ns : List Nd} {z : List Wr} {p : Int} {k : Int} (hb : bad (z.getD k.toNat none)) : ∀ (ks : List Int) (b : Bool), k ∈ ks → bad (kidsO ns z p b ks)
  | [], b, h => by cases h
  | x :: r, b, h => by
    rw [kidsO]
    rcases List.mem_cons.1 h with rfl | h
    · refine bad_left (bad_right ?_)
      split
      · exact bad_right (bad_left hb)
      · exact hb
    · exact bad_right (kids_bad hb r false h)
theorem body_bad {ns : List Nd} {z : List Wr} {n : Nd} (hr : RegN n) {k : Int} (hk : k ∈ n.kids) (hb : bad (z.getD k.toNat none)) : bad (bodyO ns z n) := by
  cases hr with
  | plain k h => cases hk
  | char c h => cases hk
  | set b l h => cases hk
  | rep lo hi kid h =>
    simp only [bodyO, repNode]
    have := kids_bad (ns := ns) (p := 9) hb [kid] true hk
    simpa using bad_left this
  | many k' kids h =>
    have := kids_bad (ns := ns) (p := k') hb kids true hk
    simp only [bodyO, manyNode]
    rcases h with rfl | rfl <;> simpa using this

/-! ### Every node but the last one is a kid of a later one -/
theorem kidsR_from {i : Nat} {j : Nat} : ∀ {ks : List Int} {u v : List Bool}, kidsR i ks u = some v → v.getD j false = true → u.getD j false = true ∨ (j : Int) ∈ ks
  | [], u, v, h, hv => by cases h; exact .inl hv
  | k :: r, u, v, h, hv => by
    rw [kidsR] at h
    split at h
    · cases h
    · next hn =>
      rcases kidsR_from h hv with h1 | h1
      · by_cases e : k.toNat = j
        · right
          have : 0 ≤ k := by rw [not_or] at hn; omega
          have : k = (j : Int) := by omega
          simp [this]
        · left
          simpa [List.getD_eq_getElem?_getD, List.getElem?_set_ne e] using h1
      · exact .inr (List.mem_cons_of_mem _ h1)
theorem treeR_from {j : Nat} : ∀ {i : Nat} {ns : List Nd} {u v : List Bool}, treeR i ns u = some v → v.getD j false = true → u.getD j false = true ∨ ∃ q, ∃ hq : q < ns.length, (j : Int) ∈ ns[q].kids
  | _, [], u, v, h, hv => by cases h; exact .inl hv
  | i, n :: r, u, v, h, hv => by
    rw [treeR] at h
    obtain ⟨u', h1, h2⟩ := Option.bind_eq_some_iff.1 h
    rcases treeR_from h2 hv with h3 | ⟨q, hq, h3⟩
    · rcases kidsR_from h1 h3 with h4 | h4
      · exact .inl h4
      · exact .inr ⟨0, by simp, by simpa using h4⟩
    · exact .inr ⟨q + 1, by simpa using hq, by simpa using h3⟩
theorem tree_parent {ns : List Nd} (h : isTreeR ns = true) {j : Nat} (hj : j + 1 < ns.length) : ∃ q, ∃ hq : q < ns.length, j < q ∧ (j : Int) ∈ ns[q].kids := by
  have hk := (tree_kids h).2
  unfold isTreeR at h
  split at h
  · cases h
  · next u hu =>
    simp only [Bool.and_eq_true] at h
    have hl := treeR_length hu
    simp at hl
    have hv : u.getD j false = true := by
      have := List.all_eq_true.1 h.2 u[j] (by rw [List.mem_take_iff_getElem]; exact ⟨j, by omega, rfl⟩)
      rw [List.getD_eq_getElem?_getD, List.getElem?_eq_getElem (by omega)]
      simpa using this
    rcases treeR_from hu hv with h1 | ⟨q, hq, h1⟩
    · rw [List.getD_eq_getElem?_getD, List.getElem?_replicate] at h1
      split at h1 <;> cases h1
    · exact ⟨q, hq, by have := hk q hq _ h1; omega, h1⟩
theorem bad_up {ns : List Nd} (h : isTreeR ns = true) (hr : AllReg ns) : ∀ (m j : Nat), ns.length - 1 - j = m → j < ns.length → bad ((textsO ns ns []).getD j none) → bad ((textsO ns ns []).getD (ns.length - 1) none) := by
  intro m
  induction m using Nat.strongRecOn with
  | _ m ih =>
    intro j hm hj hb
    by_cases e : j = ns.length - 1
    · rw [← e]; exact hb
    · obtain ⟨q, hq, hjq, hmem⟩ := tree_parent h (j := j) (by omega)
      refine ih (ns.length - 1 - q) (by omega) q rfl hq ?_
      rw [textO_body (tree_kids h).2 hq]
      exact body_bad (hr _ (List.getElem_mem hq)) hmem (by simpa using hb)
theorem texts_rel {ns : List Nd} (hk : ∀ j, (hj : j < ns.length) → ∀ k ∈ ns[j].kids, 0 ≤ k ∧ k < (j : Int)) (hr : AllReg ns) : ∀ (l : List Nd) (z : List Wr) (y : List (List UInt8)), ns = ns.take z.length ++ l → z.length ≤ ns.length → Same z y →
    (∃ y', textsS ns l y = some y' ∧ Same (textsO ns l z) y') ∨ (textsS ns l y = none ∧ ∃ j, j < ns.length ∧ bad ((textsO ns l z).getD j none))
  | [], z, y, he, hz, hs => .inl ⟨y, rfl, hs⟩
  | n :: r, z, y, he, hz, hs => by
    have hl := congrArg List.length he
    rw [List.length_append, List.length_take, List.length_cons] at hl
    have hlt : z.length < ns.length := by omega
    have hn : ns[z.length] = n := by
      have h1 : ns[z.length]? = some n := by
        rw [he, List.getElem?_append_right (by rw [List.length_take]; omega), List.length_take, show min z.length ns.length = z.length by omega]
        simp
      rw [List.getElem?_eq_getElem hlt] at h1
      exact Option.some.inj h1
    obtain ⟨t, h1, h2⟩ := body_ok (ns := ns) hs (n := n) (by rw [← hn]; exact hr _ (List.getElem_mem hlt)) (fun k hkk => hk z.length hlt k (by rw [hn]; exact hkk))
    rw [textsS, textsO, nodeS, h1, h2, Option.bind_some, capT]
    by_cases hlen : 1000 < t.length
    · rw [if_pos hlen]
      refine .inr ⟨rfl, z.length, hlt, ?_⟩
      rw [(textsO_eq ns r (z ++ [some t])).2 _ (by simp)]
      rw [List.getD_eq_getElem?_getD, List.getElem?_append_right (Nat.le_refl _)]
      intro x hx
      simp at hx
      rw [← hx]; exact hlen
    · rw [if_neg hlen, Option.bind_some]
      refine texts_rel hk hr r (z ++ [some t]) (y ++ [t]) ?_ (by simp; omega) ⟨by simp [hs.1], fun j hj => ?_⟩
      · have h3 : ns.take (z.length + 1) = ns.take z.length ++ [n] := by rw [take_succ_get hlt, hn]
        rw [List.length_append, List.length_singleton, h3, List.append_assoc]
        exact he
      · simp only [List.length_append, List.length_singleton] at hj
        have hyl := hs.1
        by_cases e : j = z.length
        · subst e
          simp only [List.getD_eq_getElem?_getD]
          rw [List.getElem?_append_right (Nat.le_refl _), List.getElem?_append_right (by omega)]
          simp [hyl]
          omega
        · have := hs.2 j (by omega)
          simp only [List.getD_eq_getElem?_getD] at this ⊢
          rw [List.getElem?_append_left (by omega), List.getElem?_append_left (by omega)]
          exact this
theorem reg_hasT {n : Nd} (h : RegN n) : hasT n = true := by
  cases h with
  | plain k h => rcases h with rfl | rfl | rfl | rfl <;> rfl
  | char c h => rfl
  | set b l h => have := h.1; simp [hasT, setNode, this]
  | rep lo hi kid h => simp [hasT, repNode]
  | many k kids h => rcases h with rfl | rfl <;> simp [hasT, manyNode]
/-- Of regular nodes both write one text. -/
theorem text_eq {ns : List Nd} (hr : AllReg ns) : textI ns = textS ns := by
  unfold textI textS
  by_cases ht : isTreeR ns = true
  · have hall : ns.all hasT = true := List.all_eq_true.2 fun n hn => reg_hasT (hr n hn)
    rw [if_pos ht, if_pos ⟨ht, hall⟩]
    have hne : 0 < ns.length := List.length_pos_iff.2 (tree_kids ht).1
    rcases texts_rel (tree_kids ht).2 hr ns [] [] (by simp) (by simp) ⟨rfl, fun j hj => absurd hj (by simp)⟩ with ⟨y, h1, h2⟩ | ⟨h1, j, hj, hb⟩
    · have hlen : (textsO ns ns []).length = ns.length := by rw [(textsO_eq ns ns []).1]; simp
      obtain ⟨e, h3⟩ := h2.2 (ns.length - 1) (by omega)
      rw [h1, e]
      simp only [W, Option.bind_some, Option.map_some, Option.getD_some, List.length_nil, Nat.zero_add, List.nil_append]
      rw [if_pos h3]; rfl
    · have hl := bad_up ht hr _ j rfl hj hb
      rw [h1]
      have : W ((textsO ns ns []).getD (ns.length - 1) none) (some []) = none := by
        cases hq : (textsO ns ns []).getD (ns.length - 1) none with
        | none => rfl
        | some t =>
          have := hl t hq
          simp only [W, Option.bind_some, List.length_nil, Nat.zero_add]
          rw [if_neg (by omega)]
      rw [this]; rfl
  · rw [if_neg ht, if_neg (fun h => ht h.1)]

/-! ### Soundness -/
def bytesT (l : List UInt8) : ByteArray := ⟨l.toArray⟩
def readsAs (r : Rd) (ns : List Nd) : Prop := ∃ n j, r = .ok n j ns
/-- As the program tells. -/
def soundP (ns : List Nd) : Prop := ns.length ≤ 400 ∧ readsAs (wholeR ((runesOf (bytesT (textI ns))).getD [])) ns
/-- As the specification tells. -/
def soundQ (ns : List Nd) : Prop := ns.length ≤ 400 ∧ isTreeR ns = true ∧ readsAs (rxR (bytesT (textS ns)) 1000) ns
theorem whole_nil : ∃ n j, wholeR [] = .ok n j [plainNode 1] := ⟨_, _, rfl⟩
theorem runes_nil : runesOf (bytesT []) = some [] := by decide
theorem text_plain : textI [plainNode 1] = [] := by decide
theorem pts_of {t : ByteArray} : Pts ((runesOf t).getD []) := by
  cases h : runesOf t with
  | none => intro x hx; cases hx
  | some l => exact (text_cat h).2.1
theorem readsAs_reg {s : List Int} (hP : Pts s) {ns : List Nd} (h : readsAs (wholeR s) ns) : AllReg ns := by
  obtain ⟨n, j, h⟩ := h
  exact (wholeR_reg hP h).1
theorem rxR_some {t : ByteArray} {l : List Int} (h : runesOf t = some l) : rxR t 1000 = wholeR l := by
  unfold rxR
  rw [h]
  have := (runes_small h).2
  simp only
  rw [if_neg (by omega)]
theorem sound_iff (ns : List Nd) : soundP ns ↔ soundQ ns := by
  constructor
  · rintro ⟨hl, hr⟩
    have hreg := readsAs_reg pts_of hr
    have plain : runesOf (bytesT (textI ns)) = none ∨ textI ns = [] → ns = [plainNode 1] := by
      intro hq
      have : (runesOf (bytesT (textI ns))).getD [] = [] := by
        rcases hq with h | h
        · rw [h]; rfl
        · rw [h, runes_nil]; rfl
      rw [this] at hr
      obtain ⟨n, j, h⟩ := hr
      obtain ⟨n', j', h'⟩ := whole_nil
      rw [h'] at h
      injection h with _ _ h
      exact h.symm
    have ht : isTreeR ns = true := by
      cases hq : isTreeR ns with
      | true => rfl
      | false =>
        have : textI ns = [] := by unfold textI; rw [if_neg (by rw [hq]; simp)]
        have := plain (.inr this)
        subst this
        revert hq; decide
    refine ⟨hl, ht, ?_⟩
    rw [← text_eq hreg]
    cases hq : runesOf (bytesT (textI ns)) with
    | none =>
      have := plain (.inl hq)
      subst this
      rw [text_plain, runes_nil] at hq
      cases hq
    | some l =>
      rw [rxR_some hq]
      rw [hq] at hr
      exact hr
  · rintro ⟨hl, ht, hr⟩
    refine ⟨hl, ?_⟩
    cases hq : runesOf (bytesT (textS ns)) with
    | none =>
      obtain ⟨n, j, h⟩ := hr
      unfold rxR at h
      rw [hq] at h
      cases h
    | some l =>
      rw [rxR_some hq] at hr
      have hreg := readsAs_reg (text_cat hq).2.1 hr
      rw [text_eq hreg, hq]
      exact hr

end Go.Proofs.YtdkjfppjbkdelaaGreatDoor
