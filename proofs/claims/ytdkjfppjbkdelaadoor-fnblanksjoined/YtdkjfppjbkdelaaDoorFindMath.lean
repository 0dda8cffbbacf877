/- Plain mathematics: a text stands at a place of another by code points just if it does by bytes. No program in it. -/
import Derived.Test.YtdkjfppjbkdelaaDoorValidA
namespace Go.Proofs.YtdkjfppjbkdelaaDoor
open Go.Lib

theorem byte_num {x : Int} (h0 : 0 ≤ x) (h1 : x < 256) : (x.toNat.toUInt8.toNat : Int) = x := by simp; omega

theorem decode_encode {c : Int} (hp : pt c = true) (r : List UInt8) : decodeL (encodeRune c ++ r) = (c.toNat, (encodeRune c).length) := by
  have hc := pt_iff.1 hp
  rw [decodeL_N]
  unfold encodeRune
  by_cases h1 : c < 128
  · rw [enc1 hp h1]
    have e0 := byte_num (x := c) (by omega) (by omega)
    simp only [List.map_cons, List.map_nil, List.singleton_append, List.getD_cons_zero, List.length_cons, List.length_nil]
    unfold decodeN
    rw [if_pos (by omega)]
    congr 1
    omega
  · by_cases h2 : c < 2048
    · rw [enc2 h1 h2]
      have e0 := byte_num (x := 192 + c / 64) (by omega) (by omega)
      have e1 := byte_num (x := 128 + c % 64) (by omega) (by omega)
      simp only [List.map_cons, List.map_nil, List.cons_append, List.nil_append, List.getD_cons_zero, List.getD_cons_succ, List.length_cons, List.length_nil]
      generalize ((192 + c / 64).toNat.toUInt8).toNat = b0 at *
      generalize ((128 + c % 64).toNat.toUInt8).toNat = b1 at *
      unfold decodeN
      rw [if_neg (by omega), if_pos (by omega), if_pos (by omega)]
      congr 1
      omega
    · by_cases h3 : c < 65536
      · rw [enc3 hp h2 h3]
        have e0 := byte_num (x := 224 + c / 4096) (by omega) (by omega)
        have e1 := byte_num (x := 128 + c / 64 % 64) (by omega) (by omega)
        have e2 := byte_num (x := 128 + c % 64) (by omega) (by omega)
        simp only [List.map_cons, List.map_nil, List.cons_append, List.nil_append, List.getD_cons_zero, List.getD_cons_succ, List.length_cons, List.length_nil]
        generalize ((224 + c / 4096).toNat.toUInt8).toNat = b0 at *
        generalize ((128 + c / 64 % 64).toNat.toUInt8).toNat = b1 at *
        generalize ((128 + c % 64).toNat.toUInt8).toNat = b2 at *
        unfold decodeN
        rw [if_neg (by omega), if_neg (by omega), if_pos (by omega), if_pos (by omega)]
        congr 1
        omega
      · rw [enc4 hp h3]
        have e0 := byte_num (x := 240 + c / 262144) (by omega) (by omega)
        have e1 := byte_num (x := 128 + c / 4096 % 64) (by omega) (by omega)
        have e2 := byte_num (x := 128 + c / 64 % 64) (by omega) (by omega)
        have e3 := byte_num (x := 128 + c % 64) (by omega) (by omega)
        simp only [List.map_cons, List.map_nil, List.cons_append, List.nil_append, List.getD_cons_zero, List.getD_cons_succ, List.length_cons, List.length_nil]
        generalize ((240 + c / 262144).toNat.toUInt8).toNat = b0 at *
        generalize ((128 + c / 4096 % 64).toNat.toUInt8).toNat = b1 at *
        generalize ((128 + c / 64 % 64).toNat.toUInt8).toNat = b2 at *
        generalize ((128 + c % 64).toNat.toUInt8).toNat = b3 at *
        unfold decodeN
        rw [if_neg (by omega), if_neg (by omega), if_neg (by omega), if_pos (by omega), if_pos (by omega)]
        congr 1
        omega

theorem cat_prefix : ∀ (b a : List Int), (∀ c ∈ b, pt c = true) → (∀ c ∈ a, pt c = true) → ((cat b) <+: (cat a) ↔ b <+: a)
  | [], a, _, _ => by simp [cat_nil]
  | c :: b, [], hb, _ => by
    rw [cat_cons, cat_nil]
    constructor
    · intro h
      have h1 := h.length_le
      have h2 := (encodeRune_length c).1
      simp only [List.length_append, List.length_nil] at h1
      omega
    · intro h
      have h1 := h.length_le
      simp at h1
  | c :: b, d :: a, hb, ha => by
    have ih := cat_prefix b a (fun x hx => hb x (List.mem_cons_of_mem _ hx)) (fun x hx => ha x (List.mem_cons_of_mem _ hx))
    have pc := hb c (List.mem_cons_self ..)
    have pd := ha d (List.mem_cons_self ..)
    rw [cat_cons, cat_cons, List.cons_prefix_cons, ← ih]
    constructor
    · intro h
      obtain ⟨r, hr⟩ := h
      have h1 := decode_encode pc (cat b ++ r)
      have h2 := decode_encode pd (cat a)
      rw [← List.append_assoc, hr, h2] at h1
      have h3 := congrArg Prod.fst h1
      simp only at h3
      have c1 := pt_iff.1 pc
      have d1 := pt_iff.1 pd
      have hcd : c = d := by omega
      subst hcd
      refine ⟨rfl, ?_⟩
      rw [List.append_assoc] at hr
      exact ⟨r, List.append_cancel_left hr⟩
    · rintro ⟨rfl, h⟩
      exact (List.prefix_append_right_inj _).2 h

/-- Where a list first stands in another, counted from 1; 0 of nowhere. -/
def findL (a b : List Int) : Nat := match (List.range a.length).find? (fun j => b.isPrefixOf (a.drop j)) with | some j => j + 1 | none => 0

theorem findL_hit {a b : List Int} {i : Nat} (hi : i < a.length) (h : b <+: a.drop i) (hn : ∀ j, j < i → ¬ b <+: a.drop j) : findL a b = i + 1 := by
  unfold findL
  have : (List.range a.length).find? (fun j => b.isPrefixOf (a.drop j)) = some i := by
    rw [List.find?_range_eq_some]
    refine ⟨List.isPrefixOf_iff_prefix.2 h, by simpa using hi, fun j hj => ?_⟩
    simp only [Bool.not_eq_true', ← Bool.not_eq_true]
    intro e
    exact hn j hj (List.isPrefixOf_iff_prefix.1 e)
  rw [this]
theorem findL_none {a b : List Int} (hn : ∀ j, j < a.length → ¬ b <+: a.drop j) : findL a b = 0 := by
  unfold findL
  have : (List.range a.length).find? (fun j => b.isPrefixOf (a.drop j)) = none := by
    rw [List.find?_eq_none]
    intro j hj e
    exact hn j (by simpa using hj) (List.isPrefixOf_iff_prefix.1 e)
  rw [this]

def findOf (s t : ByteArray) : Nat := match runesOf s, runesOf t with | some a, some b => if b = [] then 0 else findL a b | _, _ => 0

/-- As far as k the two agree from i on. -/
def agree (a b : List Int) (i k : Nat) : Bool := (b.take k).isPrefixOf (a.drop i)
theorem agree_zero (a b : List Int) (i : Nat) : agree a b i 0 = true := by simp [agree]
theorem agree_all (a b : List Int) (i : Nat) : agree a b i b.length = true ↔ b <+: a.drop i := by simp [agree, List.isPrefixOf_iff_prefix]
theorem agree_less {a b : List Int} {i k : Nat} (h : agree a b i k = false) : ¬ b <+: a.drop i := by
  intro g
  have : agree a b i k = true := List.isPrefixOf_iff_prefix.2 ((List.take_prefix k b).trans g)
  rw [this] at h
  cases h
theorem agree_step {a b : List Int} {i k : Nat} (hk : k < b.length) (hi : i + k < a.length) (h : agree a b i k = true) : agree a b i (k + 1) = (a[i + k] == b[k]) := by
  have h1 := List.isPrefixOf_iff_prefix.1 h
  rw [List.prefix_iff_eq_take, List.length_take, Nat.min_eq_left (by omega)] at h1
  rw [Bool.eq_iff_iff, beq_iff_eq]
  unfold agree
  rw [List.isPrefixOf_iff_prefix, List.prefix_iff_eq_take, List.length_take, Nat.min_eq_left (by omega), List.take_succ_eq_append_getElem hk, List.take_succ_eq_append_getElem (by simp; omega), h1]
  simp only [List.append_cancel_left_eq, List.cons.injEq, and_true, List.getElem_drop]
  exact eq_comm

end Go.Proofs.YtdkjfppjbkdelaaDoor
