/- Plain mathematics: turning the letters of a text by code points, or by bytes, is the same. No program in it. -/
import Derived.Test.YtbdacfljdpdmiaaDoorCased
namespace Go.Proofs.YtbdacfljdpdmiaaDoor
open Go.Lib (encodeRuneZ encodeRune byteCells runeCells encodeRuneZ_length)

theorem enc_small {c : Int} (h0 : 0 ≤ c) (h : c < 128) : encodeRune c = [c.toNat.toUInt8] := by
  unfold encodeRune; rw [Lib.encodeRuneZ_one h0 (by omega)]; rfl
theorem enc_high {c : Int} (hp : pt c = true) (h : 128 ≤ c) : ∀ x ∈ encodeRune c, 128 ≤ x.toNat := by
  intro x hx
  unfold encodeRune at hx
  obtain ⟨z, hz, rfl⟩ := List.mem_map.1 hx
  have hb := Lib.encodeRuneZ_byte c z hz
  have h1 : 128 ≤ z := by
    have := pt_iff.1 hp
    by_cases g1 : c < 2048
    · rw [enc2 (by omega) g1] at hz
      simp at hz
      omega
    · by_cases g2 : c < 65536
      · rw [enc3 hp g1 g2] at hz
        simp at hz
        omega
      · rw [enc4 hp g2] at hz
        simp at hz
        omega
  simp
  omega

theorem enc_turn {a b g : UInt8} {lo dy c : Int} (h1 : lo = a.toNat) (h2 : (b.toNat : Int) = lo + 25) (h3 : (g.toNat : Int) = lo + dy) (h4 : b.toNat < 128) (h5 : g.toNat + 25 < 128) (hp : pt c = true) :
    (encodeRune c).map (turnB a b g) = encodeRune (caseP lo dy c) := by
  have hc := pt_iff.1 hp
  by_cases h : c < 128
  · rw [enc_small (by omega) h]
    have hn : c.toNat.toUInt8.toNat = c.toNat := by simp; omega
    by_cases hin : lo ≤ c ∧ c ≤ lo + 25
    · unfold caseP
      rw [if_pos hin, enc_small (by omega) (by omega)]
      simp only [List.map_cons, List.map_nil, List.cons.injEq, and_true]
      apply UInt8.toNat.inj
      have h6 := turn_num (a := a) (b := b) (g := g) (x := c.toNat.toUInt8) (by omega) (by omega) (by omega)
      have h7 : (c + dy).toNat.toUInt8.toNat = (c + dy).toNat := by simp; omega
      omega
    · unfold caseP
      rw [if_neg hin, enc_small (by omega) h]
      simp only [List.map_cons, List.map_nil, List.cons.injEq, and_true]
      unfold turnB
      rw [if_neg (by omega)]
  · have hne : ¬ (lo ≤ c ∧ c ≤ lo + 25) := by omega
    unfold caseP
    rw [if_neg hne]
    conv => rhs; rw [← List.map_id (encodeRune c)]
    apply List.map_congr_left
    intro x hx
    have := enc_high hp (by omega) x hx
    unfold turnB
    rw [if_neg (by omega)]
    rfl

theorem cat_turn {a b g : UInt8} {lo dy : Int} (h1 : lo = a.toNat) (h2 : (b.toNat : Int) = lo + 25) (h3 : (g.toNat : Int) = lo + dy) (h4 : b.toNat < 128) (h5 : g.toNat + 25 < 128) :
    ∀ l : List Int, (∀ c ∈ l, pt c = true) → (cat l).map (turnB a b g) = cat (l.map (caseP lo dy))
  | [], _ => rfl
  | c :: l, h => by
    rw [cat_cons, List.map_append, List.map_cons, cat_cons, enc_turn h1 h2 h3 h4 h5 (h c (List.mem_cons_self ..)), cat_turn h1 h2 h3 h4 h5 l fun z hz => h z (List.mem_cons_of_mem _ hz)]

theorem case_same {a b g : UInt8} {lo dy : Int} (h1 : lo = a.toNat) (h2 : (b.toNat : Int) = lo + 25) (h3 : (g.toNat : Int) = lo + dy) (h4 : b.toNat < 128) (h5 : g.toNat + 25 < 128) (s : ByteArray) :
    shiftedOf a b g s = casedOf lo dy s := by
  unfold shiftedOf casedOf
  cases ho : runesOf s with
  | none => rfl
  | some l =>
    obtain ⟨hcat, hpts, _⟩ := text_cat ho
    show s.data.toList.map (turnB a b g) = cat (l.map (caseP lo dy))
    rw [← hcat]
    exact cat_turn h1 h2 h3 h4 h5 l hpts

theorem case_pt {lo dy : Int} (h3 : 1 ≤ lo + dy) (h4 : lo + dy + 25 < 128) : ∀ z, pt z = true → pt (caseP lo dy z) = true := by
  intro z hz
  have := pt_iff.1 hz
  apply pt_iff.2
  unfold caseP
  split <;> omega

end Go.Proofs.YtbdacfljdpdmiaaDoor
