/- Plain mathematics of chapter 1: code points, their bytes, the text of a list of code points. No program in it. -/
import Derived.Lib.RuneBytes
import Derived.Laws.IdiomStrings
import Derived.Laws.AppendOwn
namespace Go.Proofs.YtjklnfcoaakkgaaDoor
open Go.Lib

/-- Is the number a code point of the document? -/
def pt (c : Int) : Bool := decide (1 ≤ c ∧ c ≤ 1114111 ∧ (c < 55296 ∨ 57343 < c))

theorem pt_iff {c : Int} : pt c = true ↔ 1 ≤ c ∧ c ≤ 1114111 ∧ (c < 55296 ∨ 57343 < c) := by simp [pt]
theorem pt_not {c : Int} : pt c = false ↔ ¬ (1 ≤ c ∧ c ≤ 1114111 ∧ (c < 55296 ∨ 57343 < c)) := by simp only [pt, decide_eq_false_iff_not]

theorem enc1 {c : Int} (h : pt c = true) (h1 : c < 128) : encodeRuneZ c = [c] := encodeRuneZ_one (by have := pt_iff.1 h; omega) (by omega)
theorem enc2 {c : Int} (h1 : ¬ c < 128) (h2 : c < 2048) : encodeRuneZ c = [192 + c / 64, 128 + c % 64] := encodeRuneZ_two (by omega) (by omega)
theorem enc3 {c : Int} (h : pt c = true) (h1 : ¬ c < 2048) (h2 : c < 65536) : encodeRuneZ c = [224 + c / 4096, 128 + c / 64 % 64, 128 + c % 64] :=
  encodeRuneZ_three (by have := pt_iff.1 h; omega)
theorem enc4 {c : Int} (h : pt c = true) (h1 : ¬ c < 65536) : encodeRuneZ c = [240 + c / 262144, 128 + c / 4096 % 64, 128 + c / 64 % 64, 128 + c % 64] :=
  encodeRuneZ_four (by omega) (by have := pt_iff.1 h; omega)

theorem encodeRune_length (c : Int) : 1 ≤ (encodeRune c).length ∧ (encodeRune c).length ≤ 4 := by
  have := encodeRuneZ_length c
  simpa [encodeRune] using this

/-- The text of the code points behind a beginning, with the limit of 1000 bytes. -/
def textGo : List UInt8 → List Int → Option (List UInt8)
  | acc, [] => some acc
  | acc, c :: r => if pt c then (if 1000 < (acc ++ encodeRune c).length then none else textGo (acc ++ encodeRune c) r) else none

def txt (o : Option (List UInt8)) : ByteArray := ⟨(o.getD []).toArray⟩

theorem textGo_bad {acc : List UInt8} {zs : List Int} {k : Nat} (h : k < zs.length) (hp : pt zs[k] = false) : textGo acc (zs.drop k) = none := by
  rw [List.drop_eq_getElem_cons h, textGo, if_neg (by simp [hp])]
theorem textGo_long {acc : List UInt8} {zs : List Int} {k : Nat} (h : k < zs.length) (hl : 1000 < acc.length + (encodeRune zs[k]).length) : textGo acc (zs.drop k) = none := by
  rw [List.drop_eq_getElem_cons h, textGo]
  split
  · rw [if_pos (by simpa using hl)]
  · rfl
theorem textGo_on {acc : List UInt8} {zs : List Int} {k : Nat} (h : k < zs.length) (hp : pt zs[k] = true) (hl : ¬ 1000 < acc.length + (encodeRune zs[k]).length) :
    textGo acc (zs.drop k) = textGo (acc ++ encodeRune zs[k]) (zs.drop (k + 1)) := by
  rw [List.drop_eq_getElem_cons h, textGo, if_pos hp, if_neg (by simpa using hl)]
theorem textGo_end {acc : List UInt8} {zs : List Int} {k : Nat} (h : zs.length ≤ k) : textGo acc (zs.drop k) = some acc := by
  rw [List.drop_eq_nil_of_le h, textGo]

theorem byteCells_append (a b : List UInt8) : byteCells (a ++ b) = byteCells a ++ byteCells b := by simp [byteCells]
theorem byteCells_length (a : List UInt8) : (byteCells a).length = a.length := by simp [byteCells]

/-- string(b) of a row of bytes that the call owns. -/
theorem conv_own {P : Program} {w : World} {base : Nat} {src dst e : TypeId} {v : Value} {l : List UInt8}
    (hs : P.underlying src = some (.slice e)) (he : P.underlying e = some (.int .u8)) (hd : P.underlying dst = some .string)
    (h : w.ownsRow base e 1 v l.length (byteCells l)) : (convert src dst v).run P w = .ok (.string ⟨l.toArray⟩) w := by
  rcases h.2 with ⟨rfl, h0⟩ | ⟨g, cap, cur, rfl, hb, hg, _⟩
  · have : l = [] := List.eq_nil_of_length_eq_zero h0
    subst this
    rw [run_convert_bytes_string w src dst e none 0 0 hs he hd]
    simp [Conv.bytesToString]
    rfl
  · refine run_convert_bytes_back w src dst e ⟨g, 0, none⟩ cap l hs he hd fun j hj => ?_
    exact h.cells (g := g) rfl j _ (by simp [byteCells, hj])

theorem own_more {w : World} {base : Nat} {e : TypeId} {v : Value} {acc : List UInt8} {c : Int}
    (h : w.ownsRow base e 1 v (acc.length + (encodeRuneZ c).length) (byteCells acc ++ (encodeRuneZ c).map (Value.int .u8))) :
    w.ownsRow base e 1 v (acc ++ encodeRune c).length (byteCells (acc ++ encodeRune c)) := by
  have e1 : (acc ++ encodeRune c).length = acc.length + (encodeRuneZ c).length := by simp [encodeRune]
  have e2 : byteCells (acc ++ encodeRune c) = byteCells acc ++ (encodeRuneZ c).map (Value.int .u8) := by
    rw [byteCells_append, byteCells_encodeRune]; rfl
  rw [e1, e2]; exact h

theorem encZ_length (c : Int) : (encodeRuneZ c).length = (encodeRune c).length := by simp [encodeRune]

theorem new_cells (w : World) (c : Int) (e : TypeId) : ∀ j u, ((encodeRuneZ c).map (Value.int .u8))[j]? = some u →
    (w.alloc (.cells ((encodeRuneZ c).map (Value.int .u8)).toArray e)).cell? ((⟨w.heap.size, 0, none⟩ : Addr).add j) = some u := by
  intro j u hu
  rw [Addr.add_lit, Nat.zero_add, cell_of_row _ w.heap.size j _ e (0, 0) (heap_alloc_new w _), List.getElem?_toArray]
  exact hu

theorem new_one (c : Int) : ∀ u ∈ (encodeRuneZ c).map (Value.int .u8), u.oneCell' = true := by
  intro u hu
  simp only [List.mem_map] at hu
  obtain ⟨x, _, rfl⟩ := hu
  rfl

end Go.Proofs.YtjklnfcoaakkgaaDoor
