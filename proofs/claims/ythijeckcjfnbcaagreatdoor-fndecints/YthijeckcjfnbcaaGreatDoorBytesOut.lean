/- A row of bytes that a call owns, with a decimal beside it: what appending to it does. No condition beyond what each theorem states. -/
import Derived.Test.YthijeckcjfnbcaaGreatDoorSpecDecA
import Derived.Lib.AppendStr
import Derived.Laws.AppendOwn
import Derived.OwnWalk
namespace Go.Proofs.YthijeckcjfnbcaaGreatDoor
set_option linter.unusedVariables false
open Go.RowKit
open Go.Lib (byteCells)

namespace Out
theorem infoU8 : (Tryz.prog.info? 5).map (fun i => (i.zero, i.size, i.bytes)) = some (some (.int .u8 0), 1, 1) := by kernel_rfl
/-- The row holds the bytes; B: the blocks from which on it may lie. -/
def Bytes (w : World) (B : Nat) (v : Value) (acc : List UInt8) : Prop := w.ownsRow B 5 1 v acc.length (byteCells acc)
theorem str_cells (s : ByteArray) : Lib.strCells s = byteCells s.data.toList := rfl
theorem cells_app (a b : List UInt8) : byteCells (a ++ b) = byteCells a ++ byteCells b := by simp [byteCells]
theorem bytes_nil (w : World) (B : Nat) : Bytes w B (.slice none 0 0) [] := ⟨by simp [byteCells], .inl ⟨rfl, rfl⟩⟩
/-- The row is no decimal's block. -/
theorem ne_dec {w : World} {B p k : Nat} {v : Value} {acc : List UInt8} {n : Bool} {s : ByteArray} {e : Int} (h : Bytes w B v acc) (hd : DecAt w p n s e) : v.ownBlock ≠ some p := by
  intro hv
  rcases h.2 with ⟨rfl, _⟩ | ⟨g, cap, cur, rfl, _, hg, _⟩
  · cases hv
  · have e1 : g = p := Option.some.inj hv
    subst e1
    unfold DecAt at hd
    rw [hd] at hg
    injection hg with hg
    injection hg with _ ht
    revert ht; decide

/-- What is known on the way: the row, the decimal, the frame. -/
structure St (w0 : World) (B p : Nat) (n : Bool) (s : ByteArray) (e : Int) (v : Value) (acc : List UInt8) (w : World) : Prop where
  row : Bytes w B v acc
  dec : DecAt w p n s e
  below : Below B w0 w
  base : B ≤ w0.heap.size

section
variable {w0 w w' : World} {B p : Nat} {n : Bool} {s : ByteArray} {e : Int} {v v' : Value} {acc : List UInt8}
theorem St.size (h : St w0 B p n s e v acc w) : B ≤ w.heap.size := Nat.le_trans h.base h.below.size
theorem St.alloc (h : St w0 B p n s e v acc w) (o : Obj) : St w0 B p n s e v acc (w.alloc o) := ⟨h.row.alloc _, h.dec.alloc o, h.below.alloc h.size o, h.base⟩
theorem own_ge (h : Bytes w B v acc) : ∀ k, v.ownBlock = some k → B ≤ k := fun k hk => (h.lt k hk).1
theorem St.grown (h : St w0 B p n s e v acc w) (hg : w.grownBy w' v.ownBlock) {acc' : List UInt8} (hr : Bytes w' B v' acc') : St w0 B p n s e v' acc' w' :=
  ⟨hr, (hg.block p h.dec.lt (fun x => ne_dec (k := 0) h.row h.dec x.symm)).trans h.dec, h.below.grown hg h.size (own_ge h.row), h.base⟩
theorem St.kept (h : St w0 B p n s e v acc w) (hb : Below w.heap.size w w') : St w0 B p n s e v acc w' :=
  ⟨World.ownsRow.kept (row := none) h.row ⟨hb.os, hb.tape, hb.output, hb.size, fun k hk _ => hb.block k hk⟩ (by cases hv : v.ownBlock <;> simp), h.dec.belowS hb, h.below.trans (hb.mono h.size), h.base⟩

variable {ops : Array Oper} {rest : List Oper} {a : Act} {Q : Exit → Act → World → Prop} {dst : Option Tmp} {ty : TypeId} {pos : String} {after : Array Edge} {sl x : Operand}
theorem app_str {u : ByteArray} (S : St w0 B p n s e v acc w) (hs : a.eval sl = v) (hx : a.eval x = .string u) (hlim : acc.length + u.size ≤ 1000000)
    (h : ∀ v' w', St w0 B p n s e v' (acc ++ u.data.toList) w' → wpList Tryz.prog ops Q rest (a.put dst v') w') :
    wpList Tryz.prog ops Q (⟨dst, .call { callee := .builtin .append, args := #[sl, x], argTypes := #[22, 9] }, ty, pos, after, none⟩ :: rest) a w := by
  obtain ⟨i0, hi, hz0, hz1, hz2⟩ := info_parts infoU8
  refine Lib.wpList_append_own_string w rfl sl x 22 9 rfl B 5 i0 Tryz.underlying22 Tryz.underlying9 hi hz0 hz1 hz2 v _ _ hs S.row u hx (by unfold maxLen; omega) (by omega) S.size ?_
  intro v' w' ho hg _
  refine h v' w' (S.grown hg ?_)
  unfold Bytes
  rw [cells_app, List.length_append, size_list]
  exact ho
theorem app_byte {c : UInt8} {z : Int} {g : Nat} (S : St w0 B p n s e v acc w) (hz : z = (c.toNat : Int)) (hs : a.eval sl = v) (hx : a.eval x = .slice (some ⟨g, 0, none⟩) 1 1) (hg : g = w.heap.size) (hlim : acc.length ≤ 1000000)
    (h : ∀ v' w', St w0 B p n s e v' (acc ++ [c]) w' → wpList Tryz.prog ops Q rest (a.put dst v') w') :
    wpList Tryz.prog ops Q (⟨dst, .call { callee := .builtin .append, args := #[sl, x], argTypes := #[22, 22] }, ty, pos, after, none⟩ :: rest) a (w.alloc (.cells #[.int .u8 z] 5)) := by
  obtain ⟨i0, hi, hz0, hz1, hz2⟩ := info_parts infoU8
  subst hz
  subst hg
  have S1 := S.alloc (.cells #[.int .u8 (c.toNat : Int)] 5)
  refine wpList_append_own _ rfl sl x 22 rfl B 5 i0 (.int .u8 0) 1 1 Tryz.underlying22 hi hz0 hz1 hz2 rfl (by decide) v _ _ hs S1.row ⟨w.heap.size, 0, none⟩ 1 1 [.int .u8 (c.toNat : Int)] hx rfl ?_ ?_ (by unfold maxLen; omega) (by omega) S1.size ?_
  · intro j u hu
    rcases j with _ | j
    · obtain rfl : Value.int .u8 (c.toNat : Int) = u := by simpa using hu
      rw [Addr.add_lit, Nat.zero_add, cell_of_row _ w.heap.size 0 _ 5 (0, 0) (heap_alloc_new w _)]
      rfl
    · simp at hu
  · intro u hu
    rw [List.mem_singleton.1 hu]; rfl
  intro v' w' ho hg _
  refine h v' w' (S1.grown hg ?_)
  unfold Bytes
  rw [cells_app, List.length_append]
  exact ho
end
end Out
end Go.Proofs.YthijeckcjfnbcaaGreatDoor
