/- A decimal is taken out of its block whole, and laid into one whole. No condition beyond what each theorem states. -/
import Derived.Test.YtpkmhojcccpolaaDoorTailDec
import Derived.Laws.ResultCell
namespace Go.Proofs.YtpkmhojcccpolaaDoor
set_option linter.unusedVariables false
open Go.RowKit

abbrev row3 (n : Bool) (s : ByteArray) (e : Int) : Array Value := #[.bool n, .string s, .int .i64 e]
theorem row3_one (n : Bool) (s : ByteArray) (e : Int) : (row3 n s e).all (·.oneCell') = true := by simp [Value.oneCell']
theorem load_dec {ops : Array Oper} {rest : List Oper} {a : Act} {w : World} {Q : Exit → Act → World → Prop} {dst : Option Tmp} {ty : TypeId} {pos : String} {after : Array Edge} {x : Operand} {n : Bool} {s : ByteArray} {e : Int} (g : Nat)
    (hx : a.eval x = .pointer (some ⟨g, 0, none⟩)) (hg : DecAt w g n s e) (h : wpList Tryd.prog ops Q rest (a.put dst (.agg (row3 n s e))) w) :
    wpList Tryd.prog ops Q (⟨dst, .load 26 x, ty, pos, after, none⟩ :: rest) a w :=
  wpList_load_row rfl 26 x rfl g hx _ _ _ _ hg Tryd.underlying26 rfl Tryd.sizeDec h
theorem store_dec {ops : Array Oper} {rest : List Oper} {a : Act} {w : World} {Q : Exit → Act → World → Prop} {dst : Option Tmp} {ty : TypeId} {pos : String} {after : Array Edge} {x y : Operand} {n rn : Bool} {s rs : ByteArray} {e re : Int} (g : Nat)
    (hx : a.eval x = .pointer (some ⟨g, 0, none⟩)) (hy : a.eval y = .agg (row3 rn rs re)) (hg : DecAt w g n s e) (h : wpList Tryd.prog ops Q rest (a.put dst undef) (w.setRow g (row3 rn rs re))) :
    wpList Tryd.prog ops Q (⟨dst, .store 26 x y, ty, pos, after, none⟩ :: rest) a w :=
  wpList_store_row rfl 26 x y rfl g (row3 rn rs re) hx hy _ _ hg Tryd.sizeDec rfl (row3_one rn rs re) h
theorem results_dec {fn : Func} {p : Tmp} (h : fn.results = #[.cell p 26]) (tmps : Array Value) (w : World) {g : Nat} {n : Bool} {s : ByteArray} {e : Int}
    (hp : tmps.getD p undef = .pointer (some ⟨g, 0, none⟩)) (hg : DecAt w g n s e) : (results fn tmps).run Tryd.prog w = .ok (.agg (row3 n s e)) w :=
  results_cell_row h tmps w g 26 _ (0, 0) _ hp hg Tryd.underlying26 rfl Tryd.sizeDec
theorem below_row3 {B : Nat} {a w : World} (h : Below B a w) {g : Nat} (hg : B ≤ g) (C : Array Value) : Below B a (w.setRow g C) :=
  h.trans ⟨rfl, rfl, rfl, by simp, fun k hk => setRow_other w g k C (by omega)⟩
theorem DecAt.row {w : World} {p : Nat} {n n' : Bool} {s s' : ByteArray} {e e' : Int} (h : DecAt w p n s e) : DecAt (w.setRow p (row3 n' s' e')) p n' s' e' := setRow_heap _ _ _ _ _ _ h
theorem DecAt.rowO {w : World} {p g : Nat} {n : Bool} {s : ByteArray} {e : Int} (h : DecAt w p n s e) (hg : p ≠ g) (C : Array Value) : DecAt (w.setRow g C) p n s e := (setRow_other _ _ _ _ hg).trans h
/-- Behind a call that answered a decimal: it is stored in a new block, and that in the answer's. -/
theorem two_rows {w w3 : World} {rn : Bool} {rs : ByteArray} {re : Int} (K : DecAt w3 w.heap.size false ⟨#[]⟩ 0) (D : Below w.heap.size w w3) :
    DecAt (w3.alloc (.cells (row3 false ⟨#[]⟩ 0) 26)) w3.heap.size false ⟨#[]⟩ 0 ∧
    DecAt ((w3.alloc (.cells (row3 false ⟨#[]⟩ 0) 26)).setRow w3.heap.size (row3 rn rs re)) w3.heap.size rn rs re ∧
    DecAt ((w3.alloc (.cells (row3 false ⟨#[]⟩ 0) 26)).setRow w3.heap.size (row3 rn rs re)) w.heap.size false ⟨#[]⟩ 0 ∧
    Below w.heap.size w ((w3.alloc (.cells (row3 false ⟨#[]⟩ 0) 26)).setRow w3.heap.size (row3 rn rs re)) :=
  ⟨DecAt.new w3 _ _ _, (DecAt.new w3 false ⟨#[]⟩ 0).row, (K.alloc _).rowO (Nat.ne_of_lt K.lt) _, below_row3 (D.alloc D.size _) D.size _⟩

end Go.Proofs.YtpkmhojcccpolaaDoor
