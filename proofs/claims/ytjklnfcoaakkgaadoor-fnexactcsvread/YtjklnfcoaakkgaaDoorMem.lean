/- Words on memory for this seat's walks: a slice value that reads as a list of integers, nil let in. No condition. -/
import Derived.WalkKit
import Derived.Below
import Derived.OwnWalk
import Derived.Deep.Draws
namespace Go.Proofs.YtjklnfcoaakkgaaDoor
open Go.RowKit

/-- A slice value at address A with as many elements as zs: each of them reads as zs says, in a block below B. -/
def Nums (k : IntKind) (w : World) (B : Nat) (A : Option Addr) (zs : List Int) : Prop :=
  ∀ j, (h : j < zs.length) → ∃ b o, A = some ⟨b, o, none⟩ ∧ b < B ∧ w.cell? ⟨b, o + j, none⟩ = some (.int k zs[j])

theorem Nums.move {k : IntKind} {w w' : World} {B B' : Nat} {A : Option Addr} {zs : List Int} (h : Nums k w B A zs) (hB : B ≤ B')
    (hk : ∀ p : Addr, p.block < B → w'.cell? p = w.cell? p) : Nums k w' B' A zs := fun j hj => by
  obtain ⟨b, o, e, hb, hc⟩ := h j hj
  exact ⟨b, o, e, by omega, (hk ⟨b, o + j, none⟩ hb).trans hc⟩

theorem Nums.below {k : IntKind} {w w' : World} {B : Nat} {A : Option Addr} {zs : List Int} (h : Nums k w B A zs) (hb : Below B w w') : Nums k w' B A zs :=
  h.move (Nat.le_refl _) fun _ hp => hb.cell hp

theorem Nums.up {k : IntKind} {w : World} {B B' : Nat} {A : Option Addr} {zs : List Int} (h : Nums k w B A zs) (hB : B ≤ B') : Nums k w B' A zs :=
  h.move hB fun _ _ => rfl

theorem Nums.own {k : IntKind} {w : World} {base : Nat} {e : TypeId} {A : Option Addr} {n c : Nat} {zs : List Int}
    (h : w.ownsRow base e 1 (.slice A n c) n (zs.map (Value.int k))) : Nums k w w.heap.size A zs := fun j hj => by
  have hl : zs.length = n := by have := h.1; simpa using this
  rcases h.2 with ⟨_, h0⟩ | ⟨g, cap, cur, hv, hb, hg, _⟩
  · omega
  · injection hv with hA _ _
    subst hA
    have hlt : g < w.heap.size := (Array.getElem?_eq_some_iff.1 hg).1
    refine ⟨g, 0, rfl, hlt, ?_⟩
    have := h.cells (g := g) rfl j (.int k zs[j]) (by simp [hj])
    simpa [Addr.add_lit] using this

theorem below_cells {W w1 : World} (hb : Below W.heap.size W w1) :
    (∀ b o, b < W.heap.size → w1.cell? ⟨b, o, none⟩ = W.cell? ⟨b, o, none⟩) ∧ (∀ b o, b < W.heap.size → w1.frozen? ⟨b, o, none⟩ = W.frozen? ⟨b, o, none⟩) :=
  ⟨fun b o h => hb.cell (p := ⟨b, o, none⟩) h, fun b o h => hb.frozen (p := ⟨b, o, none⟩) h⟩

theorem belowDrewN {B : Nat} {a w : World} (h : Below B a w) : ∀ q, Below B a (w.drewN q)
  | 0 => h
  | q + 1 => (belowDrewN h q).drew

theorem own_form {w : World} {base : Nat} {e : TypeId} {size : Nat} {v : Value} {n : Nat} {xs : List Value} (h : w.ownsRow base e size v n xs) : ∃ A c, v = .slice A n c := by
  rcases h.2 with ⟨rfl, rfl⟩ | ⟨g, cap, cur, rfl, _⟩
  · exact ⟨_, _, rfl⟩
  · exact ⟨_, _, rfl⟩

theorem own_block {w : World} {base : Nat} {e : TypeId} {size : Nat} {v : Value} {n : Nat} {xs : List Value} (h : w.ownsRow base e size v n xs) : ∀ k, v.ownBlock = some k → base ≤ k :=
  fun k hk => (h.lt k hk).1

end Go.Proofs.YtjklnfcoaakkgaaDoor
