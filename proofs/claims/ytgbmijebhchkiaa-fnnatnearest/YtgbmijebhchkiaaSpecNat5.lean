/- spec.NatCmp, NatAdd, NatSub. Conditions: at most 1048576 bytes. -/
import Derived.Test.YtgbmijebhchkiaaSpecNat4
namespace Go.Proofs.Ytgbmijebhchkiaa
open Go.RowKit
open Go.Lib (byteCells)

instance (b : UInt8) : Decidable (IsD b) := inferInstanceAs (Decidable (_ ∧ _))
instance (l : List UInt8) : Decidable (Digs l) := inferInstanceAs (Decidable (∀ b ∈ l, IsD b))
instance (l : List UInt8) : Decidable (Canon l) := inferInstanceAs (Decidable (_ ∧ _))
instance (s : ByteArray) : Decidable (NatS s) := inferInstanceAs (Decidable (_ ∧ _ ∧ _))

/-- The number of a string. -/
def nv (s : ByteArray) : Nat := val s.data.toList
/-- A result within 600 digits. -/
def fits (v : Nat) : List UInt8 × Bool := if (natOf v).length ≤ 600 then (natOf v, true) else ([], false)
def Ans2 (p : List UInt8 × Bool) (w : World) (e : Ending) (w' : World) : Prop := e = .returned (.tuple #[.string ⟨p.1.toArray⟩, .bool p.2]) ∧ Below w.heap.size w w'

def cmpOf (s t : ByteArray) : Int := if NatS s ∧ NatS t then cmpN (nv s) (nv t) else 2
def addOf (s t : ByteArray) : List UInt8 × Bool := if NatS s ∧ NatS t then fits (nv s + nv t) else ([], false)
def subOf (s t : ByteArray) : List UInt8 × Bool := if NatS s ∧ NatS t ∧ nv t ≤ nv s then (natOf (nv s - nv t), true) else ([], false)

theorem NatS.eq {s : ByteArray} (h : NatS s) : s.data.toList = natOf (nv s) := (canon_eq h.2.1 h.1).symm
theorem NatS.mono {s t : ByteArray} (h : NatS s) (g : NatS t) (hle : nv t ≤ nv s) : t.size ≤ s.size := by
  rcases Nat.lt_or_ge s.size t.size with h1 | h1
  · have := canon_len_lt h.2.1 g.2.1 g.1 (by rw [size_list, size_list]; exact h1) h.1.1
    unfold nv at hle
    omega
  · exact h1

theorem AnsB.get {P : Prop} {w w' : World} {e : Ending} (h : AnsB P w e w') : (e = .returned (.bool true) ∧ P ∨ e = .returned (.bool false) ∧ ¬ P) ∧ Below w.heap.size w w' := by
  obtain ⟨b, rfl, hb, hB⟩ := h
  refine ⟨?_, hB⟩
  cases b with
  | true => exact .inl ⟨rfl, hb.1 rfl⟩
  | false => exact .inr ⟨rfl, fun h => by cases hb.2 h⟩

set_option maxHeartbeats 1000000 in
set_option maxRecDepth 100000 in
theorem specFits (v : Nat) (p : ByteArray) (w : World) (hp : p = ⟨(natOf v).toArray⟩) : Calls Try.prog 44 #[.string p] w (Ans2 (fits v) w) := by
  have hs : p.size = (natOf v).length := by rw [hp]; rfl
  by_cases h : p.size ≤ 600
  · have HF : Hid (fits v = (natOf v, true)) := by show _ = _; unfold fits; rw [if_pos (by omega)]
    have HP := Lib.hid hp
    clear hp hs
    go_enter Try.func44, Try.ntmps44
    go_wp2
    go_ret2
    exact ⟨by rw [HF.out, HP.out]; rfl, Below.refl _ _⟩
  · have HF : Hid (fits v = ([], false)) := by show _ = _; unfold fits; rw [if_neg (by omega)]
    have h1 : (600 : Int) < (p.size : Int) := by omega
    clear hp hs h
    go_enter Try.func44, Try.ntmps44
    go_wp2
    go_ret2
    exact ⟨by rw [HF.out]; rfl, Below.refl _ _⟩

set_option maxHeartbeats 1000000 in
set_option maxRecDepth 100000 in
theorem specNatCmp (s t : ByteArray) (w : World) (hs : s.size ≤ 1048576) (ht : t.size ≤ 1048576) : Calls Try.prog 31 #[.string s, .string t] w (AnsN (cmpOf s t) w) := by
  have cS := specNatOk s w hs
  have cT := fun W => specNatOk t W ht
  have cC := fun (h : NatS s) (g : NatS t) W => specCmp s t W hs ht h.2.1 g.2.1
  unfold AnsN at cC
  go_enter Try.func31, Try.ntmps31
  go_wp2_with fail
  refine cS.mono ?_
  intro e w1 hE
  obtain ⟨hE, B1⟩ := hE.get
  clear cS
  rcases hE with ⟨rfl, h1⟩ | ⟨rfl, h1⟩
  · go_wp2_with fail
    refine (cT _).mono ?_
    intro e w2 hE
    obtain ⟨hE, B2⟩ := hE.get
    have D2 := B1.trans (B2.mono B1.size)
    clear cT B1 B2
    rcases hE with ⟨rfl, h2⟩ | ⟨rfl, h2⟩
    · have HC : Hid (cmpOf s t = cmpN (val s.data.toList) (val t.data.toList)) := by show _ = _; unfold cmpOf; rw [if_pos ⟨h1, h2⟩]; rfl
      have c1 := cC h1 h2
      clear cC h1 h2
      go_wp2_with fail
      refine (c1 _).mono ?_
      rintro e w3 ⟨rfl, B3⟩
      have D3 := D2.trans (B3.mono D2.size)
      clear c1 B3 D2
      go_wp2
      go_ret
      exact ⟨by rw [HC.out]; rfl, D3⟩
    · have HC : Hid (cmpOf s t = 2) := by show _ = _; unfold cmpOf; rw [if_neg (fun h => h2 h.2)]
      clear cC h1 h2
      go_wp2
      go_ret
      exact ⟨by rw [HC.out]; rfl, D2⟩
  · have HC : Hid (cmpOf s t = 2) := by show _ = _; unfold cmpOf; rw [if_neg (fun h => h1 h.1)]
    clear cC cT h1
    go_wp2
    go_ret
    exact ⟨by rw [HC.out]; rfl, B1⟩

set_option maxHeartbeats 1000000 in
set_option maxRecDepth 100000 in
theorem specNatAdd (s t : ByteArray) (w : World) (hs : s.size ≤ 1048576) (ht : t.size ≤ 1048576) : Calls Try.prog 22 #[.string s, .string t] w (Ans2 (addOf s t) w) := by
  have cS := specNatOk s w hs
  have cT := fun W => specNatOk t W ht
  have cC := fun (h : NatS s) (g : NatS t) W => specAdd s t W (by have := h.2.2; omega) (by have := g.2.2; omega) h.2.1 g.2.1
  have cF := fun W => specFits (nv s + nv t) _ W rfl
  unfold AnsS at cC
  unfold Ans2 at cF
  go_enter Try.func22, Try.ntmps22
  go_wp2_with fail
  refine cS.mono ?_
  intro e w1 hE
  obtain ⟨hE, B1⟩ := hE.get
  clear cS
  rcases hE with ⟨rfl, h1⟩ | ⟨rfl, h1⟩
  · go_wp2_with fail
    refine (cT _).mono ?_
    intro e w2 hE
    obtain ⟨hE, B2⟩ := hE.get
    have D2 := B1.trans (B2.mono B1.size)
    clear cT B1 B2
    rcases hE with ⟨rfl, h2⟩ | ⟨rfl, h2⟩
    · have HC : Hid (addOf s t = fits (nv s + nv t)) := by show _ = _; unfold addOf; rw [if_pos ⟨h1, h2⟩]
      have c1 : ∀ W, Calls Try.prog 45 #[.string s, .string t] W fun e w' => e = .returned (.string ⟨(natOf (nv s + nv t)).toArray⟩) ∧ Below W.heap.size W w' := cC h1 h2
      clear cC h1 h2
      generalize (⟨(natOf (nv s + nv t)).toArray⟩ : ByteArray) = p at c1 cF
      generalize fits (nv s + nv t) = f at cF HC
      go_wp2_with fail
      refine (c1 _).mono ?_
      rintro e w3 ⟨rfl, B3⟩
      have D3 := D2.trans (B3.mono D2.size)
      clear c1 B3 D2
      go_wp2_with fail
      refine (cF _).mono ?_
      rintro e w4 ⟨rfl, B4⟩
      have D4 := D3.trans (B4.mono D3.size)
      clear cF B4 D3
      go_wp2
      go_ret2
      exact ⟨by rw [HC.out]; rfl, D4⟩
    · have HC : Hid (addOf s t = ([], false)) := by show _ = _; unfold addOf; rw [if_neg (fun h => h2 h.2)]
      clear cC h1 h2 cF
      go_wp2
      go_ret2
      exact ⟨by rw [HC.out]; rfl, D2⟩
  · have HC : Hid (addOf s t = ([], false)) := by show _ = _; unfold addOf; rw [if_neg (fun h => h1 h.1)]
    clear cC cT h1 cF
    go_wp2
    go_ret2
    exact ⟨by rw [HC.out]; rfl, B1⟩

end Go.Proofs.Ytgbmijebhchkiaa
