/- spec.NatDiv, spec.NatShift. Conditions: at most 1048576 bytes. -/
import Derived.Test.YtgbmijebhchkiaaSpecNat6
namespace Go.Proofs.Ytgbmijebhchkiaa
open Go.RowKit
open Go.Lib (byteCells)

def Ans3 (p q : List UInt8) (b : Bool) (w : World) (e : Ending) (w' : World) : Prop := e = .returned (.tuple #[.string ⟨p.toArray⟩, .string ⟨q.toArray⟩, .bool b]) ∧ Below w.heap.size w w'
def divOf (s t : ByteArray) : List UInt8 × List UInt8 × Bool := if NatS s ∧ NatS t ∧ 0 < nv t then (natOf (nv s / nv t), natOf (nv s % nv t), true) else ([], [], false)
def shiftOf (s : ByteArray) (n : Int) : List UInt8 × Bool := if NatS s ∧ 0 ≤ n ∧ n ≤ 600 then fits (nv s * 10 ^ n.toNat) else ([], false)

theorem zero_of {t : ByteArray} (h : NatS t) (h0 : ¬ 0 < nv t) : t = ⟨#[48]⟩ := by
  have h1 := h.eq
  rw [show nv t = 0 by omega, natOf_small (by omega)] at h1
  apply ByteArray.ext
  apply Array.ext'
  rw [h1]; rfl
theorem not_zero {t : ByteArray} (h0 : 0 < nv t) : (t.toList == [48]) = false := by
  refine beq_eq_false_iff_ne.2 fun e => ?_
  rw [ByteArray.toList_eq] at e
  unfold nv at h0
  rw [e] at h0
  exact absurd h0 (by decide)
theorem val_zeros (n : Nat) : val (List.replicate n 48) = 0 ∧ Digs (List.replicate n (48 : UInt8)) := by
  induction n with
  | zero => exact ⟨rfl, digs_nil⟩
  | succ n ih =>
    rw [List.replicate_succ']
    refine ⟨by rw [val_snoc, ih.1]; rfl, ih.2.append (digs_one ⟨by decide, by decide⟩)⟩

set_option maxHeartbeats 1000000 in
set_option maxRecDepth 100000 in
theorem specNatDiv (s t : ByteArray) (w : World) (hs : s.size ≤ 1048576) (ht : t.size ≤ 1048576) : Calls Try.prog 33 #[.string s, .string t] w (Ans3 (divOf s t).1 (divOf s t).2.1 (divOf s t).2.2 w) := by
  have cS := specNatOk s w hs
  have cT := fun W => specNatOk t W ht
  have cD := fun (h : NatS s) (g : NatS t) (h0 : 0 < nv t) W => specDiv s t W h g h0
  unfold Ans22 at cD
  go_enter Try.func33, Try.ntmps33
  go_wp2_with fail
  refine cS.mono ?_
  intro e w1 hE
  obtain ⟨hE, B1⟩ := hE.get
  clear cS
  rcases hE with ⟨rfl, h1⟩ | ⟨rfl, h1⟩
  · go_wp2_with fail
    refine (cT _).mono ?_
    intro e w2 hE
    obtain ⟨hE, B2⟩ := hE.get
    have D2 := B1.trans (B2.mono B1.size)
    clear cT B1 B2
    rcases hE with ⟨rfl, h2⟩ | ⟨rfl, h2⟩
    · by_cases h0 : 0 < nv t
      · have HC : Hid (divOf s t = (natOf (nv s / nv t), natOf (nv s % nv t), true)) := by show _ = _; unfold divOf; rw [if_pos ⟨h1, h2, h0⟩]
        have c1 := cD h1 h2 h0
        have hne := not_zero h0
        clear cD h1 h2 h0
        generalize natOf (nv s / nv t) = p at c1 HC
        generalize natOf (nv s % nv t) = q at c1 HC
        go_wp2_with fail
        refine (c1 _).mono ?_
        rintro e w3 ⟨rfl, B3⟩
        have D3 := D2.trans (B3.mono D2.size)
        clear c1 B3 D2
        go_wp2
        go_ret3
        exact ⟨by rw [HC.out]; rfl, D3⟩
      · have HC : Hid (divOf s t = ([], [], false)) := by show _ = _; unfold divOf; rw [if_neg (fun h => h0 h.2.2)]
        obtain rfl := zero_of h2 h0
        clear cD h1 h2 h0
        go_wp2
        go_ret3
        exact ⟨by rw [HC.out]; rfl, D2⟩
    · have HC : Hid (divOf s t = ([], [], false)) := by show _ = _; unfold divOf; rw [if_neg (fun h => h2 h.2.1)]
      clear cD h1 h2
      go_wp2
      go_ret3
      exact ⟨by rw [HC.out]; rfl, D2⟩
  · have HC : Hid (divOf s t = ([], [], false)) := by show _ = _; unfold divOf; rw [if_neg (fun h => h1 h.1)]
    clear cD cT h1
    go_wp2
    go_ret3
    exact ⟨by rw [HC.out]; rfl, B1⟩

set_option maxHeartbeats 1000000 in
set_option maxRecDepth 100000 in
theorem specNatShift (s : ByteArray) (n : Int) (w : World) (hs : s.size ≤ 1048576) : Calls Try.prog 26 #[.string s, .int .i64 n] w (Ans2 (shiftOf s n) w) := by
  have cS := specNatOk s w hs
  go_enter Try.func26, Try.ntmps26
  go_wp2_with fail
  refine cS.mono ?_
  intro e w1 hE
  obtain ⟨hE, B1⟩ := hE.get
  clear cS
  rcases hE with ⟨rfl, h1⟩ | ⟨rfl, h1⟩
  · by_cases hn : (0 : Int) ≤ n ∧ n ≤ 600
    · have e1 : decide ((0 : Int) ≤ n ∧ n ≤ 600) = true := decide_eq_true hn
      have HC : Hid (shiftOf s n = fits (nv s * 10 ^ n.toNat)) := by show _ = _; unfold shiftOf; rw [if_pos ⟨h1, hn⟩]
      obtain ⟨m, rfl⟩ : ∃ m : Nat, n = m := ⟨n.toNat, by omega⟩
      have hm : m ≤ 600 := by omega
      have hmi : (m : Int) ≤ 600 := by omega
      rw [Int.toNat_natCast] at HC
      have hs6 := h1.2.2
      have hzl : (⟨(List.replicate m (48 : UInt8)).toArray⟩ : ByteArray).size = m := by show (List.replicate m (48 : UInt8)).length = m; simp
      have cZ := fun W => specZeros m W (by omega)
      have hpl : (s ++ (⟨(List.replicate m (48 : UInt8)).toArray⟩ : ByteArray)).data.toList = s.data.toList ++ List.replicate m 48 := by rw [ByteArray.data_append, Array.toList_append]
      have cT : ∀ W, Calls Try.prog 49 #[.string (s ++ (⟨(List.replicate m (48 : UInt8)).toArray⟩ : ByteArray))] W (AnsS (natOf (nv s * 10 ^ m)) W) := fun W => by
        have := specTrim (s ++ (⟨(List.replicate m (48 : UInt8)).toArray⟩ : ByteArray)) W (by rw [ByteArray.size_append, hzl]; omega)
        rw [hpl, trim_eq (h1.2.1.append (val_zeros m).2), val_append, (val_zeros m).1, List.length_replicate, Nat.add_zero] at this
        exact this
      have cF := fun W => specFits (nv s * 10 ^ m) _ W rfl
      unfold AnsS at cZ cT
      unfold Ans2 at cF
      clear hpl h1 hn
      generalize (⟨(List.replicate m (48 : UInt8)).toArray⟩ : ByteArray) = z at hzl cZ cT
      generalize (⟨(natOf (nv s * 10 ^ m)).toArray⟩ : ByteArray) = p at cT cF
      generalize fits (nv s * 10 ^ m) = f at cF HC
      have hzl2 : z.size ≤ 600 := by omega
      clear hzl
      go_wp2_with fail
      refine (betweenN _ _ _ _).mono ?_
      rintro e w' ⟨rfl, rfl⟩
      go_wp2_with fail
      refine (cZ _).mono ?_
      rintro e w3 ⟨rfl, B3⟩
      have D3 := B1.trans (B3.mono B1.size)
      clear cZ B3 B1
      go_wp2_with fail
      refine (cT _).mono ?_
      rintro e w4 ⟨rfl, B4⟩
      have D4 := D3.trans (B4.mono D3.size)
      clear cT B4 D3
      go_wp2_with fail
      refine (cF _).mono ?_
      rintro e w5 ⟨rfl, B5⟩
      have D5 := D4.trans (B5.mono D4.size)
      clear cF B5 D4
      go_wp2
      go_ret2
      exact ⟨by rw [HC.out]; rfl, D5⟩
    · have e1 : decide ((0 : Int) ≤ n ∧ n ≤ 600) = false := decide_eq_false hn
      have HC : Hid (shiftOf s n = ([], false)) := by show _ = _; unfold shiftOf; rw [if_neg (fun h => hn h.2)]
      clear h1 hn
      go_wp2_with fail
      refine (betweenN _ _ _ _).mono ?_
      rintro e w' ⟨rfl, rfl⟩
      go_wp2
      go_ret2
      exact ⟨by rw [HC.out]; rfl, B1⟩
  · have HC : Hid (shiftOf s n = ([], false)) := by show _ = _; unfold shiftOf; rw [if_neg (fun h => h1 h.1)]
    clear h1
    go_wp2
    go_ret2
    exact ⟨by rw [HC.out]; rfl, B1⟩

end Go.Proofs.Ytgbmijebhchkiaa
