/- spec.NatRound. Conditions: at most 1048576 bytes. -/
import Derived.Test.YtgbmijebhchkiaaImplNat17
import Derived.Test.YtgbmijebhchkiaaSpecNat10
namespace Go.Proofs.Ytgbmijebhchkiaa
open Go.RowKit
open Go.Lib (byteCells)

set_option maxHeartbeats 400000 in
set_option maxRecDepth 100000 in
theorem specNatRound (s : ByteArray) (n : Int) (w : World) (hs : s.size ≤ 1048576) : Calls Try.prog 29 #[.string s, .int .i64 n] w (Ans2 (rndOf s n) w) := by
  have cS := specNatOk s w hs
  go_enter Try.func29, Try.ntmps29
  go_wp2_with fail
  refine cS.mono ?_
  intro e w1 hE
  obtain ⟨hE, B1⟩ := hE.get
  clear cS
  rcases hE with ⟨rfl, h1⟩ | ⟨rfl, h1⟩
  · by_cases hn : (0 : Int) ≤ n ∧ n ≤ 600
    · have e1 : decide ((0 : Int) ≤ n ∧ n ≤ 600) = true := decide_eq_true hn
      have HC : Hid (rndOf s n = fits (rnd (nv s) n.toNat)) := by show _ = _; unfold rndOf; rw [if_pos ⟨h1, hn⟩]
      obtain ⟨m, rfl⟩ : ∃ m : Nat, n = m := ⟨n.toNat, by omega⟩
      have hm : m ≤ 600 := by omega
      have hmi : (m : Int) ≤ 600 := by omega
      rw [Int.toNat_natCast] at HC
      have cR := fun W => specRound s m W h1 hm
      have cF := fun W => specFits (rnd (nv s) m) _ W rfl
      unfold AnsS at cR
      unfold Ans2 at cF
      clear h1 hn
      generalize (⟨(natOf (rnd (nv s) m)).toArray⟩ : ByteArray) = p at cR cF
      generalize fits (rnd (nv s) m) = f at cF HC
      go_wp2_with fail
      refine (betweenN _ _ _ _).mono ?_
      rintro e w' ⟨rfl, rfl⟩
      go_wp2_with fail
      refine (cR _).mono ?_
      rintro e w4 ⟨rfl, B4⟩
      have D4 := B1.trans (B4.mono B1.size)
      clear cR B4 B1
      go_wp2_with fail
      refine (cF _).mono ?_
      rintro e w5 ⟨rfl, B5⟩
      have D5 := D4.trans (B5.mono D4.size)
      clear cF B5 D4
      go_wp2
      go_ret2
      exact ⟨by rw [HC.out]; rfl, D5⟩
    · have e1 : decide ((0 : Int) ≤ n ∧ n ≤ 600) = false := decide_eq_false hn
      have HC : Hid (rndOf s n = ([], false)) := by show _ = _; unfold rndOf; rw [if_neg (fun h => hn h.2)]
      clear h1 hn
      go_wp2_with fail
      refine (betweenN _ _ _ _).mono ?_
      rintro e w' ⟨rfl, rfl⟩
      go_wp2
      go_ret2
      exact ⟨by rw [HC.out]; rfl, B1⟩
  · have HC : Hid (rndOf s n = ([], false)) := by show _ = _; unfold rndOf; rw [if_neg (fun h => h1 h.1)]
    clear h1
    go_wp2
    go_ret2
    exact ⟨by rw [HC.out]; rfl, B1⟩

end Go.Proofs.Ytgbmijebhchkiaa
