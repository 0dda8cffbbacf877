/- The specification's naturals held against each other, added, taken off. Conditions: digits, at most 1048576 bytes. -/
import Derived.Test.YtpkmhojcccpolaaDoorSpecNat1
namespace Go.Proofs.YtpkmhojcccpolaaDoor
set_option linter.unusedVariables false
open Go.RowKit
open Go.Lib (byteCells)

def cmpN (a b : Nat) : Int := if a < b then -1 else if a = b then 0 else 1

set_option maxHeartbeats 2000000 in
set_option maxRecDepth 100000 in
theorem specCmp (s t : ByteArray) (w : World) (hs : s.size ≤ 1048576) (ht : t.size ≤ 1048576) (ds : Digs s.data.toList) (dt : Digs t.data.toList) :
    Calls Tryd.prog 83 #[.string s, .string t] w (AnsN (cmpN (val s.data.toList) (val t.data.toList)) w) := by
  have cS := fun W => specTrim s W hs
  have cT := fun W => specTrim t W ht
  rw [trim_eq ds] at cS
  rw [trim_eq dt] at cT
  unfold AnsS at cS cT
  clear ds dt
  generalize val s.data.toList = a at *
  generalize val t.data.toList = b at *
  obtain ⟨p, hp⟩ : ∃ p : ByteArray, ⟨(natOf a).toArray⟩ = p := ⟨_, rfl⟩
  obtain ⟨q, hq⟩ : ∃ q : ByteArray, ⟨(natOf b).toArray⟩ = q := ⟨_, rfl⟩
  have hpl : p.toList = natOf a := by rw [ByteArray.toList_eq, ← hp]
  have hql : q.toList = natOf b := by rw [ByteArray.toList_eq, ← hq]
  have hps : p.size = (natOf a).length := by rw [← hp]; rfl
  have hqs : q.size = (natOf b).length := by rw [← hq]; rfl
  obtain ⟨f1, f2, f3, f4⟩ := held_facts a b
  rw [← hps, ← hqs, ← hpl, ← hql] at f1 f2
  rw [← hpl, ← hql] at f3
  rw [← hpl] at f4
  rw [hp] at cS
  rw [hq] at cT
  have hab : a = b → p = q := fun h => by rw [← hp, ← hq, h]
  clear hp hq hpl hql hps hqs
  have F := Lib.hid (And.intro f1 (And.intro f2 (And.intro f3 (And.intro f4 hab))))
  clear f1 f2 f3 f4 hab
  go_enter Tryd.func83, Tryd.ntmps83
  go_wp2_with fail
  refine (cS _).mono ?_
  rintro e w1 ⟨rfl, B1⟩
  go_wp2_with fail
  refine (cT _).mono ?_
  rintro e w2 ⟨rfl, B2⟩
  have D2 := B1.trans (B2.mono B1.size)
  clear cS cT B1 B2
  obtain ⟨f1, f2, f3, f4, f5⟩ := F.out
  clear F
  rcases Nat.lt_trichotomy a b with h | h | h
  · have HC : Hid (cmpN a b = -1) := by show _ = _; unfold cmpN; rw [if_pos h]
    rcases f1 h with h1 | ⟨h1, h2⟩
    · have h1i : (p.size : Int) < (q.size : Int) := by omega
      clear f1 f2 f3 f4 f5 h h1
      go_wp2
      go_ret
      exact ⟨by rw [HC.out]; rfl, D2⟩
    · have h1i : ¬ (p.size : Int) < (q.size : Int) := by omega
      have h2i : ((p.size : Int) == (q.size : Int)) = true := beq_iff_eq.2 (by omega)
      clear f1 f2 f3 f4 f5 h h1
      go_wp2
      go_ret
      exact ⟨by rw [HC.out]; rfl, D2⟩
  · have HC : Hid (cmpN a b = 0) := by show _ = _; unfold cmpN; rw [if_neg (by omega), if_pos h]
    obtain rfl := f5 h
    clear f1 f2 f3 f5 h
    go_wp2
    go_ret
    exact ⟨by rw [HC.out]; rfl, D2⟩
  · have HC : Hid (cmpN a b = 1) := by show _ = _; unfold cmpN; rw [if_neg (by omega), if_neg (by omega)]
    have hne : (p.toList == q.toList) = false := beq_eq_false_iff_ne.2 (fun e => by have := f3 e; omega)
    rcases f2 h with h1 | ⟨h1, h2⟩
    · have h1i : ¬ (p.size : Int) < (q.size : Int) := by omega
      have h2i : ((p.size : Int) == (q.size : Int)) = false := beq_eq_false_iff_ne.2 (by omega)
      clear f1 f2 f3 f4 f5 h h1
      go_wp2
      go_ret
      exact ⟨by rw [HC.out]; rfl, D2⟩
    · have h1i : ¬ (p.size : Int) < (q.size : Int) := by omega
      have h2i : ((p.size : Int) == (q.size : Int)) = true := beq_iff_eq.2 (by omega)
      clear f1 f2 f3 f4 f5 h h1
      go_wp2
      go_ret
      exact ⟨by rw [HC.out]; rfl, D2⟩

end Go.Proofs.YtpkmhojcccpolaaDoor
