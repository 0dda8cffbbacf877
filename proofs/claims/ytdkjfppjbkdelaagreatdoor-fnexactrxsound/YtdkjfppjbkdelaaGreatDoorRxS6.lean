/- The specification's reader of patterns: what a reading function answers (SPost), a node put, a failure, the kind of a sign. Conditions: at most 1000 code points. -/
import Derived.Test.YtdkjfppjbkdelaaGreatDoorRxS5
import Derived.Test.YtdkjfppjbkdelaaGreatDoorRxSB
import Derived.Test.YtdkjfppjbkdelaaGreatDoorRxBridge
namespace Go.Proofs.YtdkjfppjbkdelaaGreatDoor
set_option linter.unusedVariables false
open Go.RowKit

/-- The answer of a reading function: as the model; after an error code and bad are set, and there are some nodes, at most M. -/
def SPost (M : Nat) (w : World) (p : Nat) (s : List Int) (PA : Option Addr) (pc d : Nat) (F X : List Nat) (r : Rd) (e : Ending) (w' : World) : Prop :=
  match r with
  | .ok n j o => e = .returned (.int .i64 n) ∧ ∃ F', SRd w' p s PA pc j 0 0 d o F' ∧ Keep (p :: F) w w' ∧ ∀ b ∈ F', b ∈ F ∨ b ∈ X ∨ w.heap.size ≤ b
  | .err c q => 1 ≤ c ∧ (∃ v : Int, e = .returned (.int .i64 v)) ∧ ∃ j o F', o.length ≤ M ∧ SRd w' p s PA pc j c q d o F' ∧ Keep (p :: F) w w' ∧ ∀ b ∈ F', b ∈ F ∨ b ∈ X ∨ w.heap.size ≤ b

theorem SPost.more {M M' : Nat} {w : World} {p : Nat} {s : List Int} {PA : Option Addr} {pc d : Nat} {F X : List Nat} {r : Rd} {e : Ending} {w' : World} (h : SPost M w p s PA pc d F X r e w') (hM : M ≤ M') : SPost M' w p s PA pc d F X r e w' := by
  cases r with
  | ok n j o => exact h
  | err c q =>
    obtain ⟨h1, h2, j, o, F', h3, h4⟩ := h
    exact ⟨h1, h2, j, o, F', by omega, h4⟩

theorem put_post (M : Nat) (nd : Nd) (kv : Value) (w : World) (p : Nat) (s : List Int) (PA : Option Addr) (pc i d : Nat) (out : List Nd) (F : List Nat) (h : SRd w p s PA pc i 0 0 d out F) (ho : out.length ≤ 100000) (hset : nd.set = [])
    (hK : RowI w (p + 1) kv nd.kids) (d2 : ∀ b, kv.ownBlock = some b → b ∉ F) :
    Calls Tryz.prog 143 #[.pointer (some ⟨p, 0, none⟩), .agg #[.int .i64 nd.kind, .int .i64 nd.lo, .int .i64 nd.hi, .bool nd.neg, .slice none 0 0, kv]] w (SPost M w p s PA pc d F kv.ownBlock.toList (.ok out.length i (out ++ [nd]))) :=
  (put_any nd (.slice none 0 0) kv w p s PA pc i 0 0 d out F h ho (by rw [hset]; exact row_nilS _ _) hK (fun b hb => by cases hb) d2 (fun b hb => by cases hb)).mono fun e w' ⟨h1, F', h2, h3, h4⟩ =>
    ⟨h1, F', h2, h3, fun b hb => by
      rcases h4 b hb with h | h | h | h
      · exact .inl h
      · cases h
      · exact .inr (.inl (by simpa using h))
      · exact .inr (.inr h)⟩

theorem fail_post (M : Nat) (c : Int) (q : Nat) (w : World) (p : Nat) (s : List Int) (PA : Option Addr) (pc i d : Nat) (out : List Nd) (F X : List Nat) (h : SRd w p s PA pc i 0 0 d out F) (hs : s.length ≤ 1000) (hc : 1 ≤ c) (hM : out.length ≤ M) :
    Calls Tryz.prog 103 #[.pointer (some ⟨p, 0, none⟩), .int .i64 c, .int .i64 q] w fun e w' => e = .returned (.int .i64 0) ∧ SPost M w p s PA pc d F X (.err c q) e w' := by
  obtain ⟨nv, hS, hback⟩ := h.rs
  refine (fail_any c q w p s PA pc i 0 0 d nv hS hs rfl).mono ?_
  rintro e w' ⟨rfl, hk, hr⟩
  exact ⟨rfl, hc, ⟨0, rfl⟩, i, out, F, hM, hback _ _ _ _ _ hr hk, hk.mono fun b hb => by simp at hb; simp [hb], fun b hb => .inl hb⟩

set_option maxHeartbeats 1000000 in
theorem sign_any (c : Int) (w : World) (h : c = 46 ∨ c = 94 ∨ c = 36) :
    Calls Tryz.prog 203 #[.int .i64 c] w fun e w' => e = .returned (.int .i64 (if c = 46 then 3 else if c = 94 then 5 else 6)) ∧ w = w' := by
  rcases h with rfl | rfl | rfl
  all_goals
    go_enter Tryz.func203, Tryz.ntmps203
    go_wp2
    go_ret
    exact ⟨rfl, rfl⟩

end Go.Proofs.YtdkjfppjbkdelaaGreatDoor
