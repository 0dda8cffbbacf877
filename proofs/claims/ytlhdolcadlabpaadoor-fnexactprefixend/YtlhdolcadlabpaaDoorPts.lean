/- spec.l01Point and impl.isCodePoint tell code points; spec.l01Bytes makes the bytes of one. No condition (l01Bytes: a code point). -/
import Derived.Test.YtlhdolcadlabpaaDoorRows
import Derived.Test.YtlhdolcadlabpaaDoorMem
import Derived.Test.YtlhdolcadlabpaaDoorUtf
import Derived.Lib.Hide
namespace Go.Proofs.YtlhdolcadlabpaaDoor
open Go.RowKit Go.Lib

theorem ret_bool {a b : Bool} (h : a = b) : Ending.returned (.bool a) = .returned (.bool b) := by rw [h]

set_option maxHeartbeats 400000 in
theorem between_any (n lo hi : Int) (w : World) :
    Calls Tryd.prog 22 #[.int .i64 n, .int .i64 lo, .int .i64 hi] w fun e w' => e = .returned (.bool (decide (lo ≤ n ∧ n ≤ hi))) ∧ w = w' := by
  by_cases h1 : lo ≤ n
  · by_cases h2 : n ≤ hi
    all_goals
      go_enter Tryd.func22, Tryd.ntmps22
      go_wp2
      go_ret
      exact ⟨ret_bool (by simp [h1, h2]), rfl⟩
  · go_enter Tryd.func22, Tryd.ntmps22
    go_wp2
    go_ret
    exact ⟨ret_bool (by simp; omega), rfl⟩

set_option maxHeartbeats 400000 in
theorem point_any (c : Int) (w : World) :
    Calls Tryd.prog 72 #[.int .i64 c] w fun e w' => e = .returned (.bool (pt c)) ∧ w = w' := by
  by_cases h1 : (1 : Int) ≤ c ∧ c ≤ 1114111
  · by_cases h2 : (55296 : Int) ≤ c ∧ c ≤ 57343
    all_goals
      have e1 : decide ((1 : Int) ≤ c ∧ c ≤ 1114111) = true := decide_eq_true h1
      have e2 := h2
      first
        | have e2 : decide ((55296 : Int) ≤ c ∧ c ≤ 57343) = true := decide_eq_true h2
          go_enter Tryd.func72, Tryd.ntmps72
          go_wp2_with (go_at_call 22; refine (between_any _ _ _ _).mono ?_; rintro e w' ⟨rfl, rfl⟩)
          go_ret
          exact ⟨ret_bool (by unfold pt; simp; omega), rfl⟩
        | have e2 : decide ((55296 : Int) ≤ c ∧ c ≤ 57343) = false := decide_eq_false h2
          go_enter Tryd.func72, Tryd.ntmps72
          go_wp2_with (go_at_call 22; refine (between_any _ _ _ _).mono ?_; rintro e w' ⟨rfl, rfl⟩)
          go_ret
          exact ⟨ret_bool (by unfold pt; simp; omega), rfl⟩
  · have e1 : decide ((1 : Int) ≤ c ∧ c ≤ 1114111) = false := decide_eq_false h1
    go_enter Tryd.func72, Tryd.ntmps72
    go_wp2_with (go_at_call 22; refine (between_any _ _ _ _).mono ?_; rintro e w' ⟨rfl, rfl⟩)
    go_ret
    exact ⟨ret_bool (by unfold pt; simp; omega), rfl⟩

/-- What l01Bytes hands back: a new block with the bytes of c. -/
def BytesOf (c : Int) (w : World) (e : Ending) (w' : World) : Prop :=
  e = .returned (.slice (some ⟨w.heap.size, 0, none⟩) (encodeRuneZ c).length (encodeRuneZ c).length) ∧ w' = w.alloc (.cells ((encodeRuneZ c).map (Value.int .u8)).toArray 5)

set_option maxHeartbeats 1000000 in
theorem bytes_any (c : Int) (w : World) (h : pt c = true) :
    Calls Tryd.prog 73 #[.int .i64 c] w (BytesOf c w) := by
  have hb := pt_iff.1 h
  have b0 : 0 ≤ c := by omega
  have b1 : c ≤ 1114111 := by omega
  clear hb
  by_cases h1 : c < 128
  · have H := Lib.hid (enc1 h h1); clear h
    go_enter Tryd.func73, Tryd.ntmps73
    go_wp2
    go_ret
    unfold BytesOf; rw [H.out]; exact ⟨rfl, rfl⟩
  · by_cases h2 : c < 2048
    · have H := Lib.hid (enc2 h1 h2); clear h
      go_enter Tryd.func73, Tryd.ntmps73
      go_wp2
      go_ret
      unfold BytesOf; rw [H.out]; exact ⟨rfl, rfl⟩
    · by_cases h3 : c < 65536
      · have H := Lib.hid (enc3 h h2 h3); clear h
        go_enter Tryd.func73, Tryd.ntmps73
        go_wp2
        go_ret
        unfold BytesOf; rw [H.out]; exact ⟨rfl, rfl⟩
      · have H := Lib.hid (enc4 h h3); clear h
        go_enter Tryd.func73, Tryd.ntmps73
        go_wp2
        go_ret
        unfold BytesOf; rw [H.out]; exact ⟨rfl, rfl⟩

end Go.Proofs.YtlhdolcadlabpaaDoor
