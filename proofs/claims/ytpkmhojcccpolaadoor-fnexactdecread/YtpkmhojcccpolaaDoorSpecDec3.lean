/- spec.l03Dig and spec.l03Level: the digits of two valid decimals by one power of ten. -/
import Derived.Test.YtpkmhojcccpolaaDoorSpecDec1
import Derived.Test.YtpkmhojcccpolaaDoorKept
namespace Go.Proofs.YtpkmhojcccpolaaDoor
set_option linter.unusedVariables false
open Go.RowKit

theorem lt_of_cell {w : World} {b o : Nat} {v : Value} (h : w.cell? ⟨b, o, none⟩ = some v) : b < w.heap.size := by
  rcases Nat.lt_or_ge b w.heap.size with g | g
  · exact g
  · exfalso
    unfold World.cell? at h
    simp [Array.getElem?_eq_none g] at h
theorem cell_kept {w w' : World} {b o : Nat} {v : Value} (h : w.cell? ⟨b, o, none⟩ = some v) (hb : Below w.heap.size w w') : w'.cell? ⟨b, o, none⟩ = some v := (hb.cell (lt_of_cell h)).trans h
theorem below_kept {w w1 w2 : World} {B : Nat} (h : Below B w w1) (hB : B ≤ w.heap.size) (hb : Below w1.heap.size w1 w2) : Below B w w2 := h.trans (hb.mono (Nat.le_trans hB h.size))

theorem held7 {w0 w w' : World} {a b : Nat} {x0 x1 x2 y0 y1 y2 : Value}
    (h : w.cell? ⟨a, 0, none⟩ = some x0 ∧ w.cell? ⟨a, 1, none⟩ = some x1 ∧ w.cell? ⟨a, 2, none⟩ = some x2 ∧ w.cell? ⟨b, 0, none⟩ = some y0 ∧ w.cell? ⟨b, 1, none⟩ = some y1 ∧ w.cell? ⟨b, 2, none⟩ = some y2 ∧ Below w0.heap.size w0 w) (hb : Below w.heap.size w w') :
    w'.cell? ⟨a, 0, none⟩ = some x0 ∧ w'.cell? ⟨a, 1, none⟩ = some x1 ∧ w'.cell? ⟨a, 2, none⟩ = some x2 ∧ w'.cell? ⟨b, 0, none⟩ = some y0 ∧ w'.cell? ⟨b, 1, none⟩ = some y1 ∧ w'.cell? ⟨b, 2, none⟩ = some y2 ∧ Below w0.heap.size w0 w' :=
  ⟨cell_kept h.1 hb, cell_kept h.2.1 hb, cell_kept h.2.2.1 hb, cell_kept h.2.2.2.1 hb, cell_kept h.2.2.2.2.1 hb, cell_kept h.2.2.2.2.2.1 hb, below_kept h.2.2.2.2.2.2 (Nat.le_refl _) hb⟩

/-- The digits, 0 having one. -/
def dig0 (s : ByteArray) : ByteArray := if s.size = 0 then ⟨#[48]⟩ else s

set_option maxHeartbeats 400000 in
theorem specDig (n : Bool) (s : ByteArray) (e : Int) (w : World) :
    Calls Tryd.prog 61 #[.agg #[.bool n, .string s, .int .i64 e]] w fun r w' => r = .returned (.string (dig0 s)) ∧ Below w.heap.size w w' := by
  have B : Below w.heap.size w (w.alloc (.cells #[.bool n, .string s, .int .i64 e] 26)) := (Below.refl _ _).alloc (Nat.le_refl _) _
  by_cases h0 : s.size = 0
  · have hnil : s.toList.isEmpty = true := by rw [List.isEmpty_iff]; exact toList_nil.2 h0
    have HD : Hid (dig0 s = ⟨#[48]⟩) := by show _ = _; unfold dig0; rw [if_pos h0]
    clear h0
    go_enter Tryd.func61, Tryd.ntmps61
    go_wp2
    go_ret
    exact ⟨by rw [HD.out]; rfl, B⟩
  · have hnil : s.toList.isEmpty = false := by rw [List.isEmpty_eq_false_iff]; exact fun h => h0 (toList_nil.1 h)
    have HD : Hid (dig0 s = s) := by show _ = _; unfold dig0; rw [if_neg h0]
    clear h0
    go_enter Tryd.func61, Tryd.ntmps61
    go_wp2
    go_ret
    exact ⟨by rw [HD.out]; rfl, B⟩

theorem dig0_facts {s : ByteArray} (hd : Digs s.data.toList) : Digs (dig0 s).data.toList ∧ val (dig0 s).data.toList = val s.data.toList ∧ (dig0 s).size ≤ s.size + 1 := by
  unfold dig0
  split
  · next h =>
    have : s.data.toList = [] := List.eq_nil_of_length_eq_zero (by rw [size_list]; exact h)
    rw [this]
    exact ⟨digs_one ⟨by decide, by decide⟩, rfl, by show 1 ≤ _; omega⟩
  · exact ⟨hd, rfl, by omega⟩

def Ans3L (x y : ByteArray) (e : Int) (w : World) (r : Ending) (w' : World) : Prop := r = .returned (.tuple #[.string x, .string y, .int .i64 e]) ∧ Below w.heap.size w w'
def padZ (s : ByteArray) (k : Nat) : ByteArray := dig0 s ++ ⟨(List.replicate k 48).toArray⟩

set_option maxHeartbeats 2000000 in
set_option maxRecDepth 100000 in
theorem specLevel (n : Bool) (s : ByteArray) (e : Int) (n2 : Bool) (s2 : ByteArray) (e2 : Int) (w : World) (hs : s.size ≤ 20) (hs2 : s2.size ≤ 20) (b1 : -118 ≤ e) (b2 : e ≤ 99) (c1 : -118 ≤ e2) (c2 : e2 ≤ 99) :
    Calls Tryd.prog 66 #[.agg #[.bool n, .string s, .int .i64 e], .agg #[.bool n2, .string s2, .int .i64 e2]] w
      (Ans3L (padZ s (e - (if e2 < e then e2 else e)).toNat) (padZ s2 (e2 - (if e2 < e then e2 else e)).toNat) (if e2 < e then e2 else e) w) := by
  have B : Below w.heap.size w ((w.alloc (.cells #[.bool n, .string s, .int .i64 e] 26)).alloc (.cells #[.bool n2, .string s2, .int .i64 e2] 26)) := ((Below.refl _ _).alloc (Nat.le_refl _) _).alloc (by simp) _
  have K1 := (DecAt.new w n s e).alloc (.cells #[.bool n2, .string s2, .int .i64 e2] 26)
  have K2 := DecAt.new (w.alloc (.cells #[.bool n, .string s, .int .i64 e] 26)) n2 s2 e2
  rw [show (w.alloc (.cells #[.bool n, .string s, .int .i64 e] 26)).heap.size = w.heap.size + 1 by simp] at K2
  obtain ⟨x, hx⟩ : ∃ x, (if e2 < e then e2 else e) = x := ⟨_, rfl⟩
  rw [hx]
  obtain ⟨k, hk⟩ : ∃ k : Nat, (e - x).toNat = k := ⟨_, rfl⟩
  obtain ⟨k2, hk2⟩ : ∃ k2 : Nat, (e2 - x).toNat = k2 := ⟨_, rfl⟩
  rw [hk, hk2]
  have hxl : x ≤ e ∧ x ≤ e2 := by rw [← hx]; split <;> omega
  have cZ1 : ∀ W, Calls Tryd.prog 36 #[.int .i64 (e - x)] W fun r w' => r = .returned (.string ⟨(List.replicate k 48).toArray⟩) ∧ Below W.heap.size W w' := fun W => by
    have := specZeros k W (by omega)
    rwa [show (k : Int) = e - x by omega] at this
  have cZ2 : ∀ W, Calls Tryd.prog 36 #[.int .i64 (e2 - x)] W fun r w' => r = .returned (.string ⟨(List.replicate k2 48).toArray⟩) ∧ Below W.heap.size W w' := fun W => by
    have := specZeros k2 W (by omega)
    rwa [show (k2 : Int) = e2 - x by omega] at this
  have z1 := IntWalk.i64_in (e - x) ⟨by omega, by omega⟩
  have z2 := IntWalk.i64_in (e2 - x) ⟨by omega, by omega⟩
  obtain ⟨zA, hzA⟩ : ∃ z : ByteArray, ⟨(List.replicate k 48).toArray⟩ = z := ⟨_, rfl⟩
  obtain ⟨zB, hzB⟩ : ∃ z : ByteArray, ⟨(List.replicate k2 48).toArray⟩ = z := ⟨_, rfl⟩
  rw [hzA] at cZ1
  rw [hzB] at cZ2
  have hzAs : zA.size ≤ 1000 := by rw [← hzA]; show (List.replicate k (48 : UInt8)).toArray.size ≤ 1000; simp; omega
  have hzBs : zB.size ≤ 1000 := by rw [← hzB]; show (List.replicate k2 (48 : UInt8)).toArray.size ≤ 1000; simp; omega
  have HP : Hid (padZ s k = dig0 s ++ zA ∧ padZ s2 k2 = dig0 s2 ++ zB) := ⟨by unfold padZ; rw [hzA], by unfold padZ; rw [hzB]⟩
  have cD1 := fun W => specDig n s e W
  have cD2 := fun W => specDig n2 s2 e2 W
  have hd1 : (dig0 s).size ≤ 21 := by unfold dig0; split; exact (by decide); omega
  have hd2 : (dig0 s2).size ≤ 21 := by unfold dig0; split; exact (by decide); omega
  obtain ⟨dA, hdA⟩ : ∃ z : ByteArray, dig0 s = z := ⟨_, rfl⟩
  obtain ⟨dB, hdB⟩ : ∃ z : ByteArray, dig0 s2 = z := ⟨_, rfl⟩
  rw [hdA] at cD1 HP hd1
  rw [hdB] at cD2 HP hd2
  have hm1 : dA.size + zA.size ≤ 9223372036854775807 := by omega
  have hm2 : dB.size + zB.size ≤ 9223372036854775807 := by omega
  clear hzA hzB hdA hdB hk hk2
  by_cases hc : e2 < e
  · rw [if_pos hc] at hx
    subst hx
    go_enter Tryd.func66, Tryd.ntmps66
    obtain ⟨k0, k1, k2'⟩ := K1.cell
    obtain ⟨k3, k4, k5⟩ := K2.cell
    go_wp2_with fail
    refine wp_region_kept_all (fun w' => w'.cell? ⟨w.heap.size, 0, none⟩ = some (.bool n) ∧ w'.cell? ⟨w.heap.size, 1, none⟩ = some (.string s) ∧ w'.cell? ⟨w.heap.size, 2, none⟩ = some (.int .i64 e) ∧ w'.cell? ⟨w.heap.size + 1, 0, none⟩ = some (.bool n2) ∧ w'.cell? ⟨w.heap.size + 1, 1, none⟩ = some (.string s2) ∧ w'.cell? ⟨w.heap.size + 1, 2, none⟩ = some (.int .i64 e2) ∧ Below w.heap.size w w') (by kernel_rfl) (by kernel_rfl) (fun _ _ d _ _ h => by cases d <;> exact h) ⟨k0, k1, k2', k3, k4, k5, B.drew⟩ ?_
    (refine kept_step (fun K hK => ?_); go_simp; refine ⟨_, fun W hW => .inl (by obtain ⟨h0, h1, h2, h3, h4, h5, h6⟩ := hW; first | (go_simp; exact rfl) | (go_simp; rw [if_neg (by omega)])), hK _ ?_⟩; clear hK K)
    (refine kept_step (fun K hK => ?_); go_simp; refine ⟨_, fun W hW => .inr (.inr ⟨_, _, ?_, (cD1 W).mono (fun r w' h => ⟨h.1, held7 hW h.2⟩)⟩), hK _ ?_⟩; (· first | (go_simp; done) | (go_simp; rfl)); clear hK K)
    (refine kept_step (fun K hK => ?_); go_simp; refine ⟨_, fun W hW => .inl (by obtain ⟨h0, h1, h2, h3, h4, h5, h6⟩ := hW; first | (go_simp; exact rfl) | (go_simp; rw [if_neg (by omega)])), hK _ ?_⟩; clear hK K)
    (refine kept_step (fun K hK => ?_); go_simp; refine ⟨_, fun W hW => .inl (by obtain ⟨h0, h1, h2, h3, h4, h5, h6⟩ := hW; first | (go_simp; exact rfl) | (go_simp; rw [if_neg (by omega)])), hK _ ?_⟩; clear hK K)
    (refine kept_step (fun K hK => ?_); go_simp; refine ⟨_, fun W hW => .inl (by obtain ⟨h0, h1, h2, h3, h4, h5, h6⟩ := hW; first | (go_simp; exact rfl) | (go_simp; rw [if_neg (by omega)])), hK _ ?_⟩; clear hK K)
    (refine kept_step (fun K hK => ?_); go_simp; refine ⟨_, fun W hW => .inl (by obtain ⟨h0, h1, h2, h3, h4, h5, h6⟩ := hW; first | (go_simp; exact rfl) | (go_simp; rw [if_neg (by omega)])), hK _ ?_⟩; clear hK K)
    (refine kept_step (fun K hK => ?_); go_simp; refine ⟨_, fun W hW => .inr (.inr ⟨_, _, ?_, (cZ1 W).mono (fun r w' h => ⟨h.1, held7 hW h.2⟩)⟩), hK _ ?_⟩; (· first | (go_simp; done) | (go_simp; rfl)); clear hK K)
    (refine kept_step (fun K hK => ?_); go_simp; refine ⟨_, fun W hW => .inl (by obtain ⟨h0, h1, h2, h3, h4, h5, h6⟩ := hW; first | (go_simp; exact rfl) | (go_simp; rw [if_neg (by omega)])), hK _ ?_⟩; clear hK K)
    (refine kept_step (fun K hK => ?_); go_simp; refine ⟨_, fun W hW => .inl (by obtain ⟨h0, h1, h2, h3, h4, h5, h6⟩ := hW; first | (go_simp; exact rfl) | (go_simp; rw [if_neg (by omega)])), hK _ ?_⟩; clear hK K)
    (refine kept_step (fun K hK => ?_); go_simp; refine ⟨_, fun W hW => .inr (.inr ⟨_, _, ?_, (cD2 W).mono (fun r w' h => ⟨h.1, held7 hW h.2⟩)⟩), hK _ ?_⟩; (· first | (go_simp; done) | (go_simp; rfl)); clear hK K)
    (refine kept_step (fun K hK => ?_); go_simp; refine ⟨_, fun W hW => .inl (by obtain ⟨h0, h1, h2, h3, h4, h5, h6⟩ := hW; first | (go_simp; exact rfl) | (go_simp; rw [if_neg (by omega)])), hK _ ?_⟩; clear hK K)
    (refine kept_step (fun K hK => ?_); go_simp; refine ⟨_, fun W hW => .inl (by obtain ⟨h0, h1, h2, h3, h4, h5, h6⟩ := hW; first | (go_simp; exact rfl) | (go_simp; rw [if_neg (by omega)])), hK _ ?_⟩; clear hK K)
    (refine kept_step (fun K hK => ?_); go_simp; refine ⟨_, fun W hW => .inl (by obtain ⟨h0, h1, h2, h3, h4, h5, h6⟩ := hW; first | (go_simp; exact rfl) | (go_simp; rw [if_neg (by omega)])), hK _ ?_⟩; clear hK K)
    (refine kept_step (fun K hK => ?_); go_simp; refine ⟨_, fun W hW => .inl (by obtain ⟨h0, h1, h2, h3, h4, h5, h6⟩ := hW; first | (go_simp; exact rfl) | (go_simp; rw [if_neg (by omega)])), hK _ ?_⟩; clear hK K)
    (refine kept_step (fun K hK => ?_); go_simp; refine ⟨_, fun W hW => .inr (.inr ⟨_, _, ?_, (cZ2 W).mono (fun r w' h => ⟨h.1, held7 hW h.2⟩)⟩), hK _ ?_⟩; (· first | (go_simp; done) | (go_simp; rfl)); clear hK K)
    (refine kept_step (fun K hK => ?_); go_simp; refine ⟨_, fun W hW => .inl (by obtain ⟨h0, h1, h2, h3, h4, h5, h6⟩ := hW; first | (go_simp; exact rfl) | (go_simp; rw [if_neg (by omega)])), hK _ ?_⟩; clear hK K)
    (refine kept_step (fun K hK => ?_); go_simp; refine ⟨_, fun W hW => .inl (by obtain ⟨h0, h1, h2, h3, h4, h5, h6⟩ := hW; first | (go_simp; exact rfl) | (go_simp; rw [if_neg (by omega)])), hK _ ?_⟩; clear hK K)
    (refine kept_step (fun K hK => ?_); go_simp; refine ⟨_, fun W hW => .inl (by obtain ⟨h0, h1, h2, h3, h4, h5, h6⟩ := hW; first | (go_simp; exact rfl) | (go_simp; rw [if_neg (by omega)])), hK _ ?_⟩; clear hK K)
    (refine kept_step (fun K hK => ?_); go_simp; refine ⟨_, fun W hW => .inl (by obtain ⟨h0, h1, h2, h3, h4, h5, h6⟩ := hW; first | (go_simp; exact rfl) | (go_simp; rw [if_neg (by omega)])), hK _ ?_⟩; clear hK K)
    (refine kept_step (fun K hK => ?_); go_simp; refine ⟨_, fun W hW => .inl (by obtain ⟨h0, h1, h2, h3, h4, h5, h6⟩ := hW; first | (go_simp; exact rfl) | (go_simp; rw [if_neg (by omega)])), hK _ ?_⟩; clear hK K)
    refine kept_nil ?_
    rintro W ⟨h0, h1, h2, h3, h4, h5, h6⟩
    go_wp2
    go_ret3
    exact ⟨by rw [HP.out.1, HP.out.2]; rfl, h6⟩
  · rw [if_neg hc] at hx
    subst hx
    go_enter Tryd.func66, Tryd.ntmps66
    obtain ⟨k0, k1, k2'⟩ := K1.cell
    obtain ⟨k3, k4, k5⟩ := K2.cell
    go_wp2_with fail
    refine wp_region_kept_all (fun w' => w'.cell? ⟨w.heap.size, 0, none⟩ = some (.bool n) ∧ w'.cell? ⟨w.heap.size, 1, none⟩ = some (.string s) ∧ w'.cell? ⟨w.heap.size, 2, none⟩ = some (.int .i64 e) ∧ w'.cell? ⟨w.heap.size + 1, 0, none⟩ = some (.bool n2) ∧ w'.cell? ⟨w.heap.size + 1, 1, none⟩ = some (.string s2) ∧ w'.cell? ⟨w.heap.size + 1, 2, none⟩ = some (.int .i64 e2) ∧ Below w.heap.size w w') (by kernel_rfl) (by kernel_rfl) (fun _ _ d _ _ h => by cases d <;> exact h) ⟨k0, k1, k2', k3, k4, k5, B.drew⟩ ?_
    (refine kept_step (fun K hK => ?_); go_simp; refine ⟨_, fun W hW => .inl (by obtain ⟨h0, h1, h2, h3, h4, h5, h6⟩ := hW; first | (go_simp; exact rfl) | (go_simp; rw [if_neg (by omega)])), hK _ ?_⟩; clear hK K)
    (refine kept_step (fun K hK => ?_); go_simp; refine ⟨_, fun W hW => .inr (.inr ⟨_, _, ?_, (cD1 W).mono (fun r w' h => ⟨h.1, held7 hW h.2⟩)⟩), hK _ ?_⟩; (· first | (go_simp; done) | (go_simp; rfl)); clear hK K)
    (refine kept_step (fun K hK => ?_); go_simp; refine ⟨_, fun W hW => .inl (by obtain ⟨h0, h1, h2, h3, h4, h5, h6⟩ := hW; first | (go_simp; exact rfl) | (go_simp; rw [if_neg (by omega)])), hK _ ?_⟩; clear hK K)
    (refine kept_step (fun K hK => ?_); go_simp; refine ⟨_, fun W hW => .inl (by obtain ⟨h0, h1, h2, h3, h4, h5, h6⟩ := hW; first | (go_simp; exact rfl) | (go_simp; rw [if_neg (by omega)])), hK _ ?_⟩; clear hK K)
    (refine kept_step (fun K hK => ?_); go_simp; refine ⟨_, fun W hW => .inl (by obtain ⟨h0, h1, h2, h3, h4, h5, h6⟩ := hW; first | (go_simp; exact rfl) | (go_simp; rw [if_neg (by omega)])), hK _ ?_⟩; clear hK K)
    (refine kept_step (fun K hK => ?_); go_simp; refine ⟨_, fun W hW => .inl (by obtain ⟨h0, h1, h2, h3, h4, h5, h6⟩ := hW; first | (go_simp; exact rfl) | (go_simp; rw [if_neg (by omega)])), hK _ ?_⟩; clear hK K)
    (refine kept_step (fun K hK => ?_); go_simp; refine ⟨_, fun W hW => .inr (.inr ⟨_, _, ?_, (cZ1 W).mono (fun r w' h => ⟨h.1, held7 hW h.2⟩)⟩), hK _ ?_⟩; (· first | (go_simp; done) | (go_simp; rfl)); clear hK K)
    (refine kept_step (fun K hK => ?_); go_simp; refine ⟨_, fun W hW => .inl (by obtain ⟨h0, h1, h2, h3, h4, h5, h6⟩ := hW; first | (go_simp; exact rfl) | (go_simp; rw [if_neg (by omega)])), hK _ ?_⟩; clear hK K)
    (refine kept_step (fun K hK => ?_); go_simp; refine ⟨_, fun W hW => .inl (by obtain ⟨h0, h1, h2, h3, h4, h5, h6⟩ := hW; first | (go_simp; exact rfl) | (go_simp; rw [if_neg (by omega)])), hK _ ?_⟩; clear hK K)
    (refine kept_step (fun K hK => ?_); go_simp; refine ⟨_, fun W hW => .inr (.inr ⟨_, _, ?_, (cD2 W).mono (fun r w' h => ⟨h.1, held7 hW h.2⟩)⟩), hK _ ?_⟩; (· first | (go_simp; done) | (go_simp; rfl)); clear hK K)
    (refine kept_step (fun K hK => ?_); go_simp; refine ⟨_, fun W hW => .inl (by obtain ⟨h0, h1, h2, h3, h4, h5, h6⟩ := hW; first | (go_simp; exact rfl) | (go_simp; rw [if_neg (by omega)])), hK _ ?_⟩; clear hK K)
    (refine kept_step (fun K hK => ?_); go_simp; refine ⟨_, fun W hW => .inl (by obtain ⟨h0, h1, h2, h3, h4, h5, h6⟩ := hW; first | (go_simp; exact rfl) | (go_simp; rw [if_neg (by omega)])), hK _ ?_⟩; clear hK K)
    (refine kept_step (fun K hK => ?_); go_simp; refine ⟨_, fun W hW => .inl (by obtain ⟨h0, h1, h2, h3, h4, h5, h6⟩ := hW; first | (go_simp; exact rfl) | (go_simp; rw [if_neg (by omega)])), hK _ ?_⟩; clear hK K)
    (refine kept_step (fun K hK => ?_); go_simp; refine ⟨_, fun W hW => .inl (by obtain ⟨h0, h1, h2, h3, h4, h5, h6⟩ := hW; first | (go_simp; exact rfl) | (go_simp; rw [if_neg (by omega)])), hK _ ?_⟩; clear hK K)
    (refine kept_step (fun K hK => ?_); go_simp; refine ⟨_, fun W hW => .inr (.inr ⟨_, _, ?_, (cZ2 W).mono (fun r w' h => ⟨h.1, held7 hW h.2⟩)⟩), hK _ ?_⟩; (· first | (go_simp; done) | (go_simp; rfl)); clear hK K)
    (refine kept_step (fun K hK => ?_); go_simp; refine ⟨_, fun W hW => .inl (by obtain ⟨h0, h1, h2, h3, h4, h5, h6⟩ := hW; first | (go_simp; exact rfl) | (go_simp; rw [if_neg (by omega)])), hK _ ?_⟩; clear hK K)
    (refine kept_step (fun K hK => ?_); go_simp; refine ⟨_, fun W hW => .inl (by obtain ⟨h0, h1, h2, h3, h4, h5, h6⟩ := hW; first | (go_simp; exact rfl) | (go_simp; rw [if_neg (by omega)])), hK _ ?_⟩; clear hK K)
    (refine kept_step (fun K hK => ?_); go_simp; refine ⟨_, fun W hW => .inl (by obtain ⟨h0, h1, h2, h3, h4, h5, h6⟩ := hW; first | (go_simp; exact rfl) | (go_simp; rw [if_neg (by omega)])), hK _ ?_⟩; clear hK K)
    (refine kept_step (fun K hK => ?_); go_simp; refine ⟨_, fun W hW => .inl (by obtain ⟨h0, h1, h2, h3, h4, h5, h6⟩ := hW; first | (go_simp; exact rfl) | (go_simp; rw [if_neg (by omega)])), hK _ ?_⟩; clear hK K)
    (refine kept_step (fun K hK => ?_); go_simp; refine ⟨_, fun W hW => .inl (by obtain ⟨h0, h1, h2, h3, h4, h5, h6⟩ := hW; first | (go_simp; exact rfl) | (go_simp; rw [if_neg (by omega)])), hK _ ?_⟩; clear hK K)
    refine kept_nil ?_
    rintro W ⟨h0, h1, h2, h3, h4, h5, h6⟩
    go_wp2
    go_ret3
    exact ⟨by rw [HP.out.1, HP.out.2]; rfl, h6⟩

end Go.Proofs.YtpkmhojcccpolaaDoor
