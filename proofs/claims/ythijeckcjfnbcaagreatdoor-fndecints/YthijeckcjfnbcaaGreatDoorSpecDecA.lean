/- spec.l03Dig and spec.l03Level: the digits of two valid decimals by one power of ten. -/
import Derived.Test.YthijeckcjfnbcaaGreatDoorSpecDec1
import Derived.Test.YthijeckcjfnbcaaGreatDoorKept
import Derived.Test.YthijeckcjfnbcaaGreatDoorSpecNatA
namespace Go.Proofs.YthijeckcjfnbcaaGreatDoor
set_option linter.unusedVariables false
open Go.RowKit

theorem lt_of_cell {w : World} {b o : Nat} {v : Value} (h : w.cell? ⟨b, o, none⟩ = some v) : b < w.heap.size := by
  rcases Nat.lt_or_ge b w.heap.size with g | g
  · exact g
  · exfalso
    unfold World.cell? at h
    simp [Array.getElem?_eq_none g] at h
theorem cell_kept {w w' : World} {b o : Nat} {v : Value} (h : w.cell? ⟨b, o, none⟩ = some v) (hb : Below w.heap.size w w') : w'.cell? ⟨b, o, none⟩ = some v := (hb.cell (lt_of_cell h)).trans h
theorem below_kept {w w1 w2 : World} {B : Nat} (h : Below B w w1) (hB : B ≤ w.heap.size) (hb : Below w1.heap.size w1 w2) : Below B w w2 := h.trans (hb.mono (Nat.le_trans hB h.size))

theorem held7 {w0 w w' : World} {a b : Nat} {x0 x1 x2 y0 y1 y2 : Value}
    (h : w.cell? ⟨a, 0, none⟩ = some x0 ∧ w.cell? ⟨a, 1, none⟩ = some x1 ∧ w.cell? ⟨a, 2, none⟩ = some x2 ∧ w.cell? ⟨b, 0, none⟩ = some y0 ∧ w.cell? ⟨b, 1, none⟩ = some y1 ∧ w.cell? ⟨b, 2, none⟩ = some y2 ∧ Below w0.heap.size w0 w) (hb : Below w.heap.size w w') :
    w'.cell? ⟨a, 0, none⟩ = some x0 ∧ w'.cell? ⟨a, 1, none⟩ = some x1 ∧ w'.cell? ⟨a, 2, none⟩ = some x2 ∧ w'.cell? ⟨b, 0, none⟩ = some y0 ∧ w'.cell? ⟨b, 1, none⟩ = some y1 ∧ w'.cell? ⟨b, 2, none⟩ = some y2 ∧ Below w0.heap.size w0 w' :=
  ⟨cell_kept h.1 hb, cell_kept h.2.1 hb, cell_kept h.2.2.1 hb, cell_kept h.2.2.2.1 hb, cell_kept h.2.2.2.2.1 hb, cell_kept h.2.2.2.2.2.1 hb, below_kept h.2.2.2.2.2.2 (Nat.le_refl _) hb⟩

/-- The digits, 0 having one. -/
def dig0 (s : ByteArray) : ByteArray := if s.size = 0 then ⟨#[48]⟩ else s

set_option maxHeartbeats 400000 in
theorem specDig (n : Bool) (s : ByteArray) (e : Int) (w : World) :
    Calls Tryz.prog 40 #[.agg #[.bool n, .string s, .int .i64 e]] w fun r w' => r = .returned (.string (dig0 s)) ∧ Below w.heap.size w w' := by
  have B : Below w.heap.size w (w.alloc (.cells #[.bool n, .string s, .int .i64 e] 25)) := (Below.refl _ _).alloc (Nat.le_refl _) _
  by_cases h0 : s.size = 0
  · have hnil : s.toList.isEmpty = true := by rw [List.isEmpty_iff]; exact toList_nil.2 h0
    have HD : Hid (dig0 s = ⟨#[48]⟩) := by show _ = _; unfold dig0; rw [if_pos h0]
    clear h0
    go_enter Tryz.func40, Tryz.ntmps40
    go_wp2
    go_ret
    exact ⟨by rw [HD.out]; rfl, B⟩
  · have hnil : s.toList.isEmpty = false := by rw [List.isEmpty_eq_false_iff]; exact fun h => h0 (toList_nil.1 h)
    have HD : Hid (dig0 s = s) := by show _ = _; unfold dig0; rw [if_neg h0]
    clear h0
    go_enter Tryz.func40, Tryz.ntmps40
    go_wp2
    go_ret
    exact ⟨by rw [HD.out]; rfl, B⟩

theorem dig0_facts {s : ByteArray} (hd : Digs s.data.toList) : Digs (dig0 s).data.toList ∧ val (dig0 s).data.toList = val s.data.toList ∧ (dig0 s).size ≤ s.size + 1 := by
  unfold dig0
  split
  · next h =>
    have : s.data.toList = [] := List.eq_nil_of_length_eq_zero (by rw [size_list]; exact h)
    rw [this]
    exact ⟨digs_one ⟨by decide, by decide⟩, rfl, by show 1 ≤ _; omega⟩
  · exact ⟨hd, rfl, by omega⟩

def Ans3L (x y : ByteArray) (e : Int) (w : World) (r : Ending) (w' : World) : Prop := r = .returned (.tuple #[.string x, .string y, .int .i64 e]) ∧ Below w.heap.size w w'
def padZ (s : ByteArray) (k : Nat) : ByteArray := dig0 s ++ ⟨(List.replicate k 48).toArray⟩

set_option maxHeartbeats 2000000 in
set_option maxRecDepth 100000 in
theorem specLevel (n : Bool) (s : ByteArray) (e : Int) (n2 : Bool) (s2 : ByteArray) (e2 : Int) (w : World) (hs : s.size ≤ 20) (hs2 : s2.size ≤ 20) (b1 : -118 ≤ e) (b2 : e ≤ 99) (c1 : -118 ≤ e2) (c2 : e2 ≤ 99) :
    Calls Tryz.prog 65 #[.agg #[.bool n, .string s, .int .i64 e], .agg #[.bool n2, .string s2, .int .i64 e2]] w
      (Ans3L (padZ s (e - (if e2 < e then e2 else e)).toNat) (padZ s2 (e2 - (if e2 < e then e2 else e)).toNat) (if e2 < e then e2 else e) w) := by
  have B : Below w.heap.size w ((w.alloc (.cells #[.bool n, .string s, .int .i64 e] 25)).alloc (.cells #[.bool n2, .string s2, .int .i64 e2] 25)) := ((Below.refl _ _).alloc (Nat.le_refl _) _).alloc (by simp) _
  have K1 := (DecAt.new w n s e).alloc (.cells #[.bool n2, .string s2, .int .i64 e2] 25)
  have K2 := DecAt.new (w.alloc (.cells #[.bool n, .string s, .int .i64 e] 25)) n2 s2 e2
  rw [show (w.alloc (.cells #[.bool n, .string s, .int .i64 e] 25)).heap.size = w.heap.size + 1 by simp] at K2
  obtain ⟨x, hx⟩ : ∃ x, (if e2 < e then e2 else e) = x := ⟨_, rfl⟩
  rw [hx]
  obtain ⟨k, hk⟩ : ∃ k : Nat, (e - x).toNat = k := ⟨_, rfl⟩
  obtain ⟨k2, hk2⟩ : ∃ k2 : Nat, (e2 - x).toNat = k2 := ⟨_, rfl⟩
  rw [hk, hk2]
  have hxl : x ≤ e ∧ x ≤ e2 := by rw [← hx]; split <;> omega
  have cZ1 : ∀ W, Calls Tryz.prog 96 #[.int .i64 (e - x)] W fun r w' => r = .returned (.string ⟨(List.replicate k 48).toArray⟩) ∧ Below W.heap.size W w' := fun W => by
    have := specZeros k W (by omega)
    rwa [show (k : Int) = e - x by omega] at this
  have cZ2 : ∀ W, Calls Tryz.prog 96 #[.int .i64 (e2 - x)] W fun r w' => r = .returned (.string ⟨(List.replicate k2 48).toArray⟩) ∧ Below W.heap.size W w' := fun W => by
    have := specZeros k2 W (by omega)
    rwa [show (k2 : Int) = e2 - x by omega] at this
  have z1 := IntWalk.i64_in (e - x) ⟨by omega, by omega⟩
  have z2 := IntWalk.i64_in (e2 - x) ⟨by omega, by omega⟩
  obtain ⟨zA, hzA⟩ : ∃ z : ByteArray, ⟨(List.replicate k 48).toArray⟩ = z := ⟨_, rfl⟩
  obtain ⟨zB, hzB⟩ : ∃ z : ByteArray, ⟨(List.replicate k2 48).toArray⟩ = z := ⟨_, rfl⟩
  rw [hzA] at cZ1
  rw [hzB] at cZ2
  have hzAs : zA.size ≤ 1000 := by rw [← hzA]; show (List.replicate k (48 : UInt8)).toArray.size ≤ 1000; simp; omega
  have hzBs : zB.size ≤ 1000 := by rw [← hzB]; show (List.replicate k2 (48 : UInt8)).toArray.size ≤ 1000; simp; omega
  have HP : Hid (padZ s k = dig0 s ++ zA ∧ padZ s2 k2 = dig0 s2 ++ zB) := ⟨by unfold padZ; rw [hzA], by unfold padZ; rw [hzB]⟩
  have cD1 := fun W => specDig n s e W
  have cD2 := fun W => specDig n2 s2 e2 W
  have hd1 : (dig0 s).size ≤ 21 := by unfold dig0; split; exact (by decide); omega
  have hd2 : (dig0 s2).size ≤ 21 := by unfold dig0; split; exact (by decide); omega
  obtain ⟨dA, hdA⟩ : ∃ z : ByteArray, dig0 s = z := ⟨_, rfl⟩
  obtain ⟨dB, hdB⟩ : ∃ z : ByteArray, dig0 s2 = z := ⟨_, rfl⟩
  rw [hdA] at cD1 HP hd1
  rw [hdB] at cD2 HP hd2
  have hm1 : dA.size + zA.size ≤ 9223372036854775807 := by omega
  have hm2 : dB.size + zB.size ≤ 9223372036854775807 := by omega
  clear hzA hzB hdA hdB hk hk2
  by_cases hc : e2 < e
  · rw [if_pos hc] at hx
    subst hx
    go_enter Tryz.func65, Tryz.ntmps65
    obtain ⟨k0, k1, k2'⟩ := K1.cell
    obtain ⟨k3, k4, k5⟩ := K2.cell
    go_wp2_with fail
    refine wp_region_kept_all (fun w' => w'.cell? ⟨w.heap.size, 0, none⟩ = some (.bool n) ∧ w'.cell? ⟨w.heap.size, 1, none⟩ = some (.string s) ∧ w'.cell? ⟨w.heap.size, 2, none⟩ = some (.int .i64 e) ∧ w'.cell? ⟨w.heap.size + 1, 0, none⟩ = some (.bool n2) ∧ w'.cell? ⟨w.heap.size + 1, 1, none⟩ = some (.string s2) ∧ w'.cell? ⟨w.heap.size + 1, 2, none⟩ = some (.int .i64 e2) ∧ Below w.heap.size w w') (by kernel_rfl) (by kernel_rfl) (fun _ _ d _ _ h => by cases d <;> exact h) ⟨k0, k1, k2', k3, k4, k5, B.drew⟩ ?_
    (refine kept_step (fun K hK => ?_); go_simp; refine ⟨_, fun W hW => .inl (by obtain ⟨h0, h1, h2, h3, h4, h5, h6⟩ := hW; first | (go_simp; exact rfl) | (go_simp; rw [if_neg (by omega)])), hK _ ?_⟩; clear hK K)
    (refine kept_step (fun K hK => ?_); go_simp; refine ⟨_, fun W hW => .inr (.inr ⟨_, _, ?_, (cD1 W).mono (fun r w' h => ⟨h.1, held7 hW h.2⟩)⟩), hK _ ?_⟩; (· first | (go_simp; done) | (go_simp; rfl)); clear hK K)
    (refine kept_step (fun K hK => ?_); go_simp; refine ⟨_, fun W hW => .inl (by obtain ⟨h0, h1, h2, h3, h4, h5, h6⟩ := hW; first | (go_simp; exact rfl) | (go_simp; rw [if_neg (by omega)])), hK _ ?_⟩; clear hK K)
    (refine kept_step (fun K hK => ?_); go_simp; refine ⟨_, fun W hW => .inl (by obtain ⟨h0, h1, h2, h3, h4, h5, h6⟩ := hW; first | (go_simp; exact rfl) | (go_simp; rw [if_neg (by omega)])), hK _ ?_⟩; clear hK K)
    (refine kept_step (fun K hK => ?_); go_simp; refine ⟨_, fun W hW => .inl (by obtain ⟨h0, h1, h2, h3, h4, h5, h6⟩ := hW; first | (go_simp; exact rfl) | (go_simp; rw [if_neg (by omega)])), hK _ ?_⟩; clear hK K)
    (refine kept_step (fun K hK => ?_); go_simp; refine ⟨_, fun W hW => .inl (by obtain ⟨h0, h1, h2, h3, h4, h5, h6⟩ := hW; first | (go_simp; exact rfl) | (go_simp; rw [if_neg (by omega)])), hK _ ?_⟩; clear hK K)
    (refine kept_step (fun K hK => ?_); go_simp; refine ⟨_, fun W hW => .inr (.inr ⟨_, _, ?_, (cZ1 W).mono (fun r w' h => ⟨h.1, held7 hW h.2⟩)⟩), hK _ ?_⟩; (· first | (go_simp; done) | (go_simp; rfl)); clear hK K)
    (refine kept_step (fun K hK => ?_); go_simp; refine ⟨_, fun W hW => .inl (by obtain ⟨h0, h1, h2, h3, h4, h5, h6⟩ := hW; first | (go_simp; exact rfl) | (go_simp; rw [if_neg (by omega)])), hK _ ?_⟩; clear hK K)
    (refine kept_step (fun K hK => ?_); go_simp; refine ⟨_, fun W hW => .inl (by obtain ⟨h0, h1, h2, h3, h4, h5, h6⟩ := hW; first | (go_simp; exact rfl) | (go_simp; rw [if_neg (by omega)])), hK _ ?_⟩; clear hK K)
    (refine kept_step (fun K hK => ?_); go_simp; refine ⟨_, fun W hW => .inr (.inr ⟨_, _, ?_, (cD2 W).mono (fun r w' h => ⟨h.1, held7 hW h.2⟩)⟩), hK _ ?_⟩; (· first | (go_simp; done) | (go_simp; rfl)); clear hK K)
    (refine kept_step (fun K hK => ?_); go_simp; refine ⟨_, fun W hW => .inl (by obtain ⟨h0, h1, h2, h3, h4, h5, h6⟩ := hW; first | (go_simp; exact rfl) | (go_simp; rw [if_neg (by omega)])), hK _ ?_⟩; clear hK K)
    (refine kept_step (fun K hK => ?_); go_simp; refine ⟨_, fun W hW => .inl (by obtain ⟨h0, h1, h2, h3, h4, h5, h6⟩ := hW; first | (go_simp; exact rfl) | (go_simp; rw [if_neg (by omega)])), hK _ ?_⟩; clear hK K)
    (refine kept_step (fun K hK => ?_); go_simp; refine ⟨_, fun W hW => .inl (by obtain ⟨h0, h1, h2, h3, h4, h5, h6⟩ := hW; first | (go_simp; exact rfl) | (go_simp; rw [if_neg (by omega)])), hK _ ?_⟩; clear hK K)
    (refine kept_step (fun K hK => ?_); go_simp; refine ⟨_, fun W hW => .inl (by obtain ⟨h0, h1, h2, h3, h4, h5, h6⟩ := hW; first | (go_simp; exact rfl) | (go_simp; rw [if_neg (by omega)])), hK _ ?_⟩; clear hK K)
    (refine kept_step (fun K hK => ?_); go_simp; refine ⟨_, fun W hW => .inr (.inr ⟨_, _, ?_, (cZ2 W).mono (fun r w' h => ⟨h.1, held7 hW h.2⟩)⟩), hK _ ?_⟩; (· first | (go_simp; done) | (go_simp; rfl)); clear hK K)
    (refine kept_step (fun K hK => ?_); go_simp; refine ⟨_, fun W hW => .inl (by obtain ⟨h0, h1, h2, h3, h4, h5, h6⟩ := hW; first | (go_simp; exact rfl) | (go_simp; rw [if_neg (by omega)])), hK _ ?_⟩; clear hK K)
    (refine kept_step (fun K hK => ?_); go_simp; refine ⟨_, fun W hW => .inl (by obtain ⟨h0, h1, h2, h3, h4, h5, h6⟩ := hW; first | (go_simp; exact rfl) | (go_simp; rw [if_neg (by omega)])), hK _ ?_⟩; clear hK K)
    (refine kept_step (fun K hK => ?_); go_simp; refine ⟨_, fun W hW => .inl (by obtain ⟨h0, h1, h2, h3, h4, h5, h6⟩ := hW; first | (go_simp; exact rfl) | (go_simp; rw [if_neg (by omega)])), hK _ ?_⟩; clear hK K)
    (refine kept_step (fun K hK => ?_); go_simp; refine ⟨_, fun W hW => .inl (by obtain ⟨h0, h1, h2, h3, h4, h5, h6⟩ := hW; first | (go_simp; exact rfl) | (go_simp; rw [if_neg (by omega)])), hK _ ?_⟩; clear hK K)
    (refine kept_step (fun K hK => ?_); go_simp; refine ⟨_, fun W hW => .inl (by obtain ⟨h0, h1, h2, h3, h4, h5, h6⟩ := hW; first | (go_simp; exact rfl) | (go_simp; rw [if_neg (by omega)])), hK _ ?_⟩; clear hK K)
    refine kept_nil ?_
    rintro W ⟨h0, h1, h2, h3, h4, h5, h6⟩
    go_wp2
    go_ret3
    exact ⟨by rw [HP.out.1, HP.out.2]; rfl, h6⟩
  · rw [if_neg hc] at hx
    subst hx
    go_enter Tryz.func65, Tryz.ntmps65
    obtain ⟨k0, k1, k2'⟩ := K1.cell
    obtain ⟨k3, k4, k5⟩ := K2.cell
    go_wp2_with fail
    refine wp_region_kept_all (fun w' => w'.cell? ⟨w.heap.size, 0, none⟩ = some (.bool n) ∧ w'.cell? ⟨w.heap.size, 1, none⟩ = some (.string s) ∧ w'.cell? ⟨w.heap.size, 2, none⟩ = some (.int .i64 e) ∧ w'.cell? ⟨w.heap.size + 1, 0, none⟩ = some (.bool n2) ∧ w'.cell? ⟨w.heap.size + 1, 1, none⟩ = some (.string s2) ∧ w'.cell? ⟨w.heap.size + 1, 2, none⟩ = some (.int .i64 e2) ∧ Below w.heap.size w w') (by kernel_rfl) (by kernel_rfl) (fun _ _ d _ _ h => by cases d <;> exact h) ⟨k0, k1, k2', k3, k4, k5, B.drew⟩ ?_
    (refine kept_step (fun K hK => ?_); go_simp; refine ⟨_, fun W hW => .inl (by obtain ⟨h0, h1, h2, h3, h4, h5, h6⟩ := hW; first | (go_simp; exact rfl) | (go_simp; rw [if_neg (by omega)])), hK _ ?_⟩; clear hK K)
    (refine kept_step (fun K hK => ?_); go_simp; refine ⟨_, fun W hW => .inr (.inr ⟨_, _, ?_, (cD1 W).mono (fun r w' h => ⟨h.1, held7 hW h.2⟩)⟩), hK _ ?_⟩; (· first | (go_simp; done) | (go_simp; rfl)); clear hK K)
    (refine kept_step (fun K hK => ?_); go_simp; refine ⟨_, fun W hW => .inl (by obtain ⟨h0, h1, h2, h3, h4, h5, h6⟩ := hW; first | (go_simp; exact rfl) | (go_simp; rw [if_neg (by omega)])), hK _ ?_⟩; clear hK K)
    (refine kept_step (fun K hK => ?_); go_simp; refine ⟨_, fun W hW => .inl (by obtain ⟨h0, h1, h2, h3, h4, h5, h6⟩ := hW; first | (go_simp; exact rfl) | (go_simp; rw [if_neg (by omega)])), hK _ ?_⟩; clear hK K)
    (refine kept_step (fun K hK => ?_); go_simp; refine ⟨_, fun W hW => .inl (by obtain ⟨h0, h1, h2, h3, h4, h5, h6⟩ := hW; first | (go_simp; exact rfl) | (go_simp; rw [if_neg (by omega)])), hK _ ?_⟩; clear hK K)
    (refine kept_step (fun K hK => ?_); go_simp; refine ⟨_, fun W hW => .inl (by obtain ⟨h0, h1, h2, h3, h4, h5, h6⟩ := hW; first | (go_simp; exact rfl) | (go_simp; rw [if_neg (by omega)])), hK _ ?_⟩; clear hK K)
    (refine kept_step (fun K hK => ?_); go_simp; refine ⟨_, fun W hW => .inr (.inr ⟨_, _, ?_, (cZ1 W).mono (fun r w' h => ⟨h.1, held7 hW h.2⟩)⟩), hK _ ?_⟩; (· first | (go_simp; done) | (go_simp; rfl)); clear hK K)
    (refine kept_step (fun K hK => ?_); go_simp; refine ⟨_, fun W hW => .inl (by obtain ⟨h0, h1, h2, h3, h4, h5, h6⟩ := hW; first | (go_simp; exact rfl) | (go_simp; rw [if_neg (by omega)])), hK _ ?_⟩; clear hK K)
    (refine kept_step (fun K hK => ?_); go_simp; refine ⟨_, fun W hW => .inl (by obtain ⟨h0, h1, h2, h3, h4, h5, h6⟩ := hW; first | (go_simp; exact rfl) | (go_simp; rw [if_neg (by omega)])), hK _ ?_⟩; clear hK K)
    (refine kept_step (fun K hK => ?_); go_simp; refine ⟨_, fun W hW => .inr (.inr ⟨_, _, ?_, (cD2 W).mono (fun r w' h => ⟨h.1, held7 hW h.2⟩)⟩), hK _ ?_⟩; (· first | (go_simp; done) | (go_simp; rfl)); clear hK K)
    (refine kept_step (fun K hK => ?_); go_simp; refine ⟨_, fun W hW => .inl (by obtain ⟨h0, h1, h2, h3, h4, h5, h6⟩ := hW; first | (go_simp; exact rfl) | (go_simp; rw [if_neg (by omega)])), hK _ ?_⟩; clear hK K)
    (refine kept_step (fun K hK => ?_); go_simp; refine ⟨_, fun W hW => .inl (by obtain ⟨h0, h1, h2, h3, h4, h5, h6⟩ := hW; first | (go_simp; exact rfl) | (go_simp; rw [if_neg (by omega)])), hK _ ?_⟩; clear hK K)
    (refine kept_step (fun K hK => ?_); go_simp; refine ⟨_, fun W hW => .inl (by obtain ⟨h0, h1, h2, h3, h4, h5, h6⟩ := hW; first | (go_simp; exact rfl) | (go_simp; rw [if_neg (by omega)])), hK _ ?_⟩; clear hK K)
    (refine kept_step (fun K hK => ?_); go_simp; refine ⟨_, fun W hW => .inl (by obtain ⟨h0, h1, h2, h3, h4, h5, h6⟩ := hW; first | (go_simp; exact rfl) | (go_simp; rw [if_neg (by omega)])), hK _ ?_⟩; clear hK K)
    (refine kept_step (fun K hK => ?_); go_simp; refine ⟨_, fun W hW => .inr (.inr ⟨_, _, ?_, (cZ2 W).mono (fun r w' h => ⟨h.1, held7 hW h.2⟩)⟩), hK _ ?_⟩; (· first | (go_simp; done) | (go_simp; rfl)); clear hK K)
    (refine kept_step (fun K hK => ?_); go_simp; refine ⟨_, fun W hW => .inl (by obtain ⟨h0, h1, h2, h3, h4, h5, h6⟩ := hW; first | (go_simp; exact rfl) | (go_simp; rw [if_neg (by omega)])), hK _ ?_⟩; clear hK K)
    (refine kept_step (fun K hK => ?_); go_simp; refine ⟨_, fun W hW => .inl (by obtain ⟨h0, h1, h2, h3, h4, h5, h6⟩ := hW; first | (go_simp; exact rfl) | (go_simp; rw [if_neg (by omega)])), hK _ ?_⟩; clear hK K)
    (refine kept_step (fun K hK => ?_); go_simp; refine ⟨_, fun W hW => .inl (by obtain ⟨h0, h1, h2, h3, h4, h5, h6⟩ := hW; first | (go_simp; exact rfl) | (go_simp; rw [if_neg (by omega)])), hK _ ?_⟩; clear hK K)
    (refine kept_step (fun K hK => ?_); go_simp; refine ⟨_, fun W hW => .inl (by obtain ⟨h0, h1, h2, h3, h4, h5, h6⟩ := hW; first | (go_simp; exact rfl) | (go_simp; rw [if_neg (by omega)])), hK _ ?_⟩; clear hK K)
    (refine kept_step (fun K hK => ?_); go_simp; refine ⟨_, fun W hW => .inl (by obtain ⟨h0, h1, h2, h3, h4, h5, h6⟩ := hW; first | (go_simp; exact rfl) | (go_simp; rw [if_neg (by omega)])), hK _ ?_⟩; clear hK K)
    refine kept_nil ?_
    rintro W ⟨h0, h1, h2, h3, h4, h5, h6⟩
    go_wp2
    go_ret3
    exact ⟨by rw [HP.out.1, HP.out.2]; rfl, h6⟩

end Go.Proofs.YthijeckcjfnbcaaGreatDoor

/- spec.DecNeg and spec.l03Sum of valid decimals. -/
namespace Go.Proofs.YthijeckcjfnbcaaGreatDoor
set_option linter.unusedVariables false
open Go.RowKit

/-- Two more blocks than a valid decimal needs; behind it a decimal is stored. -/
theorem neg_list {n : Bool} {s : ByteArray} {e : Int} (h : s.size ≠ 0) : negOf (dOf n s e) = dOf (!n) s e := by
  unfold negOf
  rw [if_neg]
  · rfl
  · show s.data.toList ≠ []
    intro g
    have := size_list s
    rw [g] at this; simp at this; omega
theorem neg_nil {n : Bool} {s : ByteArray} {e : Int} (h : s.size = 0) : negOf (dOf n s e) = DecV.zero := by
  unfold negOf
  rw [if_pos]
  exact List.eq_nil_of_length_eq_zero (by show s.data.toList.length = 0; rw [size_list]; exact h)
theorem mk_list (s : ByteArray) : (⟨s.data.toList.toArray⟩ : ByteArray) = s := by rw [Array.toArray_toList]

set_option maxHeartbeats 1000000 in
set_option maxRecDepth 100000 in
theorem specDecNeg (n : Bool) (s : ByteArray) (e : Int) (w : World) (hs : s.size ≤ 1048576) (b1 : -9223372036854775808 ≤ e) (b2 : e ≤ 9223372036854775807) :
    Calls Tryz.prog 43 #[.agg #[.bool n, .string s, .int .i64 e]] w fun r w' => ((dOf n s e).Ok → AnsD (negOf (dOf n s e)) w r w') ∧ (¬ (dOf n s e).Ok → AnsD DecV.zero w r w') := by
  have cO := fun W => specDecOk n s e W hs b1 b2
  obtain ⟨P, HP⟩ : ∃ P : Prop, Hid (P = (dOf n s e).Ok) := ⟨_, rfl⟩
  rw [← HP.out] at cO
  have K1 := (DecAt.new w n s e).alloc (.cells #[.bool false, .string ⟨#[]⟩, .int .i64 0] 25)
  have K2 := DecAt.new (w.alloc (.cells #[.bool n, .string s, .int .i64 e] 25)) false ⟨#[]⟩ 0
  rw [show (w.alloc (.cells #[.bool n, .string s, .int .i64 e] 25)).heap.size = w.heap.size + 1 by simp] at K2
  have B : Below w.heap.size w ((w.alloc (.cells #[.bool n, .string s, .int .i64 e] 25)).alloc (.cells #[.bool false, .string ⟨#[]⟩, .int .i64 0] 25)) := ((Below.refl _ _).alloc (Nat.le_refl _) _).alloc (by simp) _
  rw [← HP.out]
  obtain ⟨A, hA⟩ : ∃ A : Ending → World → Prop, A = fun r w' => (P → AnsD (negOf (dOf n s e)) w r w') ∧ (¬ P → AnsD DecV.zero w r w') := ⟨_, rfl⟩
  have HA := Lib.hid hA
  rw [← hA]
  clear hA
  go_enter Tryz.func43, Tryz.ntmps43
  go_wp2_with fail
  refine (cO _).mono ?_
  intro r w1 hr
  obtain ⟨hb, B1⟩ := AnsB.get hr
  obtain ⟨k0, k1, k2⟩ := (K1.belowS B1).cell
  have K3 := K2.belowS B1
  obtain ⟨k3, k4, k5⟩ := K3.cell
  have f0 := K3.frozen 0
  have f1 := K3.frozen 1
  have f2 := K3.frozen 2
  have D := B.trans (B1.mono B.size)
  clear cO B1 hr B K1 K2
  rcases hb with ⟨rfl, hb⟩ | ⟨rfl, hb⟩
  · have HB := Lib.hid hb
    clear hb
    by_cases h0 : s.size = 0
    · have hnil : s.toList.isEmpty = true := by rw [List.isEmpty_iff]; exact toList_nil.2 h0
      have HN : Hid (negOf (dOf n s e) = DecV.zero) := neg_nil h0
      clear h0
      go_wp2
      refine bodyPost_ret (v := .agg #[.bool false, .string ⟨#[]⟩, .int .i64 0]) (by simp [results, Tryz.results43, go_sem, (K3.set false ⟨#[]⟩ 0).cell]) rfl ?_
      rw [HA.out]
      exact ⟨fun _ => ⟨by rw [HN.out]; rfl, Below.set3 D (by omega)⟩, fun h => absurd HB.out h⟩
    · have hnil : s.toList.isEmpty = false := by rw [List.isEmpty_eq_false_iff]; exact fun h => h0 (toList_nil.1 h)
      have HN : Hid (negOf (dOf n s e) = dOf (!n) s e) := neg_list h0
      clear h0
      go_wp2
      refine bodyPost_ret (v := .agg #[.bool (!n), .string s, .int .i64 e]) (by simp [results, Tryz.results43, go_sem, (K3.set (!n) s e).cell]) rfl ?_
      rw [HA.out]
      exact ⟨fun _ => ⟨by rw [HN.out]; show _ = Ending.returned (.agg #[.bool (!n), .string ⟨s.data.toList.toArray⟩, .int .i64 e]); rw [mk_list], Below.set3 D (by omega)⟩, fun h => absurd HB.out h⟩
  · have HB := Lib.hid hb
    clear hb
    go_wp2
    refine bodyPost_ret (v := .agg #[.bool false, .string ⟨#[]⟩, .int .i64 0]) (by simp [results, Tryz.results43, go_sem, (K3.set false ⟨#[]⟩ 0).cell]) rfl ?_
    rw [HA.out]
    exact ⟨fun h => absurd h HB.out, fun _ => ⟨rfl, Below.set3 D (by omega)⟩⟩

end Go.Proofs.YthijeckcjfnbcaaGreatDoor

/- spec.l02Sub where the lesser number's row of digits may be the longer one (noughts ahead). Conditions: digits, at most 100000 of them. -/
namespace Go.Proofs.YthijeckcjfnbcaaGreatDoor
set_option linter.unusedVariables false
open Go.RowKit
open Go.Lib (byteCells)

theorem low_big {l : List UInt8} (h : Digs l) {k : Nat} (hv : val l < 10 ^ k) : low l k = val l := by
  rcases Nat.lt_or_ge k l.length with g | g
  · have e := val_append (l.take (l.length - k)) (l.drop (l.length - k))
    rw [List.take_append_drop, List.length_drop, show l.length - (l.length - k) = k by omega] at e
    unfold low
    have hp : 0 < 10 ^ k := Nat.pow_pos (by omega)
    rcases Nat.eq_zero_or_pos (val (l.take (l.length - k))) with h0 | h0
    · rw [h0] at e; omega
    · have : 1 * 10 ^ k ≤ val (l.take (l.length - k)) * 10 ^ k := Nat.mul_le_mul_right _ h0
      omega
  · exact low_all g

set_option maxHeartbeats 1000000 in
set_option maxRecDepth 100000 in
theorem specSubG (s t : ByteArray) (w : World) (hs : s.size ≤ 100000) (hts : t.size ≤ 100000) (ds : Digs s.data.toList) (dt : Digs t.data.toList) (hle : val t.data.toList ≤ val s.data.toList) :
    Calls Tryz.prog 68 #[.string s, .string t] w (AnsS (natOf (val s.data.toList - val t.data.toList)) w) := by
  obtain ⟨i0, hi, hz0, hz1, hz2⟩ := info_parts Tryz.infoByteN
  have hsl := size_list s
  have htl := size_list t
  have cA := fun (k : Nat) (W : World) (h : k ≤ 10000000) => specDigit s k W (by omega) h ds
  have cB := fun (k : Nat) (W : World) (h : k ≤ 10000000) => specDigit t k W (by omega) h dt
  have hdA := fun k => digAt_lt ds k
  have hdB := fun k => digAt_lt dt k
  have lsA := low_succ s.data.toList
  have lsB := low_succ t.data.toList
  have HI := Lib.hid (And.intro hdA (And.intro hdB (And.intro lsA lsB)))
  have HLE := Lib.hid hle
  have HBG : Hid (low t.data.toList s.size = val t.data.toList) := low_big dt (Nat.lt_of_le_of_lt hle (by have := val_lt ds; rwa [hsl] at this))
  clear hdA hdB lsA lsB ds dt hle
  go_enter Tryz.func68, Tryz.ntmps68
  go_wp2
  go_loopw [5, 6, 7] (fun v ov kv wr => SubRel s.data.toList t.data.toList w v ov kv wr) (fun _ _ kv _ => s.size - (intOf kv).toNat)
  case atStart =>
    exact ⟨0, 0, [], w.heap.size, 0, rfl, rfl, rfl, World.ownsRow_lit w #[] 0 (Nat.le_refl _) (Nat.zero_le _) rfl, digs_nil, rfl, by omega, by rw [low_zero, low_zero]; rfl, Nat.zero_le _, (Below.refl _ _).alloc (Nat.le_refl _) _⟩
  case round =>
    obtain ⟨k, o, acc, g, cp, rfl, rfl, rfl, hown, hdg, hal, ho1, hval, hkm, hbel⟩ := hrel
    rw [hsl] at hkm
    have HV := Lib.hid (And.intro hdg (And.intro hal hval))
    have hacl : acc.length ≤ 1048576 := by omega
    clear hdg hal hval
    by_cases hlt : k < s.size
    · have hkn : Hid (k + 1 ≤ s.data.toList.length) := by show _ ≤ _; rw [hsl]; exact hlt
      obtain ⟨x, hx⟩ : ∃ x, digAt s.data.toList k = x := ⟨_, rfl⟩
      obtain ⟨y, hy⟩ : ∃ y, digAt t.data.toList k = y := ⟨_, rfl⟩
      have cA1 := fun W => cA k W (by omega)
      have cB1 := fun W => cB k W (by omega)
      have hx1 := HI.out.1 k
      have hy1 := HI.out.2.1 k
      have HX := Lib.hid (HI.out.2.2.1 k)
      have HY := Lib.hid (HI.out.2.2.2 k)
      rw [hx] at cA1 hx1 HX
      rw [hy] at cB1 hy1 HY
      clear hx hy
      have hdo : ∃ d o' : Nat, d < 10 ∧ o' ≤ 1 ∧ d + y + o = x + 10 * o' := by
        by_cases h : y + o ≤ x
        · exact ⟨x - y - o, 0, by omega, by omega, by omega⟩
        · exact ⟨x + 10 - y - o, 1, by omega, by omega, by omega⟩
      obtain ⟨d, o', hd10, ho', hdo⟩ := hdo
      have HS := Lib.hid (off_step HV.out.1 HV.out.2.1 HV.out.2.2 hdo hd10)
      rw [← HX.out, ← HY.out] at HS
      obtain ⟨b, hb⟩ : ∃ b, dig d = b := ⟨_, rfl⟩
      rw [hb] at HS
      have hb48 : (b.toNat : Int) = 48 + (d : Int) := by rw [← hb, dig_toNat hd10]; omega
      have hbl := b.toNat_lt
      clear hb HX HY HI cA cB HV
      have hcase : (o' = 0 ∧ ¬ (x : Int) - (y : Int) - (o : Int) < 0 ∧ 48 + ((x : Int) - (y : Int) - (o : Int)) = (b.toNat : Int)) ∨ (o' = 1 ∧ (x : Int) - (y : Int) - (o : Int) < 0 ∧ 48 + ((x : Int) - (y : Int) - (o : Int) + 10) = (b.toNat : Int)) := by omega
      clear hb48 hdo hd10
      rcases hcase with ⟨rfl, h1, h2⟩ | ⟨rfl, h1, h2⟩
      all_goals
        go_wp2_with fail
        refine (cA1 _).mono ?_
        rintro e wA ⟨rfl, BA⟩
        go_wp2_with fail
        refine (cB1 _).mono ?_
        rintro e wB ⟨rfl, BB⟩
        have D2 := hbel.trans ((BA.trans (BB.mono BA.size)).mono hbel.size)
        have hown1 := row_keptN (row_keptN hown BA (Nat.le_refl _)) BB (Nat.le_refl _)
        clear hown hbel BA BB cA1 cB1
        have hlit := lit_own wB b D2.size
        go_wp2_with (at_builtin; go_must (refine wpList_append_own _ rfl _ _ 22 rfl w.heap.size 5 i0 (.int .u8 0) 1 1 Tryz.underlying22 hi hz0 hz1 hz2 rfl (by decide) _ _ _ rfl hlit ⟨g, 0, none⟩ _ _ (byteCells acc) rfl (by simp [byteCells]) (own_cells (hown1.alloc _)) (bytes_oneN acc) (by unfold maxLen; simp; omega) (by simp; omega) (by have := D2.size; simp; omega) ?_); intro v' w2 hown2 hgrow2 _; have hown3 := own_catN (a := [b]) (b := acc) hown2; obtain ⟨g2, c2, rfl⟩ := own_some (n := acc.length) (by rw [Nat.add_comm] at hown2; exact hown2))
        have hb1 : Below w.heap.size w w2 := (D2.alloc D2.size _).grown hgrow2 (by have := D2.size; simp; omega) (own_block hlit)
        have O3 := Lib.hid hown3
        clear hown2 hown3 hgrow2 hown1 hlit D2
        go_wp2
        go_roundw
        case rel => exact ⟨k + 1, _, b :: acc, g2, c2, by go_num, rfl, rfl, O3.out, HS.out.1, HS.out.2.1, ho', HS.out.2.2, hkn.out, hb1⟩
        case measure => simp [intOf]; omega
    · have HE : Hid (trim acc = natOf (val s.data.toList - val t.data.toList)) := by
        show _ = _
        rw [trim_eq HV.out.1]
        congr 1
        have h3 := HV.out.2.2
        have h4 := val_lt HV.out.1
        have hks : k = s.size := by omega
        rw [hks, HBG.out, low_all (l := s.data.toList) (by rw [hsl]; omega)] at h3
        rw [← hks] at h3
        rw [HV.out.2.1] at h4
        have h5 := HLE.out
        have h6 : o = 0 ∨ o = 1 := by omega
        rcases h6 with rfl | rfl <;> omega
      have hcvt := conv_own (P := Tryz.prog) (dst := 9) Tryz.underlying22 Tryz.underlying5 Tryz.underlying9 hown
      have cT := specTrim (⟨acc.toArray⟩ : ByteArray) wr (show acc.length ≤ _ by omega)
      clear HI cA cB HV hkm
      go_wp2_with fail
      refine cT.mono ?_
      rintro e w2 ⟨rfl, B2⟩
      have D2 := hbel.trans (B2.mono hbel.size)
      clear B2 hbel cT hcvt hown
      go_wp2
      go_ret
      exact ⟨by rw [← HE.out]; rfl, D2⟩

end Go.Proofs.YthijeckcjfnbcaaGreatDoor

/- spec.l03Sum of two valid decimals, its sign alone. -/
namespace Go.Proofs.YthijeckcjfnbcaaGreatDoor
set_option linter.unusedVariables false
open Go.RowKit

theorem padZ_facts {s : ByteArray} (hd : Digs s.data.toList) (hs : s.size ≤ 20) (k : Nat) (hk : k ≤ 217) : Digs (padZ s k).data.toList ∧ val (padZ s k).data.toList = val s.data.toList * 10 ^ k ∧ (padZ s k).size ≤ 240 := by
  obtain ⟨h1, h2, h3⟩ := dig0_facts hd
  have e : (padZ s k).data.toList = (dig0 s).data.toList ++ List.replicate k 48 := by unfold padZ; rw [ByteArray.data_append, Array.toList_append]
  refine ⟨by rw [e]; exact h1.append (val_zeros k).2, by rw [e, val_pad, h2], ?_⟩
  rw [← size_list, e, List.length_append, List.length_replicate, size_list]
  omega
/-- The sign alone, as a decimal. -/
def sgnD (p : Bool × Nat) : DecV × Int := if p.2 = 0 then (DecV.zero, 0) else (⟨p.1, [49], 0⟩, 0)
theorem ok_size {n : Bool} {s : ByteArray} {e : Int} (h : (dOf n s e).Ok) : Digs s.data.toList ∧ s.size ≤ 20 ∧ -118 ≤ e ∧ e ≤ 99 :=
  ⟨h.digs, by have := h.len; rwa [show (dOf n s e).dig.length = s.size from size_list s] at this, h.exps⟩

theorem nat_zero_iff' {v : Nat} : natOf v = [48] ↔ v = 0 := by
  constructor
  · intro h
    have := val_natOf v
    rw [h] at this
    rw [← this]; rfl
  · intro h; subst h; rw [natOf_small (by omega)]; rfl
theorem nat_len_le {v k : Nat} (h : v < 10 ^ k) : (natOf v).length ≤ k + 1 := by
  by_cases h0 : v = 0
  · subst h0; rw [natOf_small (by omega)]; simp
  · exact Nat.le_succ_of_le (natOf_len_lt h h0)
theorem lt_of_nat {v k : Nat} (h : (natOf v).length ≤ k) : v < 10 ^ k := Nat.lt_of_lt_of_le (by have := val_lt (natOf_digs v); rwa [val_natOf] at this) (Nat.pow_le_pow_right (by omega) h)
theorem nat_len_add {x y k : Nat} (hx : (natOf x).length ≤ k) (hy : (natOf y).length ≤ k) : (natOf (x + y)).length ≤ k + 2 := by
  apply nat_len_le
  have h1 := lt_of_nat hx
  have h2 := lt_of_nat hy
  rw [Nat.pow_succ]
  omega
theorem nat_len_val {l : List UInt8} (h : Digs l) : (natOf (val l)).length ≤ l.length + 1 := nat_len_le (val_lt h)

set_option maxHeartbeats 1000000 in
set_option maxRecDepth 100000 in
theorem specSumF (n : Bool) (s : ByteArray) (e : Int) (n2 : Bool) (s2 : ByteArray) (e2 : Int) (w : World) (ha : (dOf n s e).Ok) (hb : (dOf n2 s2 e2).Ok) :
    Calls Tryz.prog 35 #[.agg #[.bool n, .string s, .int .i64 e], .agg #[.bool n2, .string s2, .int .i64 e2], .bool false] w (AnsDC (sgnD (sumOf (dOf n s e) (dOf n2 s2 e2))) w) := by
  obtain ⟨d1, q1, b1, b2⟩ := ok_size ha
  obtain ⟨d2, q2, c1, c2⟩ := ok_size hb
  have cL := fun W => specLevel n s e n2 s2 e2 W q1 q2 b1 b2 c1 c2
  obtain ⟨E, hE⟩ : ∃ E, (if e2 < e then e2 else e) = E := ⟨_, rfl⟩
  rw [hE] at cL
  have hEb : E ≤ e ∧ E ≤ e2 ∧ -118 ≤ E ∧ E ≤ 99 := by rw [← hE]; split <;> omega
  obtain ⟨x, hx⟩ : ∃ x, padZ s (e - E).toNat = x := ⟨_, rfl⟩
  obtain ⟨y, hy⟩ : ∃ y, padZ s2 (e2 - E).toNat = y := ⟨_, rfl⟩
  rw [hx, hy] at cL
  obtain ⟨dx, vx, zx⟩ := padZ_facts d1 q1 (e - E).toNat (by omega)
  obtain ⟨dy, vy, zy⟩ := padZ_facts d2 q2 (e2 - E).toNat (by omega)
  rw [hx] at dx vx zx
  rw [hy] at dy vy zy
  obtain ⟨X, hX⟩ : ∃ X, val s.data.toList * 10 ^ (e - E).toNat = X := ⟨_, rfl⟩
  obtain ⟨Y, hY⟩ : ∃ Y, val s2.data.toList * 10 ^ (e2 - E).toNat = Y := ⟨_, rfl⟩
  rw [hX] at vx
  rw [hY] at vy
  have HS : Hid (sumOf (dOf n s e) (dOf n2 s2 e2) = (if n = n2 then (n, X + Y) else if Y ≤ X then (n, X - Y) else (n2, Y - X)) ∧ low2 (dOf n s e) (dOf n2 s2 e2) = E) := by
    refine ⟨?_, hE⟩
    unfold sumOf lev
    rw [show low2 (dOf n s e) (dOf n2 s2 e2) = E from hE]
    show (if n = n2 then (n, val s.data.toList * 10 ^ (e - E).toNat + val s2.data.toList * 10 ^ (e2 - E).toNat) else if val s2.data.toList * 10 ^ (e2 - E).toNat ≤ val s.data.toList * 10 ^ (e - E).toNat then (n, val s.data.toList * 10 ^ (e - E).toNat - val s2.data.toList * 10 ^ (e2 - E).toNat) else (n2, val s2.data.toList * 10 ^ (e2 - E).toNat - val s.data.toList * 10 ^ (e - E).toNat)) = _
    rw [hX, hY]
  have cA := fun W => specAdd x y W (by omega) (by omega) dx dy
  have cC := fun W => specCmp x y W (by omega) (by omega) dx dy
  have cTx := fun W => specTrim x W (by omega)
  have cTy := fun W => specTrim y W (by omega)
  rw [trim_eq dx, vx] at cTx
  rw [trim_eq dy, vy] at cTy
  rw [vx, vy] at cA cC
  have lX : (natOf X).length ≤ 250 := by rw [← vx]; have := nat_len_val dx; rw [size_list] at this; omega
  have lY : (natOf Y).length ≤ 250 := by rw [← vy]; have := nat_len_val dy; rw [size_list] at this; omega
  have cS1 : ∀ W, Y ≤ X → Calls Tryz.prog 68 #[.string ⟨(natOf X).toArray⟩, .string y] W (AnsS (natOf (X - Y)) W) := fun W h => by
    have := specSubG ⟨(natOf X).toArray⟩ y W (show (natOf X).length ≤ _ by omega) (by omega) (natOf_digs X) dy (by rw [show val (natOf X) = X from val_natOf X] at *; rw [vy]; exact h)
    rw [vy] at this
    rwa [show val (⟨(natOf X).toArray⟩ : ByteArray).data.toList = X from val_natOf X] at this
  have cS2 : ∀ W, X ≤ Y → Calls Tryz.prog 68 #[.string ⟨(natOf Y).toArray⟩, .string x] W (AnsS (natOf (Y - X)) W) := fun W h => by
    have := specSubG ⟨(natOf Y).toArray⟩ x W (show (natOf Y).length ≤ _ by omega) (by omega) (natOf_digs Y) dx (by rw [show val (natOf Y) = Y from val_natOf Y] at *; rw [vx]; exact h)
    rw [vx] at this
    rwa [show val (⟨(natOf Y).toArray⟩ : ByteArray).data.toList = Y from val_natOf Y] at this
  have lXY := nat_len_add lX lY
  have lS1 : (natOf (X - Y)).length ≤ 250 := Nat.le_trans (natOf_len_mono (by omega)) lX
  have lS2 : (natOf (Y - X)).length ≤ 250 := Nat.le_trans (natOf_len_mono (by omega)) lY
  have K1 := ((DecAt.new w n s e).alloc (.cells #[.bool n2, .string s2, .int .i64 e2] 25)).alloc (.cells #[.bool false, .string ⟨#[]⟩, .int .i64 0] 25)
  have K2 := (DecAt.new (w.alloc (.cells #[.bool n, .string s, .int .i64 e] 25)) n2 s2 e2).alloc (.cells #[.bool false, .string ⟨#[]⟩, .int .i64 0] 25)
  have K0 := DecAt.new ((w.alloc (.cells #[.bool n, .string s, .int .i64 e] 25)).alloc (.cells #[.bool n2, .string s2, .int .i64 e2] 25)) false ⟨#[]⟩ 0
  rw [show (w.alloc (.cells #[.bool n, .string s, .int .i64 e] 25)).heap.size = w.heap.size + 1 by simp] at K2
  rw [show ((w.alloc (.cells #[.bool n, .string s, .int .i64 e] 25)).alloc (.cells #[.bool n2, .string s2, .int .i64 e2] 25)).heap.size = w.heap.size + 1 + 1 by simp] at K0
  have B : Below w.heap.size w (((w.alloc (.cells #[.bool n, .string s, .int .i64 e] 25)).alloc (.cells #[.bool n2, .string s2, .int .i64 e2] 25)).alloc (.cells #[.bool false, .string ⟨#[]⟩, .int .i64 0] 25)) := (((Below.refl _ _).alloc (Nat.le_refl _) _).alloc (by simp) _).alloc (by simp; omega) _
  unfold Ans3L at cL
  unfold AnsS at cA cTx cTy cS1 cS2
  unfold AnsN at cC
  clear hE hx hy dx dy vx vy hX hY ha hb d1 d2
  go_enter Tryz.func35, Tryz.ntmps35
  go_wp2_with fail
  refine (cL _).mono ?_
  rintro r w1 ⟨rfl, B1⟩
  have K3 := K1.belowS B1
  have K4 := K2.belowS B1
  have K5 := K0.belowS B1
  have D1 := below_kept B (Nat.le_refl _) B1
  obtain ⟨a0, a1, a2⟩ := K3.cell
  obtain ⟨a3, a4, a5⟩ := K4.cell
  clear cL B1 B K0 K1 K2
  by_cases hn : n = n2
  · have hbn : (n == n2) = true := by rw [beq_iff_eq]; exact hn
    have HN := Lib.hid hn
    clear hn
    go_wp2_with fail
    refine (cA _).mono ?_
    rintro r w2 ⟨rfl, B2⟩
    have D3 := below_kept D1 (Nat.le_refl _) B2
    have K3 := K5.belowS B2
    clear cA cC cTx cTy cS1 cS2 B2 D1 K5 K4 a0 a1 a2 a3 a4 a5
    have cF : ∀ W, Calls Tryz.prog 69 #[.string ⟨(natOf (X + Y)).toArray⟩] W (AnsS (natOf (X + Y)) W) := fun W => by
      have := specTrim ⟨(natOf (X + Y)).toArray⟩ W (by show (natOf (X + Y)).length ≤ _; omega)
      rwa [show trim (⟨(natOf (X + Y)).toArray⟩ : ByteArray).data.toList = natOf (X + Y) by rw [trim_eq (natOf_digs _)]; rw [show val (⟨(natOf (X + Y)).toArray⟩ : ByteArray).data.toList = X + Y from val_natOf _]] at this
    have HR : Hid (sgnD (sumOf (dOf n s e) (dOf n2 s2 e2)) = if X + Y = 0 then (DecV.zero, 0) else (⟨n, [49], 0⟩, 0)) := by show _ = _; rw [HS.out.1, if_pos HN.out]; rfl
    obtain ⟨V, hV⟩ : ∃ V, X + Y = V := ⟨_, rfl⟩
    rw [hV] at cF HR ⊢
    have h48 : (⟨(natOf V).toArray⟩ : ByteArray).toList = natOf V := ByteArray.toList_eq _
    unfold AnsS at cF
    generalize (⟨(natOf V).toArray⟩ : ByteArray) = D at *
    go_wp2_with fail
    refine (cF _).mono ?_
    rintro r w9 ⟨rfl, B9⟩
    have K9 := K3.belowS B9
    have D9 := below_kept D3 (Nat.le_refl _) B9
    obtain ⟨k6, k7, k8⟩ := K9.cell
    have f0 := K9.frozen 0
    have f1 := K9.frozen 1
    have f2 := K9.frozen 2
    clear cF B9 D3 K3 hV
    by_cases h0 : V = 0
    · have hq : (D.toList == [48]) = true := by rw [h48, nat_zero_iff'.2 h0]; rfl
      clear h48
      go_wp2
      refine bodyPost_ret (v := .tuple #[.agg #[.bool false, .string ⟨#[]⟩, .int .i64 0], .int .i64 0]) (by simp [results, Tryz.results35, go_sem, (K9.set false ⟨#[]⟩ 0).cell]) rfl ⟨?_, Below.set3 D9 (by omega)⟩
      rw [HR.out, if_pos h0]; rfl
    · have hq : (D.toList == [48]) = false := by rw [h48, beq_eq_false_iff_ne]; exact fun h => h0 (nat_zero_iff'.1 h)
      clear h48
      go_wp2
      refine bodyPost_ret (v := .tuple #[.agg #[.bool n, .string ⟨#[49]⟩, .int .i64 0], .int .i64 0]) (by simp [results, Tryz.results35, go_sem, (K9.set n ⟨#[49]⟩ 0).cell]) rfl ⟨?_, Below.set3 D9 (by omega)⟩
      rw [HR.out, if_neg h0]
  · have hbn : (n == n2) = false := by rw [beq_eq_false_iff_ne]; exact hn
    have HN := Lib.hid hn
    clear hn
    go_wp2_with fail
    refine (cC _).mono ?_
    rintro r w2 ⟨rfl, B2⟩
    have D2 := below_kept D1 (Nat.le_refl _) B2
    have K6 := K5.belowS B2
    have K7 := K4.belowS B2
    obtain ⟨a6, a7, a8⟩ := K7.cell
    clear cA cC B2 D1 K5 K4 K3 a0 a1 a2 a3 a4 a5
    by_cases hle : Y ≤ X
    · have hc : 0 ≤ cmpN X Y := by unfold cmpN; rw [if_neg (by omega)]; split <;> omega
      generalize cmpN X Y = m at *
      go_wp2_with fail
      refine (cTx _).mono ?_
      rintro r w3 ⟨rfl, B3⟩
      have D4 := below_kept D2 (Nat.le_refl _) B3
      have K8 := K6.belowS B3
      clear cTx cTy B3 D2 K6 K7 a6 a7 a8
      have cS := fun W => cS1 W hle
      clear cS1 cS2
      generalize (⟨(natOf X).toArray⟩ : ByteArray) = tx at *
      go_wp2_with fail
      refine (cS _).mono ?_
      rintro r w4 ⟨rfl, B4⟩
      have D3 := below_kept D4 (Nat.le_refl _) B4
      have K3 := K8.belowS B4
      clear cS B4 D4 K8
      have cF : ∀ W, Calls Tryz.prog 69 #[.string ⟨(natOf (X - Y)).toArray⟩] W (AnsS (natOf (X - Y)) W) := fun W => by
        have := specTrim ⟨(natOf (X - Y)).toArray⟩ W (by show (natOf (X - Y)).length ≤ _; omega)
        rwa [show trim (⟨(natOf (X - Y)).toArray⟩ : ByteArray).data.toList = natOf (X - Y) by rw [trim_eq (natOf_digs _)]; rw [show val (⟨(natOf (X - Y)).toArray⟩ : ByteArray).data.toList = X - Y from val_natOf _]] at this
      have HR : Hid (sgnD (sumOf (dOf n s e) (dOf n2 s2 e2)) = if X - Y = 0 then (DecV.zero, 0) else (⟨n, [49], 0⟩, 0)) := by show _ = _; rw [HS.out.1, if_neg HN.out, if_pos hle]; rfl
      obtain ⟨V, hV⟩ : ∃ V, X - Y = V := ⟨_, rfl⟩
      rw [hV] at cF HR ⊢
      have h48 : (⟨(natOf V).toArray⟩ : ByteArray).toList = natOf V := ByteArray.toList_eq _
      unfold AnsS at cF
      generalize (⟨(natOf V).toArray⟩ : ByteArray) = D at *
      go_wp2_with fail
      refine (cF _).mono ?_
      rintro r w9 ⟨rfl, B9⟩
      have K9 := K3.belowS B9
      have D9 := below_kept D3 (Nat.le_refl _) B9
      obtain ⟨k6, k7, k8⟩ := K9.cell
      have f0 := K9.frozen 0
      have f1 := K9.frozen 1
      have f2 := K9.frozen 2
      clear cF B9 D3 K3 hV
      by_cases h0 : V = 0
      · have hq : (D.toList == [48]) = true := by rw [h48, nat_zero_iff'.2 h0]; rfl
        clear h48
        go_wp2
        refine bodyPost_ret (v := .tuple #[.agg #[.bool false, .string ⟨#[]⟩, .int .i64 0], .int .i64 0]) (by simp [results, Tryz.results35, go_sem, (K9.set false ⟨#[]⟩ 0).cell]) rfl ⟨?_, Below.set3 D9 (by omega)⟩
        rw [HR.out, if_pos h0]; rfl
      · have hq : (D.toList == [48]) = false := by rw [h48, beq_eq_false_iff_ne]; exact fun h => h0 (nat_zero_iff'.1 h)
        clear h48
        go_wp2
        refine bodyPost_ret (v := .tuple #[.agg #[.bool n, .string ⟨#[49]⟩, .int .i64 0], .int .i64 0]) (by simp [results, Tryz.results35, go_sem, (K9.set n ⟨#[49]⟩ 0).cell]) rfl ⟨?_, Below.set3 D9 (by omega)⟩
        rw [HR.out, if_neg h0]
    · have hc : cmpN X Y < 0 := by unfold cmpN; rw [if_pos (by omega)]; omega
      generalize cmpN X Y = m at *
      go_wp2_with fail
      refine (cTy _).mono ?_
      rintro r w3 ⟨rfl, B3⟩
      have D4 := below_kept D2 (Nat.le_refl _) B3
      have K8 := K6.belowS B3
      have K9 := K7.belowS B3
      clear cTx cTy B3 D2 K6 K7 a6 a7 a8
      have cS := fun W => cS2 W (by omega)
      clear cS1 cS2
      generalize (⟨(natOf Y).toArray⟩ : ByteArray) = ty at *
      go_wp2_with fail
      refine (cS _).mono ?_
      rintro r w4 ⟨rfl, B4⟩
      have D3 := below_kept D4 (Nat.le_refl _) B4
      have K3 := K8.belowS B4
      obtain ⟨a6, a7, a8⟩ := (K9.belowS B4).cell
      clear cS B4 D4 K8 K9
      have cF : ∀ W, Calls Tryz.prog 69 #[.string ⟨(natOf (Y - X)).toArray⟩] W (AnsS (natOf (Y - X)) W) := fun W => by
        have := specTrim ⟨(natOf (Y - X)).toArray⟩ W (by show (natOf (Y - X)).length ≤ _; omega)
        rwa [show trim (⟨(natOf (Y - X)).toArray⟩ : ByteArray).data.toList = natOf (Y - X) by rw [trim_eq (natOf_digs _)]; rw [show val (⟨(natOf (Y - X)).toArray⟩ : ByteArray).data.toList = Y - X from val_natOf _]] at this
      have HR : Hid (sgnD (sumOf (dOf n s e) (dOf n2 s2 e2)) = if Y - X = 0 then (DecV.zero, 0) else (⟨n2, [49], 0⟩, 0)) := by show _ = _; rw [HS.out.1, if_neg HN.out, if_neg hle]; rfl
      obtain ⟨V, hV⟩ : ∃ V, Y - X = V := ⟨_, rfl⟩
      rw [hV] at cF HR ⊢
      have h48 : (⟨(natOf V).toArray⟩ : ByteArray).toList = natOf V := ByteArray.toList_eq _
      unfold AnsS at cF
      generalize (⟨(natOf V).toArray⟩ : ByteArray) = D at *
      go_wp2_with fail
      refine (cF _).mono ?_
      rintro r w9 ⟨rfl, B9⟩
      have K9 := K3.belowS B9
      have D9 := below_kept D3 (Nat.le_refl _) B9
      obtain ⟨k6, k7, k8⟩ := K9.cell
      have f0 := K9.frozen 0
      have f1 := K9.frozen 1
      have f2 := K9.frozen 2
      clear cF B9 D3 K3 hV
      by_cases h0 : V = 0
      · have hq : (D.toList == [48]) = true := by rw [h48, nat_zero_iff'.2 h0]; rfl
        clear h48
        go_wp2
        refine bodyPost_ret (v := .tuple #[.agg #[.bool false, .string ⟨#[]⟩, .int .i64 0], .int .i64 0]) (by simp [results, Tryz.results35, go_sem, (K9.set false ⟨#[]⟩ 0).cell]) rfl ⟨?_, Below.set3 D9 (by omega)⟩
        rw [HR.out, if_pos h0]; rfl
      · have hq : (D.toList == [48]) = false := by rw [h48, beq_eq_false_iff_ne]; exact fun h => h0 (nat_zero_iff'.1 h)
        clear h48
        go_wp2
        refine bodyPost_ret (v := .tuple #[.agg #[.bool n2, .string ⟨#[49]⟩, .int .i64 0], .int .i64 0]) (by simp [results, Tryz.results35, go_sem, (K9.set n2 ⟨#[49]⟩ 0).cell]) rfl ⟨?_, Below.set3 D9 (by omega)⟩
        rw [HR.out, if_neg h0]

end Go.Proofs.YthijeckcjfnbcaaGreatDoor

/- What the functions of two decimals answer, plainly; worlds that hold two decimals. No program in it. -/
namespace Go.Proofs.YthijeckcjfnbcaaGreatDoor
set_option linter.unusedVariables false
open Go.RowKit

noncomputable instance (d : DecV) : Decidable d.Ok := Classical.propDecidable _
noncomputable def addR (a b : DecV) : DecV × Int := if a.Ok ∧ b.Ok then formOf (sumOf a b).1 (sumOf a b).2 (low2 a b) else (DecV.zero, 3)
noncomputable def subR (a b : DecV) : DecV × Int := if a.Ok ∧ b.Ok then formOf (sumOf a (negOf b)).1 (sumOf a (negOf b)).2 (low2 a (negOf b)) else (DecV.zero, 3)
noncomputable def mulR (a b : DecV) : DecV × Int := if a.Ok ∧ b.Ok then formOf (a.neg != b.neg) (val a.dig * val b.dig) (a.exp + b.exp) else (DecV.zero, 3)
noncomputable def cmpR (a b : DecV) : Int := if a.Ok ∧ b.Ok then cmpS a b else 2
noncomputable def negR (a : DecV) : DecV := if a.Ok then negOf a else DecV.zero

theorem held4 {w0 w w' : World} {a b c : Nat} {n n2 n3 : Bool} {s s2 s3 : ByteArray} {e e2 e3 : Int} (h : DecAt w a n s e ∧ DecAt w b n2 s2 e2 ∧ DecAt w c n3 s3 e3 ∧ Below w0.heap.size w0 w) (hb : Below w.heap.size w w') :
    DecAt w' a n s e ∧ DecAt w' b n2 s2 e2 ∧ DecAt w' c n3 s3 e3 ∧ Below w0.heap.size w0 w' := ⟨h.1.belowS hb, h.2.1.belowS hb, h.2.2.1.belowS hb, below_kept h.2.2.2 (Nat.le_refl _) hb⟩
theorem held3 {w0 w w' : World} {a b : Nat} {n n2 : Bool} {s s2 : ByteArray} {e e2 : Int} (h : DecAt w a n s e ∧ DecAt w b n2 s2 e2 ∧ Below w0.heap.size w0 w) (hb : Below w.heap.size w w') :
    DecAt w' a n s e ∧ DecAt w' b n2 s2 e2 ∧ Below w0.heap.size w0 w' := ⟨h.1.belowS hb, h.2.1.belowS hb, below_kept h.2.2 (Nat.le_refl _) hb⟩
/-- A negative of a decimal that is valid, by its fields. -/
theorem neg_fields {n : Bool} {s : ByteArray} {e : Int} (h : (dOf n s e).Ok) : ∃ (m : Bool) (f : Int), negOf (dOf n s e) = dOf m s f := by
  by_cases h0 : s.size = 0
  · refine ⟨false, 0, ?_⟩
    rw [neg_nil h0]
    exact (dOf_zero.2 ⟨rfl, toList_nil.2 h0, rfl⟩).symm
  · exact ⟨!n, e, neg_list h0⟩

end Go.Proofs.YthijeckcjfnbcaaGreatDoor
