/- impl.roundedDigits and impl.normalized. Conditions: digits, at most 1500 of them; the exponent within 100000. -/
import Derived.Test.YthijeckcjfnbcaaGreatDoorImplDecA
import Derived.Test.YthijeckcjfnbcaaGreatDoorImplNat6
namespace Go.Proofs.YthijeckcjfnbcaaGreatDoor
set_option linter.unusedVariables false
open Go.RowKit

theorem cTrimL (s : ByteArray) (w : World) : Calls Tryz.prog 58 #[.string s, .string ⟨#[48]⟩] w fun r w' => r = .returned (.string ⟨(Lib.trimLeftB s.data.toList 48).toArray⟩) ∧ Below w.heap.size w w' :=
  (Tryz.strings_TrimLeft_one s 48 (by decide) w).mono fun r w' h => ⟨h.1, by rw [h.2]; exact Below.refl _ _⟩
theorem cTrimR (s : ByteArray) (w : World) (hs : s.size ≤ 1048576) : Calls Tryz.prog 60 #[.string s, .string ⟨#[48]⟩] w fun r w' => r = .returned (.string ⟨(Lib.trimRightB s.data.toList 48).toArray⟩) ∧ Below w.heap.size w w' :=
  (Tryz.strings_TrimRight_one s 48 (by decide) w (by omega)).mono fun r w' h => ⟨h.1, by rw [h.2]; exact Below.refl _ _⟩
theorem cCompare (a b : ByteArray) (w : World) : Calls Tryz.prog 64 #[.string a, .string b] w fun r w' => r = .returned (.int .i64 (Lib.compareBytes a.data.toList b.data.toList)) ∧ Below w.heap.size w w' :=
  (Tryz.strings_Compare a b w).mono fun r w' h => ⟨h.1, by rw [h.2]; exact Below.refl _ _⟩

theorem odd_at {u : ByteArray} {m : Nat} (hd : Digs u.data.toList) (hm : m + 1 = u.size) : (u[m]'(by omega)).toNat % 2 = val u.data.toList % 2 := by
  have hl := last_at u (by omega)
  obtain ⟨l, b, e⟩ : ∃ l b, u.data.toList = l ++ [b] := by
    have hne : u.data.toList ≠ [] := fun g => by have := size_list u; rw [g] at this; simp at this; omega
    exact ⟨_, _, (List.dropLast_concat_getLast hne).symm⟩
  rw [e] at hl hd
  have hb : b = u[m]'(by omega) := by
    have : u[u.size - 1]'(by omega) = u[m]'(by omega) := by congr 1; omega
    rw [← this]
    simpa using hl
  have hbd : IsD b := hd b (by simp)
  rw [e, val_snoc, ← hb]
  unfold IsD at hbd
  unfold dv
  omega

set_option maxHeartbeats 1000000 in
set_option maxRecDepth 100000 in
theorem implRounded (d : ByteArray) (n : Nat) (w : World) (hd : Digs d.data.toList) (hh : d.data.toList.head? ≠ some 48) (hz : d.size = 20 + n) (hn : 1 ≤ n) (hn2 : n ≤ 1500) :
    Calls Tryz.prog 59 #[.string d] w (AnsS (natOf (rnd (nv d) n)) w) := by
  have hdl := size_list d
  obtain ⟨hd0, hhd⟩ : ∃ x : ByteArray, d.extract 0 20 = x := ⟨_, rfl⟩
  obtain ⟨tl, htl⟩ : ∃ x : ByteArray, d.extract 20 d.size = x := ⟨_, rfl⟩
  have l1 : hd0.data.toList = d.data.toList.take 20 := by
    rw [← hhd, ByteArray.data_extract, Array.toList_extract]
    simp [List.extract_eq_take_drop]
  have l2 : tl.data.toList = d.data.toList.drop 20 := by rw [← htl]; exact Lib.ext_list d 20
  have z1 : hd0.size = 20 := by rw [← size_list, l1, List.length_take]; omega
  have z2 : tl.size = n := by rw [← size_list, l2, List.length_drop]; omega
  have g1 : Digs hd0.data.toList := by rw [l1]; exact fun b hb => hd b (List.mem_of_mem_take hb)
  have hv := rounded_eq hd hh n (by omega)
  rw [← l1, ← l2] at hv
  have hcan : NatS hd0 := by
    refine ⟨⟨fun g => ?_, .inr ?_⟩, g1, by omega⟩
    · have := size_list hd0; rw [g] at this; simp at this; omega
    · rw [l1, List.head?_take]; simpa using hh
  have ho := odd_at g1 (m := 19) (by omega)
  obtain ⟨b, hb⟩ : ∃ b, hd0[19]'(by omega) = b := ⟨_, rfl⟩
  rw [hb] at ho
  obtain ⟨tt, htt⟩ : ∃ x : ByteArray, ⟨(Lib.trimRightB tl.data.toList 48).toArray⟩ = x := ⟨_, rfl⟩
  have cR : ∀ W, Calls Tryz.prog 60 #[.string tl, .string ⟨#[48]⟩] W fun r w' => r = .returned (.string tt) ∧ Below W.heap.size W w' := fun W => by
    rw [← htt]; exact cTrimR tl W (by omega)
  have ltt : tt.data.toList = Lib.trimRightB tl.data.toList 48 := by rw [← htt]
  have cC : ∀ W, Calls Tryz.prog 64 #[.string tt, .string ⟨#[53]⟩] W fun r w' => r = .returned (.int .i64 (Lib.compareBytes (Lib.trimRightB tl.data.toList 48) [53])) ∧ Below W.heap.size W w' := fun W => by
    rw [← ltt]; exact cCompare tt ⟨#[53]⟩ W
  obtain ⟨m, hm⟩ : ∃ m, Lib.compareBytes (Lib.trimRightB tl.data.toList 48) [53] = m := ⟨_, rfl⟩
  rw [hm] at cC hv
  have hmi : (m : Int) = m := rfl
  have cA := fun W => implNatAdd hd0 ⟨#[49]⟩ W (by omega) (by decide)
  have hone : NatS (⟨#[49]⟩ : ByteArray) := ⟨⟨by simp, .inl rfl⟩, digs_one ⟨by decide, by decide⟩, by decide⟩
  have hsum : addOf hd0 ⟨#[49]⟩ = (natOf (nv hd0 + 1), true) := by
    unfold addOf
    rw [if_pos ⟨hcan, hone⟩]
    have e1 : nv (⟨#[49]⟩ : ByteArray) = 1 := rfl
    rw [e1]
    unfold fits
    rw [if_pos]
    have h1 : nv hd0 < 10 ^ 20 := by have := val_lt g1; rw [size_list, z1] at this; exact this
    have := nat_len_le (v := nv hd0 + 1) (k := 21) (by rw [Nat.pow_succ]; omega)
    omega
  rw [hsum] at cA
  unfold Ans2 at cA
  dsimp only at cA
  have HV : Hid (rnd (nv d) n = if m < 0 ∨ m = 0 ∧ nv hd0 % 2 ≠ 1 then nv hd0 else nv hd0 + 1) := hv
  have HC : Hid (natOf (nv hd0) = hd0.data.toList) := hcan.eq.symm
  have ho' : b.toNat % 2 = nv hd0 % 2 := ho
  have hbl := b.toNat_lt
  obtain ⟨q, hq⟩ : ∃ q, nv hd0 = q := ⟨_, rfl⟩
  rw [hq] at HV HC cA ho'
  have hdz : (20 : Int) ≤ (d.size : Int) := by omega

  have h19 : (19 : Int) < (hd0.size : Int) := by omega
  have h19n : 19 < hd0.size := by omega
  have B0 : Below w.heap.size w w.drew := (Below.refl _ _).drew
  clear hd hh l1 l2 g1 hv hcan hone hsum ho htt ltt hm hq hdl hz z2
  go_enter Tryz.func59, Tryz.ntmps59
  go_wp2_with fail
  refine wp_region_kept_all (fun w' => Below w.heap.size w w') (by kernel_rfl) (by kernel_rfl) (fun _ _ d _ _ h => by cases d <;> exact h) B0 ?_
  (refine kept_step (fun K hK => ?_); go_simp; refine ⟨_, fun W hW => .inl (by go_simp; exact rfl), hK _ ?_⟩; clear hK K)
  (refine kept_step (fun K hK => ?_); go_simp; refine ⟨_, fun W hW => .inl (by go_simp; exact rfl), hK _ ?_⟩; clear hK K)
  (refine kept_step (fun K hK => ?_); go_simp; refine ⟨_, fun W hW => .inl (by go_simp; exact rfl), hK _ ?_⟩; clear hK K)
  (refine kept_step (fun K hK => ?_); go_simp; refine ⟨_, fun W hW => .inl (by go_simp; exact rfl), hK _ ?_⟩; clear hK K)
  (refine kept_step (fun K hK => ?_); go_simp; refine ⟨_, fun W hW => .inr (.inr ⟨_, _, ?_, (cR W).mono (fun r w' h => ⟨h.1, below_kept hW (Nat.le_refl _) h.2⟩)⟩), hK _ ?_⟩; (· first | (go_simp; done) | (go_simp; rfl)); clear hK K)
  (refine kept_step (fun K hK => ?_); go_simp; refine ⟨_, fun W hW => .inl (by go_simp; exact rfl), hK _ ?_⟩; clear hK K)
  (refine kept_step (fun K hK => ?_); go_simp; refine ⟨_, fun W hW => .inl (by go_simp; exact rfl), hK _ ?_⟩; clear hK K)
  refine kept_nil ?_
  intro W D1
  go_wp2_with fail
  refine (cC _).mono ?_
  rintro r w2 ⟨rfl, B2⟩
  have D2 := below_kept D1 (Nat.le_refl _) B2
  clear cR cC B2 D1 B0
  by_cases c1 : m < 0
  · have HE : Hid (rnd (nv d) n = q) := by show _ = _; rw [HV.out, if_pos (.inl c1)]
    go_wp2
    all_goals
      go_ret
      exact ⟨by rw [HE.out, HC.out]; rfl, D2⟩
  · by_cases c2 : m = 0
    · subst c2
      by_cases c3 : q % 2 = 1
      · have HE : Hid (rnd (nv d) n = q + 1) := by show _ = _; rw [HV.out, if_neg (by rintro (h | ⟨_, h⟩); exact c1 h; exact h c3)]
        have hodd : (b.toNat : Int) % 2 = 1 := by omega
        go_wp2_with fail
        refine (cA _).mono ?_
        rintro r w3 ⟨rfl, B3⟩
        have D3 := below_kept D2 (Nat.le_refl _) B3
        clear cA B3 D2
        go_wp2
        go_ret
        exact ⟨by rw [HE.out]; rfl, D3⟩
      · have HE : Hid (rnd (nv d) n = q) := by show _ = _; rw [HV.out, if_pos (.inr ⟨rfl, c3⟩)]
        have hodd : ((b.toNat : Int) % 2 == 1) = false := by rw [beq_eq_false_iff_ne]; omega
        go_wp2
        all_goals
          go_ret
          exact ⟨by rw [HE.out, HC.out]; rfl, D2⟩
    · have HE : Hid (rnd (nv d) n = q + 1) := by show _ = _; rw [HV.out, if_neg (by rintro (h | ⟨h, _⟩); exact c1 h; exact c2 h)]
      have hm0 : (m == 0) = false := by rw [beq_eq_false_iff_ne]; exact c2
      clear ho'
      go_wp2_with fail
      refine (cA _).mono ?_
      rintro r w3 ⟨rfl, B3⟩
      have D3 := below_kept D2 (Nat.le_refl _) B3
      clear cA B3 D2
      go_wp2
      go_ret
      exact ⟨by rw [HE.out]; rfl, D3⟩

end Go.Proofs.YthijeckcjfnbcaaGreatDoor
