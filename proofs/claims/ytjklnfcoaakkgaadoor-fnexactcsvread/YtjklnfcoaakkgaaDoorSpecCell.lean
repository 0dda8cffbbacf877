/- spec.l09Cell writes a cell. Condition: at most 1000 bytes. -/
import Derived.Test.YtjklnfcoaakkgaaDoorRowText
import Derived.Test.YtjklnfcoaakkgaaDoorStrMem
namespace Go.Proofs.YtjklnfcoaakkgaaDoor
set_option linter.unusedVariables false
open Go.RowKit

theorem stop_no {x : UInt8} (h : stopB x = false) : ((x.toNat : Int) == 44) = false ∧ ((x.toNat : Int) == 34) = false ∧ ((x.toNat : Int) == 10) = false ∧ ((x.toNat : Int) == 13) = false := by
  unfold stopB at h
  simp only [Bool.or_eq_false_iff, beq_eq_false_iff_ne] at h
  obtain ⟨⟨⟨h1, h2⟩, h3⟩, h4⟩ := h
  have a1 := u8_ne 44 h1
  have a2 := u8_ne 34 h2
  have a3 := u8_ne 10 h3
  have a4 := u8_ne 13 h4
  refine ⟨?_, ?_, ?_, ?_⟩ <;> rw [beq_eq_false_iff_ne] <;> omega
theorem stop_yes {x : UInt8} (h : stopB x = true) : x = 44 ∨ x = 34 ∨ x = 10 ∨ x = 13 := by
  unfold stopB at h
  simp only [Bool.or_eq_true, beq_iff_eq] at h
  rcases h with ((h | h) | h) | h
  · exact .inl h
  · exact .inr (.inl h)
  · exact .inr (.inr (.inl h))
  · exact .inr (.inr (.inr h))
theorem dbl_34 (l : List UInt8) : dblL (34 :: l) = 34 :: 34 :: dblL l := by rw [dblL, if_pos rfl]
theorem dbl_ne {b : UInt8} (h : b ≠ 34) (l : List UInt8) : dblL (b :: l) = b :: dblL l := by rw [dblL, if_neg h]
theorem list_size (u : ByteArray) : u.data.toList.length = u.size := Array.length_toList

def L9Rel (s : ByteArray) (D : List UInt8) (N : Bool) (w : World) (o q i : Value) (wr : World) : Prop :=
  ∃ (k : Nat) (u : ByteArray) (g : Bool), k ≤ s.size ∧ i = .int .i64 k ∧ o = .string u ∧ q = .bool g ∧ u.size ≤ 2 * k ∧ Hid (u.data.toList ++ dblL (s.data.toList.drop k) = D) ∧ Hid ((g || (s.data.toList.drop k).any stopB) = N) ∧ Below w.heap.size w wr

set_option maxHeartbeats 4000000 in
set_option maxRecDepth 100000 in
theorem specCell (s : ByteArray) (w : World) (hs : s.size ≤ 1000) : Calls Tryd.prog 27 #[.string s] w fun e w' => e = .returned (.string (csvCell s)) ∧ Below w.heap.size w w' := by
  obtain ⟨R, hR⟩ : ∃ R, csvCell s = R := ⟨_, rfl⟩
  obtain ⟨D, hD⟩ : ∃ D, dblL s.data.toList = D := ⟨_, rfl⟩
  obtain ⟨N, hN⟩ : ∃ N, s.data.toList.any stopB = N := ⟨_, rfl⟩
  rw [hR]
  have HR : Hid (csvCell s = R) := hR
  have HD := Lib.hid hD
  have HN := Lib.hid hN
  clear hR hD hN
  go_enter Tryd.func27, Tryd.ntmps27
  go_wp2
  go_loopw [3, 4, 5] (fun o q i wr => L9Rel s D N w o q i wr) (fun _ _ i _ => s.size - (intOf i).toNat)
  case atStart => exact ⟨0, ⟨#[]⟩, false, Nat.zero_le _, rfl, rfl, rfl, by decide, HD, HN, Below.refl _ _⟩
  case round =>
    obtain ⟨k, u, g, hk, rfl, rfl, rfl, huz, hd, hn, hbel⟩ := hrel
    by_cases hlt : k < s.size
    · obtain ⟨x, hx⟩ : ∃ x, s[k] = x := ⟨_, rfl⟩
      have hxl := x.toNat_lt
      have hb : bt s k = x := by rw [← bt_in hlt]; exact hx
      have hdr := drop_bt hlt
      rw [hb] at hdr
      have hki : (k : Int) < (s.size : Int) := by omega
      obtain ⟨j, hj⟩ : ∃ j, k + 1 = j := ⟨_, rfl⟩
      rw [hj] at hdr
      have hjz : (k : Int) + 1 = (j : Int) := by omega
      have hjs : j ≤ s.size := by omega
      have hkj : k ≤ j := by omega
      obtain ⟨y, hy⟩ : ∃ y, s.extract k j = y := ⟨_, rfl⟩
      have hyl : y.data.toList = [x] := by rw [← hy, ← hb, ← hj]; exact extract_one hlt
      have hyz : y.size = 1 := by rw [← list_size, hyl]; rfl
      cases hst : stopB x with
      | false =>
        obtain ⟨t1, t2, t3, t4⟩ := stop_no hst
        obtain ⟨u2, hu2⟩ : ∃ u2, u ++ y = u2 := ⟨_, rfl⟩
        have hul : u2.data.toList = u.data.toList ++ [x] := by rw [← hu2, ByteArray.data_append, Array.toList_append, hyl]
        have huz2 : u2.size = u.size + 1 := by rw [← hu2, ByteArray.size_append, hyz]
        have HD2 : Hid (u2.data.toList ++ dblL (s.data.toList.drop j) = D) := by
          show _ = _
          rw [hul, ← hd.out, hdr, dbl_ne (fun e => by rw [e] at hst; exact absurd hst (by decide)), List.append_assoc]; rfl
        have HN2 : Hid ((g || (s.data.toList.drop j).any stopB) = N) := by
          show _ = _
          rw [← hn.out, hdr, List.any_cons, hst, Bool.false_or]
        clear hd hn hdr hyl hul hj hb hst HR HD HN
        go_wp2
        go_roundw
        case rel => exact ⟨j, u2, g, hjs, by go_num, rfl, rfl, by omega, HD2, HN2, hbel⟩
        case measure => simp [intOf]; omega
      | true =>
        have HN2 : Hid ((true || (s.data.toList.drop j).any stopB) = N) := by
          show _ = _
          rw [← hn.out, hdr, List.any_cons, hst]; simp
        by_cases h34 : x = 34
        · subst h34
          obtain ⟨u1, hu1⟩ : ∃ u1, u ++ (⟨#[34]⟩ : ByteArray) = u1 := ⟨_, rfl⟩
          obtain ⟨u2, hu2⟩ : ∃ u2, u1 ++ y = u2 := ⟨_, rfl⟩
          have hul1 : u1.data.toList = u.data.toList ++ [34] := by rw [← hu1, ByteArray.data_append, Array.toList_append]
          have hul : u2.data.toList = u.data.toList ++ [34, 34] := by rw [← hu2, ByteArray.data_append, Array.toList_append, hyl, hul1, List.append_assoc]; rfl
          have huz1 : u1.size = u.size + 1 := by rw [← hu1, ByteArray.size_append]; rfl
          have huz2 : u2.size = u.size + 2 := by rw [← hu2, ByteArray.size_append, hyz, huz1]
          have HD2 : Hid (u2.data.toList ++ dblL (s.data.toList.drop j) = D) := by
            show _ = _
            rw [hul, ← hd.out, hdr, dbl_34, List.append_assoc]; rfl
          clear hul1 hd hn hdr hyl hul hj hb hst HR HD HN
          go_wp2
          go_roundw
          case rel => exact ⟨j, u2, true, hjs, by go_num, rfl, rfl, by omega, HD2, HN2, hbel⟩
          case measure => simp [intOf]; omega
        · obtain ⟨u2, hu2⟩ : ∃ u2, u ++ y = u2 := ⟨_, rfl⟩
          have hul : u2.data.toList = u.data.toList ++ [x] := by rw [← hu2, ByteArray.data_append, Array.toList_append, hyl]
          have huz2 : u2.size = u.size + 1 := by rw [← hu2, ByteArray.size_append, hyz]
          have HD2 : Hid (u2.data.toList ++ dblL (s.data.toList.drop j) = D) := by
            show _ = _
            rw [hul, ← hd.out, hdr, dbl_ne h34, List.append_assoc]; rfl
          rcases stop_yes hst with rfl | rfl | rfl | rfl
          case inr.inl => exact absurd rfl h34
          all_goals
            clear hd hn hdr hyl hul hj hb hst HR HD HN h34
            go_wp2
            go_roundw
            case rel => exact ⟨j, u2, true, hjs, by go_num, rfl, rfl, by omega, HD2, HN2, hbel⟩
            case measure => simp [intOf]; omega
    · rw [drop_out hlt] at hd hn
      have hgN : g = N := by have := hn.out; simpa using this
      have huD : u.data.toList = D := by have := hd.out; simpa [dblL] using this
      cases g with
      | true =>
        obtain ⟨v1, hv1⟩ : ∃ v1, (⟨#[34]⟩ : ByteArray) ++ u = v1 := ⟨_, rfl⟩
        obtain ⟨v2, hv2⟩ : ∃ v2, v1 ++ (⟨#[34]⟩ : ByteArray) = v2 := ⟨_, rfl⟩
        have hz1 : v1.size = u.size + 1 := by rw [← hv1, ByteArray.size_append]; show 1 + u.size = _; omega
        have HE : Hid (v2 = R) := by
          show _ = _
          rw [← HR.out, csvCell_yes (HN.out.trans hgN.symm), HD.out, ← huD, ← hv2, ← hv1]
          apply ByteArray.ext
          rw [ByteArray.data_append, ByteArray.data_append]
          apply Array.toList_inj.1
          simp
        clear hd hn hgN huD HR HD HN
        go_wp2
        go_ret
        exact ⟨by rw [← HE.out] <;> rfl, hbel⟩
      | false =>
        have HE : Hid (u = R) := by
          show _ = _
          have h0 := HN.out.trans hgN.symm
          rw [← HR.out, csvCell_no h0]
          have : u.data.toList = s.data.toList := by rw [huD, ← HD.out, dbl_plain h0]
          exact ByteArray.ext (Array.toList_inj.1 this)
        clear hd hn hgN huD HR HD HN
        go_wp2
        go_ret
        exact ⟨by rw [← HE.out] <;> rfl, hbel⟩

end Go.Proofs.YtjklnfcoaakkgaaDoor
