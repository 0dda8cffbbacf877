/- Appending a cell to a row, and a row to rows, that a call owns. Conditions: at most 1048576 elements. -/
import Derived.Test.YtjklnfcoaakkgaaDoorOwnRows
import Derived.Test.YtjklnfcoaakkgaaDoorSpecCsvT
namespace Go.Proofs.YtjklnfcoaakkgaaDoor
set_option linter.unusedVariables false
open Go.RowKit

theorem Tryd.infoCellS : (Tryd.prog.info? 9).map (fun i => (i.zero, i.size, i.bytes)) = some (some (.string ⟨#[]⟩), 1, 16) := by kernel_rfl
theorem new_oneV (w : World) (u : Value) (e : TypeId) : ∀ (j : Nat) (v : Value), [u][j]? = some v → (w.alloc (.cells #[u] e)).cell? ((⟨w.heap.size, 0, none⟩ : Addr).add j) = some v := by
  intro j v hv
  rw [Addr.add_lit, Nat.zero_add, cell_of_row _ w.heap.size j _ e (0, 0) (heap_alloc_new w _)]
  simpa using hv

section
variable {w : World} {B : Nat} {nv u : Value} {rs : List (List ByteArray)} {xs : List Value} {cs : List ByteArray} {ops : Array Oper} {rest : List Oper} {a : Act} {Q : Exit → Act → World → Prop} {dst : Option Tmp} {ty : TypeId} {pos : String} {after : Array Edge} {sl y : Operand}
theorem app_cellR {x : ByteArray} {g : Nat} (h : RowsSt w B nv rs xs u cs) (hB : B ≤ w.heap.size) (hs : a.eval sl = u) (hy : a.eval y = .slice (some ⟨g, 0, none⟩) 1 1) (hg : g = w.heap.size) (hlim : cs.length ≤ 1048576)
    (hK : ∀ A' c' w', RowsSt w' B nv rs xs (.slice A' (cs.length + 1) c') (cs ++ [x]) → Keep u.ownBlock.toList (w.alloc (.cells #[.string x] 9)) w' → (∀ b, (Value.slice A' (cs.length + 1) c').ownBlock = some b → u.ownBlock = some b ∨ w.heap.size < b) →
      wpList Tryd.prog ops Q rest (a.put dst (.slice A' (cs.length + 1) c')) w') :
    wpList Tryd.prog ops Q (⟨dst, .call { callee := .builtin .append, args := #[sl, y], argTypes := #[44, 44] }, ty, pos, after, none⟩ :: rest) a (w.alloc (.cells #[.string x] 9)) := by
  obtain ⟨i0, hi, hz0, hz1, hz2⟩ := info_parts Tryd.infoCellS
  subst hg
  have k0 : Keep [] w (w.alloc (.cells #[.string x] 9)) := (Keep.refl [] w).alloc _
  have h0 := h.keep k0 (by simp)
  refine list_append_own rfl sl y 44 rfl B 9 i0 (.string ⟨#[]⟩) 1 16 Tryd.underlying44 hi hz0 hz1 hz2 rfl (by decide) u cs.length (cs.map Value.string) hs h0.cells ⟨w.heap.size, 0, none⟩ 1 1 [.string x] hy rfl (new_oneV w _ _) (fun v hv => by simp at hv; subst hv; rfl) (by unfold maxLen; omega) (by omega) (by simp; omega) ?_
  intro v' w' ho hgr hb
  obtain ⟨A', c', rfl⟩ := own_form ho
  refine hK A' c' w' (h0.cell hgr ho hb) (Keep.ofGrown hgr) fun b e => ?_
  rcases hb b e with e | e
  · exact .inl e
  · exact .inr (by simp at e; omega)

theorem app_rowR {g : Nat} {u0 : Value} (h : RowsSt w B nv rs xs u cs) (h1 : u.oneCell' = true) (hu : u0 = u) (hB : B ≤ w.heap.size) (hs : a.eval sl = nv) (hy : a.eval y = .slice (some ⟨g, 0, none⟩) 1 1) (hg : g = w.heap.size) (hlim : rs.length ≤ 1048576)
    (hK : ∀ A' c' w', OwnR w' B (.slice A' (rs.length + 1) c') (rs ++ [cs]) (xs ++ [u]) → Keep nv.ownBlock.toList (w.alloc (.cells #[u0] 46)) w' → wpList Tryd.prog ops Q rest (a.put dst (.slice A' (rs.length + 1) c')) w') :
    wpList Tryd.prog ops Q (⟨dst, .call { callee := .builtin .append, args := #[sl, y], argTypes := #[24, 24] }, ty, pos, after, none⟩ :: rest) a (w.alloc (.cells #[u0] 46)) := by
  obtain ⟨i0, hi, hz0, hz1, hz2⟩ := info_parts Tryd.infoRow
  subst hg
  subst hu
  have k0 : Keep [] w (w.alloc (.cells #[u0] 46)) := (Keep.refl [] w).alloc _
  have h0 := h.keep k0 (by simp)
  refine list_append_own rfl sl y 24 rfl B 46 i0 (.agg #[.slice none 0 0]) 1 24 Tryd.underlying24 hi hz0 hz1 hz2 rfl (by decide) nv rs.length xs hs h0.own.row ⟨w.heap.size, 0, none⟩ 1 1 [u0] hy rfl (new_oneV w _ _) (fun v hv => by simp at hv; subst hv; exact h1) (by unfold maxLen; omega) (by omega) (by simp; omega) ?_
  intro v' w' ho hgr hb
  obtain ⟨A', c', rfl⟩ := own_form ho
  exact hK A' c' w' (h0.row hgr ho hb) (Keep.ofGrown hgr)
end

/-! ### The specification's small readers -/
/-- The number of bytes that end a row, 9 at the end of the text, 0 where none ends. -/
def endN (s : ByteArray) (i : Nat) : Nat := if i < s.size then (rowEndR s i).getD 0 else 9
theorem endN_out {s : ByteArray} {i : Nat} (h : ¬ i < s.size) : endN s i = 9 := if_neg h
theorem endN_in {s : ByteArray} {i : Nat} (h : i < s.size) : endN s i = (rowEndR s i).getD 0 := if_pos h

set_option maxHeartbeats 1000000 in
theorem specEnd (s : ByteArray) (i : Nat) (w : World) (hs : s.size ≤ 1048576) (hi : i ≤ s.size) :
    Calls Tryd.prog 34 #[.string s, .int .i64 i] w fun e w' => e = .returned (.int .i64 (endN s i)) ∧ w = w' := by
  by_cases h : i < s.size
  · rw [endN_in h]
    obtain ⟨x, hx⟩ : ∃ x, s[i] = x := ⟨_, rfl⟩
    have hb : bt s i = x := by rw [← bt_in h]; exact hx
    have hxl := x.toNat_lt
    have hz : (i : Int) < (s.size : Int) := by omega
    by_cases h10 : x = 10
    · have HE := Lib.hid (rowEnd_10 h (by rw [hb]; exact h10))
      subst h10
      rw [HE.out]
      clear hb
      go_enter Tryd.func34, Tryd.ntmps34
      go_wp2
      go_ret
      exact ⟨rfl, rfl⟩
    · have h10z : ((x.toNat : Int) == 10) = false := by have := u8_ne 10 h10; rw [beq_eq_false_iff_ne]; omega
      by_cases h13 : x = 13
      · by_cases hn : i + 1 < s.size
        · obtain ⟨j, hj⟩ : ∃ j, i + 1 = j := ⟨_, rfl⟩
          rw [hj] at hn
          obtain ⟨y, hy⟩ : ∃ y, s[j] = y := ⟨_, rfl⟩
          have hby : bt s j = y := by rw [← bt_in hn]; exact hy
          have hyl := y.toNat_lt
          have hjz : (i : Int) + 1 = (j : Int) := by omega
          have hnz : (j : Int) < (s.size : Int) := by omega
          by_cases hy10 : y = 10
          · have HE := Lib.hid (rowEnd_13 h (by rw [hb]; exact h13) (by rw [hj, hby]; exact hy10))
            subst h13 hy10
            rw [HE.out]
            clear hb hby hj h10
            go_enter Tryd.func34, Tryd.ntmps34
            go_wp2
            go_ret
            exact ⟨rfl, rfl⟩
          · have hyz : ((y.toNat : Int) == 10) = false := by have := u8_ne 10 hy10; rw [beq_eq_false_iff_ne]; omega
            have HE := Lib.hid (rowEnd_no h (by rw [hb]; exact h10) (by rw [hj, hby]; exact fun e => hy10 e.2))
            subst h13
            rw [HE.out]
            clear hb hby hj h10 hy10
            go_enter Tryd.func34, Tryd.ntmps34
            go_wp2
            go_ret
            exact ⟨rfl, rfl⟩
        · have hnz : ¬ (i : Int) + 1 < (s.size : Int) := by omega
          have HE := Lib.hid (rowEnd_no h (by rw [hb]; exact h10) (fun e => by have := e.2; rw [bt_out hn] at this; exact absurd this (by decide)))
          subst h13
          rw [HE.out]
          clear hb h10
          go_enter Tryd.func34, Tryd.ntmps34
          go_wp2
          go_ret
          exact ⟨rfl, rfl⟩
      · have h13z : ((x.toNat : Int) == 13) = false := by have := u8_ne 13 h13; rw [beq_eq_false_iff_ne]; omega
        have HE := Lib.hid (rowEnd_no h (by rw [hb]; exact h10) (by rw [hb]; exact fun e => h13 e.1))
        rw [HE.out]
        clear hb h10 h13
        go_enter Tryd.func34, Tryd.ntmps34
        go_wp2
        go_ret
        exact ⟨rfl, rfl⟩
  · rw [endN_out h]
    have hz : ¬ (i : Int) < (s.size : Int) := by omega
    go_enter Tryd.func34, Tryd.ntmps34
    go_wp2
    go_ret
    exact ⟨rfl, rfl⟩

def quotedV (s : ByteArray) : Option (List UInt8 × Nat) → Value
  | none => .tuple #[.string ⟨#[]⟩, .int .i64 s.size, .bool false]
  | some (o, e) => .tuple #[.string ⟨o.toArray⟩, .int .i64 e, .bool true]

def LQRel (s : ByteArray) (Q : Option (List UInt8 × Nat)) (w : World) (i o : Value) (wr : World) : Prop :=
  ∃ (k : Nat) (u : ByteArray), k ≤ s.size ∧ i = .int .i64 k ∧ o = .string u ∧ u.size ≤ k ∧ Hid (quotedR s k u.data.toList = Q) ∧ w = wr

set_option maxHeartbeats 2000000 in
set_option maxRecDepth 100000 in
theorem specQuoted (s : ByteArray) (i : Nat) (w : World) (hs : s.size ≤ 10000) (hi : i ≤ s.size) :
    Calls Tryd.prog 33 #[.string s, .int .i64 i] w fun e w' => e = .returned (quotedV s (quotedR s i [])) ∧ w = w' := by
  obtain ⟨Q, hQ⟩ : ∃ Q, quotedR s i [] = Q := ⟨_, rfl⟩
  rw [hQ]
  have HQ := Lib.hid hQ
  clear hQ
  go_enter Tryd.func33, Tryd.ntmps33
  go_wp2
  go_loopw [1, 7] (fun i o wr => LQRel s Q w i o wr) (fun i _ _ => s.size - (intOf i).toNat)
  case atStart => exact ⟨i, ⟨#[]⟩, hi, rfl, rfl, by show 0 ≤ _; omega, HQ, rfl⟩
  case round =>
    clear HQ
    obtain ⟨k, u, hk, rfl, rfl, huz, hq, rfl⟩ := hrel
    by_cases hlt : k < s.size
    · obtain ⟨x, hx⟩ : ∃ x, s[k] = x := ⟨_, rfl⟩
      have hxl := x.toNat_lt
      have hb : bt s k = x := by rw [← bt_in hlt]; exact hx
      have hki : (k : Int) < (s.size : Int) := by omega
      obtain ⟨j, hj⟩ : ∃ j, k + 1 = j := ⟨_, rfl⟩
      have hjz : (k : Int) + 1 = (j : Int) := by omega
      have hjs : j ≤ s.size := by omega
      have hkj : k ≤ j := by omega
      by_cases h34 : x = 34
      · by_cases hp : j < s.size ∧ bt s j = 34
        · obtain ⟨hjl, hpj⟩ := hp
          obtain ⟨y, hy⟩ : ∃ y, s[j] = y := ⟨_, rfl⟩
          have hy34 : y = 34 := by rw [← hy, bt_in hjl]; exact hpj
          have hjlz : ¬ (s.size : Int) ≤ (j : Int) := by omega
          obtain ⟨j2, hj2⟩ : ∃ j2, j + 1 = j2 := ⟨_, rfl⟩
          have hj2z : (j : Int) + 1 = (j2 : Int) := by omega
          have hj2s : j2 ≤ s.size := by omega
          have hjj2 : j ≤ j2 := by omega
          obtain ⟨z, hz⟩ : ∃ z, s.extract j j2 = z := ⟨_, rfl⟩
          have hzl : z.data.toList = [34] := by rw [← hz, ← hj2, extract_one hjl, hpj]
          have hzz : z.size = 1 := by rw [← list_size, hzl]; rfl
          obtain ⟨u2, hu2⟩ : ∃ u2, u ++ z = u2 := ⟨_, rfl⟩
          have hul : u2.data.toList = u.data.toList ++ [34] := by rw [← hu2, ByteArray.data_append, Array.toList_append, hzl]
          have huz2 : u2.size = u.size + 1 := by rw [← hu2, ByteArray.size_append, hzz]
          have HQ2 : Hid (quotedR s j2 u2.data.toList = Q) := by
            show _ = _
            rw [hul, ← hq.out, quoted_pair hlt (by rw [hb]; exact h34) (by rw [hj]; exact hpj), ← hj2, ← hj]
          have hkj2 : k < j2 := by omega
          have hub : u2.size ≤ j2 := by omega
          have HUB := Lib.hid hub
          subst h34
          subst hy34
          clear hq hul hzl hj hj2 hb hpj hub
          go_wp2
          go_roundw
          case rel => exact ⟨j2, u2, hj2s, rfl, rfl, HUB.out, HQ2, rfl⟩
          case measure => simp [intOf]; omega
        · have HE : Hid (Q = some (u.data.toList, j)) := by
            show _ = _
            rw [← hq.out, quoted_end hlt (by rw [hb]; exact h34) (fun e => hp ⟨by rw [← hj]; exact pair_in e, by rw [← hj]; exact e⟩), hj]
          have HF : Hid (Ending.returned (Value.tuple #[.string u, .int .i64 j, .bool true]) = .returned (quotedV s Q)) := by show _ = _; rw [HE.out]; rfl
          subst h34
          by_cases hjl : j < s.size
          · obtain ⟨y, hy⟩ : ∃ y, s[j] = y := ⟨_, rfl⟩
            have hy34 : y ≠ 34 := by rw [← hy, bt_in hjl]; exact fun e => hp ⟨hjl, e⟩
            have hyz : ((y.toNat : Int) == 34) = false := by have := u8_ne 34 hy34; rw [beq_eq_false_iff_ne]; omega
            have hyz2 : ((y.toNat : Int) != 34) = true := by rw [bne, hyz]; rfl
            have hjlz : ¬ (s.size : Int) ≤ (j : Int) := by omega
            clear hq hj hb hp hy34
            go_wp2
            refine bodyPost_ret (v := .tuple #[.string u, .int .i64 j, .bool true]) (by simp [results, Tryd.results33, go_sem]) rfl ⟨HF.out, rfl⟩
          · have hjlz : (s.size : Int) ≤ (j : Int) := by omega
            clear hq hj hb hp
            go_wp2
            refine bodyPost_ret (v := .tuple #[.string u, .int .i64 j, .bool true]) (by simp [results, Tryd.results33, go_sem]) rfl ⟨HF.out, rfl⟩
      · have h34z : ((x.toNat : Int) == 34) = false := by have := u8_ne 34 h34; rw [beq_eq_false_iff_ne]; omega
        obtain ⟨z, hz⟩ : ∃ z, s.extract k j = z := ⟨_, rfl⟩
        have hzl : z.data.toList = [x] := by rw [← hz, ← hj, extract_one hlt, hb]
        have hzz : z.size = 1 := by rw [← list_size, hzl]; rfl
        obtain ⟨u2, hu2⟩ : ∃ u2, u ++ z = u2 := ⟨_, rfl⟩
        have hul : u2.data.toList = u.data.toList ++ [x] := by rw [← hu2, ByteArray.data_append, Array.toList_append, hzl]
        have huz2 : u2.size = u.size + 1 := by rw [← hu2, ByteArray.size_append, hzz]
        have HQ2 : Hid (quotedR s j u2.data.toList = Q) := by
          show _ = _
          rw [hul, ← hq.out, quoted_on hlt (by rw [hb]; exact h34), hb, hj]
        have hub : u2.size ≤ j := by omega
        have HUB := Lib.hid hub
        clear hq hul hzl hj hb h34 hub
        go_wp2
        go_roundw
        case rel => exact ⟨j, u2, hjs, rfl, rfl, HUB.out, HQ2, rfl⟩
        case measure => simp [intOf]; omega
    · obtain rfl : k = s.size := by omega
      have HE : Hid (Q = none) := by show _ = _; rw [← hq.out, quoted_out hlt]
      have HF : Hid (Ending.returned (Value.tuple #[.string ⟨#[]⟩, .int .i64 s.size, .bool false]) = .returned (quotedV s Q)) := by show _ = _; rw [HE.out]; rfl
      clear hq
      go_wp2
      refine bodyPost_ret (v := .tuple #[.string ⟨#[]⟩, .int .i64 s.size, .bool false]) (by simp [results, Tryd.results33, go_sem]) rfl ⟨HF.out, rfl⟩

end Go.Proofs.YtjklnfcoaakkgaaDoor
