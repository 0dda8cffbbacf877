/- The program's reader of rows with commas: the whole state, and taking what stands up to a stop. Conditions: at most 4000 bytes. -/
import Derived.Test.YtjklnfcoaakkgaaDoorCrI1
namespace Go.Proofs.YtjklnfcoaakkgaaDoor
set_option linter.unusedVariables false
open Go.RowKit
open Go.Lib (byteCells)

/-- Appending a string's bytes: the row stays where it is, or is new. -/
theorem run_append_str2 {P : Program} (w : World) (base : Nat) (t u ty e : TypeId) (i : TypeInfo) (ht : P.underlying t = some (.slice e)) (hu : P.underlying u = some .string) (hi : P.info? e = some i) (hz : i.zero = some (.int .u8 0))
    (hsize : i.size = 1) (hby : i.bytes = 1) (v : Value) (n : Nat) (xs : List Value) (hown : w.ownsRow base e 1 v n xs) (s : ByteArray)
    (h63 : n + s.size ≤ maxLen) (hbytes : n + s.size ≤ 140737488355328) (hbase : base ≤ w.heap.size) :
    ∃ v' w', (Builtin.append_ #[t, u] ty #[v, .string s]).run P w = .ok v' w' ∧ w'.ownsRow base e 1 v' (n + s.size) (xs ++ Lib.strCells s) ∧ w.grownBy w' v.ownBlock ∧ (∀ b, v'.ownBlock = some b → v.ownBlock = some b ∨ w.heap.size ≤ b) := by
  obtain ⟨v', w', hr, h2, h3, _⟩ := Lib.run_append_own_string (P := P) (w := w) base t u ty e i ht hu hi hz hsize hby v n xs hown s h63 hbytes hbase
  refine ⟨v', w', hr, h2, h3, fun b hb => ?_⟩
  rcases hown.2 with ⟨rfl, rfl⟩ | ⟨g, cap, cur, rfl, hbg, hg, hnc, hcm, hcs, htake⟩
  · obtain rfl : xs = [] := List.eq_nil_of_length_eq_zero (by simpa using hown.1)
    obtain ⟨v2, w2, hr2, h4, _, _⟩ := Lib.run_append_own_string (P := P) (w := w) w.heap.size t u ty e i ht hu hi hz hsize hby (.slice none 0 0) 0 [] (World.ownsRow_nil _ _ _ _) s h63 hbytes (Nat.le_refl _)
    rw [hr] at hr2
    injection hr2 with e1 e2
    subst e1
    subst e2
    exact .inr (h4.lt b hb).1
  · by_cases hroom : n + s.size ≤ cap
    · have hr2 := Lib.run_append_room_string (P := P) (w := w) t u ty e i ht hu hi hsize g n cap cur hg s hroom (by rw [hcs, Nat.mul_one]; exact hroom)
      rw [hr] at hr2
      injection hr2 with e1 e2
      subst e1
      exact .inl hb
    · have hr2 := Lib.run_append_grow_string (P := P) (w := w) t u ty e i (.int .u8 0) ht hu hi hz ⟨g, 0, none⟩ n cap xs (by rw [hsize]; exact hown.1) (hown.cells (g := g) rfl) s (by omega) (by simp only [maxLen] at h63; omega) (by rw [hby]; exact growslice_fits (by omega) (by omega))
      rw [hr] at hr2
      injection hr2 with e1 e2
      subst e1
      simp [Value.ownBlock] at hb
      exact .inr (by omega)
theorem step_append_str2 {P : Program} {ops : Array Oper} {o : Oper} {a : Act} {w : World} {K : Act → World → Prop} {Q : Exit → Act → World → Prop} {E : Prop}
    (hg : o.guard = none) (sl x : Operand) (t u : TypeId) (hop : o.op = Op.call { callee := Callee.builtin Builtin.append, args := #[sl, x], argTypes := #[t, u] })
    (base : Nat) (e : TypeId) (i : TypeInfo) (h1 : P.underlying t = some (.slice e)) (hu : P.underlying u = some .string) (h2 : P.info? e = some i) (h3 : i.zero = some (.int .u8 0)) (h4 : i.size = 1) (h5 : i.bytes = 1)
    (v : Value) (n : Nat) (xs : List Value) (hs : a.eval sl = v) (hown : w.ownsRow base e 1 v n xs) (s : ByteArray) (hx : a.eval x = .string s)
    (b1 : n + s.size ≤ maxLen) (b2 : n + s.size ≤ 140737488355328) (b3 : base ≤ w.heap.size)
    (hK : ∀ v' w', w'.ownsRow base e 1 v' (n + s.size) (xs ++ Lib.strCells s) → w.grownBy w' v.ownBlock → (∀ b, v'.ownBlock = some b → v.ownBlock = some b ∨ w.heap.size ≤ b) → K (a.put o.dst v') w') :
    if Region.wanted o (yielded ops a.tmps) = true then Oper.wp P o a w K Q else E := by
  have hw : Region.wanted o (yielded ops a.tmps) = true := by simp [Region.wanted, hg]
  rw [if_pos hw]
  obtain ⟨v', w', hrun, r1, r2, r3⟩ := run_append_str2 (P := P) w base t u o.type e i h1 hu h2 h3 h4 h5 v n xs hown s b1 b2 b3
  unfold Oper.wp execOp
  simp only [hop, resolve, invoke, builtin, Sem.run_bind, Sem.run_pure, Result.andThen_ok, List.map_toArray, List.map_cons, List.map_nil, hs, hx, hrun]
  exact hK v' w' r1 r2 r3

/-- The whole state: the reader, the rows and cells that stand, the bytes of the cell that is under way. -/
structure Rdr (w : World) (p : Nat) (s : ByteArray) (i : Nat) (nv : Value) (rs : List (List ByteArray)) (xs : List Value) (u : Value) (cs : List ByteArray) (uf : Value) (b : Nat) (v : Value) (acc : List UInt8) (z k : Nat) : Prop where
  r8 : R8 w p s i nv uf b v z k
  st : RowsSt w (p + 1) nv rs xs u cs
  bytes : BytesR w (p + 1) v acc
  apart : ∀ q, v.ownBlock = some q → q ∉ footS nv xs u
section
variable {w w1 : World} {p i b z k : Nat} {s : ByteArray} {nv u uf v : Value} {rs : List (List ByteArray)} {xs : List Value} {cs : List ByteArray} {acc : List UInt8}
theorem Rdr.keep0 (h : Rdr w p s i nv rs xs u cs uf b v acc z k) (hk : Keep [] w w1) : Rdr w1 p s i nv rs xs u cs uf b v acc z k :=
  ⟨h.r8.keep0 hk, h.st.keep hk (by simp), hk.row h.bytes (by simp), h.apart⟩
/-- A store into the reader itself. -/
theorem Rdr.inP (h : Rdr w p s i nv rs xs u cs uf b v acc z k) (hk : Keep [p] w w1) : RowsSt w1 (p + 1) nv rs xs u cs ∧ BytesR w1 (p + 1) v acc :=
  ⟨h.st.keepS hk fun q hq hm => by have := (h.st.range q hm).1; simp at hq; omega, hk.row h.bytes fun q hq hm => by have := (World.ownsRow.lt h.bytes q hq).1; simp at hm; omega⟩
theorem Rdr.lt (h : Rdr w p s i nv rs xs u cs uf b v acc z k) : p < w.heap.size := h.r8.lt
/-- The bytes of the cell grow. -/
theorem Rdr.grow {v' : Value} {acc' : List UInt8} (h : Rdr w p s i nv rs xs u cs uf b v acc z k) (hg : w.grownBy w1 v.ownBlock) (hr : BytesR w1 (p + 1) v' acc') (hn : ∀ q, v'.ownBlock = some q → v.ownBlock = some q ∨ w.heap.size ≤ q) :
    R8 w1 p s i nv uf b v z k ∧ RowsSt w1 (p + 1) nv rs xs u cs ∧ (∀ q, v'.ownBlock = some q → q ∉ footS nv xs u) ∧ Below p w w1 := by
  have hk := Keep.ofGrown hg
  have hv : ∀ q ∈ v.ownBlock.toList, p < q := fun q hq => (World.ownsRow.lt h.bytes q (by simpa using hq)).1
  refine ⟨h.r8.keep hk fun hm => by have := hv p hm; omega, h.st.keepS hk fun q hq hm => h.apart q (by simpa using hq) hm, fun q hq hm => ?_, hk.below (Nat.le_of_lt h.lt) fun q hq => Nat.le_of_lt (hv q hq)⟩
  rcases hn q hq with e | e
  · exact h.apart q e hm
  · have := (h.st.range q hm).2; omega
end
theorem belowP {w w1 : World} {p j : Nat} {v : Value} (h : Below p w w1) : Below p w (w1.setCell ⟨p, j, none⟩ v) := h.setCell (p := ⟨p, j, none⟩) (Nat.le_refl _) _
theorem keepBelow {w w1 : World} {p : Nat} (h : Keep [] w w1) (hp : p ≤ w.heap.size) : Below p w w1 := h.below hp (by simp)

/-- What taking leaves. -/
def TakeIs (p : Nat) (s : ByteArray) (j : Nat) (nv : Value) (rs : List (List ByteArray)) (xs : List Value) (u : Value) (cs : List ByteArray) (uf : Value) (b : Nat) (acc : List UInt8) (z k : Nat) (w : World) (e : Ending) (w' : World) : Prop :=
  e = .returned (.tuple #[]) ∧ (∃ v', Rdr w' p s j nv rs xs u cs uf b v' acc z k) ∧ Below p w w'

set_option maxHeartbeats 4000000 in
set_option maxRecDepth 100000 in
theorem csvTake (st : ByteArray) (I : Int) (j : Nat) (w : World) (p : Nat) (s : ByteArray) (i : Nat) (nv : Value) (rs : List (List ByteArray)) (xs : List Value) (u : Value) (cs : List ByteArray) (uf : Value) (b : Nat) (v : Value) (acc : List UInt8) (z k : Nat)
    (h : Rdr w p s i nv rs xs u cs uf b v acc z k) (hs : s.size ≤ 4000) (hi : i ≤ s.size) (ha : acc.length ≤ 10000) (hij : i ≤ j) (hjs : j ≤ s.size)
    (cI : ∀ W, Calls Tryd.prog 64 #[.string (s.extract i s.size), .string st] W fun e w' => e = .returned (.int .i64 I) ∧ Below W.heap.size W w')
    (hI : (I = -1 ∧ j = s.size) ∨ I = ((j - i : Nat) : Int)) :
    Calls Tryd.prog 85 #[.pointer (some ⟨p, 0, none⟩), .string st] w (TakeIs p s j nv rs xs u cs uf b (acc ++ (s.extract i j).data.toList) z k w) := by
  obtain ⟨i0, hi0, hz0, hz1, hz2⟩ := info_parts Tryd.infoByte
  obtain ⟨c0, c1, c2, c3, c4, c5, c6, c7⟩ := h.r8.cell
  have hiz : (i : Int) ≤ (s.size : Int) := by omega
  obtain ⟨r, hr⟩ : ∃ r, s.extract i s.size = r := ⟨_, rfl⟩
  rw [hr] at cI
  have hrz : r.size = s.size - i := by rw [← hr, ByteArray.size_extract]; omega
  obtain ⟨y, hy⟩ : ∃ y, s.extract i j = y := ⟨_, rfl⟩
  have hyz : y.size = j - i := by rw [← hy, ByteArray.size_extract]; omega
  obtain ⟨t, ht⟩ : ∃ t, acc ++ y.data.toList = t := ⟨_, rfl⟩
  rw [hy, ht]
  have HT := Lib.hid ht
  have HH := Lib.hid h
  have hlt := h.lt
  obtain ⟨A, c, rfl⟩ := h.bytes.form
  obtain ⟨m, hm⟩ : ∃ m, j - i = m := ⟨_, rfl⟩
  have hry : r.extract 0 m = y := by
    rw [← hr, ← hy, ← hm]
    apply ByteArray.ext
    rw [ByteArray.data_extract, ByteArray.data_extract, ByteArray.data_extract, Array.extract_extract]
    congr 1
    show min (i + (j - i)) s.size = j
    omega
  have hmz : (i : Int) + (m : Int) = (j : Int) := by omega
  have hmr : (m : Int) ≤ (r.size : Int) := by omega
  have hyb : acc.length + y.size ≤ 1000000 := by omega
  have HYB := Lib.hid hyb
  clear h c2 c3 c4 c6 c7 ht hy hyz hyb
  by_cases hI0 : I < 0
  · have hjr : r.size = m := by rcases hI with h1 | h1 <;> omega
    have hye : r.extract 0 r.size = y := by rw [hjr]; exact hry
    have hye2 : r = y := by
      rw [← hye]
      apply ByteArray.ext
      rw [ByteArray.data_extract]
      exact Array.extract_size.symm
    have hmz2 : (i : Int) + (r.size : Int) = (j : Int) := by omega
    have hrb : acc.length + r.size ≤ 1000000 := by have := HYB.out; rw [← hye2] at this; exact this
    have HYE := Lib.hid hye2
    clear hI hm hye hry hmz hmr hjr hye2 hrz
    have HT2 : Hid (acc ++ r.data.toList = t) := by show _ = _; rw [HYE.out]; exact HT.out
    go_enter Tryd.func85, Tryd.ntmps85
    go_wp2
    go_quiet (fail)
    go_wp2_with (go_at_call 64; refine (cI _).mono ?_; rintro e w1 ⟨rfl, b1⟩; have H1 := Lib.hid (HH.out.keep0 (((Keep.refl [] w).drewN nq).tr (Keep.ofBelow b1))); have HB1 := Lib.hid (keepBelow ((((Keep.refl [] w).drewN nq).tr (Keep.ofBelow b1)).drew) (Nat.le_of_lt hlt)); have HD := Lib.hid (H1.out.keep0 ((Keep.refl [] w1).drew)); obtain ⟨d0, d1, d2, d3, d4, d5, d6, d7⟩ := H1.out.r8.cell; have hz1' := H1.out.lt; have f5 := H1.out.r8.frozen 5; have f1 := H1.out.r8.frozen 1; clear b1)
    go_region_law (refine step_append_str2 rfl (.tmp 26) (.tmp 29) 22 9 rfl (p + 1) 5 i0 Tryd.underlying22 Tryd.underlying9 hi0 hz0 hz1 hz2 (.slice A acc.length c) acc.length (byteCells acc) (by simp [Act.eval]) HD.out.bytes r (by simp [Act.eval]) (by have := HYB.out; unfold maxLen; omega) (by have := HYB.out; omega) (by have := HD.out.lt; omega) ?_; intro v' w2 ho hg hn; obtain ⟨A', c', rfl⟩ := own_form ho; have hr' : BytesR w2 (p + 1) (.slice A' (acc.length + r.size) c') (acc ++ r.data.toList) := row_join rfl ho; have HG := Lib.hid (HD.out.grow hg hr' hn); have HRB := Lib.hid hr'; obtain ⟨e0, e1, e2, e3, e4, e5, e6, e7⟩ := HG.out.1.cell; have g5 := HG.out.1.frozen 5; have g1 := HG.out.1.frozen 1)
    all_goals
      have KA := Lib.hid ((keepSetP w2 p 5 (.slice A' (acc.length + r.size) c')).tr (keepSetP _ p 1 (.int .i64 j)))
      have RA := Lib.hid ((HG.out.1.set5 (.slice A' (acc.length + r.size) c')).set1 j)
      clear ho hg hn hr'
      go_wp2
      go_end0
      refine ⟨rfl, ⟨_, RA.out, HG.out.2.1.keepS KA.out (fun q hq hm => by have := (HG.out.2.1.range q hm).1; rw [List.mem_singleton.1 hq] at this; omega), ?_, HG.out.2.2.1⟩, ?_⟩
      · have h1 := KA.out.row HRB.out (fun q hq hm => by have := (World.ownsRow.lt HRB.out q hq).1; rw [List.mem_singleton.1 hm] at this; omega)
        rw [HT2.out] at h1
        rw [← HT2.out] at h1 ⊢
        exact h1
      · exact belowP (belowP (HB1.out.trans HG.out.2.2.2))
  · obtain rfl : I = (m : Int) := by rcases hI with h1 | h1 <;> omega
    clear hI hm hrz
    go_enter Tryd.func85, Tryd.ntmps85
    go_wp2
    go_quiet (fail)
    go_wp2_with (go_at_call 64; refine (cI _).mono ?_; rintro e w1 ⟨rfl, b1⟩; have H1 := Lib.hid (HH.out.keep0 (((Keep.refl [] w).drewN nq).tr (Keep.ofBelow b1))); have HB1 := Lib.hid (keepBelow ((((Keep.refl [] w).drewN nq).tr (Keep.ofBelow b1)).drew) (Nat.le_of_lt hlt)); have HD := Lib.hid (H1.out.keep0 ((Keep.refl [] w1).drew)); obtain ⟨d0, d1, d2, d3, d4, d5, d6, d7⟩ := H1.out.r8.cell; have hz1' := H1.out.lt; have f5 := H1.out.r8.frozen 5; have f1 := H1.out.r8.frozen 1; clear b1)
    go_region_law (refine step_append_str2 rfl (.tmp 26) (.tmp 29) 22 9 rfl (p + 1) 5 i0 Tryd.underlying22 Tryd.underlying9 hi0 hz0 hz1 hz2 (.slice A acc.length c) acc.length (byteCells acc) (by simp [Act.eval]) HD.out.bytes y (by simp [Act.eval]) (by have := HYB.out; unfold maxLen; omega) (by have := HYB.out; omega) (by have := HD.out.lt; omega) ?_; intro v' w2 ho hg hn; obtain ⟨A', c', rfl⟩ := own_form ho; have hr' : BytesR w2 (p + 1) (.slice A' (acc.length + y.size) c') (acc ++ y.data.toList) := row_join rfl ho; have HG := Lib.hid (HD.out.grow hg hr' hn); have HRB := Lib.hid hr'; obtain ⟨e0, e1, e2, e3, e4, e5, e6, e7⟩ := HG.out.1.cell; have g5 := HG.out.1.frozen 5; have g1 := HG.out.1.frozen 1)
    all_goals
      have KA := Lib.hid ((keepSetP w2 p 5 (.slice A' (acc.length + y.size) c')).tr (keepSetP _ p 1 (.int .i64 j)))
      have RA := Lib.hid ((HG.out.1.set5 (.slice A' (acc.length + y.size) c')).set1 j)
      clear ho hg hn hr'
      go_wp2
      go_end0
      refine ⟨rfl, ⟨_, RA.out, HG.out.2.1.keepS KA.out (fun q hq hm => by have := (HG.out.2.1.range q hm).1; rw [List.mem_singleton.1 hq] at this; omega), ?_, HG.out.2.2.1⟩, ?_⟩
      · have h1 := KA.out.row HRB.out (fun q hq hm => by have := (World.ownsRow.lt HRB.out q hq).1; rw [List.mem_singleton.1 hm] at this; omega)
        rw [HT.out] at h1
        rw [← HT.out] at h1 ⊢
        exact h1
      · exact belowP (belowP (HB1.out.trans HG.out.2.2.2))

end Go.Proofs.YtjklnfcoaakkgaaDoor
