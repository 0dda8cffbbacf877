/- spec.Runes hands back the code points of a text. Condition: at most 1048576 bytes. -/
import Derived.Test.YtjklnfcoaakkgaaDoorRunesA
import Derived.Test.YtjklnfcoaakkgaaDoorValidA
namespace Go.Proofs.YtjklnfcoaakkgaaDoor
open Go.RowKit
open Go.Lib (encodeRuneZ encodeRune byteCells runeCells encodeRuneZ_length)

theorem Tryd.infoInt : (Tryd.prog.info? 3).map (fun i => (i.zero, i.size, i.bytes)) = some (some (.int .i64 0), 1, 8) := by kernel_rfl
theorem Tryd.infoByte : (Tryd.prog.info? 5).map (fun i => (i.zero, i.size, i.bytes)) = some (some (.int .u8 0), 1, 1) := by kernel_rfl

/-- A list of ints in new memory, and a flag. -/
def IntsAre (o : Option (List Int)) (w : World) (e : Ending) (w' : World) : Prop :=
  ∃ v, e = .returned (.tuple #[v, .bool o.isSome]) ∧ w'.ownsRow w.heap.size 3 1 v (o.getD []).length ((o.getD []).map (Value.int .i64)) ∧ Below w.heap.size w w'

theorem IntsAre.no {o : Option (List Int)} {v : Value} {w w' : World} (h : o = none) (ho : w'.ownsRow w.heap.size 3 1 v 0 []) (hb : Below w.heap.size w w') : IntsAre o w (.returned (.tuple #[v, .bool false])) w' := by
  subst h; exact ⟨v, rfl, ho, hb⟩
theorem IntsAre.yes {o : Option (List Int)} {l : List Int} {v : Value} {w w' : World} (h : o = some l) (ho : w'.ownsRow w.heap.size 3 1 v l.length (l.map (Value.int .i64))) (hb : Below w.heap.size w w') : IntsAre o w (.returned (.tuple #[v, .bool true])) w' := by
  subst h; exact ⟨v, rfl, ho, hb⟩

theorem own_empty (w w1 : World) (e : TypeId) (h : w.heap.size ≤ w1.heap.size) : (w1.alloc (.cells #[] e)).ownsRow w.heap.size e 1 (.slice (some ⟨w1.heap.size, 0, none⟩) 0 0) 0 [] :=
  World.ownsRow_lit w1 #[] 0 h (Nat.zero_le _) rfl

theorem new_int (w : World) (c : Int) (e : TypeId) : ∀ (j : Nat) (u : Value), [Value.int .i64 c][j]? = some u → (w.alloc (.cells #[.int .i64 c] e)).cell? ((⟨w.heap.size, 0, none⟩ : Addr).add j) = some u := by
  intro j u hu
  rw [Addr.add_lit, Nat.zero_add, cell_of_row _ w.heap.size j _ e (0, 0) (heap_alloc_new w _)]
  simpa using hu
theorem one_int (c : Int) : ∀ u ∈ [Value.int .i64 c], u.oneCell' = true := by
  intro u hu; simp at hu; subst hu; rfl

def RunesRel (s : ByteArray) (w : World) (v p : Value) (wr : World) : Prop :=
  ∃ (i f : Nat) (acc : List Int), i ≤ s.size ∧ p = .int .i64 i ∧ wr.ownsRow w.heap.size 3 1 v acc.length (acc.map (Value.int .i64)) ∧ acc.length ≤ i ∧ s.size ≤ i + f ∧
    (runesFrom s f i).map (acc ++ ·) = runesFrom s s.size 0 ∧ Below w.heap.size w wr

set_option maxHeartbeats 2000000 in
set_option maxRecDepth 100000 in
theorem specRunes (s : ByteArray) (w : World) (hs : s.size ≤ 1048576) : Calls Tryd.prog 61 #[.string s] w (IntsAre (runesOf s) w) := by
  obtain ⟨i0, hi, hz0, hz1, hz2⟩ := info_parts Tryd.infoInt
  by_cases hbig : 1000 < s.size
  · have HR := Lib.hid (show runesOf s = none by unfold runesOf; rw [if_pos hbig])
    go_enter Tryd.func61, Tryd.ntmps61
    go_wp2
    go_ret2
    exact IntsAre.no HR.out (own_empty w w _ (Nat.le_refl _)) ((Below.refl _ _).alloc (Nat.le_refl _) _)
  · have HR := Lib.hid (show runesOf s = runesFrom s s.size 0 by unfold runesOf; rw [if_neg hbig])
    go_enter Tryd.func61, Tryd.ntmps61
    go_wp2
    go_loopw [4, 5] (fun v p wr => RunesRel s w v p wr) (fun _ p _ => s.size - (intOf p).toNat)
    case atStart => exact ⟨0, s.size, [], Nat.zero_le _, rfl, own_empty w w _ (Nat.le_refl _), by simp, by omega, by cases runesFrom s s.size 0 <;> simp, (Below.refl _ _).alloc (Nat.le_refl _) _⟩
    case round =>
      obtain ⟨i, f, acc, hil, rfl, hown, hal, hf, hgo, hbel⟩ := hrel
      have HG := Lib.hid hgo; clear hgo
      obtain ⟨A1, c1, rfl⟩ := own_form hown
      by_cases hlt : i < s.size
      · have hfit := nx_fits hlt
        have cN : ∀ W, Calls Tryd.prog 56 #[.string s, .int .i64 i] W fun e w' => e = .returned (.tuple #[.int .i64 (nx s i).1, .int .i64 (nx s i).2]) ∧ Below W.heap.size W w' := fun W => next_any s i W hs hlt
        obtain ⟨c, hc⟩ : ∃ c, (nx s i).1 = c := ⟨_, rfl⟩
        obtain ⟨n, hn⟩ : ∃ n, (nx s i).2 = n := ⟨_, rfl⟩
        rw [hn] at hfit
        rw [hc, hn] at cN
        have HC := Lib.hid hc; have HN := Lib.hid hn
        clear hc hn
        by_cases h0 : n = 0
        · subst h0
          go_wp2_with (go_at_call 56; refine (cN _).mono ?_; rintro e w1 ⟨rfl, hb1⟩)
          go_ret2
          have hb2 : Below w.heap.size w w1 := hbel.trans (hb1.mono hbel.size)
          exact IntsAre.no (by rw [HR.out, ← HG.out, runesFrom_no hf hlt HN.out]; rfl) (own_empty w w1 _ hb2.size) (hb2.alloc hb2.size _)
        · have h0z : ((n : Int) == 0) = false := by simp; omega
          go_wp2_with (first
            | (go_at_call 56; refine (cN _).mono ?_; rintro e w1 ⟨rfl, hb1⟩; have hown1 := (hown.kept (row := none) ⟨hb1.os, hb1.tape, hb1.output, hb1.size, fun k hk _ => hb1.block k hk⟩ (by cases hv : Value.ownBlock (.slice A1 acc.length c1) <;> simp)))
            | (at_builtin; refine wpList_append_own _ rfl _ _ 83 rfl w.heap.size 3 i0 (.int .i64 0) 1 8 Tryd.underlying83 hi hz0 hz1 hz2 rfl (by decide) _ _ _ rfl (hown1.alloc _) ⟨w1.heap.size, 0, none⟩ _ _ [.int .i64 c] rfl rfl (new_int w1 c 3) (one_int c) (by unfold maxLen; omega) (by omega) (by have := hbel.size; have := hb1.size; simp; omega) ?_; intro v' w2 hown2 hgrow2 _; obtain ⟨A2, c2, rfl⟩ := own_form hown2))
          have hb2 : Below w.heap.size w w1 := hbel.trans (hb1.mono hbel.size)
          have hb3 : Below w.heap.size w w2 := (hb2.alloc hb2.size _).grown hgrow2 (by have := hb2.size; simp; omega) (own_block hown1)
          clear cN hown hown1 hgrow2 hbel hb1 hb2
          go_roundw
          case rel =>
            refine ⟨i + n, f - 1, acc ++ [(c : Int)], hfit, by go_num, by simpa using hown2, by simp; omega, by omega, ?_, hb3⟩
            rw [← HG.out, runesFrom_on hf hlt (by rw [HN.out]; exact h0), map_snoc, HN.out, HC.out]
          case measure => simp [intOf]; omega
      · go_wp2
        go_ret2
        exact IntsAre.yes (by rw [HR.out, ← HG.out, runesFrom_end hlt]; simp) hown hbel

end Go.Proofs.YtjklnfcoaakkgaaDoor

/- spec.l01Text makes the text of code points. Conditions: each is one; at most 1048576 of them. -/
namespace Go.Proofs.YtjklnfcoaakkgaaDoor
open Go.RowKit
open Go.Lib (encodeRuneZ encodeRune byteCells runeCells encodeRuneZ_length)

def StrIs (l : List UInt8) (w : World) (e : Ending) (w' : World) : Prop := e = .returned (.string ⟨l.toArray⟩) ∧ Below w.heap.size w w'

theorem cat_take (zs : List Int) (k : Nat) (h : k < zs.length) : cat (zs.take (k + 1)) = cat (zs.take k) ++ encodeRune zs[k] := by
  rw [List.take_succ_eq_append_getElem h, cat_snoc]


end Go.Proofs.YtjklnfcoaakkgaaDoor
