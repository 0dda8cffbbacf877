/- impl.Runes hands back the code points of a text. Conditions: at most 1048576 bytes; utf8's tables hold what Go's text lays. -/
import Derived.Test.YtdkjfppjbkdelaaGreatDoorSpecRunesA
import Derived.Test.YtdkjfppjbkdelaaGreatDoorImplOk
import Derived.WalkSmall
import Derived.Lib.TrimU
namespace Go.Proofs.YtdkjfppjbkdelaaGreatDoor
open Go.RowKit

/-- The code points from a place of a text on: there is one there, and the decoder reads it. -/
theorem step_of {s : ByteArray} {f pos : Nat} {acc l : List Int} (hf : s.size ≤ pos + f) (hp : pos < s.size) (h : (runesFrom s f pos).map (acc ++ ·) = some l) :
    nx s pos = Utf8.decode s pos ∧ 1 ≤ (nx s pos).2 ∧ pos + (nx s pos).2 ≤ s.size ∧ (nx s pos).1 ≤ 1114111 ∧
      (runesFrom s (f - 1) (pos + (nx s pos).2)).map ((acc ++ [((nx s pos).1 : Int)]) ++ ·) = some l := by
  by_cases h0 : (nx s pos).2 = 0
  · rw [runesFrom_no hf hp h0] at h; cases h
  · have hd := (nx_point h0).1
    refine ⟨hd, by omega, nx_fits hp, by rw [hd]; exact Lib.rune_le s pos, ?_⟩
    rw [← h, runesFrom_on hf hp h0, map_snoc]

/-- Where the iterator of a range over a string stands. -/
def IterIs (w : World) (K : Nat) (s : ByteArray) (pos : Nat) : Prop := w.heap[K]? = some (.stringIter s pos)

def ImplRel (s : ByteArray) (l : List Int) (K : Nat) (w : World) (v : Value) (wr : World) : Prop :=
  ∃ (pos f : Nat) (acc : List Int), pos ≤ s.size ∧ IterIs wr K s pos ∧ wr.ownsRow (K + 1) 3 1 v acc.length (acc.map (Value.int .i64)) ∧ acc.length ≤ pos ∧ s.size ≤ pos + f ∧
    (runesFrom s f pos).map (acc ++ ·) = some l ∧ Below w.heap.size w wr ∧ K + 1 ≤ wr.heap.size

theorem iter_kept {w w' : World} {K base : Nat} {s : ByteArray} {pos : Nat} {e : TypeId} {size n : Nat} {v : Value} {xs : List Value} (h : IterIs w K s pos) (hown : w.ownsRow base e size v n xs) (hb : K < base)
    (hg : w.grownBy w' v.ownBlock) : IterIs w' K s pos := by
  have hlt : K < w.heap.size := (Array.getElem?_eq_some_iff.1 h).1
  exact (hg.block K hlt (fun e => by have := (hown.lt K e.symm).1; omega)).trans h

theorem own_low {w : World} {base base' : Nat} {e : TypeId} {size : Nat} {v : Value} {n : Nat} {xs : List Value} (h : w.ownsRow base e size v n xs) (hb : base' ≤ base) : w.ownsRow base' e size v n xs := by
  refine ⟨h.1, ?_⟩
  rcases h.2 with h0 | ⟨g, cap, cur, hv, hg, r⟩
  · exact .inl h0
  · exact .inr ⟨g, cap, cur, hv, Nat.le_trans hb hg, r⟩

set_option maxHeartbeats 2000000 in
set_option maxRecDepth 100000 in
theorem implRunes (s : ByteArray) (w : World) (hs : s.size ≤ 1048576) (hT : Tabs w) : Calls Tryz.prog 54 #[.string s] w (IntsAre (runesOf s) w) := by
  obtain ⟨i0, hi, hz0, hz1, hz2⟩ := info_parts Tryz.infoInt
  have cO := implTextOk s w hs hT
  clear hT
  cases ho : runesOf s with
  | none =>
    rw [ho] at cO
    clear ho
    go_enter Tryz.func54, Tryz.ntmps54
    go_wp2_with fail
    refine cO.mono ?_
    rintro e w1 ⟨rfl, hb⟩
    clear cO
    go_wp2
    go_ret2
    exact IntsAre.no rfl (World.ownsRow_nil _ _ _ _) hb
  | some l =>
    rw [ho] at cO
    have HL : Hid (runesFrom s s.size 0 = some l) := by
      unfold runesOf at ho
      split at ho
      · cases ho
      · exact ho
    clear ho
    go_enter Tryz.func54, Tryz.ntmps54
    go_wp2_with fail
    refine cO.mono ?_
    rintro e w1 ⟨rfl, hb1⟩
    clear cO
    go_wp2
    go_loopw [4] (fun v wr => ImplRel s l w1.heap.size w v wr) (fun _ wr => s.size - wr.iterPos w1.heap.size)
    case atStart =>
      exact ⟨0, s.size, [], Nat.zero_le _, heap_alloc_new w1 _, World.ownsRow_nil _ _ _ _, by simp, by omega, by rw [HL.out]; rfl, hb1.alloc hb1.size _, by show _ ≤ (w1.alloc _).heap.size; simp⟩
    case round =>
      obtain ⟨pos, f, acc, hpl, hit, hown, hal, hf, hgo, hbel, hsz⟩ := hrel
      have hms := iterPos_of hit
      have HM := Lib.hid hms; clear hms
      have HT := Lib.hid hit; clear hit
      obtain ⟨A1, c1, rfl⟩ := own_form hown
      by_cases hp : pos < s.size
      · obtain ⟨hd, hw1, hw2, hc, hgo'⟩ := step_of hf hp hgo
        have hnx : ∀ ty, (Instr.next (.pointer (some ⟨w1.heap.size, 0, none⟩)) true ty).run Tryz.prog wr = _ := fun ty => Lib.run_next_any_at wr w1.heap.size s pos ty HT.out hp
        rw [← hd] at hnx
        clear hgo hd
        obtain ⟨c, hcc⟩ : ∃ c, (nx s pos).1 = c := ⟨_, rfl⟩
        obtain ⟨d, hdd⟩ : ∃ d, (nx s pos).2 = d := ⟨_, rfl⟩
        rw [hcc, hdd] at hnx hgo'
        rw [hcc] at hc
        rw [hdd] at hw1 hw2
        clear hcc hdd
        have HG := Lib.hid hgo'; clear hgo'
        have hown1 := ownsRow_iterAt hown (Nat.lt_succ_self w1.heap.size) s (pos + d)
        have hit1 : IterIs (wr.iterAt w1.heap.size s (pos + d)) w1.heap.size s (pos + d) := Lib.iterAt_heap wr _ s pos _ HT.out
        have hbel1 : Below w.heap.size w (wr.iterAt w1.heap.size s (pos + d)) := Lib.below_iterAt hbel hb1.size s _
        have hsz1 : w1.heap.size + 1 ≤ (wr.iterAt w1.heap.size s (pos + d)).heap.size := by rw [Lib.iterAt_size]; exact hsz
        have HT1 := Lib.hid hit1; clear hit1
        clear hown hbel hsz
        generalize wr.iterAt w1.heap.size s (pos + d) = wn at hnx hown1 HT1 hbel1 hsz1
        go_wp2_with (at_builtin; refine wpList_append_own _ rfl _ _ 45 rfl (w1.heap.size + 1) 3 i0 (.int .i64 0) 1 8 Tryz.underlying45 hi hz0 hz1 hz2 rfl (by decide) _ _ _ rfl (hown1.alloc _) ⟨wn.heap.size, 0, none⟩ _ _ [.int .i64 c] rfl rfl (new_int wn c 3) (one_int c) (by unfold maxLen; omega) (by omega) (by simp; omega) ?_; intro v' w2 hown2 hgrow2 _; obtain ⟨A2, c2, rfl⟩ := own_form hown2)
        have hit2 : IterIs w2 w1.heap.size s (pos + d) := iter_kept (show IterIs (wn.alloc _) _ _ _ from (Below.heap_alloc wn _ _ (by omega)).trans HT1.out) (hown1.alloc _) (Nat.lt_succ_self _) hgrow2
        have hb3 : Below w.heap.size w w2 := (hbel1.alloc (by have := hb1.size; omega) _).grown hgrow2 (by have := hb1.size; simp; omega) (fun k hk => by have := own_block hown1 k hk; have := hb1.size; omega)
        have hsz2 : w1.heap.size + 1 ≤ w2.heap.size := by have := hgrow2.size; simp at this; omega
        have HT2 := Lib.hid hit2
        clear hnx hown1 HT1 hbel1 hsz1 hgrow2 hit2
        go_roundw
        case rel => exact ⟨pos + d, f - 1, acc ++ [(c : Int)], hw2, HT2.out, by simpa using hown2, by simp; omega, by omega, HG.out, hb3, hsz2⟩
        case measure => rw [iterPos_of HT2.out, HM.out]; omega
      · have hnx : ∀ ty, (Instr.next (.pointer (some ⟨w1.heap.size, 0, none⟩)) true ty).run Tryz.prog wr = _ := fun ty => Lib.run_next_end_at wr w1.heap.size s pos ty HT.out hp
        have hl : acc = l := by rw [runesFrom_end hp] at hgo; simpa using hgo
        have HA := Lib.hid hl
        clear hgo hl
        go_wp2
        go_ret2
        exact IntsAre.yes rfl (by rw [← HA.out]; exact own_low hown (by have := hb1.size; omega)) hbel

end Go.Proofs.YtdkjfppjbkdelaaGreatDoor
