/- A strings.Builder: WriteByte; strings.ReplaceAll of a quotation mark by two. Condition: at most 1000 bytes. -/
import Derived.Test.YtjklnfcoaakkgaaDoorBld
import Derived.Test.YtjklnfcoaakkgaaDoorByteRow
import Derived.Test.YtjklnfcoaakkgaaDoorIdxAny
import Derived.Test.YtjklnfcoaakkgaaDoorSpecCell
namespace Go.Proofs.YtjklnfcoaakkgaaDoor
set_option linter.unusedVariables false
open Go.RowKit Go.Shelf
open Go.Lib (byteCells)

theorem new_u8 (w : World) (z : Int) (e : TypeId) : ∀ (j : Nat) (u : Value), [Value.int .u8 z][j]? = some u → (w.alloc (.cells #[.int .u8 z] e)).cell? ((⟨w.heap.size, 0, none⟩ : Addr).add j) = some u := by
  intro j u hu
  rw [Addr.add_lit, Nat.zero_add, cell_of_row _ w.heap.size j _ e (0, 0) (heap_alloc_new w _)]
  simpa using hu
theorem one_u8 (z : Int) : ∀ u ∈ [Value.int .u8 z], u.oneCell' = true := by
  intro u hu; simp at hu; subst hu; rfl

set_option maxHeartbeats 2000000 in
set_option maxRecDepth 100000 in
theorem bld_byte (b : Nat) (acc : List UInt8) (x : UInt8) (w : World) (h : Bld b acc w) (hlen : acc.length ≤ 1000000) (hb0 : b < w.heap.size) :
    Calls Tryd.prog 49 #[.pointer (some ⟨b, 0, none⟩), .int .u8 x.toNat] w fun e w' => e = .returned .nilIface ∧ (Bld b (acc ++ [x]) w' ∧ Below b w w') := by
  obtain ⟨i0, hi, hz0, hz1, hz2⟩ := info_parts Tryd.infoByteB
  have cC := check_any b acc w h
  have hcl := cells_len acc
  go_enter Tryd.func49, Tryd.ntmps49
  go_wp2_with (first
    | (go_at_call 63; refine cC.mono ?_; rintro e w1 ⟨rfl, h1, hb1⟩; obtain ⟨hB, v, hbk, hown, hne⟩ := h1; have c0 : w1.cell? ⟨b, 0, none⟩ = some (.pointer (some ⟨b, 0, none⟩)) := (by rw [Lib.cell_of_heap hbk]; rfl); have c1 : w1.cell? ⟨b, 1, none⟩ = some v := (by rw [Lib.cell_of_heap hbk]; rfl); rw [hcl] at hown; obtain ⟨A1, n1, rfl⟩ := own_form hown)
    | (at_builtin; refine wpList_append_own _ rfl _ _ 22 rfl b 5 i0 (.int .u8 0) 1 1 Tryd.underlying22 hi hz0 hz1 hz2 rfl (by decide) _ _ _ rfl (hown.alloc _) ⟨w1.heap.size, 0, none⟩ 1 1 [.int .u8 x.toNat] rfl rfl (new_u8 w1 x.toNat 5) (one_u8 _) (by unfold maxLen; omega) (by omega) (by have := hb1.size; simp; omega) ?_; intro v2 w2 hown2 hgrow2 _
       have hlt : b < (w1.alloc (.cells #[.int .u8 x.toNat] 5)).heap.size := (by have := (Array.getElem?_eq_some_iff.1 hbk).1; simp; omega)
       have hb2 : w2.heap[b]? = some (.cells #[.pointer (some ⟨b, 0, none⟩), .slice A1 acc.length n1] 70 (0, 0)) := (by rw [hgrow2.block b hlt (fun e => hne e.symm), Below.heap_alloc _ _ _ (Array.getElem?_eq_some_iff.1 hbk).1]; exact hbk)
       have d0 : w2.cell? ⟨b, 0, none⟩ = some (.pointer (some ⟨b, 0, none⟩)) := (by rw [Lib.cell_of_heap hb2]; rfl)
       have d1 : w2.cell? ⟨b, 1, none⟩ = some (.slice A1 acc.length n1) := (by rw [Lib.cell_of_heap hb2]; rfl)
       have f1 : w2.frozen? ⟨b, 1, none⟩ = false := Lib.frozen_of_heap hb2 1
       obtain ⟨A2, n2, rfl⟩ := own_form hown2))
  go_ret
  refine ⟨rfl, .inr ?_, ?_⟩
  · have e1 : byteCells (acc ++ [x]) = byteCells acc ++ [.int .u8 x.toNat] := by simp [byteCells]
    rw [e1]
    exact Lib.BuilderAt.put (T := 70) (e := 5) hB hb2 (bs' := byteCells acc ++ [.int .u8 x.toNat]) (by rw [List.length_append, hcl]; exact hown2) (by decide)
  · exact ((hb1.alloc (by have := hb1.size; omega) _).grown hgrow2 (by have := hb1.size; simp; omega) (fun k hk => (hown.lt k hk).1)).setCell (p := ⟨b, 1, none⟩) hB _

/-! ### Doubling the quotation marks -/
theorem extract_drop (s : ByteArray) (i : Nat) (hi : i ≤ s.size) : (s.extract i s.size).data.toList = s.data.toList.drop i := by
  rw [ByteArray.data_extract, Array.toList_extract]
  simp only [List.extract_eq_take_drop]
  rw [List.take_of_length_le]
  rw [List.length_drop, Array.length_toList]
  show s.size - i ≤ s.size - i
  omega
theorem quote_hit {b : UInt8} (h : quoteB b = true) : b = 34 := by unfold quoteB at h; exact beq_iff_eq.1 h
theorem dbl_scan (s : ByteArray) : ∀ (f i : Nat), s.size ≤ i + f → i ≤ s.size →
    dblL (s.data.toList.drop i) = (s.extract i (scanTo quoteB s i)).data.toList ++ dblL (s.data.toList.drop (scanTo quoteB s i)) ∧ (s.data.toList.drop i).count 34 = (s.data.toList.drop (scanTo quoteB s i)).count 34
  | 0, i, hf, hi => by rw [scan_out (by omega), extract_self]; exact ⟨rfl, rfl⟩
  | f + 1, i, hf, hi => by
    by_cases h : i < s.size
    · cases hp : quoteB (bt s i) with
      | true => rw [scan_hit h hp, extract_self]; exact ⟨rfl, rfl⟩
      | false =>
        have hx : bt s i ≠ 34 := by intro e; rw [e] at hp; exact absurd hp (by decide)
        have hge : i + 1 ≤ scanTo quoteB s (i + 1) := scan_ge (by omega)
        have ih := dbl_scan s f (i + 1) (by omega) (by omega)
        rw [scan_on h hp, extract_more h hge, drop_bt h, dbl_ne hx, ih.1]
        refine ⟨rfl, ?_⟩
        rw [List.count_cons_of_ne hx, ih.2]
    · rw [scan_out h, extract_self]; exact ⟨rfl, rfl⟩
theorem idx_quote (s : ByteArray) (i : Nat) (hi : i ≤ s.size) :
    (Lib.indexByte (s.extract i s.size).data.toList 34 = -1 ∧ scanTo quoteB s i = s.size) ∨ (Lib.indexByte (s.extract i s.size).data.toList 34 = ((scanTo quoteB s i - i : Nat) : Int) ∧ scanTo quoteB s i < s.size) := by
  have h := idx_scan (p := quoteB) (chars := [34]) (fun b => by unfold quoteB; simp only [List.contains_cons, List.contains_nil, Bool.or_false]) s s.size i (by omega) hi
  rw [Lib.indexAny_one] at h
  rw [extract_drop s i hi]
  exact h
/-- The next quotation mark, and what stands up to it. -/
theorem dbl_next {s : ByteArray} {i : Nat} (hi : i ≤ s.size) (hc : 0 < (s.data.toList.drop i).count 34) :
    ∃ j, scanTo quoteB s i = j ∧ i ≤ j ∧ j < s.size ∧ Lib.indexByte (s.extract i s.size).data.toList 34 = ((j - i : Nat) : Int) ∧ dblL (s.data.toList.drop i) = ((s.extract i j).data.toList ++ [34, 34]) ++ dblL (s.data.toList.drop (j + 1)) ∧ (s.data.toList.drop i).count 34 = 1 + (s.data.toList.drop (j + 1)).count 34 := by
  have hd := dbl_scan s s.size i (by omega) hi
  rcases idx_quote s i hi with ⟨h1, h2⟩ | ⟨h1, h2⟩
  · rw [h2] at hd
    rw [hd.2, drop_out (by omega)] at hc
    simp at hc
  · have hb := scan_hits h2
    have hb' : bt s (scanTo quoteB s i) = 34 := quote_hit hb
    refine ⟨_, rfl, scan_ge hi, h2, h1, ?_, ?_⟩
    · rw [hd.1, drop_bt h2, hb', dbl_34, List.append_assoc]; rfl
    · rw [hd.2, drop_bt h2, hb', List.count_cons_self]; omega
theorem dbl_last {s : ByteArray} {i : Nat} (hi : i ≤ s.size) (hc : (s.data.toList.drop i).count 34 = 0) : dblL (s.data.toList.drop i) = (s.extract i s.size).data.toList := by
  have hd := dbl_scan s s.size i (by omega) hi
  rcases idx_quote s i hi with ⟨h1, h2⟩ | ⟨h1, h2⟩
  · rw [hd.1, h2, drop_out (by omega)]
    simp [dblL]
  · have hb := scan_hits h2
    have hb' : bt s (scanTo quoteB s i) = 34 := quote_hit hb
    rw [hd.2, drop_bt h2, hb', List.count_cons_self] at hc
    omega

def quoS : ByteArray := ⟨#[34]⟩
def quoD : ByteArray := ⟨#[34, 34]⟩
def RpRel (s : ByteArray) (m : Nat) (D : List UInt8) (p : Nat) (w : World) (st k : Value) (wr : World) : Prop :=
  ∃ (i q : Nat) (acc : List UInt8), i ≤ s.size ∧ st = .int .i64 i ∧ q ≤ m ∧ k = .int .i64 q ∧ acc.length ≤ 2 * i ∧ Bld p acc wr ∧ p < wr.heap.size ∧ Hid (acc ++ dblL (s.data.toList.drop i) = D) ∧ Hid ((s.data.toList.drop i).count 34 + q = m) ∧ Below w.heap.size w wr

set_option maxHeartbeats 4000000 in
set_option maxRecDepth 100000 in
theorem replace_quote (s : ByteArray) (w : World) (hs : s.size ≤ 1000) :
    Calls Tryd.prog 65 #[.string s, .string ⟨#[34]⟩, .string ⟨#[34, 34]⟩, .int .i64 (-1)] w fun e w' => e = .returned (.string ⟨(dblL s.data.toList).toArray⟩) ∧ Below w.heap.size w w' := by
  obtain ⟨D, hD⟩ : ∃ D, dblL s.data.toList = D := ⟨_, rfl⟩
  rw [hD]
  have HD : Hid (([] : List UInt8) ++ dblL (s.data.toList.drop 0) = D) := hD
  obtain ⟨m, hm⟩ : ∃ m, Lib.countByte s.data.toList 34 = m := ⟨_, rfl⟩
  have hml : m ≤ s.size := by rw [← hm]; have := List.count_le_length (a := (34 : UInt8)) (l := s.data.toList); rw [list_size] at this; exact this
  have HM : Hid ((s.data.toList.drop 0).count 34 + 0 = m) := hm
  have cN : ∀ W, Calls Tryd.prog 79 #[.string s, .string ⟨#[34]⟩] W fun e w' => e = .returned (.int .i64 m) ∧ W = w' := fun W => by
    have := Tryd.strings_Count_one s 34 W
    rw [hm] at this
    exact this.mono fun _ _ h => ⟨h.1, h.2.symm⟩
  have hne : ((⟨#[34]⟩ : ByteArray).toList == (⟨#[34, 34]⟩ : ByteArray).toList) = false := by rw [ByteArray.toList_eq, ByteArray.toList_eq]; decide
  clear hm hD
  by_cases h0 : m = 0
  · have HE : Hid (s = ⟨D.toArray⟩) := by
      show _ = _
      have h1 := dbl_last (s := s) (Nat.zero_le _) (by have := HM.out; omega)
      have h2 := HD.out
      rw [List.nil_append, h1] at h2
      rw [← h2]
      apply ByteArray.ext
      apply Array.toList_inj.1
      rw [extract_drop _ _ (by omega)]
      simp
    subst h0
    clear HD HM hml
    go_enter Tryd.func65, Tryd.ntmps65
    go_wp2_with (go_at_call 79; refine (cN _).mono ?_; rintro e w' ⟨rfl, rfl⟩)
    go_ret
    exact ⟨by rw [← HE.out] <;> rfl, Below.refl _ _⟩
  · have h0z : ((m : Int) == 0) = false := by rw [beq_eq_false_iff_ne]; omega
    have hmp : 0 < m := by omega
    obtain ⟨G, hG⟩ : ∃ G : Nat, s.size + m = G := ⟨_, rfl⟩
    have hGz : (s.size : Int) + (m : Int) = (G : Int) := by omega
    have hGl : G ≤ 10000 := by omega
    have cG : Calls Tryd.prog 80 #[.pointer (some ⟨w.heap.size, 0, none⟩), .int .i64 G] (w.alloc (.cells #[.pointer none, .slice none 0 0] 70)) fun e w' => e = .returned (.tuple #[]) ∧ (Bld w.heap.size [] w' ∧ Below w.heap.size w w') :=
      (Tryd.Builder_Grow_fresh w.heap.size w.heap.size G _ (Nat.le_refl _) (heap_alloc_new w _) (by simp) (by omega)).mono fun e w' ⟨h1, h2, h3⟩ => ⟨h1, .inr h2, ((Below.refl _ _).alloc (Nat.le_refl _) _).trans h3⟩
    clear h0 hG
    go_enter Tryd.func65, Tryd.ntmps65
    go_wp2_with (first | (go_at_call 79; refine (cN _).mono ?_; rintro e w' ⟨rfl, rfl⟩) | (go_at_call 80; refine cG.mono ?_; rintro e w1 ⟨rfl, hbl, b1⟩))
    have HBl := Lib.hid hbl
    have HB1 := Lib.hid b1
    have HZ1 : Hid (w.heap.size < w1.heap.size) := by
      rcases hbl with h | h <;> exact (Array.getElem?_eq_some_iff.1 h.2.choose_spec.1).1
    clear cN cG hbl b1 hne
    go_wp2
    go_loopw [11, 53] (fun st k wr => RpRel s m D w.heap.size w st k wr) (fun _ k _ => m - (intOf k).toNat)
    case atStart => exact ⟨0, 0, [], Nat.zero_le _, rfl, Nat.zero_le _, rfl, by simp, HBl.out, HZ1.out, HD, HM, HB1.out⟩
    case round =>
      clear HD HM HBl HB1 HZ1
      obtain ⟨i, q, acc, hi, rfl, hq, rfl, hal, hbl, hpz, hd, hc, hbel⟩ := hrel
      have hiz : (i : Int) ≤ (s.size : Int) := by omega
      by_cases hlt : q < m
      · obtain ⟨j, -, hij, hjs, hix, hdn, hcn⟩ := dbl_next hi (by have := hc.out; omega)
        obtain ⟨I, hI⟩ : ∃ I, Lib.indexByte (s.extract i s.size).data.toList 34 = I := ⟨_, rfl⟩
        rw [hI] at hix
        have hIz : (i : Int) + I = (j : Int) := by omega
        obtain ⟨r, hr⟩ : ∃ r, s.extract i s.size = r := ⟨_, rfl⟩
        rw [hr] at hI
        have cI : ∀ W, Calls Tryd.prog 81 #[.string r, .string ⟨#[34]⟩] W fun e w' => e = .returned (.int .i64 I) ∧ W = w' := fun W => by
          have := Tryd.strings_Index_one r 34 W
          rw [hI] at this
          exact this.mono fun _ _ h => ⟨h.1, h.2.symm⟩
        obtain ⟨y, hy⟩ : ∃ y, s.extract i j = y := ⟨_, rfl⟩
        rw [hy] at hdn
        have hyz : y.size = j - i := by rw [← hy, ByteArray.size_extract]; omega
        obtain ⟨j1, hj1⟩ : ∃ j1, j + 1 = j1 := ⟨_, rfl⟩
        rw [hj1] at hdn hcn
        have hj1z : (j : Int) + 1 = (j1 : Int) := by omega
        have hjz : (j : Int) ≤ (s.size : Int) := by omega
        have hijz : (i : Int) ≤ (j : Int) := by omega
        obtain ⟨t1, ht1⟩ : ∃ t1, acc ++ y.data.toList = t1 := ⟨_, rfl⟩
        have ht1l : t1.length = acc.length + y.size := by rw [← ht1, List.length_append, list_size]
        obtain ⟨t2, ht2⟩ : ∃ t2, t1 ++ (⟨#[34, 34]⟩ : ByteArray).data.toList = t2 := ⟨_, rfl⟩
        have ht2l : t2.length = t1.length + 2 := by rw [← ht2, List.length_append]; rfl
        have HDn : Hid (t2 ++ dblL (s.data.toList.drop j1) = D) := by
          show _ = _
          rw [← hd.out, hdn, ← ht2, ← ht1]
          simp
        have HCn : Hid ((s.data.toList.drop j1).count 34 + (q + 1) = m) := by
          show _ = _
          have := hc.out
          omega
        have hqz : (q : Int) < (m : Int) := by omega
        have hbd1 : acc.length + y.size ≤ 1000000 := by omega
        have hbd2 : t1.length + (⟨#[34, 34]⟩ : ByteArray).size ≤ 1000000 := by show t1.length + 2 ≤ _; omega
        have hal2 : t2.length ≤ 2 * j1 := by omega
        have hj1s : j1 ≤ s.size := by omega
        have HT1 := Lib.hid ht1
        have HT2 := Lib.hid ht2
        have HB1 := Lib.hid hbd1
        have HB2 := Lib.hid hbd2
        have HAl := Lib.hid hal2
        have hwz := hbel.size
        clear hI hd hc hdn hcn hj1 ht1 ht2 ht1l ht2l hyz hbd1 hbd2 hal2 hix
        go_wp2_with (first
          | (go_at_call 81; refine (cI _).mono ?_; rintro e w' ⟨rfl, rfl⟩)
          | (go_at_call 48; refine (bld_write w.heap.size t1 ⟨#[34, 34]⟩ _ hl3 HB2.out hp3).mono ?_; rintro e w4 ⟨rfl, hl4, b4⟩; rw [HT2.out] at hl4; have hp4 := Nat.lt_of_lt_of_le hp3 b4.size; have b34 := b3.trans b4; clear hl3)
          | (go_at_call 48; refine (bld_write w.heap.size acc y _ hbl HB1.out hpz).mono ?_; rintro e w3 ⟨rfl, hl3, b3⟩; rw [HT1.out] at hl3; have hp3 := Nat.lt_of_lt_of_le hpz b3.size))
        have HX := Lib.hid (hbel.trans b34)
        have HY := Lib.hid hl4
        clear hl4 b34 b3 b4 hbl hbel
        go_roundw
        case rel => exact ⟨j1, q + 1, t2, hj1s, rfl, by omega, by go_num, HAl.out, HY.out, hp4, HDn, HCn, HX.out⟩
        case measure => simp [intOf]; omega
      · have hqz : ¬ (q : Int) < (m : Int) := by omega
        obtain ⟨y, hy⟩ : ∃ y, s.extract i s.size = y := ⟨_, rfl⟩
        have hyz : y.size ≤ 1000 := by rw [← hy, ByteArray.size_extract]; omega
        obtain ⟨t1, ht1⟩ : ∃ t1, acc ++ y.data.toList = t1 := ⟨_, rfl⟩
        have HE : Hid (t1 = D) := by
          show _ = _
          have h1 := dbl_last hi (by have := hc.out; omega)
          rw [← hd.out, h1, hy, ht1]
        have HT1 := Lib.hid ht1
        have hbd1 : acc.length + y.size ≤ 1000000 := by omega
        clear hd hc ht1
        go_wp2_with (first
          | (go_at_call 48; refine (bld_write w.heap.size acc y _ hbl hbd1 hpz).mono ?_; rintro e w3 ⟨rfl, hl3, b3⟩; rw [HT1.out] at hl3; have hp3 := Nat.lt_of_lt_of_le hpz b3.size)
          | (go_at_call 51; refine (bld_str w.heap.size t1 _ hl3 (Nat.le_of_lt hp3)).mono ?_; rintro e w5 ⟨rfl, b5⟩))
        go_ret
        exact ⟨by rw [← HE.out] <;> rfl, hbel.trans (b3.trans b5)⟩

/-- The program's cell. -/
theorem replaceAll_quote (s : ByteArray) (w : World) (hs : s.size ≤ 1000) :
    Calls Tryd.prog 53 #[.string s, .string ⟨#[34]⟩, .string ⟨#[34, 34]⟩] w fun e w' => e = .returned (.string ⟨(dblL s.data.toList).toArray⟩) ∧ Below w.heap.size w w' := by
  have c := replace_quote s w hs
  go_enter Tryd.func53, Tryd.ntmps53
  go_wp2_with (go_at_call 65; refine c.mono ?_; rintro e w' ⟨rfl, b⟩)
  go_ret
  exact ⟨rfl, b⟩

set_option maxHeartbeats 1000000 in
set_option maxRecDepth 100000 in
theorem implCell (s : ByteArray) (w : World) (hs : s.size ≤ 1000) : Calls Tryd.prog 26 #[.string s] w fun e w' => e = .returned (.string (csvCell s)) ∧ Below w.heap.size w w' := by
  have cC := containsAny_any s stopS w asc_stop (by omega)
  unfold Lib.containsAny at cC
  rw [idx_any stop_in] at cC
  unfold stopS at cC
  cases hst : s.data.toList.any stopB with
  | false =>
    rw [hst] at cC
    have HE := Lib.hid (csvCell_no hst)
    clear hst
    obtain ⟨R, hR⟩ : ∃ R, csvCell s = R := ⟨_, rfl⟩
    rw [hR] at HE ⊢
    clear hR
    go_enter Tryd.func26, Tryd.ntmps26
    go_wp2_with (go_at_call 52; refine cC.mono ?_; rintro e w1 ⟨rfl, b1⟩)
    go_ret
    exact ⟨by rw [HE.out] <;> rfl, b1⟩
  | true =>
    rw [hst] at cC
    have cR := fun W => replaceAll_quote s W hs
    have hyl := csvCell_yes hst
    obtain ⟨D, hD⟩ : ∃ D : ByteArray, ⟨(dblL s.data.toList).toArray⟩ = D := ⟨_, rfl⟩
    have hDl : D.data.toList = dblL s.data.toList := by rw [← hD]
    have hDz : D.size ≤ 2000 := by rw [← list_size, hDl]; have := dbl_len s.data.toList; rw [list_size] at this; omega
    rw [hD] at cR
    obtain ⟨v1, hv1⟩ : ∃ v1, (⟨#[34]⟩ : ByteArray) ++ D = v1 := ⟨_, rfl⟩
    obtain ⟨v2, hv2⟩ : ∃ v2, v1 ++ (⟨#[34]⟩ : ByteArray) = v2 := ⟨_, rfl⟩
    have hz1 : v1.size = D.size + 1 := by rw [← hv1, ByteArray.size_append]; show 1 + D.size = _; omega
    have HE : Hid (csvCell s = v2) := by
      show _ = _
      rw [hyl, ← hDl, ← hv2, ← hv1]
      apply ByteArray.ext
      rw [ByteArray.data_append, ByteArray.data_append]
      apply Array.toList_inj.1
      simp
    clear hst hyl hDl hD
    obtain ⟨R, hR⟩ : ∃ R, csvCell s = R := ⟨_, rfl⟩
    rw [hR] at HE ⊢
    clear hR
    go_enter Tryd.func26, Tryd.ntmps26
    go_wp2_with (first | (go_at_call 52; refine cC.mono ?_; rintro e w1 ⟨rfl, b1⟩) | (go_at_call 53; refine (cR _).mono ?_; rintro e w2 ⟨rfl, b2⟩))
    go_ret
    exact ⟨by rw [HE.out] <;> rfl, b1.trans (b2.mono b1.size)⟩

end Go.Proofs.YtjklnfcoaakkgaaDoor
