/- impl.naturalOf. Conditions: at most 1048576 bytes. -/
import Derived.Test.YtpkmhojcccpolaaDoorNatCells
import Derived.Laws.ResultCell
namespace Go.Proofs.YtpkmhojcccpolaaDoor
set_option linter.unusedVariables false
open Go.RowKit
open Go.Lib (byteCells)

def AnsNat (v : Nat) (b : Bool) (w : World) (e : Ending) (w' : World) : Prop := ∃ C, e = .returned (.tuple #[.agg C, .bool b]) ∧ IsNat C v (len v) ∧ Below w.heap.size w w'
/-- The number that a string denotes, 0 where it is no natural. -/
def ofV (s : ByteArray) : Nat := if NatS s then nv s else 0
def okS (s : ByteArray) : Bool := decide (NatS s)

theorem low_put {l : List UInt8} (hd : Digs l) (k : Nat) : dgt (low l (k + 1)) k = digAt l k ∧ ∀ i, i ≠ k → dgt (low l (k + 1)) i = dgt (low l k) i := by
  have h1 := low_lt hd k
  have h2 := digAt_lt hd k
  have e := low_succ l k
  have e1 : low l (k + 1) = 0 * 10 ^ (k + 1) + digAt l k * 10 ^ k + low l k := by rw [Nat.zero_mul, Nat.zero_add]; exact e
  have e2 : low l k = 0 * 10 ^ (k + 1) + 0 * 10 ^ k + low l k := by simp
  refine ⟨by rw [e1]; exact dgt_at h2 h1, fun i hi => ?_⟩
  rw [e1, dgt_same h2 (by omega : 0 < 10) h1 hi, ← e2]

/-- A whole natural out of its block, and into one. -/
theorem load_nat {ops : Array Oper} {rest : List Oper} {a : Act} {w : World} {Q : Exit → Act → World → Prop} {dst : Option Tmp} {ty : TypeId} {pos : String} {after : Array Edge} {x : Operand} {C : Array Value} {v n : Nat} (g : Nat)
    (hx : a.eval x = .pointer (some ⟨g, 0, none⟩)) (hg : w.heap[g]? = some (.cells C 63 (0, 0))) (hI : IsNat C v n) (h : wpList Tryd.prog ops Q rest (a.put dst (.agg C)) w) :
    wpList Tryd.prog ops Q (⟨dst, .load 63 x, ty, pos, after, none⟩ :: rest) a w :=
  wpList_load_row rfl 63 x rfl g hx _ C _ _ hg Tryd.underlying63 rfl (by rw [hI.size]; exact Tryd.sizeNat) h
theorem store_nat {ops : Array Oper} {rest : List Oper} {a : Act} {w : World} {Q : Exit → Act → World → Prop} {dst : Option Tmp} {ty : TypeId} {pos : String} {after : Array Edge} {x y : Operand} {C O : Array Value} {v n v' n' : Nat} (g : Nat)
    (hx : a.eval x = .pointer (some ⟨g, 0, none⟩)) (hy : a.eval y = .agg C) (hg : w.heap[g]? = some (.cells O 63 (0, 0))) (hO : IsNat O v' n') (hI : IsNat C v n) (h : wpList Tryd.prog ops Q rest (a.put dst undef) (w.setRow g C)) :
    wpList Tryd.prog ops Q (⟨dst, .store 63 x y, ty, pos, after, none⟩ :: rest) a w :=
  wpList_store_row rfl 63 x y rfl g C hx hy _ O hg (by rw [hI.size]; exact Tryd.sizeNat) (by rw [hO.size, hI.size]) hI.one h

theorem results_nat {fn : Func} {p u : Tmp} (h : fn.results = #[.cell p 63, .tmp u]) (tmps : Array Value) (w : World) {g : Nat} {C : Array Value} {v n : Nat} {x : Value}
    (hp : tmps.getD p undef = .pointer (some ⟨g, 0, none⟩)) (hu : tmps.getD u undef = x) (hg : w.heap[g]? = some (.cells C 63 (0, 0))) (hI : IsNat C v n) :
    (results fn tmps).run Tryd.prog w = .ok (.tuple #[.agg C, x]) w := by
  have hl := run_loadVar_row (P := Tryd.prog) w g 63 63 C (0, 0) _ hg Tryd.underlying63 rfl (by rw [hI.size]; exact Tryd.sizeNat)
  rw [results_cell_tmp h, hp, hu]
  simp [asAddr, Result.andThen, hl]
theorem results_nat1 {fn : Func} {p : Tmp} (h : fn.results = #[.cell p 63]) (tmps : Array Value) (w : World) {g : Nat} {C : Array Value} {v n : Nat}
    (hp : tmps.getD p undef = .pointer (some ⟨g, 0, none⟩)) (hg : w.heap[g]? = some (.cells C 63 (0, 0))) (hI : IsNat C v n) :
    (results fn tmps).run Tryd.prog w = .ok (.agg C) w :=
  results_cell_row h tmps w g 63 C (0, 0) _ hp hg Tryd.underlying63 rfl (by rw [hI.size]; exact Tryd.sizeNat)
theorem below_row {B : Nat} {a w : World} (h : Below B a w) {g : Nat} (hg : B ≤ g) (C : Array Value) : Below B a (w.setRow g C) :=
  h.trans ⟨rfl, rfl, rfl, by simp, fun k hk => setRow_other w g k C (by omega)⟩

theorem beq_zero {n : Nat} (h : n ≠ 0) : ((n : Int) == 0) = false := beq_eq_false_iff_ne.2 (by omega)

set_option maxHeartbeats 2000000 in
set_option maxRecDepth 100000 in
theorem implNaturalOf (s : ByteArray) (w : World) (hs : s.size ≤ 1048576) :
    Calls Tryd.prog 85 #[.string s] w (AnsNat (ofV s) (okS s) w) := by
  have cO := fun W => implNatOk s W hs
  have hz := Tryd.zeroNat
  go_enter Tryd.func85, Tryd.ntmps85
  go_wp2_with fail
  refine (cO _).mono ?_
  intro e w1 hE
  obtain ⟨hE, B1⟩ := hE.get
  clear cO
  have N0 := (NatAt.new w zero_is).alloc (.cells zeroCells 63)
  have N1 := NatAt.new (w.alloc (.cells zeroCells 63)) zero_is
  have hsz : (w.alloc (.cells zeroCells 63)).heap.size = w.heap.size + 1 := by simp
  rw [hsz] at N1
  have M0 := N0.below B1 (by simp; omega)
  have M1 := N1.below B1 (by simp)
  clear N0 N1 hsz
  rcases hE with ⟨rfl, h1⟩ | ⟨rfl, h1⟩
  · have hdg := h1.2.1
    have hcan := h1.2.2
    have hsl := size_list s
    have HV : Hid (ofV s = nv s ∧ okS s = true) := ⟨by unfold ofV; rw [if_pos h1], decide_eq_true h1⟩
    have D1 : Below w.heap.size w w1 := (((Below.refl _ _).alloc (Nat.le_refl _) _).alloc (by simp) _).trans (B1.mono (by simp; omega))
    have HD := Lib.hid hdg
    clear B1 h1 hdg
    go_wp2
    go_loopw [12] (fun i wr => ∃ k : Nat, k ≤ s.size ∧ i = .int .i64 k ∧ NatAt wr (w.heap.size + 1) (low s.data.toList k) 0 ∧ NatAt wr w.heap.size 0 0 ∧ Below w.heap.size w wr) (fun i _ => s.size - (intOf i).toNat)
    case atStart => exact ⟨0, Nat.zero_le _, rfl, by rw [low_zero]; exact M1, M0, D1⟩
    case round =>
      clear M0 M1 D1
      obtain ⟨k, hk, rfl, N1, N0, hbel⟩ := hrel
      by_cases hlt : k < s.size
      · obtain ⟨j, hj⟩ : ∃ j : Nat, s.size - 1 - k = j := ⟨_, rfl⟩
        have hjs : j < s.size := by omega
        obtain ⟨x, hx⟩ : ∃ x, s[j] = x := ⟨_, rfl⟩
        have hdx : IsD x := HD.out x (by rw [← hx]; exact List.getElem_mem (l := s.data.toList) (by rw [hsl]; exact hjs))
        have HE : Hid (digAt s.data.toList k = x.toNat - 48) := by
          show _ = _
          unfold digAt
          rw [if_pos (by rw [hsl]; exact hlt), hsl, hj]
          simp only [List.getD, List.getElem?_eq_getElem (show j < s.data.toList.length by rw [hsl]; exact hjs), Option.getD_some]
          rw [at_list s j hjs, hx]; rfl
        have HP := Lib.hid (low_put HD.out k)
        have HB := Lib.hid (lt_top (low_lt HD.out (k + 1)) (by omega))
        unfold IsD at hdx
        have e1 : (s.size : Int) - 1 - (k : Int) = (j : Int) := by omega
        obtain ⟨d, hd⟩ : ∃ d : Nat, (x.toNat : Int) - 48 = (d : Int) := ⟨x.toNat - 48, by omega⟩
        have HX : Hid (d = x.toNat - 48) := by show _ = _; omega
        have v1 := IntWalk.u8_in (d : Int) ⟨by omega, by omega⟩
        have hk601 : (k : Int) < 601 := by omega
        obtain ⟨c1, c2, c3⟩ := N1.cells
        have ck := c1 k (by omega)
        have fk := c3 k
        clear c1 c2 c3 hj hdx
        go_wp2
        go_roundw
        case rel => exact ⟨k + 1, hlt, by go_num, N1.put (by omega) (by rw [HP.out.1, HE.out]; exact HX.out) HP.out.2 HB.out, N0.setOther _ (by omega), hbel.setCell (Nat.le_succ _) _⟩
        case measure => simp [intOf]; omega
      · have hke : k = s.size := by omega
        have HL : Hid (low s.data.toList k = nv s) := by show _ = _; rw [low_all (by rw [hsl]; omega)]; rfl
        rw [HL.out] at N1
        obtain ⟨c1, c2, c3⟩ := N1.cells
        have f2 := c3 601
        clear c1 c3
        have cT := fun W h => implTrim (w.heap.size + 1) (nv s) s.size W h (by have := val_lt HD.out; rw [hsl] at this; exact this) (by omega)
        unfold Left at cT
        go_wp2_with fail
        refine (cT _ (N1.setLen _)).mono ?_
        rintro e w3 ⟨rfl, N3, G3, S3⟩
        have M0 := (N0.setOther (k := w.heap.size + 1) (i := 601) (.int .i64 (s.size : Int)) (by omega)).grown G3 (by omega)
        have D3 := (hbel.setCell (p := ⟨w.heap.size + 1, 601, none⟩) (Nat.le_succ _) (.int .i64 (s.size : Int))).grown G3 (by have := hbel.size; rw [setCell_sizeN]; exact this) (fun k hk => by injection hk with hk; omega)
        clear cT N1 N0 G3 S3 hbel
        obtain ⟨C0, h0, I0⟩ := M0
        obtain ⟨C1, h1', I1⟩ := N3
        go_wp2_with (first | (refine load_nat (w.heap.size + 1) rfl h1' I1 ?_) | (refine store_nat w.heap.size rfl rfl h0 I0 I1 ?_))
        refine bodyPost_ret (results_nat rfl _ _ rfl rfl (setRow_heap _ _ _ _ _ _ h0) I1) rfl ?_
        exact ⟨C1, by rw [HV.out.2]; rfl, by rw [HV.out.1]; exact I1, below_row D3 (Nat.le_refl _) _⟩
  · have HV : Hid (ofV s = 0 ∧ okS s = false) := ⟨by unfold ofV; rw [if_neg h1], decide_eq_false h1⟩
    have D1 : Below w.heap.size w w1 := (((Below.refl _ _).alloc (Nat.le_refl _) _).alloc (by simp) _).trans (B1.mono (by simp; omega))
    obtain ⟨C0, h0, I0⟩ := M0
    obtain ⟨C1, h1', I1⟩ := M1
    go_wp2_with (first | (refine load_nat (w.heap.size + 1) rfl h1' I1 ?_) | (refine store_nat w.heap.size rfl rfl h0 I0 I1 ?_))
    refine bodyPost_ret (results_nat rfl _ _ rfl rfl (setRow_heap _ _ _ _ _ _ h0) I1) rfl ?_
    exact ⟨C1, by rw [HV.out.2]; rfl, by rw [HV.out.1]; exact I1, below_row D1 (Nat.le_refl _) _⟩

end Go.Proofs.YtpkmhojcccpolaaDoor
