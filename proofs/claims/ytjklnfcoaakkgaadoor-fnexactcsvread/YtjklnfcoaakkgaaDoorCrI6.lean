/- impl.CsvRead reads a file as rows of cells. Conditions: at most 1048576 bytes; utf8's two tables hold what Go's text lays. -/
import Derived.Test.YtjklnfcoaakkgaaDoorCrI5
namespace Go.Proofs.YtjklnfcoaakkgaaDoor
set_option linter.unusedVariables false
open Go.RowKit
open Go.Lib (byteCells)

theorem OwnR.low {w : World} {B B' : Nat} {nv : Value} {rs : List (List ByteArray)} {xs : List Value} (h : OwnR w B nv rs xs) (hB : B' ≤ B) : OwnR w B' nv rs xs :=
  ⟨h.len, own_low h.row hB, fun j hj => own_low (h.sub j hj) hB, h.nodup⟩
def CRel (s : ByteArray) (R : RowsRes) (p : Nat) (w : World) (g : Nat) (v : Value) (wr : World) : Prop := Cfg s R p wr v g ∧ Below w.heap.size w wr

set_option maxHeartbeats 4000000 in
set_option maxRecDepth 100000 in
theorem implCsvRead (s : ByteArray) (w : World) (hs : s.size ≤ 1048576) (hT : Tabs w) : Calls Tryd.prog 12 #[.string s] w (CsvIs (csvFileR s) w) := by
  have cF := implFileOk s w hs hT
  clear hT
  cases hok : fileB s with
  | false =>
    rw [hok] at cF
    have HE := Lib.hid (csvFile_no hok).symm
    obtain ⟨R, hR⟩ : ∃ R, csvFileR s = R := ⟨_, rfl⟩
    rw [hR] at HE ⊢
    clear hok hR
    go_enter Tryd.func12, Tryd.ntmps12
    go_wp2_with (go_at_call 28; refine cF.mono ?_; rintro e w1 ⟨rfl, b1⟩)
    refine bodyPost_ret (v := .tuple #[.slice none 0 0, .int .i64 0, .int .i64 1]) (by simp [results, Tryd.results12, go_sem]) rfl ?_
    exact CsvIs.mk HE.out (OwnR.nil _ _) b1
  | true =>
    rw [hok] at cF
    have hs4 := file_size hok
    obtain ⟨R, hR⟩ : ∃ R, csvFileR s = R := ⟨_, rfl⟩
    have HR0 : Hid (csvB s (s.size + 1) 0 [] = R) := by show _ = _; rw [← hR, csvFile_yes hok]
    rw [hR]
    clear hok hR
    go_enter Tryd.func12, Tryd.ntmps12
    go_wp2_with (first
      | (go_at_call 28; refine cF.mono ?_; rintro e w1 ⟨rfl, b1⟩; have HI : Hid (Rdr (w1.alloc (.cells #[.string s, .int .i64 0, .slice none 0 0, .slice none 0 0, .int .i64 0, .slice none 0 0, .int .i64 0, .int .i64 0] 48)) w1.heap.size s 0 (.slice none 0 0) [] [] (.slice none 0 0) [] (.slice none 0 0) 0 (.slice none 0 0) [] 0 0) := ⟨heap_alloc_new w1 _, RowsSt.freshOf (OwnR.nil _ _), BytesR.nil _ _, fun q hq => by simp [Value.ownBlock] at hq⟩; have HB1 : Hid (Below w.heap.size w (w1.alloc (.cells #[.string s, .int .i64 0, .slice none 0 0, .slice none 0 0, .int .i64 0, .slice none 0 0, .int .i64 0, .int .i64 0] 48))) := b1.alloc b1.size _; have hpw : w.heap.size ≤ w1.heap.size := b1.size; have cB := stepBegins s R w1.heap.size _ 0 (s.size + 1) [] [] _ _ 0 _ [] HI.out hs4 (Nat.zero_le _) (fun _ => by omega) (by simp) HR0.out; clear b1)
      | (go_at_call 29; refine cB.mono ?_; rintro e w2 ⟨sv, M, rfl, hcf, hM, hb⟩; have HCf : Hid (Cfg s R w1.heap.size w2 sv M) := hcf; have HB2 := Lib.hid (HB1.out.trans (hb.mono hpw)); clear hcf hM hb cB))
    obtain ⟨p, hp⟩ : ∃ p, w1.heap.size = p := ⟨_, rfl⟩
    rw [hp] at HCf hpw
    try rw [hp]
    clear hp HI HB1
    have hnil : ∀ W : World, (binOp .neq 50 .nilFunc .nilFunc).run Tryd.prog W = .ok (.bool false) W := fun _ => by kernel_rfl
    have hfun : ∀ (k : Nat) (q : Addr) (W : World), (binOp .neq 50 (.func (.func k) #[.pointer (some q)] #[]) .nilFunc).run Tryd.prog W = .ok (.bool true) W := fun _ _ _ => by kernel_rfl
    go_loopg [6] M (fun g v wx => CRel s R p w g v wx)
    case atStart => exact ⟨HCf.out, HB2.out⟩
    case round =>
      clear HCf HB2
      obtain ⟨hcf, hbel⟩ := hrel
      have HB := Lib.hid hbel
      have hwz := hbel.size
      clear hbel
      obtain ⟨M0, hcf0, hMe⟩ : ∃ M0, Cfg s R p wr _ M0 ∧ M0 = gk := ⟨_, hcf, rfl⟩
      have HMe := Lib.hid hMe
      clear hcf hMe
      cases hcf0 with
      | begins i f rs xs nv uf b v acc h hi hf hl hR =>
        have cS := stepBegins s R p _ i f rs xs nv uf b v acc h hs4 hi hf hl hR
        unfold stV
        clear h hi hf hl hR
        go_wp2_with (go_at_call 29; refine cS.mono ?_; rintro e w4 ⟨sv, M', rfl, hcf, hM, hb⟩; have HC4 : Hid (CRel s R p w M' sv w4) := ⟨hcf, HB.out.trans (hb.mono hpw)⟩; have HM := Lib.hid hM; clear hcf hb hM)
        go_roundg M'
        case measure => rw [← HMe.out]; exact HM.out
        case rel => exact HC4.out
      | cell i f rs xs nv u cs b v acc h hi hf hl hc hR =>
        have cS := stepCell s R p _ i f rs xs nv u cs b v acc h hs4 hi hf hl hc hR
        unfold stV
        clear h hi hf hl hc hR
        go_wp2_with (go_at_call 55; refine cS.mono ?_; rintro e w4 ⟨sv, M', rfl, hcf, hM, hb⟩; have HC4 : Hid (CRel s R p w M' sv w4) := ⟨hcf, HB.out.trans (hb.mono hpw)⟩; have HM := Lib.hid hM; clear hcf hb hM)
        go_roundg M'
        case measure => rw [← HMe.out]; exact HM.out
        case rel => exact HC4.out
      | plain i f rs xs nv u cs v h hi hf hl hc hR =>
        have cS := stepPlain s R p _ i f rs xs nv u cs v h hs4 hi hf hl hc hR
        unfold stV
        clear h hi hf hl hc hR
        go_wp2_with (go_at_call 70; refine cS.mono ?_; rintro e w4 ⟨sv, M', rfl, hcf, hM, hb⟩; have HC4 : Hid (CRel s R p w M' sv w4) := ⟨hcf, HB.out.trans (hb.mono hpw)⟩; have HM := Lib.hid hM; clear hcf hb hM)
        go_roundg M'
        case measure => rw [← HMe.out]; exact HM.out
        case rel => exact HC4.out
      | quoted i f b rs xs nv u cs v acc h hi hb ha hf hl hc hR =>
        have cS := stepQuoted s R p _ i f b rs xs nv u cs v acc h hs4 hi hb ha hf hl hc hR
        unfold stV
        clear h hi hb ha hf hl hc hR
        go_wp2_with (go_at_call 71; refine cS.mono ?_; rintro e w4 ⟨sv, M', rfl, hcf, hM, hb⟩; have HC4 : Hid (CRel s R p w M' sv w4) := ⟨hcf, HB.out.trans (hb.mono hpw)⟩; have HM := Lib.hid hM; clear hcf hb hM)
        go_roundg M'
        case measure => rw [← HMe.out]; exact HM.out
        case rel => exact HC4.out
      | closed i f b rs xs nv u cs v acc h hi hb ha hf hl hc hR =>
        have cS := stepClosed s R p _ i f b rs xs nv u cs v acc h hs4 hi hb ha hf hl hc hR
        unfold stV
        clear h hi hb ha hf hl hc hR
        go_wp2_with (go_at_call 88; refine cS.mono ?_; rintro e w4 ⟨sv, M', rfl, hcf, hM, hb⟩; have HC4 : Hid (CRel s R p w M' sv w4) := ⟨hcf, HB.out.trans (hb.mono hpw)⟩; have HM := Lib.hid hM; clear hcf hb hM)
        go_roundg M'
        case measure => rw [← HMe.out]; exact HM.out
        case rel => exact HC4.out
      | complete i f b rs xs nv u cs v acc h hi hb ha hf hl hc he hR =>
        have cS := stepComplete s R p _ i f b rs xs nv u cs v acc h hs4 hi hb ha hf hl hc he hR
        unfold stV
        clear h hi hb ha hf hl hc he hR
        go_wp2_with (go_at_call 87; refine cS.mono ?_; rintro e w4 ⟨sv, M', rfl, hcf, hM, hb⟩; have HC4 : Hid (CRel s R p w M' sv w4) := ⟨hcf, HB.out.trans (hb.mono hpw)⟩; have HM := Lib.hid hM; clear hcf hb hM)
        go_roundg M'
        case measure => rw [← HMe.out]; exact HM.out
        case rel => exact HC4.out
      | done i rs xs nv uf b v z k h ho hR =>
        obtain ⟨c0, c1, c2, c3, c4, c5, c6, c7⟩ := h.cell
        obtain ⟨An, cn, rfl⟩ := own_form ho.row
        have HO := Lib.hid ho
        have HR := Lib.hid hR
        clear h ho hR c0 c1 c3 c4 c5
        go_wp2
        go_quiet (fail)
        go_wp2
        refine bodyPost_ret (v := .tuple #[.slice An rs.length cn, .int .i64 z, .int .i64 k]) (by simp [results, Tryd.results12, go_sem]) rfl ?_
        exact CsvIs.mk HR.out ((HO.out.keep ((Keep.refl [] _).drewN _) (by simp)).low (by omega)) (belowDrewN HB.out _)

end Go.Proofs.YtjklnfcoaakkgaaDoor
