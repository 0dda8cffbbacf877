/- The specification's naturals taken off. Conditions: digits, at most 100000 bytes; what is taken off is no greater and no longer. -/
import Derived.Test.YtpkmhojcccpolaaDoorSpecNat3
namespace Go.Proofs.YtpkmhojcccpolaaDoor
set_option linter.unusedVariables false
open Go.RowKit
open Go.Lib (byteCells)

theorem off_step {acc : List UInt8} {k o x y d o' A B : Nat} (hd : Digs acc) (hl : acc.length = k) (hv : val acc + B = A + o * 10 ^ k) (he : d + y + o = x + 10 * o') (hd10 : d < 10) :
    Digs (dig d :: acc) ∧ (dig d :: acc).length = k + 1 ∧ val (dig d :: acc) + (y * 10 ^ k + B) = (x * 10 ^ k + A) + o' * 10 ^ (k + 1) := by
  refine ⟨fun b hb => ?_, by simp [hl], ?_⟩
  · rcases List.mem_cons.1 hb with rfl | hb
    · exact dig_is hd10
    · exact hd b hb
  · rw [val_cons, dv_dig hd10, hl, Nat.pow_succ]
    have h1 : o' * (10 ^ k * 10) = 10 * o' * 10 ^ k := by rw [Nat.mul_comm (10 ^ k) 10, ← Nat.mul_assoc, Nat.mul_comm o' 10]
    have h2 : (d + y + o) * 10 ^ k = (x + 10 * o') * 10 ^ k := by rw [he]
    rw [Nat.add_mul, Nat.add_mul, Nat.add_mul] at h2
    rw [h1]
    omega

def SubRel (la lb : List UInt8) (w : World) (v ov kv : Value) (wr : World) : Prop :=
  ∃ (k o : Nat) (acc : List UInt8) (g cp : Nat), kv = .int .i64 k ∧ ov = .int .i64 o ∧ v = .slice (some ⟨g, 0, none⟩) acc.length cp ∧ wr.ownsRow w.heap.size 5 1 v acc.length (byteCells acc) ∧
    Digs acc ∧ acc.length = k ∧ o ≤ 1 ∧ val acc + low lb k = low la k + o * 10 ^ k ∧ k ≤ la.length ∧ Below w.heap.size w wr

set_option maxHeartbeats 1000000 in
set_option maxRecDepth 100000 in
theorem specSub (s t : ByteArray) (w : World) (hs : s.size ≤ 100000) (hts : t.size ≤ s.size) (ds : Digs s.data.toList) (dt : Digs t.data.toList) (hle : val t.data.toList ≤ val s.data.toList) :
    Calls Tryd.prog 84 #[.string s, .string t] w (AnsS (natOf (val s.data.toList - val t.data.toList)) w) := by
  obtain ⟨i0, hi, hz0, hz1, hz2⟩ := info_parts Tryd.infoByteN
  have hsl := size_list s
  have htl := size_list t
  have cA := fun (k : Nat) (W : World) (h : k ≤ 10000000) => specDigit s k W (by omega) h ds
  have cB := fun (k : Nat) (W : World) (h : k ≤ 10000000) => specDigit t k W (by omega) h dt
  have hdA := fun k => digAt_lt ds k
  have hdB := fun k => digAt_lt dt k
  have lsA := low_succ s.data.toList
  have lsB := low_succ t.data.toList
  have HI := Lib.hid (And.intro hdA (And.intro hdB (And.intro lsA lsB)))
  have HLE := Lib.hid hle
  clear hdA hdB lsA lsB ds dt hle
  go_enter Tryd.func84, Tryd.ntmps84
  go_wp2
  go_loopw [5, 6, 7] (fun v ov kv wr => SubRel s.data.toList t.data.toList w v ov kv wr) (fun _ _ kv _ => s.size - (intOf kv).toNat)
  case atStart =>
    exact ⟨0, 0, [], w.heap.size, 0, rfl, rfl, rfl, World.ownsRow_lit w #[] 0 (Nat.le_refl _) (Nat.zero_le _) rfl, digs_nil, rfl, by omega, by rw [low_zero, low_zero]; rfl, Nat.zero_le _, (Below.refl _ _).alloc (Nat.le_refl _) _⟩
  case round =>
    obtain ⟨k, o, acc, g, cp, rfl, rfl, rfl, hown, hdg, hal, ho1, hval, hkm, hbel⟩ := hrel
    rw [hsl] at hkm
    have HV := Lib.hid (And.intro hdg (And.intro hal hval))
    have hacl : acc.length ≤ 1048576 := by omega
    clear hdg hal hval
    by_cases hlt : k < s.size
    · have hkn : Hid (k + 1 ≤ s.data.toList.length) := by show _ ≤ _; rw [hsl]; exact hlt
      obtain ⟨x, hx⟩ : ∃ x, digAt s.data.toList k = x := ⟨_, rfl⟩
      obtain ⟨y, hy⟩ : ∃ y, digAt t.data.toList k = y := ⟨_, rfl⟩
      have cA1 := fun W => cA k W (by omega)
      have cB1 := fun W => cB k W (by omega)
      have hx1 := HI.out.1 k
      have hy1 := HI.out.2.1 k
      have HX := Lib.hid (HI.out.2.2.1 k)
      have HY := Lib.hid (HI.out.2.2.2 k)
      rw [hx] at cA1 hx1 HX
      rw [hy] at cB1 hy1 HY
      clear hx hy
      have hdo : ∃ d o' : Nat, d < 10 ∧ o' ≤ 1 ∧ d + y + o = x + 10 * o' := by
        by_cases h : y + o ≤ x
        · exact ⟨x - y - o, 0, by omega, by omega, by omega⟩
        · exact ⟨x + 10 - y - o, 1, by omega, by omega, by omega⟩
      obtain ⟨d, o', hd10, ho', hdo⟩ := hdo
      have HS := Lib.hid (off_step HV.out.1 HV.out.2.1 HV.out.2.2 hdo hd10)
      rw [← HX.out, ← HY.out] at HS
      obtain ⟨b, hb⟩ : ∃ b, dig d = b := ⟨_, rfl⟩
      rw [hb] at HS
      have hb48 : (b.toNat : Int) = 48 + (d : Int) := by rw [← hb, dig_toNat hd10]; omega
      have hbl := b.toNat_lt
      clear hb HX HY HI cA cB HV
      have hcase : (o' = 0 ∧ ¬ (x : Int) - (y : Int) - (o : Int) < 0 ∧ 48 + ((x : Int) - (y : Int) - (o : Int)) = (b.toNat : Int)) ∨ (o' = 1 ∧ (x : Int) - (y : Int) - (o : Int) < 0 ∧ 48 + ((x : Int) - (y : Int) - (o : Int) + 10) = (b.toNat : Int)) := by omega
      clear hb48 hdo hd10
      rcases hcase with ⟨rfl, h1, h2⟩ | ⟨rfl, h1, h2⟩
      all_goals
        go_wp2_with fail
        refine (cA1 _).mono ?_
        rintro e wA ⟨rfl, BA⟩
        go_wp2_with fail
        refine (cB1 _).mono ?_
        rintro e wB ⟨rfl, BB⟩
        have D2 := hbel.trans ((BA.trans (BB.mono BA.size)).mono hbel.size)
        have hown1 := row_keptN (row_keptN hown BA (Nat.le_refl _)) BB (Nat.le_refl _)
        clear hown hbel BA BB cA1 cB1
        have hlit := lit_own wB b D2.size
        go_wp2_with (at_builtin; go_must (refine wpList_append_own _ rfl _ _ 43 rfl w.heap.size 5 i0 (.int .u8 0) 1 1 Tryd.underlying43 hi hz0 hz1 hz2 rfl (by decide) _ _ _ rfl hlit ⟨g, 0, none⟩ _ _ (byteCells acc) rfl (by simp [byteCells]) (own_cells (hown1.alloc _)) (bytes_oneN acc) (by unfold maxLen; simp; omega) (by simp; omega) (by have := D2.size; simp; omega) ?_); intro v' w2 hown2 hgrow2 _; have hown3 := own_catN (a := [b]) (b := acc) hown2; obtain ⟨g2, c2, rfl⟩ := own_some (n := acc.length) (by rw [Nat.add_comm] at hown2; exact hown2))
        have hb1 : Below w.heap.size w w2 := (D2.alloc D2.size _).grown hgrow2 (by have := D2.size; simp; omega) (own_block hlit)
        have O3 := Lib.hid hown3
        clear hown2 hown3 hgrow2 hown1 hlit D2
        go_wp2
        go_roundw
        case rel => exact ⟨k + 1, _, b :: acc, g2, c2, by go_num, rfl, rfl, O3.out, HS.out.1, HS.out.2.1, ho', HS.out.2.2, hkn.out, hb1⟩
        case measure => simp [intOf]; omega
    · have HE : Hid (trim acc = natOf (val s.data.toList - val t.data.toList)) := by
        show _ = _
        rw [trim_eq HV.out.1]
        congr 1
        have h3 := HV.out.2.2
        have h4 := val_lt HV.out.1
        rw [low_all (l := t.data.toList) (by rw [htl]; omega), low_all (l := s.data.toList) (by rw [hsl]; omega)] at h3
        rw [HV.out.2.1] at h4
        have h5 := HLE.out
        have h6 : o = 0 ∨ o = 1 := by omega
        rcases h6 with rfl | rfl <;> omega
      have hcvt := conv_own (P := Tryd.prog) (dst := 9) Tryd.underlying43 Tryd.underlying5 Tryd.underlying9 hown
      have cT := specTrim (⟨acc.toArray⟩ : ByteArray) wr (show acc.length ≤ _ by omega)
      clear HI cA cB HV hkm
      go_wp2_with fail
      refine cT.mono ?_
      rintro e w2 ⟨rfl, B2⟩
      have D2 := hbel.trans (B2.mono hbel.size)
      clear B2 hbel cT hcvt hown
      go_wp2
      go_ret
      exact ⟨by rw [← HE.out]; rfl, D2⟩

end Go.Proofs.YtpkmhojcccpolaaDoor
