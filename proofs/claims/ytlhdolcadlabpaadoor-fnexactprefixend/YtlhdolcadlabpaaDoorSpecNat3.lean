/- The specification's naturals added, taken off. Conditions: digits, at most 1048576 bytes. -/
import Derived.Test.YtlhdolcadlabpaaDoorSpecNat2
namespace Go.Proofs.YtlhdolcadlabpaaDoor
set_option linter.unusedVariables false
open Go.RowKit
open Go.Lib (byteCells)

theorem own_some {w : World} {base : Nat} {e : TypeId} {v : Value} {n : Nat} {xs : List Value} (h : w.ownsRow base e 1 v (n + 1) xs) : ∃ g c, v = .slice (some ⟨g, 0, none⟩) (n + 1) c := by
  rcases h.2 with ⟨rfl, h0⟩ | ⟨g, cap, cur, rfl, _⟩
  · omega
  · exact ⟨_, _, rfl⟩

theorem own_cells {w : World} {base : Nat} {e : TypeId} {g n c : Nat} {xs : List Value} (h : w.ownsRow base e 1 (.slice (some ⟨g, 0, none⟩) n c) n xs) : ∀ (j : Nat) (u : Value), xs[j]? = some u → w.cell? ((⟨g, 0, none⟩ : Addr).add j) = some u :=
  fun j u hu => h.cells (g := g) rfl j u hu

/-- A digit ahead of a row of digits: the row, and what it tells. -/
theorem ahead_step {acc : List UInt8} {k c d : Nat} (hd : Digs acc) (hl : acc.length = k) {X Y : Nat} (hv : val acc + c * 10 ^ k = X) (e : Y = (d - c) * 10 ^ k + X) (hc : c ≤ d) :
    Digs (dig (d % 10) :: acc) ∧ (dig (d % 10) :: acc).length = k + 1 ∧ val (dig (d % 10) :: acc) + d / 10 * 10 ^ (k + 1) = Y := by
  have hm : d % 10 < 10 := Nat.mod_lt _ (by omega)
  refine ⟨fun b hb => ?_, by simp [hl], ?_⟩
  · rcases List.mem_cons.1 hb with rfl | hb
    · exact dig_is hm
    · exact hd b hb
  · rw [val_cons, dv_dig hm, hl, Nat.pow_succ]
    subst hv
    rw [e]
    have h1 : d / 10 * (10 ^ k * 10) = d / 10 * 10 * 10 ^ k := by rw [Nat.mul_comm (10 ^ k) 10, Nat.mul_assoc]
    rw [h1]
    have h2 : d % 10 * 10 ^ k + d / 10 * 10 * 10 ^ k = d * 10 ^ k := by
      rw [← Nat.add_mul]; congr 1; omega
    have h3 : (d - c) * 10 ^ k + c * 10 ^ k = d * 10 ^ k := by
      rw [← Nat.add_mul]; congr 1; omega
    omega

theorem lit_own (W : World) (b : UInt8) {base : Nat} (h : base ≤ W.heap.size) : (W.alloc (.cells #[.int .u8 (b.toNat : Int)] 5)).ownsRow base 5 1 (.slice (some ⟨W.heap.size, 0, none⟩) 1 1) ([b] : List UInt8).length (byteCells [b]) :=
  World.ownsRow_lit W #[.int .u8 (b.toNat : Int)] 1 h (by unfold maxLen; omega) rfl

theorem row_keptN {w w' : World} {base B : Nat} {e : TypeId} {size n : Nat} {v : Value} {xs : List Value} (h : w.ownsRow base e size v n xs) (hb : Below B w w') (hB : w.heap.size ≤ B) : w'.ownsRow base e size v n xs :=
  h.kept (row := none) ⟨hb.os, hb.tape, hb.output, hb.size, fun k hk _ => hb.block k (by omega)⟩ (by cases hv : v.ownBlock <;> simp)

def AddRel (la lb : List UInt8) (w : World) (v cv kv : Value) (wr : World) : Prop :=
  ∃ (k c : Nat) (acc : List UInt8) (g cp : Nat), kv = .int .i64 k ∧ cv = .int .i64 c ∧ v = .slice (some ⟨g, 0, none⟩) acc.length cp ∧ wr.ownsRow w.heap.size 5 1 v acc.length (byteCells acc) ∧
    Digs acc ∧ acc.length = k ∧ c ≤ 1 ∧ val acc + c * 10 ^ k = low la k + low lb k ∧ (k ≤ max la.length lb.length ∨ k = max la.length lb.length + 1 ∧ c = 0) ∧ Below w.heap.size w wr

set_option maxHeartbeats 1000000 in
set_option maxRecDepth 100000 in
theorem specAdd (s t : ByteArray) (w : World) (hs : s.size ≤ 100000) (ht : t.size ≤ 100000) (ds : Digs s.data.toList) (dt : Digs t.data.toList) :
    Calls Tryd.prog 60 #[.string s, .string t] w (AnsS (natOf (val s.data.toList + val t.data.toList)) w) := by
  obtain ⟨i0, hi, hz0, hz1, hz2⟩ := info_parts Tryd.infoByteN
  have hsl := size_list s
  have htl := size_list t
  have cA := fun (k : Nat) (W : World) (h : k ≤ 10000000) => specDigit s k W (by omega) h ds
  have cB := fun (k : Nat) (W : World) (h : k ≤ 10000000) => specDigit t k W (by omega) h dt
  have hdA := fun k => digAt_lt ds k
  have hdB := fun k => digAt_lt dt k
  have lsA := low_succ s.data.toList
  have lsB := low_succ t.data.toList
  have HI := Lib.hid (And.intro hdA (And.intro hdB (And.intro lsA lsB)))
  clear hdA hdB lsA lsB ds dt
  go_enter Tryd.func60, Tryd.ntmps60
  go_wp2
  go_loopw [5, 6, 7] (fun v cv kv wr => AddRel s.data.toList t.data.toList w v cv kv wr) (fun _ _ kv _ => max s.size t.size + 2 - (intOf kv).toNat)
  case atStart =>
    exact ⟨0, 0, [], w.heap.size, 0, rfl, rfl, rfl, World.ownsRow_lit w #[] 0 (Nat.le_refl _) (Nat.zero_le _) rfl, digs_nil, rfl, by omega, by rw [low_zero, low_zero]; rfl, .inl (Nat.zero_le _), (Below.refl _ _).alloc (Nat.le_refl _) _⟩
  case round =>
    obtain ⟨k, c, acc, g, cp, rfl, rfl, rfl, hown, hdg, hal, hc1, hval, hkm, hbel⟩ := hrel
    rw [hsl, htl] at hkm
    have HV := Lib.hid (And.intro hdg (And.intro hal hval))
    have hacl : acc.length ≤ 1048576 := by omega
    clear hdg hal hval
    by_cases hgo : k < s.size ∨ k < t.size ∨ 0 < c
    · have hkM : k ≤ max s.size t.size := by omega
      obtain ⟨x, hx⟩ : ∃ x, digAt s.data.toList k = x := ⟨_, rfl⟩
      obtain ⟨y, hy⟩ : ∃ y, digAt t.data.toList k = y := ⟨_, rfl⟩
      have cA1 := fun W => cA k W (by omega)
      have cB1 := fun W => cB k W (by omega)
      have hx1 := HI.out.1 k
      have hy1 := HI.out.2.1 k
      have hlast : Hid (k = max s.size t.size → x = 0 ∧ y = 0) := fun h => by
        rw [← hx, ← hy]
        unfold digAt
        rw [if_neg (by rw [hsl]; omega), if_neg (by rw [htl]; omega)]; exact ⟨rfl, rfl⟩
      have HL : Hid (low s.data.toList (k + 1) + low t.data.toList (k + 1) = (x + y + c - c) * 10 ^ k + (low s.data.toList k + low t.data.toList k)) := by
        show _ = _
        rw [HI.out.2.2.1, HI.out.2.2.2, hx, hy, show x + y + c - c = x + y by omega, Nat.add_mul]; omega
      rw [hx] at cA1 hx1
      rw [hy] at cB1 hy1
      clear hx hy
      obtain ⟨b, hb⟩ : ∃ b, dig ((x + y + c) % 10) = b := ⟨_, rfl⟩
      have HS := Lib.hid (ahead_step (d := x + y + c) HV.out.1 HV.out.2.1 HV.out.2.2 HL.out (by omega))
      rw [hb] at HS
      have hbv : (48 : Int) + ((x : Int) + (y : Int) + (c : Int)) % 10 = (b.toNat : Int) := by rw [← hb, dig_toNat (by omega)]; omega
      obtain ⟨c', hc'⟩ : ∃ c', (x + y + c) / 10 = c' := ⟨_, rfl⟩
      rw [hc'] at HS
      have hcv : ((x : Int) + (y : Int) + (c : Int)) / 10 = (c' : Int) := by omega
      have hc2 : c' ≤ 1 := by omega
      have hc3 : Hid (x = 0 ∧ y = 0 → c' = 0) := fun h => by omega
      have hbl := b.toNat_lt
      clear hb hc' hkm
      have hcase : (k : Int) < (s.size : Int) ∨ ((s.size : Int) ≤ (k : Int) ∧ (k : Int) < (t.size : Int)) ∨ ((s.size : Int) ≤ (k : Int) ∧ (t.size : Int) ≤ (k : Int) ∧ (0 : Int) < (c : Int)) := by omega
      have hrest : Hid (k + 1 ≤ max s.data.toList.length t.data.toList.length ∨ k + 1 = max s.data.toList.length t.data.toList.length + 1 ∧ c' = 0) := by
        rw [hsl, htl]
        by_cases hM : k = max s.size t.size
        · exact .inr ⟨by omega, hc3.out (hlast.out hM)⟩
        · exact .inl (by omega)
      clear hgo hlast hc3 HL HI cA cB HV
      rcases hcase with h1 | ⟨h1, h2⟩ | ⟨h1, h2, h3⟩
      all_goals
        go_wp2_with fail
        refine (cA1 _).mono ?_
        rintro e wA ⟨rfl, BA⟩
        go_wp2_with fail
        refine (cB1 _).mono ?_
        rintro e wB ⟨rfl, BB⟩
        have D2 := hbel.trans ((BA.trans (BB.mono BA.size)).mono hbel.size)
        have hown1 := row_keptN (row_keptN hown BA (Nat.le_refl _)) BB (Nat.le_refl _)
        clear hown hbel BA BB cA1 cB1
        have hlit := lit_own wB b D2.size
        go_wp2_with (at_builtin; go_must (refine wpList_append_own _ rfl _ _ 22 rfl w.heap.size 5 i0 (.int .u8 0) 1 1 Tryd.underlying22 hi hz0 hz1 hz2 rfl (by decide) _ _ _ rfl hlit ⟨g, 0, none⟩ _ _ (byteCells acc) rfl (by simp [byteCells]) (own_cells (hown1.alloc _)) (bytes_oneN acc) (by unfold maxLen; simp; omega) (by simp; omega) (by have := D2.size; simp; omega) ?_); intro v' w2 hown2 hgrow2 _; have hown3 := own_catN (a := [b]) (b := acc) hown2; obtain ⟨g2, c2, rfl⟩ := own_some (n := acc.length) (by rw [Nat.add_comm] at hown2; exact hown2))
        have hb1 : Below w.heap.size w w2 := (D2.alloc D2.size _).grown hgrow2 (by have := D2.size; simp; omega) (own_block hlit)
        have O3 := Lib.hid hown3
        clear hown2 hown3 hgrow2 hown1 hlit D2
        go_wp2
        go_roundw
        case rel => exact ⟨k + 1, c', b :: acc, g2, c2, by go_num, by rw [hcv], rfl, O3.out, HS.out.1, HS.out.2.1, hc2, HS.out.2.2, hrest.out, hb1⟩
        case measure => simp [intOf]; omega
    · have hc0 : c = 0 := by omega
      subst hc0
      have h1 : (s.size : Int) ≤ (k : Int) := by omega
      have h2 : (t.size : Int) ≤ (k : Int) := by omega
      have HE : Hid (trim acc = natOf (val s.data.toList + val t.data.toList)) := by
        show _ = _
        rw [trim_eq HV.out.1]
        congr 1
        have := HV.out.2.2
        rw [low_all (by rw [hsl]; omega), low_all (by rw [htl]; omega)] at this
        omega
      have hcvt := conv_own (P := Tryd.prog) (dst := 9) Tryd.underlying22 Tryd.underlying5 Tryd.underlying9 hown
      have cT := specTrim (⟨acc.toArray⟩ : ByteArray) wr (show acc.length ≤ _ by omega)
      clear HI cA cB HV hgo hkm
      go_wp2_with fail
      refine cT.mono ?_
      rintro e w2 ⟨rfl, B2⟩
      have D2 := hbel.trans (B2.mono hbel.size)
      clear B2 hbel cT hcvt hown
      go_wp2
      go_ret
      exact ⟨by rw [← HE.out]; rfl, D2⟩

end Go.Proofs.YtlhdolcadlabpaaDoor
