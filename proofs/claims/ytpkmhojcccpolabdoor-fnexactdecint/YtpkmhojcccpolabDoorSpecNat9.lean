/- spec.l02Mul, spec.NatMul. Conditions: naturals; at most 1048576 bytes. -/
import Derived.Test.YtpkmhojcccpolabDoorSpecNat8
import Derived.StillTailTactics
namespace Go.Proofs.YtpkmhojcccpolabDoor
set_option linter.unusedVariables false
open Go.RowKit
open Go.Lib (byteCells)

def mulOf (s t : ByteArray) : List UInt8 × Bool := if NatS s ∧ NatS t then fits (nv s * nv t) else ([], false)

theorem Tryd.infoIntN : (Tryd.prog.info? 3).map (fun i => (i.zero, i.size, i.bytes)) = some (some (.int .i64 0), 1, 8) := by kernel_rfl

set_option maxHeartbeats 2000000 in
set_option maxRecDepth 100000 in
theorem specDigitS (s : ByteArray) (k : Nat) (w : World) (hs : s.size ≤ 1048576) (hk : k ≤ 10000000) (hd : Digs s.data.toList) : Calls Tryd.prog 25 #[.string s, .int .i64 k] w fun e w' => e = .returned (.int .i64 (digAt s.data.toList k : Nat)) ∧ w' = w := by
  have hsl := size_list s
  by_cases h : k < s.size
  · obtain ⟨j, hj⟩ : ∃ j : Nat, s.size - 1 - k = j := ⟨_, rfl⟩
    have hjs : j < s.size := by omega
    obtain ⟨x, hx⟩ : ∃ x, s[j] = x := ⟨_, rfl⟩
    have hdx : IsD x := hd x (by rw [← hx]; exact List.getElem_mem (l := s.data.toList) (by rw [hsl]; exact hjs))
    have HE : Hid (digAt s.data.toList k = x.toNat - 48) := by
      show _ = _
      unfold digAt
      rw [if_pos (by rw [hsl]; exact h), hsl, hj]
      simp only [List.getD, List.getElem?_eq_getElem (show j < s.data.toList.length by rw [hsl]; exact hjs), Option.getD_some]
      rw [at_list s j hjs, hx]; rfl
    unfold IsD at hdx
    have e1 : (s.size : Int) - 1 - (k : Int) = (j : Int) := by omega
    have e2 : (x.toNat : Int) - 48 = ((x.toNat - 48 : Nat) : Int) := by omega
    obtain ⟨h48, h57⟩ := hdx
    have v1 := IntWalk.u8_in ((x.toNat : Int) - 48) ⟨by omega, by omega⟩
    clear hd hsl hj
    go_enter Tryd.func25, Tryd.ntmps25
    go_wp2
    go_ret
    exact ⟨by rw [HE.out, ← e2]; rfl, rfl⟩
  · have HE : Hid (digAt s.data.toList k = 0) := by
      show _ = _
      unfold digAt
      rw [if_neg (by rw [hsl]; exact h)]
    clear hd hsl
    go_enter Tryd.func25, Tryd.ntmps25
    go_wp2
    go_ret
    exact ⟨by rw [HE.out]; rfl, rfl⟩

def intCells (L : List Nat) : List Value := L.map fun n : Nat => Value.int .i64 (n : Int)
/-- The sums of the products of digits, so far. -/
structure Sums (la lb : List UInt8) (L : List Nat) (T B : Nat) : Prop where
  len : L.length = la.length + lb.length + 1
  sum : wsum L = T
  bound : ∀ n ∈ L, n ≤ B

theorem sums_set {la lb : List UInt8} {L : List Nat} {T B m v : Nat} (h : Sums la lb L T B) (hm : m < L.length) (hv : v ≤ 81) : Sums la lb (L.set m (L[m] + v)) (T + v * 10 ^ m) (B + 81) :=
  ⟨by rw [List.length_set]; exact h.len, by rw [wsum_set L m v hm, h.sum], fun n hn => by
    rcases List.mem_or_eq_of_mem_set hn with h1 | h1
    · exact Nat.le_trans (h.bound n h1) (by omega)
    · rw [h1]; have := h.bound _ (List.getElem_mem hm); omega⟩
theorem int_set (L : List Nat) (m v : Nat) : (intCells L).set m (.int .i64 (v : Int)) = intCells (L.set m v) := by
  unfold intCells; rw [List.map_set]

def MulRel (la lb : List UInt8) (w : World) (n : Nat) (iv : Value) (wr : World) : Prop :=
  ∃ (i : Nat) (L : List Nat), i ≤ la.length ∧ iv = .int .i64 (i : Int) ∧ Sums la lb L (low la i * val lb) (81 * 600 * i) ∧ wr.ownsRow w.heap.size 3 1 (.slice (some ⟨w.heap.size, 0, none⟩) n n) n (intCells L) ∧ Below w.heap.size w wr
def MulIn (la lb : List UInt8) (w : World) (n i x : Nat) (kv : Value) (wr : World) : Prop :=
  ∃ (k : Nat) (L : List Nat), k ≤ lb.length ∧ kv = .int .i64 (k : Int) ∧ Sums la lb L (low la i * val lb + x * 10 ^ i * low lb k) (81 * 600 * i + 81 * k) ∧ wr.ownsRow w.heap.size 3 1 (.slice (some ⟨w.heap.size, 0, none⟩) n n) n (intCells L) ∧ Below w.heap.size w wr
def MulOut (L : List Nat) (w : World) (v cv kv : Value) (wr : World) : Prop :=
  ∃ (k c : Nat) (acc : List UInt8) (g cp : Nat), k ≤ L.length ∧ kv = .int .i64 (k : Int) ∧ cv = .int .i64 (c : Int) ∧ v = .slice (some ⟨g, 0, none⟩) acc.length cp ∧ wr.ownsRow w.heap.size 5 1 v acc.length (byteCells acc) ∧
    Digs acc ∧ acc.length = k ∧ c ≤ 4000000 ∧ val acc + c * 10 ^ k = wsum (L.take k) ∧ Below w.heap.size w wr



end Go.Proofs.YtpkmhojcccpolabDoor
