/-
  STRINGS: bytes, arguments (chapter 9), rests (chapter 10).
-/
import Derived.Test.YthpboccokdhpnaaAmT
import Derived.Test.YthpboccokdhpnaaM1
namespace Go.Proofs.Ythpboccokdhpnaa
open Go Go.Am Go.RowKit
set_option linter.unusedVariables false
set_option linter.unusedSimpArgs false
abbrev sv (b : ByteArray) : AV := .val (.string b)
/-- A string's k-th byte. -/
def chB (b : ByteArray) (k : Nat) : Int := ((b.toList.getD k 0).toNat : Int)
theorem chB_u8 (b : ByteArray) (k : Nat) : 0 ≤ chB b k ∧ chB b k ≤ 255 := by
  have := (b.toList.getD k 0).toNat_lt
  unfold chB
  omega
theorem byteRowK (b : ByteArray) (k : Nat) (h : k < b.size) : (byteRows b).getD (Int.toNat (k : Int)) [] = [uv (chB b k)] := by
  have hl : k < b.toList.length := by rw [ByteArray.toList_eq, Array.length_toList]; exact h
  unfold byteRows
  rw [rowK (fun c => [byteV c]) b.toList k hl]
  simp [byteV, chB, List.getD_eq_getElem?_getD, hl]
theorem byteAtK (b : ByteArray) (k : Nat) : byteAt b (k : Int) = uv (chB b k) := rfl
/-- A letter or a digit. -/
def letterI (z : Int) : Prop := (97 ≤ z ∧ z ≤ 122) ∨ (65 ≤ z ∧ z ≤ 90) ∨ (48 ≤ z ∧ z ≤ 57)
instance (z : Int) : Decidable (letterI z) := inferInstanceAs (Decidable (_ ∨ _))
def letTo (b : ByteArray) : Nat → Bool
  | 0 => true
  | k + 1 => letTo b k && decide (letterI (chB b k))
theorem letTo_no {b : ByteArray} {k : Nat} (h' : ¬ letterI (chB b k)) : ∀ {n : Nat}, k < n → letTo b n = false
  | 0, h => absurd h (Nat.not_lt_zero _)
  | n + 1, h => by
    rw [letTo]
    by_cases hk : k = n
    · subst hk; simp [h']
    · rw [letTo_no h' (by omega)]; rfl
def argF (b : ByteArray) : Bool := decide (b.size ≤ 12) && letTo b b.size
theorem l9Letter_ret (z : Int) (n : Nat) : Ret Try.prog 71 [uv z] [] n true (Is (bv (decide (letterI z))) [] n) := by
  refine Ret.fn ttOk Try.func71 rfl Try.call71 rfl rfl ?_
  refine Goes ?_
  repeat' first | refine W2.m ?_ ?_ | refine W1.m fun h => ?_ | fail
  all_goals
    refine FinOk.pure rfl rfl rfl ⟨?_, rfl, rfl⟩
    refine bvI ?_
    by_cases hL : letterI z
    · have hL' := hL
      unfold letterI at hL'
      rw [decide_eq_true hL]
      try first
        | exact decide_eq_true (by omega)
        | (exfalso; omega)
    · have hL' := hL
      unfold letterI at hL'
      rw [decide_eq_false hL]
      try first
        | exact decide_eq_false (by omega)
        | (exfalso; omega)
theorem l9Arg_ret (b : ByteArray) (hb : b.size ≤ 1048576) (n : Nat) : Ret Try.prog 69 [sv b] [] n true (Is (bv (argF b)) [] n) := by
  refine Ret.fn ttOk Try.func69 rfl Try.call69 rfl rfl ?_
  refine Goes ?_
  repeat' first | refine W2.m ?_ ?_ | refine W1.m fun h => ?_ | fail
  refine LoopP.go (fun k : Nat => k ≤ b.size ∧ letTo b k = true) (fun k => ⟨[(0, sv b), (3, iv k)], [], 0⟩) (fun k => b.size - k) 0 ⟨Nat.zero_le _, rfl⟩ (Weak.of rfl rfl ktA trivial) ?_
  intro k ⟨hk, hp⟩
  refine Goes ?_
  repeat' first | refine W2.m ?_ ?_ | refine W1.m fun h => ?_ | fail
  · have hlt : k < b.size := by omega
    rw [byteAtK b k]
    first | refine CallP.is (l9Letter_ret _ _) rfl ?_ | refine CallQ.is (l9Letter_ret _ _) rfl rfl ?_
    refine Goes ?_
    repeat' first | refine W2.m ?_ ?_ | refine W1.m fun h => ?_ | fail
    · refine FinOk.pure rfl rfl rfl ⟨?_, rfl, rfl⟩
      refine bvI ?_
      rw [argF, letTo_no (by simpa using h) hlt]; simp
    · refine ⟨k + 1, ⟨by omega, ?_⟩, by omega, (Weak.of rfl rfl ktA trivial)⟩
      rw [letTo, hp]; simpa using h
  · obtain rfl : k = b.size := by omega
    refine FinOk.pure rfl rfl rfl ⟨?_, rfl, rfl⟩
    refine bvI ?_
    rw [argF, hp]; simp; omega
theorem isArg_ret (b : ByteArray) (hb : b.size ≤ 1048576) (n : Nat) : Ret Try.prog 57 [sv b] [] n true (Is (bv (argF b)) [] n) := by
  have hbm : b.size ≤ maxLen := by unfold maxLen; omega
  refine Ret.fn ttOk Try.func57 rfl Try.call57 rfl rfl ?_
  refine Goes ?_
  repeat' first | refine W2.m ?_ ?_ | refine W1.m fun h => ?_ | fail
  · refine FinOk.pure rfl rfl rfl ⟨?_, rfl, rfl⟩
    refine bvI ?_
    have : ¬ b.size ≤ 12 := by omega
    simp [argF, this]
  refine LoopP.go (fun k : Nat => k ≤ b.size ∧ letTo b k = true) (fun k => ⟨[(11, .lst (byteRows b)), (12, iv b.size), (13, iv k)], [], 0⟩) (fun k => b.size - k) 0 ⟨Nat.zero_le _, rfl⟩ (by rw [show (iv b.size) = iv (byteRows b).length by rw [byteRows_len]]; exact (Weak.of rfl rfl ktA trivial)) ?_
  intro k ⟨hk, hp⟩
  refine Goes ?_
  repeat' first | refine W2.m ?_ ?_ | refine W1.m fun h => ?_ | fail
  · have hlt : k < b.size := by omega
    rw [byteRowK b k hlt]
    refine ⟨⟨by omega, by rw [byteRows_len]; omega, rfl⟩, ?_⟩
    refine Goes ?_
    repeat' first | refine W2.m ?_ ?_ | refine W1.m fun h => ?_ | fail
    all_goals first
      | (have hL : ¬ letterI (chB b k) := by unfold letterI; omega
         refine FinOk.pure rfl rfl rfl ⟨?_, rfl, rfl⟩
         refine bvI ?_
         rw [argF, letTo_no hL hlt]; simp; done)
      | (have hL : letterI (chB b k) := by unfold letterI; omega
         refine ⟨k + 1, ⟨by omega, ?_⟩, by omega, (Weak.of rfl rfl ktA trivial)⟩
         rw [letTo, hp, decide_eq_true hL]; rfl)
  · obtain rfl : k = b.size := by omega
    refine FinOk.pure rfl rfl rfl ⟨?_, rfl, rfl⟩
    refine bvI ?_
    rw [argF, hp]; simp; omega
end Go.Proofs.Ythpboccokdhpnaa
