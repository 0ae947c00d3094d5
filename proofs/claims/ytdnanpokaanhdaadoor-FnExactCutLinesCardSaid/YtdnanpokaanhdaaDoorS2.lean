/-
  STRINGS: strings.Contains at one byte; rests (chapter 10).
-/
import Derived.WalkKit
import Derived.Lib.Bytealg
import Derived.Lib.IndexAny
import Derived.Shelf.Abstract
import Derived.Test.YtdnanpokaanhdaaDoorAmZ
import Derived.Test.YtdnanpokaanhdaaDoorP1
import Derived.Test.YtdnanpokaanhdaaDoorS1
namespace Go.Proofs.YtdnanpokaanhdaaDoor
open Go Go.Am Go.RowKit Go.Shelf
attribute [local go_sem] Oper.semAt_some
set_option linter.unusedVariables false
set_option linter.unusedSimpArgs false
set_option maxRecDepth 100000 in
theorem indexByte_ret (b : ByteArray) (c : Int) (n : Nat) : Ret Tryd.prog 28 [sv b, uv c] [] n true (Is (iv (Lib.indexByte b.data.toList c.toNat.toUInt8)) [] n) := by
  have hent : ∀ args w, (callFunc 28 args).run Tryd.prog w = .ok (.enter 28 args) w := enters_of Tryd.func28 (by kernel_rfl) rfl
  refine Ret.of_below hent (fun K => trivial) ?_
  intro w ι A vs hC hrel
  match vs, hrel with
  | [v0, v1], ⟨r0, r1, _⟩ =>
  obtain rfl := r0.val_inv.1
  obtain rfl := r1.val_inv.1
  refine ⟨_, fun w' => .one (.cell (.rd (.val _ rfl))), ?_⟩
  go_enter Tryd.func28, Tryd.ntmps28
  go_wp2
  rw [run_callFunc_extern Tryd.func32 (by kernel_rfl) (by kernel_rfl) (by kernel_rfl) (e := Extern.BytealgIndexByte.indexByte) (by kernel_rfl), Lib.run_indexByteString]
  simp only [Result.andThen]
  rw [Oper.upon_value]
  go_wp2
  go_ret
  exact ⟨rfl, Below.refl _ _⟩
/-- Whether a byte occurs. -/
def hasB (b : ByteArray) (c : UInt8) : Bool := b.toList.contains c
theorem hasB_index (b : ByteArray) (c : UInt8) : hasB b c = decide (0 ≤ Lib.indexByte b.data.toList c) := by
  unfold hasB
  rw [ByteArray.toList_eq, Lib.contains_iff_indexByte]
theorem slIndex_ret (b : ByteArray) (c : UInt8) (n : Nat) : Ret Tryd.prog 26 [sv b, sv ⟨#[c]⟩] [] n true (Is (iv (Lib.indexByte b.data.toList c)) [] n) := by
  refine Ret.fn ttOk Tryd.func26 rfl Tryd.call26 rfl rfl ?_
  have hat : byteAt ⟨#[c]⟩ 0 = uv (c.toNat : Int) := by
    simp [byteAt, byteV, ByteArray.toList_eq]
  refine Goes ?_
  repeat' first | refine W2.m ?_ ?_ | refine W1.m fun h => ?_ | fail
  refine ⟨fun hq => ?_, fun hq => ?_⟩
  · refine Goes ?_
    repeat' first | refine W2.m ?_ ?_ | refine W1.m fun h => ?_ | fail
    refine FinOk.pure rfl rfl rfl ⟨?_, rfl, rfl⟩
    have hq' := (beq_iff_eq (α := List UInt8)).1 hq
    rw [ByteArray.toList_eq, ByteArray.toList_eq] at hq'
    rw [← hq']
    simp [Lib.indexByte]
  · refine Goes ?_
    repeat' first | refine W2.m ?_ ?_ | refine W1.m fun h => ?_ | fail
    have hr := fun m => indexByte_ret b (c.toNat : Int) m
    simp only [Int.toNat_natCast, Nat.toUInt8_eq, UInt8.ofNat_toNat] at hr
    refine ⟨⟨by omega, by show (0 : Int) < ((1 : Nat) : Int); omega⟩, ?_⟩
    refine Goes ?_
    repeat' first | refine W2.m ?_ ?_ | refine W1.m fun h => ?_ | fail
    simp only [hat]
    first | refine CallP.is (hr _) rfl ?_ | refine CallQ.is (hr _) rfl rfl ?_
    refine Goes ?_
    repeat' first | refine W2.m ?_ ?_ | refine W1.m fun h => ?_ | fail
    refine FinOk.pure rfl rfl rfl ⟨?_, rfl, rfl⟩
    rfl
theorem strIndex_ret (b : ByteArray) (c : UInt8) (n : Nat) : Ret Tryd.prog 22 [sv b, sv ⟨#[c]⟩] [] n true (Is (iv (Lib.indexByte b.data.toList c)) [] n) := by
  refine Ret.fn ttOk Tryd.func22 rfl Tryd.call22 rfl rfl ?_
  refine Goes ?_
  repeat' first | refine W2.m ?_ ?_ | refine W1.m fun h => ?_ | fail
  first | refine CallP.is (slIndex_ret b c _) rfl ?_ | refine CallQ.is (slIndex_ret b c _) rfl rfl ?_
  refine Goes ?_
  repeat' first | refine W2.m ?_ ?_ | refine W1.m fun h => ?_ | fail
  refine FinOk.pure rfl rfl rfl ⟨?_, rfl, rfl⟩
  rfl
def restF (b : ByteArray) : Bool := decide (b.size ≤ 161) && !hasB b 10
def hasTo (b : ByteArray) : Nat → Bool
  | 0 => false
  | k + 1 => hasTo b k || decide (chB b k = 10)
theorem hasB_to (b : ByteArray) : hasB b 10 = hasTo b b.size := by
  have key : ∀ k, k ≤ b.size → (b.toList.take k).contains 10 = hasTo b k := by
    intro k
    induction k with
    | zero => intro _; simp [hasTo]
    | succ k ih =>
      intro hk
      have hl : k < b.toList.length := by rw [ByteArray.toList_eq, Array.length_toList]; exact hk
      rw [takeS _ k hl, List.contains_append, ih (by omega), hasTo]
      congr 1
      unfold chB
      rw [List.getD_eq_getElem?_getD, List.getElem?_eq_getElem hl]
      simp only [Option.getD_some, List.contains_cons, List.contains_nil, Bool.or_false]
      by_cases h : b.toList[k] = 10
      · rw [h]; rfl
      · have h2 : ¬ ((b.toList[k].toNat : Int) = 10) := fun e => h (UInt8.toNat_inj.1 (by show _ = 10; omega))
        rw [decide_eq_false h2]
        simp [Ne.symm h]
  have hl : b.toList.length = b.size := by rw [ByteArray.toList_eq, Array.length_toList]; rfl
  rw [← key b.size (Nat.le_refl _), List.take_of_length_le (by omega)]
  rfl
theorem hasTo_yes {b : ByteArray} {k : Nat} (h' : chB b k = 10) : ∀ {n : Nat}, k < n → hasTo b n = true
  | 0, h => absurd h (Nat.not_lt_zero _)
  | n + 1, h => by
    rw [hasTo]
    by_cases hk : k = n
    · subst hk; simp [h']
    · rw [hasTo_yes h' (by omega)]; rfl
end Go.Proofs.YtdnanpokaanhdaaDoor
