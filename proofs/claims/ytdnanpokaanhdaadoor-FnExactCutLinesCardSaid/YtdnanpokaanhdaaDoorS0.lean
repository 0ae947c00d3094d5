/-
  LISTS OF STRINGS, how the laws copy, compare and measure them.
-/
import Derived.Test.YtdnanpokaanhdaaDoorP16
import Derived.Test.YtdnanpokaanhdaaDoorS1
namespace Go.Proofs.YtdnanpokaanhdaaDoor
open Go Go.Am Go.RowKit
set_option linter.unusedVariables false
set_option linter.unusedSimpArgs false
abbrev strR (x : ByteArray) : List AV := [sv x]
theorem eqStringS_yes (a : List ByteArray) (n : Nat) (hl : a.length ≤ 1048576) : Ret Tryd.prog 15 [.lst (a.map strR), .lst (a.map strR)] [] n true (Is (bv true) [] n) := by
  have hL : (a.map strR).length = a.length := by simp
  refine Ret.fn ttOk Tryd.func15 rfl Tryd.call15 rfl rfl ?_
  refine Goes ?_
  repeat' first | refine W2.m ?_ ?_ | refine W1.m fun h => ?_ | fail
  refine LoopP.go (fun k : Nat => k ≤ a.length) (fun k => ⟨[(0, .lst (a.map strR)), (1, .lst (a.map strR)), (5, iv k)], [], 0⟩) (fun k => a.length - k) 0 (Nat.zero_le _) (Weak.of rfl rfl ktA trivial) ?_
  intro k hk
  refine Goes ?_
  repeat' first | refine W2.m ?_ ?_ | refine W1.m fun h => ?_ | fail
  · have hka : k < a.length := by omega
    rw [rowK strR a k hka]
    refine ⟨by rw [hL]; exact ⟨by omega, by omega, rfl⟩, ?_⟩
    refine Goes ?_
    repeat' first | refine W2.m ?_ ?_ | refine W1.m fun h => ?_ | fail
    rw [rowK strR a k hka]
    refine ⟨by rw [hL]; exact ⟨by omega, by omega, rfl⟩, ?_⟩
    refine Goes ?_
    repeat' first | refine W2.m ?_ ?_ | refine W1.m fun h => ?_ | fail
    simp only [beq_self_eq_true, Bool.not_true]
    refine Goes ?_
    repeat' first | refine W2.m ?_ ?_ | refine W1.m fun h => ?_ | fail
    exact ⟨k + 1, by omega, by omega, (Weak.of rfl rfl ktA trivial)⟩
  · refine FinOk.pure rfl rfl rfl ⟨?_, rfl, rfl⟩
    rfl
end Go.Proofs.YtdnanpokaanhdaaDoor
