/-
  A BLOCK THAT CAME IN, AS IT IS READ.
-/
import Derived.Test.YtfnehjminipaeaaLawC
import Derived.Test.YtfnehjminipaeaaP59
namespace Go.Proofs.Ytfnehjminipaeaa
open Go Go.Am Go.RowKit Go.ChangeShapes Go.WideShapes Go.ChangeAt Go.Deep
set_option linter.unusedVariables false
section
variable {H : Type} {enc : TypeId × Value → H} {w : World} {base : Nat} {sp : Nat → Bool} {held : Bool}
theorem all5 {Z0 Z1 Z2 Z3 Z4 : List AV → Prop} {ps : List (List AV)} (h : All2 (fun (Z : List AV → Prop) p => Z p) [Z0, Z1, Z2, Z3, Z4] ps) : ∃ p0 p1 p2 p3 p4, ps = [p0, p1, p2, p3, p4] ∧ Z0 p0 ∧ Z1 p1 ∧ Z2 p2 ∧ Z3 p3 ∧ Z4 p4 :=
  match ps, h with
  | [p0, p1, p2, p3, p4], h => ⟨p0, p1, p2, p3, p4, rfl, h.1, h.2.1, h.2.2.1, h.2.2.2.1, h.2.2.2.2.1⟩
abbrev isIntR : List AV → Prop := fun us => ∃ z : Int, us = [iv z] ∧ isI64 z
theorem reads_ir : Reads enc Try.prog w base sp held 2 isIntR := (reads_int info_i64).mono fun us ⟨z, h, hw⟩ => ⟨z, h, wf_i64 hw⟩
theorem reads_TxS : Reads enc Try.prog w base sp held 22 fun us => ∃ xs : List TxD, us = [txsV xs] ∧ xs.length ≤ maxLen ∧ ∀ x ∈ xs, Mem x :=
  (reads_slice Try.underlying22 (by rw [show Try.prog.cellsOf 61 = 3 from by kernel_rfl]; decide) reads_Tx).mono fun us ⟨rows, h1, h2, h3⟩ => by
    obtain ⟨zs, g1, g2, g3⟩ := rows_of (f := txC) h3
    exact ⟨zs, by rw [h1, g1], by omega, g2⟩
theorem info_Block : ∃ f0 f1 f2 f3 f4 : Field, Try.prog.underlying 24 = some (.struct #[f0, f1, f2, f3, f4]) ∧ f0.type = 2 ∧ f1.type = 2 ∧ f2.type = 2 ∧ f3.type = 2 ∧ f4.type = 22 ∧ offsB Try.prog 0 [f0, f1, f2, f3, f4] (Try.prog.cellsOf 24) = true :=
  ⟨_, _, _, _, _, Try.underlying24, rfl, rfl, rfl, rfl, rfl, by kernel_rfl⟩
theorem reads_Block : Reads enc Try.prog w base sp held 24 fun us => ∃ x : BlkD, us = blkC x ∧ MemB x := by
  obtain ⟨f0, f1, f2, f3, f4, hu, h0, h1, h2, h3, h4, ho⟩ := info_Block
  refine (reads_struct hu [isInt, isInt, isIntR, isInt, fun us => ∃ xs : List TxD, us = [txsV xs] ∧ xs.length ≤ maxLen ∧ ∀ x ∈ xs, Mem x] ho ⟨?_, ?_, ?_, ?_, ?_, trivial⟩).mono ?_
  · show Reads enc _ w base sp held f0.type isInt; rw [h0]; exact reads_i
  · show Reads enc _ w base sp held f1.type isInt; rw [h1]; exact reads_i
  · show Reads enc _ w base sp held f2.type isIntR; rw [h2]; exact reads_ir
  · show Reads enc _ w base sp held f3.type isInt; rw [h3]; exact reads_i
  · show Reads enc _ w base sp held f4.type _; rw [h4]; exact reads_TxS
  rintro us ⟨ps, hp, rfl⟩
  obtain ⟨_, _, _, _, _, rfl, ⟨a, rfl⟩, ⟨b, rfl⟩, ⟨c, rfl, hc⟩, ⟨d, rfl⟩, ⟨e, rfl, he1, he2⟩⟩ := all5 hp
  exact ⟨⟨a, b, c, d, e⟩, rfl, Nat.le_trans he1 (by decide), he2, hc⟩
theorem block_came {vs : Array Value} {d : DataW H} {ps : List MemPlace} (h : DataW.Trod enc Try.prog w base sp held 24 (.agg vs) d ps) : ∃ b : BlkD, MemB b ∧ VRel w (fun b => b < w.heap.size) (fun _ => none) (.agg vs) (blkV b) := by
  obtain ⟨us, ⟨b, rfl, hm⟩, hv⟩ := reads_agg reads_Block h
  exact ⟨b, hm, hv⟩
end
end Go.Proofs.Ytfnehjminipaeaa
