/-
  VALS THAT CAME IN, AS THEY ARE READ.
-/
import Derived.Test.YtffjfadmhpfmbaaLawV
import Derived.Test.YtffjfadmhpfmbaaS12
namespace Go.Proofs.Ytffjfadmhpfmbaa
open Go Go.Am Go.RowKit Go.ChangeShapes Go.WideShapes Go.ChangeAt Go.Deep
set_option linter.unusedVariables false
section
variable {H : Type} {enc : TypeId × Value → H} {w : World} {base : Nat} {sp : Nat → Bool} {held : Bool}
theorem info_Val : ∃ f0 f1 f2 : Field, Try.prog.underlying 46 = some (.struct #[f0, f1, f2]) ∧ f0.type = 2 ∧ f1.type = 2 ∧ f2.type = 9 ∧ offsB Try.prog 0 [f0, f1, f2] (Try.prog.cellsOf 46) = true :=
  ⟨_, _, _, Try.underlying46, rfl, rfl, rfl, by kernel_rfl⟩
theorem reads_Val : Reads enc Try.prog w base sp held 46 fun us => ∃ x : ValD, us = valR x ∧ (x.text.size ≤ 9223372036854775807 ∧ isI64 x.kind ∧ isI64 x.num) := by
  obtain ⟨f0, f1, f2, hu, h0, h1, h2, ho⟩ := info_Val
  refine (reads_struct hu [isIntV, isIntV, isStrV] ho ⟨?_, ?_, ?_, trivial⟩).mono ?_
  · show Reads enc _ w base sp held f0.type _; rw [h0]; exact reads_iV
  · show Reads enc _ w base sp held f1.type _; rw [h1]; exact reads_iV
  · show Reads enc _ w base sp held f2.type _; rw [h2]; exact reads_sV
  rintro us ⟨ps, hp, rfl⟩
  obtain ⟨_, _, _, rfl, ⟨a, rfl, ha⟩, ⟨b, rfl, hb⟩, ⟨c, rfl, hc⟩⟩ := all3V hp
  exact ⟨⟨a, b, c⟩, rfl, Nat.le_trans hc (by decide), ha, hb⟩
theorem reads_ValS : Reads enc Try.prog w base sp held 31 fun us => ∃ xs : List ValD, us = [valsV xs] ∧ MemVs xs :=
  (reads_slice Try.underlying31 (by rw [show Try.prog.cellsOf 46 = 3 from by kernel_rfl]; decide) reads_Val).mono fun us ⟨rows, h1, h2, h3⟩ => by
    obtain ⟨zs, g1, g2, g3⟩ := rows_of (f := valR) h3
    exact ⟨zs, by rw [h1, g1], Nat.le_trans (by omega) (show maxLen ≤ 9223372036854775807 by decide), g2⟩
theorem vals_came {a : Option Addr} {len cap : Nat} {d : DataW H} {ps : List MemPlace} (h : DataW.Trod enc Try.prog w base sp held 31 (.slice a len cap) d ps) : ∃ b : List ValD, MemVs b ∧ VRel w (fun b => b < w.heap.size) (fun _ => none) (.slice a len cap) (valsV b) := by
  obtain ⟨us, ⟨b, rfl, hm⟩, hv⟩ := reads_cellV reads_ValS rfl h
  exact ⟨b, hm, hv _ rfl⟩
end
end Go.Proofs.Ytffjfadmhpfmbaa
