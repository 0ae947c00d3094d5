/-
  A REQUEST THAT CAME IN, AS IT IS READ.
-/
import Derived.Test.YtffjfadmhpfmbaaLawV
import Derived.Test.YtffjfadmhpfmbaaS13
namespace Go.Proofs.Ytffjfadmhpfmbaa
open Go Go.Am Go.RowKit Go.ChangeShapes Go.WideShapes Go.ChangeAt Go.Deep
set_option linter.unusedVariables false
section
variable {H : Type} {enc : TypeId × Value → H} {w : World} {base : Nat} {sp : Nat → Bool} {held : Bool}
theorem info_Request : ∃ f0 f1 f2 : Field, Try.prog.underlying 24 = some (.struct #[f0, f1, f2]) ∧ f0.type = 2 ∧ f1.type = 2 ∧ f2.type = 22 ∧ offsB Try.prog 0 [f0, f1, f2] (Try.prog.cellsOf 24) = true :=
  ⟨_, _, _, Try.underlying24, rfl, rfl, rfl, by kernel_rfl⟩
theorem reads_Request : Reads enc Try.prog w base sp held 24 fun us => ∃ x : ReqD, us = reqC x ∧ MemRq x := by
  obtain ⟨f0, f1, f2, hu, h0, h1, h2, ho⟩ := info_Request
  refine (reads_struct hu [isIntV, isIntV, fun us => ∃ xs : List ByteArray, us = [.lst (xs.map strR)] ∧ xs.length ≤ maxLen ∧ ∀ x ∈ xs, x.size ≤ maxLen] ho ⟨?_, ?_, ?_, trivial⟩).mono ?_
  · show Reads enc _ w base sp held f0.type _; rw [h0]; exact reads_iV
  · show Reads enc _ w base sp held f1.type _; rw [h1]; exact reads_iV
  · show Reads enc _ w base sp held f2.type _; rw [h2]; exact reads_StrS
  rintro us ⟨ps, hp, rfl⟩
  obtain ⟨_, _, _, rfl, ⟨a, rfl, ha⟩, ⟨b, rfl, hb⟩, ⟨c, rfl, hc, hc2⟩⟩ := all3V hp
  exact ⟨⟨a, b, c⟩, rfl, Nat.le_trans hc (by decide), fun x hx => Nat.le_trans (hc2 x hx) (by decide), ha, hb⟩
theorem request_came {vs : Array Value} {d : DataW H} {ps : List MemPlace} (h : DataW.Trod enc Try.prog w base sp held 24 (.agg vs) d ps) : ∃ b : ReqD, MemRq b ∧ VRel w (fun b => b < w.heap.size) (fun _ => none) (.agg vs) (reqV b) := by
  obtain ⟨us, ⟨b, rfl, hm⟩, hv⟩ := reads_aggV reads_Request h
  exact ⟨b, hm, hv⟩
end
end Go.Proofs.Ytffjfadmhpfmbaa
