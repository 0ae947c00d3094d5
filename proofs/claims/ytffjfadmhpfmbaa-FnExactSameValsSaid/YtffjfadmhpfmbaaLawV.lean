/-
  VALS AND REQUESTS THAT CAME IN, AS THEY ARE READ.
-/
import Derived.Test.YtffjfadmhpfmbaaLawA
import Derived.Test.YtffjfadmhpfmbaaS0
namespace Go.Proofs.Ytffjfadmhpfmbaa
open Go Go.Am Go.RowKit Go.ChangeShapes Go.WideShapes Go.ChangeAt Go.Deep
set_option linter.unusedVariables false
section
variable {H : Type} {enc : TypeId × Value → H} {w : World} {base : Nat} {sp : Nat → Bool} {held : Bool}
theorem all3V {Z0 Z1 Z2 : List AV → Prop} {ps : List (List AV)} (h : All2 (fun (Z : List AV → Prop) p => Z p) [Z0, Z1, Z2] ps) : ∃ p0 p1 p2, ps = [p0, p1, p2] ∧ Z0 p0 ∧ Z1 p1 ∧ Z2 p2 :=
  match ps, h with
  | [p0, p1, p2], h => ⟨p0, p1, p2, rfl, h.1, h.2.1, h.2.2.1⟩
theorem wf_i64V {z : Int} (h : (Lit.int .i64 z).wf = true) : isI64 z := by
  unfold isI64
  simpa [Lit.wf, IntKind.min, IntKind.max, IntKind.signed, IntKind.bits] using h
abbrev isIntV : List AV → Prop := fun us => ∃ z : Int, us = [iv z] ∧ isI64 z
abbrev isStrV : List AV → Prop := fun us => ∃ s : ByteArray, us = [sv s] ∧ s.size ≤ maxLen
theorem reads_iV : Reads enc Try.prog w base sp held 2 isIntV := (reads_int (by kernel_rfl)).mono fun us ⟨z, h, hw⟩ => ⟨z, h, wf_i64V hw⟩
theorem reads_sV : Reads enc Try.prog w base sp held 9 isStrV := by
  intro fuel cs x h
  obtain ⟨s, rfl, _, hs⟩ := DataW.trod_string (by kernel_rfl) h
  exact ⟨[sv s], ⟨s, rfl, hs⟩, .val _ rfl, trivial⟩
theorem reads_StrS : Reads enc Try.prog w base sp held 22 fun us => ∃ xs : List ByteArray, us = [.lst (xs.map strR)] ∧ xs.length ≤ maxLen ∧ ∀ x ∈ xs, x.size ≤ maxLen :=
  (reads_slice Try.underlying22 (by rw [show Try.prog.cellsOf 9 = 1 from by kernel_rfl]; decide) (Reads.mono (fun us ⟨s, h, hs⟩ => (⟨s, h, hs⟩ : ∃ x : ByteArray, us = strR x ∧ x.size ≤ maxLen)) reads_sV)).mono fun us ⟨rows, h1, h2, h3⟩ => by
    obtain ⟨zs, g1, g2, g3⟩ := rows_of (f := strR) h3
    exact ⟨zs, by rw [h1, g1], by omega, g2⟩
theorem reads_aggV {t : TypeId} {Z : List AV → Prop} (hr : Reads enc Try.prog w base sp held t Z) {vs : Array Value} {d : DataW H} {ps : List MemPlace} (h : DataW.Trod enc Try.prog w base sp held t (.agg vs) d ps) : ∃ us, Z us ∧ VRel w (fun b => b < w.heap.size) (fun _ => none) (.agg vs) (.agg us) := by
  obtain ⟨fuel, hf⟩ := h
  obtain ⟨us, h1, h2⟩ := hr _ _ _ hf
  refine ⟨us, h1, ?_⟩
  have hv : (Value.agg vs) = .agg vs.toList.toArray := by simp
  rw [hv]
  exact .one (.agg vs.toList us (All2.mono (fun _ _ h => .rd h) (by simpa [Value.cells] using h2)))
theorem reads_cellV {t : TypeId} {Z : List AV → Prop} (hr : Reads enc Try.prog w base sp held t Z) {v : Value} {d : DataW H} {ps : List MemPlace} (hv : v.cells.toList = [v]) (h : DataW.Trod enc Try.prog w base sp held t v d ps) : ∃ us, Z us ∧ ∀ a, us = [a] → VRel w (fun b => b < w.heap.size) (fun _ => none) v a := by
  obtain ⟨fuel, hf⟩ := h
  obtain ⟨us, h1, h2⟩ := hr _ _ _ hf
  refine ⟨us, h1, ?_⟩
  rintro a rfl
  rw [hv] at h2
  exact .one (.cell (.rd h2.1))
end
end Go.Proofs.Ytffjfadmhpfmbaa
