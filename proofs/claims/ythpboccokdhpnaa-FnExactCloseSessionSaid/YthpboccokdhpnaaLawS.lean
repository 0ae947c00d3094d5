/-
  A SERVER THAT CAME IN, AS IT IS READ.
-/
import Derived.Test.YthpboccokdhpnaaLawA
import Derived.Test.YthpboccokdhpnaaS3
namespace Go.Proofs.Ythpboccokdhpnaa
open Go Go.Am Go.RowKit Go.ChangeShapes Go.WideShapes Go.ChangeAt Go.Deep
set_option linter.unusedVariables false
section
variable {H : Type} {enc : TypeId × Value → H} {w : World} {base : Nat} {sp : Nat → Bool} {held : Bool}
theorem allTwoS {Z0 Z1 : List AV → Prop} {ps : List (List AV)} (h : All2 (fun (Z : List AV → Prop) p => Z p) [Z0, Z1] ps) : ∃ p0 p1, ps = [p0, p1] ∧ Z0 p0 ∧ Z1 p1 :=
  match ps, h with
  | [p0, p1], h => ⟨p0, p1, rfl, h.1, h.2.1⟩
theorem all4S {Z0 Z1 Z2 Z3 : List AV → Prop} {ps : List (List AV)} (h : All2 (fun (Z : List AV → Prop) p => Z p) [Z0, Z1, Z2, Z3] ps) : ∃ p0 p1 p2 p3, ps = [p0, p1, p2, p3] ∧ Z0 p0 ∧ Z1 p1 ∧ Z2 p2 ∧ Z3 p3 :=
  match ps, h with
  | [p0, p1, p2, p3], h => ⟨p0, p1, p2, p3, rfl, h.1, h.2.1, h.2.2.1, h.2.2.2.1⟩
theorem wf_i64S {z : Int} (h : (Lit.int .i64 z).wf = true) : isI64 z := by
  unfold isI64
  simpa [Lit.wf, IntKind.min, IntKind.max, IntKind.signed, IntKind.bits] using h
abbrev isIntS : List AV → Prop := fun us => ∃ z : Int, us = [iv z] ∧ isI64 z
abbrev isStrS : List AV → Prop := fun us => ∃ s : ByteArray, us = [sv s] ∧ s.size ≤ maxLen
theorem reads_iS : Reads enc Try.prog w base sp held 2 isIntS := (reads_int (by kernel_rfl)).mono fun us ⟨z, h, hw⟩ => ⟨z, h, wf_i64S hw⟩
theorem reads_sS : Reads enc Try.prog w base sp held 9 isStrS := by
  intro fuel cs x h
  obtain ⟨s, rfl, _, hs⟩ := DataW.trod_string (by kernel_rfl) h
  exact ⟨[sv s], ⟨s, rfl, hs⟩, .val _ rfl, trivial⟩
theorem info_Session : ∃ f0 f1 f2 f3 : Field, Try.prog.underlying 72 = some (.struct #[f0, f1, f2, f3]) ∧ f0.type = 9 ∧ f1.type = 2 ∧ f2.type = 9 ∧ f3.type = 2 ∧ offsB Try.prog 0 [f0, f1, f2, f3] (Try.prog.cellsOf 72) = true :=
  ⟨_, _, _, _, Try.underlying72, rfl, rfl, rfl, rfl, by kernel_rfl⟩
theorem reads_Session : Reads enc Try.prog w base sp held 72 fun us => ∃ x : SessD, us = sessR x ∧ MemS x := by
  obtain ⟨f0, f1, f2, f3, hu, h0, h1, h2, h3, ho⟩ := info_Session
  refine (reads_struct hu [isStrS, isIntS, isStrS, isIntS] ho ⟨?_, ?_, ?_, ?_, trivial⟩).mono ?_
  · show Reads enc _ w base sp held f0.type _; rw [h0]; exact reads_sS
  · show Reads enc _ w base sp held f1.type _; rw [h1]; exact reads_iS
  · show Reads enc _ w base sp held f2.type _; rw [h2]; exact reads_sS
  · show Reads enc _ w base sp held f3.type _; rw [h3]; exact reads_iS
  rintro us ⟨ps, hp, rfl⟩
  obtain ⟨_, _, _, _, rfl, ⟨a, rfl, ha⟩, ⟨b, rfl, hb⟩, ⟨c, rfl, hc⟩, ⟨d, rfl, hd⟩⟩ := all4S hp
  exact ⟨⟨a, b, c, d⟩, rfl, Nat.le_trans ha (by decide), Nat.le_trans hc (by decide), hb, hd⟩
theorem reads_SessionS : Reads enc Try.prog w base sp held 22 fun us => ∃ xs : List SessD, us = [.lst (xs.map sessR)] ∧ xs.length ≤ maxLen ∧ ∀ x ∈ xs, MemS x :=
  (reads_slice Try.underlying22 (by rw [show Try.prog.cellsOf 72 = 4 from by kernel_rfl]; decide) reads_Session).mono fun us ⟨rows, h1, h2, h3⟩ => by
    obtain ⟨zs, g1, g2, g3⟩ := rows_of (f := sessR) h3
    exact ⟨zs, by rw [h1, g1], by omega, g2⟩
theorem info_Server : ∃ f0 f1 : Field, Try.prog.underlying 24 = some (.struct #[f0, f1]) ∧ f0.type = 22 ∧ f1.type = 2 ∧ offsB Try.prog 0 [f0, f1] (Try.prog.cellsOf 24) = true :=
  ⟨_, _, Try.underlying24, rfl, rfl, by kernel_rfl⟩
theorem reads_Server : Reads enc Try.prog w base sp held 24 fun us => ∃ x : ServD, us = servC x ∧ MemSv x := by
  obtain ⟨f0, f1, hu, h0, h1, ho⟩ := info_Server
  refine (reads_struct hu [fun us => ∃ xs : List SessD, us = [.lst (xs.map sessR)] ∧ xs.length ≤ maxLen ∧ ∀ x ∈ xs, MemS x, isIntS] ho ⟨?_, ?_, trivial⟩).mono ?_
  · show Reads enc _ w base sp held f0.type _; rw [h0]; exact reads_SessionS
  · show Reads enc _ w base sp held f1.type _; rw [h1]; exact reads_iS
  rintro us ⟨ps, hp, rfl⟩
  obtain ⟨_, _, rfl, ⟨a, rfl, ha, ha2⟩, ⟨b, rfl, hb⟩⟩ := allTwoS hp
  exact ⟨⟨a, b⟩, rfl, Nat.le_trans ha (by decide), ha2, hb⟩
theorem reads_aggS {t : TypeId} {Z : List AV → Prop} (hr : Reads enc Try.prog w base sp held t Z) {vs : Array Value} {d : DataW H} {ps : List MemPlace} (h : DataW.Trod enc Try.prog w base sp held t (.agg vs) d ps) : ∃ us, Z us ∧ VRel w (fun b => b < w.heap.size) (fun _ => none) (.agg vs) (.agg us) := by
  obtain ⟨fuel, hf⟩ := h
  obtain ⟨us, h1, h2⟩ := hr _ _ _ hf
  refine ⟨us, h1, ?_⟩
  have hv : (Value.agg vs) = .agg vs.toList.toArray := by simp
  rw [hv]
  exact .one (.agg vs.toList us (All2.mono (fun _ _ h => .rd h) (by simpa [Value.cells] using h2)))
theorem server_came {vs : Array Value} {d : DataW H} {ps : List MemPlace} (h : DataW.Trod enc Try.prog w base sp held 24 (.agg vs) d ps) : ∃ b : ServD, MemSv b ∧ VRel w (fun b => b < w.heap.size) (fun _ => none) (.agg vs) (servV b) := by
  obtain ⟨us, ⟨b, rfl, hm⟩, hv⟩ := reads_aggS reads_Server h
  exact ⟨b, hm, hv⟩
end
end Go.Proofs.Ythpboccokdhpnaa
