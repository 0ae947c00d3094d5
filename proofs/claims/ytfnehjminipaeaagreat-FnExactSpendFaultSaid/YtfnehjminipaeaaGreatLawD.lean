/-
  COINS THAT CAME IN, AS THEY ARE READ.
-/
import Derived.Test.YtfnehjminipaeaaGreatLawC
import Derived.Test.YtfnehjminipaeaaGreatM10
namespace Go.Proofs.YtfnehjminipaeaaGreat
open Go Go.Am Go.RowKit Go.ChangeShapes Go.WideShapes Go.ChangeAt Go.Deep
set_option linter.unusedVariables false
section
variable {H : Type} {enc : TypeId × Value → H} {w : World} {base : Nat} {sp : Nat → Bool} {held : Bool}
theorem all6 {Z0 Z1 Z2 Z3 Z4 Z5 : List AV → Prop} {ps : List (List AV)} (h : All2 (fun (Z : List AV → Prop) p => Z p) [Z0, Z1, Z2, Z3, Z4, Z5] ps) : ∃ p0 p1 p2 p3 p4 p5, ps = [p0, p1, p2, p3, p4, p5] ∧ Z0 p0 ∧ Z1 p1 ∧ Z2 p2 ∧ Z3 p3 ∧ Z4 p4 ∧ Z5 p5 := by
  match ps, h with
  | [p0, p1, p2, p3, p4, p5], h => exact ⟨p0, p1, p2, p3, p4, p5, rfl, h.1, h.2.1, h.2.2.1, h.2.2.2.1, h.2.2.2.2.1, h.2.2.2.2.2.1⟩
abbrev isBool : List AV → Prop := fun us => ∃ z : Bool, us = [bv z]
theorem info_bool : Tryz.prog.underlying 4 = some .bool := by kernel_rfl
theorem reads_b : Reads enc Tryz.prog w base sp held 4 isBool := reads_bool info_bool
/-- A value of one cell that came in. -/
theorem reads_cell {t : TypeId} {Z : List AV → Prop} (hr : Reads enc Tryz.prog w base sp held t Z) {v : Value} {d : DataW H} {ps : List MemPlace} (hv : v.cells.toList = [v]) (h : DataW.Trod enc Tryz.prog w base sp held t v d ps) : ∃ us, Z us ∧ All2 (Rd w (Old w)) [v] us := by
  obtain ⟨fuel, hf⟩ := h
  obtain ⟨us, h1, h2⟩ := hr _ _ _ hf
  exact ⟨us, h1, by simpa [hv] using h2⟩
theorem int_came {z : Int} {d : DataW H} {ps : List MemPlace} (h : DataW.Trod enc Tryz.prog w base sp held 2 (.int .i64 z) d ps) : ∃ x : Int, VRel w (fun b => b < w.heap.size) (fun _ => none) (.int .i64 z) (iv x) := ⟨z, .one (.cell (.rd (.val _ rfl)))⟩
theorem info_Coin : ∃ f0 f1 f2 f3 f4 f5 : Field, Tryz.prog.underlying 198 = some (.struct #[f0, f1, f2, f3, f4, f5]) ∧ f0.type = 2 ∧ f1.type = 2 ∧ f2.type = 2 ∧ f3.type = 42 ∧ f4.type = 2 ∧ f5.type = 4 ∧ offsB Tryz.prog 0 [f0, f1, f2, f3, f4, f5] (Tryz.prog.cellsOf 198) = true :=
  ⟨_, _, _, _, _, _, Tryz.underlying198, rfl, rfl, rfl, rfl, rfl, rfl, by kernel_rfl⟩
theorem reads_Coin : Reads enc Tryz.prog w base sp held 198 fun us => ∃ x : CoinD, us = coinRow x ∧ pCoin x ≤ maxLen := by
  obtain ⟨f0, f1, f2, f3, f4, f5, hu, h0, h1, h2, h3, h4, h5, ho⟩ := info_Coin
  refine (reads_struct hu [isInt, isInt, isInt, isInts, isInt, isBool] ho ⟨?_, ?_, ?_, ?_, ?_, ?_, trivial⟩).mono ?_
  · show Reads enc _ w base sp held f0.type isInt; rw [h0]; exact reads_i
  · show Reads enc _ w base sp held f1.type isInt; rw [h1]; exact reads_i
  · show Reads enc _ w base sp held f2.type isInt; rw [h2]; exact reads_i
  · show Reads enc _ w base sp held f3.type isInts; rw [h3]; exact reads_l
  · show Reads enc _ w base sp held f4.type isInt; rw [h4]; exact reads_i
  · show Reads enc _ w base sp held f5.type isBool; rw [h5]; exact reads_b
  rintro us ⟨ps, hp, rfl⟩
  obtain ⟨_, _, _, _, _, _, rfl, ⟨a, rfl⟩, ⟨b, rfl⟩, ⟨c, rfl⟩, ⟨d, rfl, hd⟩, ⟨e, rfl⟩, ⟨f, rfl⟩⟩ := all6 hp
  exact ⟨⟨a, b, c, d, e, f⟩, rfl, hd⟩
theorem reads_CoinS : Reads enc Tryz.prog w base sp held 84 fun us => ∃ xs : List CoinD, us = [coinsV xs] ∧ MemC xs :=
  (reads_slice Tryz.underlying84 (by rw [show Tryz.prog.cellsOf 198 = 6 from by kernel_rfl]; decide) reads_Coin).mono fun us ⟨rows, h1, h2, h3⟩ => by
    obtain ⟨zs, g1, g2, g3⟩ := rows_of (f := coinRow) h3
    exact ⟨zs, by rw [h1, g1], by have : maxLen ≤ 9223372036854775807 := by decide
                                  omega, fun x hx => Nat.le_trans (g2 x hx) (by decide)⟩
theorem coins_came {a : Option Addr} {len cap : Nat} {d : DataW H} {ps : List MemPlace} (h : DataW.Trod enc Tryz.prog w base sp held 84 (.slice a len cap) d ps) : ∃ l : List CoinD, MemC l ∧ VRel w (fun b => b < w.heap.size) (fun _ => none) (.slice a len cap) (coinsV l) := by
  obtain ⟨us, ⟨l, rfl, hm⟩, hv⟩ := reads_cell reads_CoinS rfl h
  exact ⟨l, hm, .one (.cell (.rd hv.1))⟩
end
end Go.Proofs.YtfnehjminipaeaaGreat
