/-
  A FUNCTION THAT WRITES NOTHING THAT LAY: what is said of it in memory is said by the reading.
-/
import Derived.Test.YtdnanpokaanhdaaDoorAmG
import Derived.Below
namespace Go.Am
open Go.RowKit
set_option linter.unusedVariables false
set_option linter.unusedSimpArgs false
theorem Core.below {ι : Loc} {A : Nat → Prop} {hi : Hp} {n : Nat} {P : Program} {w w' : World} (hC : Core ⟨P, w, Mut ι, A, 0, fun _ => none, [0]⟩ ι A hi n w) (hb : Below w.heap.size w w') : Core ⟨P, w, Mut ι, A, 0, fun _ => none, [0]⟩ ι A hi n w' := by
  have hsz := hb.size
  have hk : ∀ b, b < w.heap.size → w'.heap[b]? = w.heap[b]? := fun b h => (Frame.of_below (D := fun _ => False) hb).block b h (fun e => e)
  refine ⟨Frame.of_below hb, hC.sub, fun b h => Nat.lt_of_lt_of_le (hC.lt b h) hsz, hC.dis, fun k g c s h => ⟨Nat.lt_of_lt_of_le (hC.own k g c s h).1 hsz, (hC.own k g c s h).2⟩, hC.inj, hC.new, fun id o h => ?_, fun id p h => (by cases h), ⟨fun _ _ => rfl, fun e => (by cases e)⟩⟩
  obtain ⟨h1, h2, h3⟩ := hC.obj id o h
  refine ⟨h1, h2, h3.mono (K := fun _ => True) ⟨fun b h => ⟨h, hk b (hC.lt b h)⟩, fun _ _ _ h => h⟩ trivial (by cases o <;> simp [AObj.uses]) (fun _ _ _ _ h => h) (fun k g c s _ hg => hk g (hC.own k g c s hg).1)⟩
theorem Ret.of_below {P : Program} {f : FuncId} {args : List AV} {hi : Hp} {n : Nat} {r : AV} (hent : ∀ args w, (callFunc f args).run P w = .ok (.enter f args) w) (hu : ∀ K, r.uses K)
    (h : ∀ (w : World) (ι : Loc) (A : Nat → Prop) (vs : List Value), Core ⟨P, w, Mut ι, A, 0, fun _ => none, [0]⟩ ι A hi n w → All2 (VRel w A ι) vs args → ∃ v, (∀ w', VRel w' A ι v r) ∧ Calls P f vs.toArray w fun e w' => e = .returned v ∧ Below w.heap.size w w') :
    Ret P f args hi n true (Is r hi n) := by
  refine ⟨hent, fun w ι A vs hC h1 h2 h3 h4 => ?_⟩
  obtain ⟨v, hv, hc⟩ := h w ι A vs hC h2
  refine Calls.mono hc ?_
  rintro e w' ⟨rfl, hb⟩
  refine ⟨v, r, hi, n, ι, A, rfl, ⟨rfl, rfl, rfl⟩, Nat.le_refl _, hC.below hb, fun k hk => h1 k ?_, hv w', hu _, h4, fun id h => h, fun id h => .inl h, fun id o p _ _ h => h⟩
  unfold placeB
  rw [hk]
end Go.Am
