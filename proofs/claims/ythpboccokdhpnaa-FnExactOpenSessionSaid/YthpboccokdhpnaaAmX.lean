/-
  A NIL ANSWER GETS AN OWN LIST.
-/
import Derived.Test.YthpboccokdhpnaaAmG
namespace Go.Am
open Go.RowKit
/-- A nil answer gets an own list. -/
theorem Ret.ownNil {P : Program} {f : FuncId} {args : List AV} {n e s : Nat} (hs : 0 < s) {Q Q' : AV → Hp → Nat → Prop} (hQ : ∀ r ho m, Q r ho m → Q' r ho m ∨ (r = nl ∧ ho = [] ∧ m = n ∧ Q' (.own n 0) [(n, .list e s [])] (n + 1)))
    (h : Ret P f args [] n true Q) : Ret P f args [] n true Q' := by
  refine ⟨h.enter, fun w ι A vs hC h1 h2 h3 h4 => Calls.mono (h.calls w ι A vs hC h1 h2 h3 h4) ?_⟩
  rintro e' w' ⟨v, r, ho, m, ι', S', rfl, hq, hnm, hC', hdom, hv, hu, huo, hio, hoi, hkeep⟩
  rcases hQ _ _ _ hq with hq' | ⟨rfl, rfl, rfl, hq'⟩
  · exact ⟨v, r, ho, m, ι', S', rfl, hq', hnm, hC', hdom, hv, hu, huo, hio, hoi, hkeep⟩
  have h0 : ∀ k : Key, ι' k = none := fun k => hdom k rfl
  have hone : ∀ (k : Key) p, put ι' (m : Key) (some .nil) k = some p → k = (m : Key) ∧ p = .nil := fun k p hp => by
    by_cases ek : k = (m : Key)
    · subst ek; rw [put_same] at hp; cases hp; exact ⟨rfl, rfl⟩
    · rw [put_ne _ _ ek, h0 k] at hp; cases hp
  refine ⟨v, .own m 0, [(m, .list e s [])], m + 1, put ι' (m : Key) (some .nil), S', rfl, hq', Nat.le_succ _, ?_, fun k hk => ?_, ?_, ?_, fun id o ho => ?_, fun id hid => absurd rfl hid, fun id hid => ?_, fun id o p ho => by cases ho⟩
  · refine ⟨hC'.frame, hC'.sub, hC'.lt, ?_, ?_, ?_, ?_, ?_, fun id p hp => (by cases hp), hC'.fxs⟩
    · rintro b hb ⟨i, c, z, hm⟩; cases (hone _ _ hm).2
    · intro i g c z hm; cases (hone _ _ hm).2
    · intro i j g c d z r hm; cases (hone _ _ hm).2
    · intro i hi
      have hi' : m + 1 ≤ i.id := hi
      rw [put_id _ _ (by first | omega | (dsimp only; omega) | (dsimp only at *; omega))]; exact h0 i
    · intro id o ho
      rw [look_cons] at ho
      split at ho
      · rename_i ei
        subst ei
        cases ho
        exact ⟨Nat.lt_succ_self _, trivial, .nil e s (put_same _ _ _) hs⟩
      · cases ho
  · rw [look_cons] at hk
    split at hk
    · cases hk
    · rename_i hne
      rw [put_id _ _ (by first | omega | (dsimp only; omega) | (dsimp only at *; omega))]; exact h0 k
  · cases hv with
    | one hv => cases hv with
      | cell hv => cases hv with
        | rd hv => cases hv with
          | val => exact .one (.cell (.own0 m (put_same _ _ _)))
  · intro e0
    rw [look_cons_eq] at e0
    cases e0
  · rw [look_cons] at ho
    split at ho
    · cases ho; trivial
    · cases ho
  · unfold inH at hid
    rw [look_cons] at hid
    split at hid
    · rename_i ei; exact .inr (by omega)
    · exact absurd rfl hid
end Go.Am
