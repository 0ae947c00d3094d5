/-
  A NIL ANSWER GETS AN OWN LIST.
-/
import Derived.Test.YthpboccokdhpnaaAmG
namespace Go.Am
open Go.RowKit
/-- A nil answer gets an own list. -/
theorem Ret.ownNil {P : Program} {f : FuncId} {args : List AV} {n e s : Nat} (hs : 0 < s) {Q Q' : AV → Hp → Nat → Prop} (hQ : ∀ r ho m, Q r ho m → Q' r ho m ∨ (r = nl ∧ ho = [] ∧ m = n ∧ Q' (.own n 0) [(n, .list e s [])] (n + 1)))
    (h : Ret P f args [] n true Q) : Ret P f args [] n true Q' := by
  refine ⟨h.enter, fun w ι A vs hC h1 h2 h3 h4 => Calls.mono (h.calls w ι A vs hC h1 h2 h3 h4) ?_⟩
  rintro e' w' ⟨v, r, ho, m, ι', S', rfl, hq, hnm, hC', hdom, hv, hu, huo, hio, hoi, hkeep⟩
  rcases hQ _ _ _ hq with hq' | ⟨rfl, rfl, rfl, hq'⟩
  · exact ⟨v, r, ho, m, ι', S', rfl, hq', hnm, hC', hdom, hv, hu, huo, hio, hoi, hkeep⟩
  have h0 : ∀ k : Key, ι' k = none := fun k => hdom k rfl
  have hone : ∀ (k : Key) p, put ι' (m : Key) (some .nil) k = some p → k = (m : Key) ∧ p = .nil := fun k p hp => by
    by_cases ek : k = (m : Key)
    · subst ek; rw [put_same] at hp; cases hp; exact ⟨rfl, rfl⟩
    · rw [put_ne _ _ ek, h0 k] at hp; cases hp
  refine ⟨v, .own m 0, [(m, .list e s [])], m + 1, put ι' (m : Key) (some .nil), S', rfl, hq', Nat.le_succ _, ?_, fun k hk => ?_, ?_, ?_, fun id o ho => ?_, fun id hid => absurd rfl hid, fun id hid => ?_, fun id o p ho => by cases ho⟩
  · refine ⟨hC'.frame, hC'.sub, hC'.lt, ?_, ?_, ?_, ?_, ?_, fun id p hp => (by cases hp), hC'.fxs⟩
    · rintro b hb ⟨i, c, z, hm⟩; cases (hone _ _ hm).2
    · intro i g c z hm; cases (hone _ _ hm).2
    · intro i j g c d z r hm; cases (hone _ _ hm).2
    · intro i hi
      have hi' : m + 1 ≤ i.id := hi
      rw [put_id _ _ (by first | omega | (dsimp only; omega) | (dsimp only at *; omega))]; exact h0 i
    · intro id o ho
      rw [look_cons] at ho
      split at ho
      · rename_i ei
        subst ei
        cases ho
        exact ⟨Nat.lt_succ_self _, trivial, .nil e s (put_same _ _ _) hs⟩
      · cases ho
  · rw [look_cons] at hk
    split at hk
    · cases hk
    · rename_i hne
      rw [put_id _ _ (by first | omega | (dsimp only; omega) | (dsimp only at *; omega))]; exact h0 k
  · cases hv with
    | one hv => cases hv with
      | cell hv => cases hv with
        | rd hv => cases hv with
          | val => exact .one (.cell (.own0 m (put_same _ _ _)))
  · intro e0
    rw [look_cons_eq] at e0
    cases e0
  · rw [look_cons] at ho
    split at ho
    · cases ho; trivial
    · cases ho
  · unfold inH at hid
    rw [look_cons] at hid
    split at hid
    · rename_i ei; exact .inr (by omega)
    · exact absurd rfl hid
/-- A nil slice in a temporary gets an own list. -/
theorem Weak.nameT {fx : List Nat} {tm : List (Nat × AV)} {hp : Hp} {nx : Nat} (t e s : Nat) (hs : 0 < s) (hl : Am.look tm t = some nl) :
    Weak fx ⟨tm, hp, nx⟩ ⟨(t, .own nx 0) :: tm, (nx, .list e s []) :: hp, nx + 1⟩ := by
  rintro E a w _ ⟨hsz, hd, ι, S, hC, hTm⟩
  have hne : ∀ i : Key, i.id < nx → put ι nx (some .nil) i = ι i := fun i hi => put_id _ _ (by first | omega | (dsimp only; omega) | (dsimp only at *; omega))
  have hL : Later w w S S ι (put ι nx (some .nil)) (· < nx) := ⟨fun b hb => ⟨hb, rfl⟩, fun i p hi hp' => by rw [hne i hi]; exact hp'⟩
  have blk : ∀ (i : Key) g c z, put ι nx (some .nil) i = some (.blk g c z) → ι i = some (.blk g c z) := by
    intro i g c z h
    by_cases e : i = (nx : Key)
    · subst e; rw [put_same] at h; cases h
    · rwa [put_ne _ _ e] at h
  refine ⟨hsz, hd, put ι nx (some .nil), S, ⟨hC.frame, hC.sub, hC.lt, ?_, ?_, ?_, ?_, ?_, ?_, hC.fxs⟩, ?_⟩
  · rintro b hb ⟨i, c, z, h⟩; exact hC.dis b hb ⟨i, c, z, blk i _ _ _ h⟩
  · intro i g c z h; exact hC.own i g c z (blk i _ _ _ h)
  · intro i j g c d z r h1 h2; exact hC.inj i j g _ _ _ _ (blk i _ _ _ h1) (blk j _ _ _ h2)
  · intro i hi
    have hi' : nx + 1 ≤ i.id := hi
    rw [put_id _ _ (by first | omega | (dsimp only; omega) | (dsimp only at *; omega))]; exact hC.new i (by show nx ≤ i.id; omega)
  · intro i o h
    by_cases e2 : nx = i
    · subst e2
      rw [look_cons_eq] at h
      simp only [Option.some.injEq] at h
      subst h
      exact ⟨Nat.lt_succ_self _, trivial, .nil e s (put_same _ _ _) hs⟩
    · rw [look_cons_ne _ _ e2] at h
      obtain ⟨h1, h2, h3⟩ := hC.obj i o h
      have h1' : i < nx := h1
      exact ⟨Nat.lt_succ_of_lt h1', AObj.uses_mono (fun j (hj : j < nx) => Nat.lt_succ_of_lt hj) h2, h3.mono hL h1 h2 (fun _ k q hk hq => by rw [put_id _ _ (by rw [hk]; exact Nat.ne_of_lt h1)]; exact hq) (fun _ _ _ _ _ _ => rfl)⟩
  · intro i p h
    have h' := hC.stay i p h
    have hlt : i < nx := by
      rcases Nat.lt_or_ge i nx with h2 | h2
      · exact h2
      · rw [hC.new ⟨i, []⟩ h2] at h'; cases h'
    rw [hne ⟨i, []⟩ hlt]; exact h'
  · refine ⟨fun j v hv => ?_⟩
    have hTm' := Core.tm hTm (Nat.le_succ nx) hL
    rw [look_cons] at hv
    split at hv
    · rename_i e2
      subst e2
      simp only [Option.some.injEq] at hv
      subst hv
      obtain ⟨h1, h2, h3⟩ := hTm.tm _ _ hl
      refine ⟨h1, Nat.lt_succ_self _, ?_⟩
      have := h3.val_inv.1
      rw [this]
      exact .one (.cell (.own0 nx (put_same _ _ _)))
    · exact hTm'.tm j v hv
end Go.Am
