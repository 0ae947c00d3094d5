/-
  CODES: what is asked is enough, of a whole code.
-/
import Derived.Test.YtdafmioegaelgaaAmQ2
namespace Go.Am
open Go.RowKit
set_option linter.unusedVariables false
set_option linter.unusedSimpArgs false

variable {E : Env} {s : St} {a : Act} {w : World} {ι : Loc} {S : Nat → Prop} {tt : Tab}

/-! ### loops -/
theorem exists_least (p : Nat → Prop) (h : ∃ n, p n) : ∃ n, p n ∧ ∀ m, p m → n ≤ m := by
  obtain ⟨n, hn⟩ := h
  induction n using Nat.strongRecOn with
  | _ n ih =>
    by_cases hlt : ∃ m, m < n ∧ p m
    · obtain ⟨m, hm, hpm⟩ := hlt; exact ih m hm hpm
    · exact ⟨n, hn, fun m hm => Nat.le_of_not_lt fun h => hlt ⟨m, h, hm⟩⟩


theorem run_sound (hT : TabOk E.P tt) (c : Code) : ∀ (s : St) (Q : Exit → St → Prop), run tt E.P E.nt E.fx c s Q → ∀ a w, Rel E s a w → c.wp E.P (fun e a' w' => ∃ s', Rel E s' a' w' ∧ Q e s') a w := by
  induction c with
  | skip => exact fun s Q h a w hR => wp_skip ⟨s, hR, h⟩
  | label l => exact fun s Q h a w hR => wp_label ⟨s, hR, h⟩
  | exit id => exact fun s Q h a w hR => wp_exit ⟨s, hR, h⟩
  | goto l => exact fun s Q h a w hR => wp_goto ⟨s, hR, h⟩
  | ret => exact fun s Q h a w hR => wp_ret ⟨s, hR, h⟩
  | region id ops draw =>
    intro s Q h a w hR
    cases draw with
    | true => exact draw_sound hT (fun s a w hR hK => ⟨s, hR, hK⟩) h hR
    | false => exact wp_region_list (runOps_sound hT (K := Q .normal) (fun s a w hR hK => ⟨s, hR, hK⟩) ops.toList s a w h hR)
  | seq x y ihx ihy =>
    intro s Q h a w hR
    refine wp_seq (wp_mono (ihx s _ h a w hR) ?_)
    rintro e a' w' ⟨s', hR', h'⟩
    cases e with
    | normal => exact ihy s' Q h' a' w' hR'
    | _ => exact ⟨s', hR', h'⟩
  | cond c x y ihx ihy =>
    intro s Q h a w hR
    simp only [run] at h
    cases hc : opnd s.tm c with
    | none => simp [hc] at h
    | some v =>
      cases v with
      | val u =>
        cases u with
        | bool b =>
          simp only [hc] at h
          have hR' := hR
          obtain ⟨hs, hd, ι, S, hC, hTm⟩ := hR
          have hv := (opnd_rel hTm hc).1.val_inv.1
          exact wp_cond_split hv (fun hb => ihx s Q (h.t hb) a w hR') (fun hb => ihy s Q (h.f hb) a w hR')
        | _ => simp [hc] at h
      | _ => simp [hc] at h
  | block id c ih =>
    intro s Q h a w hR
    refine wp_block (wp_mono (ih s _ h a w hR) ?_)
    rintro e a' w' ⟨s', hR', h'⟩
    cases e with
    | exit i =>
      simp only [Exit.inBlock]
      by_cases hi : i = id
      · subst hi
        simp at h'
        rw [if_pos rfl]
        exact ⟨s', hR', h'⟩
      · have : Nat.beq i id = false := by
          cases hb : Nat.beq i id with
          | true => exact absurd (Nat.eq_of_beq_eq_true hb) hi
          | false => rfl
        dsimp only at h'
        rw [this] at h'
        rw [if_neg hi]
        exact ⟨s', hR', h'⟩
    | _ => exact ⟨s', hR', h'⟩
  | loop c ih =>
    intro s Q h a w hR
    obtain ⟨α, T, μ, x0, hw0, hround⟩ := h.inv
    let p : Act → World → Nat → Prop := fun a w n => ∃ x, μ x = n ∧ Rel E (T x) a w
    let I : Act → World → Prop := fun a w => ∃ n, p a w n
    have hν : ∀ a w, I a w → p a w (Classical.epsilon fun n => p a w n ∧ ∀ m, p a w m → n ≤ m) ∧ ∀ m, p a w m → (Classical.epsilon fun n => p a w n ∧ ∀ m, p a w m → n ≤ m) ≤ m := fun a w h => Classical.epsilon_spec (exists_least (p a w) h)
    refine wp_loop I (fun a w => Classical.epsilon fun n => p a w n ∧ ∀ m, p a w m → n ≤ m) ⟨μ x0, x0, rfl, hw0 E a w rfl hR⟩ ?_
    intro a w hI
    obtain ⟨⟨x, hx, hRx⟩, hmin⟩ := hν a w hI
    refine wp_mono (ih (T x) _ (hround x) a w hRx) ?_
    rintro e a' w' ⟨s', hR', h'⟩
    cases e with
    | normal =>
      obtain ⟨y, hlt, hwk⟩ := h'
      have hp : p a' w' (μ y) := ⟨y, rfl, hwk E a' w' rfl hR'⟩
      have hI' : I a' w' := ⟨_, hp⟩
      exact ⟨hI', by have := (hν a' w' hI').2 _ hp; omega⟩
    | _ => exact ⟨s', hR', h'⟩
  | _ => exact fun s Q h a w hR => h.elim

end Go.Am
