/-
  OWN LISTS OF OWN LISTS: a plain own list is one.
-/
import Derived.Test.YtdnanpokaanhdaaDoorAmG
namespace Go.Am
open Go.RowKit
set_option linter.unusedVariables false
set_option linter.unusedSimpArgs false
theorem flatten_lenW {s : Nat} : ∀ {rows : List (List AV)}, (∀ r ∈ rows, r.length = s) → rows.flatten.length = rows.length * s
  | [], _ => by simp
  | r :: rs, h => by
    rw [List.flatten_cons, List.length_append, flatten_lenW fun x hx => h x (List.mem_cons_of_mem _ hx), h r (List.mem_cons_self ..), List.length_cons, Nat.add_mul]
    omega
/-- A plain own list may be read as one that may hold own lists. -/
theorem Weak.nest {fx : List Nat} {tm : List (Nat × AV)} {hp : Hp} {nx : Nat} (id e s : Nat) (rows : List (List AV)) (hl : look hp id = some (.list e s rows)) :
    Weak fx ⟨tm, hp, nx⟩ ⟨tm, (id, .nest (c := true) e s rows) :: hp, nx⟩ := by
  rintro E a w _ ⟨hsz, hd, ι, S, hC, hTm⟩
  obtain ⟨hid0, huse0, hob⟩ := hC.obj id _ hl
  refine ⟨hsz, hd, ι, S, ⟨hC.frame, hC.sub, hC.lt, hC.dis, hC.own, hC.inj, hC.new, ?_, hC.stay, hC.fxs⟩, hTm⟩
  intro i o h
  by_cases hii : id = i
  · subst hii
    rw [look_cons_eq] at h
    simp only [Option.some.injEq] at h
    subst h
    refine ⟨hid0, ?_, ?_⟩
    · intro h0; cases h0
    · cases hob with
      | nil _ _ h' h2 => exact .nest0 e s h' h2
      | list g cap _ _ _ vs h' hs hr hle hm hb hn hc => exact .nest g cap e s rows vs h' hs hr hle hm hb hn fun j v c hv ha => .inr (.rd (hc j v c hv ha))
  · rw [look_cons_ne _ _ hii] at h
    exact hC.obj i o h
end Go.Am
