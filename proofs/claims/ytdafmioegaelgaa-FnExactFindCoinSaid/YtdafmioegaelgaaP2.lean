/-
  CHAPTER 2, function by function, by the reading: keys, locks, programs.
-/
import Derived.Test.YtdafmioegaelgaaP1
import Derived.Test.YtdafmioegaelgaaM2
namespace Go.Proofs.Ytdafmioegaelgaa
open Go Go.Am Go.RowKit
set_option linter.unusedVariables false
set_option linter.unusedSimpArgs false
theorem isHeight_ret (k : Int) (n : Nat) : Ret Try.prog 112 [iv k] [] n true (Is (bv (decide (inR 0 9999 k))) [] n) := by
  refine Ret.fn ttOk Try.func112 rfl Try.call112 rfl rfl ?_
  conv => whnf
  repeat' first
    | (refine CondP.yes ?_; conv => whnf)
    | (refine CondP.not ?_; conv => whnf)
    | ((first | refine CondP.dec (fun h => ?_) (fun h => ?_) | refine CondP.ndec (fun h => ?_) (fun h => ?_)) <;> first | (exfalso; first | omega | exact h (by assumption) | exact absurd h (by assumption)) | (conv => whnf))
    | (refine Both.mk ?_ ?_ <;> (conv => whnf))
    | (refine Keep.mk (by repeat' first | exact trivial | rfl | refine And.intro ?_ ?_) ?_; conv => whnf)
    | (refine And.intro (by first | decide | omega) ?_; conv => whnf)
    | fail
  all_goals (refine FinOk.pure rfl rfl rfl ⟨?_, rfl, rfl⟩; refine bvI ?_; simp [inR, *])
theorem allB3 {k t : Int} (h : inR 0 899 k) (h' : inR 0 2147483646 t) : allB 0 2147483646 [k, t, 7] = true := by
  unfold inR at h h'
  simp [allB]; omega
end Go.Proofs.Ytdafmioegaelgaa
