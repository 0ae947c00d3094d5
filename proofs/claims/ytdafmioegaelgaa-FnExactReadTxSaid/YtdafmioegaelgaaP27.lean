/-
  CHAPTER 3: ReadTx, by the reading.
-/
import Derived.Test.YtdafmioegaelgaaP26
import Derived.Test.YtdafmioegaelgaaP15
namespace Go.Proofs.Ytdafmioegaelgaa
open Go Go.Am Go.RowKit
set_option linter.unusedVariables false
set_option linter.unusedSimpArgs false
theorem txF_bd {d : List Int} (hd : ∀ z ∈ d, isU8 z) (s : RS) (hs : s.1 ≤ d.length) : (txF d s).2.1 ≤ d.length ∧ (txF d s).1.2.1.length ≤ 4 ∧ (txF d s).1.2.2.length ≤ 4 := by
  have h1 := numF_bd hd s hs
  have h2 := cntF_bd hd 4 _ h1.2.2
  have h3 := snocF_bd (inF_bd hd) _ h2.2.2 (cntF 4 d (numF d s).2).1.toNat
  have h4 := cntF_bd hd 4 _ h3
  have h5 := snocF_bd (outF_bd hd) _ h4.2.2 (cntF 4 d (snocF (inF d) (cntF 4 d (numF d s).2).2 (cntF 4 d (numF d s).2).1.toNat).2).1.toNat
  unfold txF
  dsimp only
  refine ⟨h5, ?_, ?_⟩
  · rw [snocF_len]; omega
  · rw [snocF_len]; omega
theorem rdTx_fr (d : List Int) (s : RS) (i n : Nat) (hd : ∀ z ∈ d, isU8 z) (hl : d.length ≤ 1048576) (hs : s.1 ≤ d.length) : Ret Try.prog 56 [.pt i 0 0] [(i, rdO d s)] n true (Is (txV (txF d s).1) [(i, rdO d (txF d s).2)] n) := by
  refine Ret.frBox (fun hin => ?_) (rdTx_ret d s i n hd hl hs)
  rintro _ _ _ ⟨rfl, rfl, rfl⟩
  exact ⟨txV (txF d s).1, _, .agg _ _ ⟨.refl _ (fun _ e => by cases e) (fun _ e => by cases e), frOwnH (look_cons_ne _ _ (by omega)) ((look_cons_ne _ _ (by omega)).trans (look_cons_eq _ _ _)) (by simp), frOwnH (look_cons_ne _ _ (by omega)) ((look_cons_ne _ _ (by omega)).trans ((look_cons_ne _ _ (by omega)).trans (look_cons_eq _ _ _))) (by simp), trivial⟩, look_cons_eq _ _ _, rfl, rfl, rfl, rfl⟩
/-- What ReadTx finds. -/
def readF (d : List Int) : Option (TxD × Nat) := if (txF d (0, false)).2.2 = false ∧ faultC (txF d (0, false)).1 = 0 then some ((txF d (0, false)).1, (txF d (0, false)).2.1) else none
def readR (d : List Int) : List AV := match readF d with
  | some (t, u) => [iv 0, iv t.1, insV t.2.1, outsV t.2.2, iv (u : Nat)]
  | none => [iv 5, iv 0, nl, nl, iv 0]
theorem implReadTx_ret (d : List Int) (n : Nat) (hd : ∀ z ∈ d, isU8 z) (hl : d.length ≤ 1048576) : Ret Try.prog 20 [ul d] [] n true (Is (.agg (readR d)) [] n) := by
  have hb := txF_bd hd (0, false) (Nat.zero_le _)
  refine Ret.fn ttOk Try.func20 rfl Try.call20 rfl rfl ?_
  conv => whnf
  repeat' first
    | (refine CondP.yes ?_; conv => whnf)
    | (refine CondP.not ?_; conv => whnf)
    | ((first | refine CondP.dec (fun h => ?_) (fun h => ?_) | refine CondP.ndec (fun h => ?_) (fun h => ?_)) <;> first | (exfalso; first | omega | exact h (by assumption) | exact absurd h (by assumption)) | (conv => whnf))
    | (refine Both.mk ?_ ?_ <;> (conv => whnf))
    | (refine Keep.mk (by repeat' first | exact trivial | rfl | refine And.intro ?_ ?_) ?_; conv => whnf)
    | (refine And.intro (by first | decide | omega) ?_; conv => whnf)
    | fail
  refine CallP.heapIs (rdTx_fr d (0, false) 1 _ hd hl (Nat.zero_le _)) rfl (by repeat' first | exact trivial | rfl | exact leafI (by first | rfl | omega | (simp (disch := omega) only [Int.reduceToNat, IntKind.bits, Nat.min_eq_left, Int.reducePow, IntWalk.i64_in, IntWalk.rem_in, IntWalk.i64_quo, IntWalk.u8_in, IntWalk.u32_in, IntWalk.u64_in]; done) | (simp (disch := omega) only [Int.reduceToNat, IntKind.bits, Nat.min_eq_left, Int.reducePow, IntWalk.i64_in, IntWalk.rem_in, IntWalk.i64_quo, IntWalk.u8_in, IntWalk.u32_in, IntWalk.u64_in]; omega)) | refine And.intro ?_ ?_) rfl ?_
  conv => whnf
  repeat' first
    | (refine CondP.yes ?_; conv => whnf)
    | (refine CondP.not ?_; conv => whnf)
    | ((first | refine CondP.dec (fun h => ?_) (fun h => ?_) | refine CondP.ndec (fun h => ?_) (fun h => ?_)) <;> first | (exfalso; first | omega | exact h (by assumption) | exact absurd h (by assumption)) | (conv => whnf))
    | (refine Both.mk ?_ ?_ <;> (conv => whnf))
    | (refine Keep.mk (by repeat' first | exact trivial | rfl | refine And.intro ?_ ?_) ?_; conv => whnf)
    | (refine And.intro (by first | decide | omega) ?_; conv => whnf)
    | fail
  unfold readR readF
  generalize txF d (0, false) = x at *
  obtain ⟨t, p, b⟩ := x
  dsimp only at hb ⊢
  cases b with
  | true =>
    rw [if_neg (by simp)]
    conv => whnf
    repeat' first
      | (refine CondP.yes ?_; conv => whnf)
      | (refine CondP.not ?_; conv => whnf)
      | ((first | refine CondP.dec (fun h => ?_) (fun h => ?_) | refine CondP.ndec (fun h => ?_) (fun h => ?_)) <;> first | (exfalso; first | omega | exact h (by assumption) | exact absurd h (by assumption)) | (conv => whnf))
      | (refine Both.mk ?_ ?_ <;> (conv => whnf))
      | (refine Keep.mk (by repeat' first | exact trivial | rfl | refine And.intro ?_ ?_) ?_; conv => whnf)
      | (refine And.intro (by first | decide | omega) ?_; conv => whnf)
      | fail
    refine FinOk.pure rfl rfl rfl ⟨?_, rfl, rfl⟩
    rfl
  | false =>
    conv => whnf
    repeat' first
      | (refine CondP.yes ?_; conv => whnf)
      | (refine CondP.not ?_; conv => whnf)
      | ((first | refine CondP.dec (fun h => ?_) (fun h => ?_) | refine CondP.ndec (fun h => ?_) (fun h => ?_)) <;> first | (exfalso; first | omega | exact h (by assumption) | exact absurd h (by assumption)) | (conv => whnf))
      | (refine Both.mk ?_ ?_ <;> (conv => whnf))
      | (refine Keep.mk (by repeat' first | exact trivial | rfl | refine And.intro ?_ ?_) ?_; conv => whnf)
      | (refine And.intro (by first | decide | omega) ?_; conv => whnf)
      | fail
    first | refine CallP.is (implTxFault_ret t _ (by omega) (by omega)) rfl ?_ | refine CallQ.is (implTxFault_ret t _ (by omega) (by omega)) rfl rfl ?_
    conv => whnf
    repeat' first
      | (refine CondP.yes ?_; conv => whnf)
      | (refine CondP.not ?_; conv => whnf)
      | ((first | refine CondP.dec (fun h => ?_) (fun h => ?_) | refine CondP.ndec (fun h => ?_) (fun h => ?_)) <;> first | (exfalso; first | omega | exact h (by assumption) | exact absurd h (by assumption)) | (conv => whnf))
      | (refine Both.mk ?_ ?_ <;> (conv => whnf))
      | (refine Keep.mk (by repeat' first | exact trivial | rfl | refine And.intro ?_ ?_) ?_; conv => whnf)
      | (refine And.intro (by first | decide | omega) ?_; conv => whnf)
      | fail
    · rw [if_neg (fun e => by omega)]
      refine FinOk.pure rfl rfl rfl ⟨?_, rfl, rfl⟩
      rfl
    · rw [if_pos ⟨rfl, by omega⟩]
      refine FinOk.pure rfl rfl rfl ⟨?_, rfl, rfl⟩
      rfl
end Go.Proofs.Ytdafmioegaelgaa
