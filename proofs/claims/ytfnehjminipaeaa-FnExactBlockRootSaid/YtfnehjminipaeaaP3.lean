/-
  CHAPTER 2, programs, function by function, by the reading.
-/
import Derived.Test.YtfnehjminipaeaaP1
namespace Go.Proofs.Ytfnehjminipaeaa
open Go Go.Am Go.RowKit
set_option linter.unusedVariables false
set_option linter.unusedSimpArgs false
theorem l2Op_ret (op : Int) (n : Nat) : Ret Try.prog 99 [iv op] [] n true (Is (bv (opB op)) [] n) := by
  refine Ret.fn ttOk Try.func99 rfl Try.call99 rfl rfl ?_
  refine Goes ?_
  repeat' first | refine W2.m ?_ ?_ | refine W1.m fun h => ?_ | fail
  first | refine CallP.is (l1In_ret _ _ _ _) rfl ?_ | refine CallQ.is (l1In_ret _ _ _ _) rfl rfl ?_
  refine Goes ?_
  repeat' first | refine W2.m ?_ ?_ | refine W1.m fun h => ?_ | fail
  · have h1 : inR 1 9 op := by assumption
    refine FinOk.pure rfl rfl rfl ⟨?_, rfl, rfl⟩; refine bvI ?_; rw [opB_eq]; simp [h1]
  have h1 : ¬ inR 1 9 op := by assumption
  first | refine CallP.is (l1In_ret _ _ _ _) rfl ?_ | refine CallQ.is (l1In_ret _ _ _ _) rfl rfl ?_
  refine Goes ?_
  repeat' first | refine W2.m ?_ ?_ | refine W1.m fun h => ?_ | fail
  refine FinOk.pure rfl rfl rfl ⟨?_, rfl, rfl⟩; refine bvI ?_; rw [opB_eq]; simp [h1]
theorem l2Fault_ret (p : List Int) (n : Nat) : Ret Try.prog 81 [il p] [] n true (Is (iv (progC p)) [] n) := by
  refine Ret.fn ttOk Try.func81 rfl Try.call81 rfl rfl ?_
  refine Goes ?_
  repeat' first | refine W2.m ?_ ?_ | refine W1.m fun h => ?_ | fail
  · simp only [List.length_map] at h
    refine FinOk.pure rfl rfl rfl ⟨?_, rfl, rfl⟩; unfold progC; rw [if_pos (by omega)]
  simp only [List.length_map] at h
  refine LoopP.go (fun k : Nat => k ≤ p.length ∧ opsB (p.take k) = true) (fun k => ⟨[(0, il p), (3, iv k)], [], 0⟩) (fun k => p.length - k) 0 ⟨Nat.zero_le _, rfl⟩ (Weak.of rfl rfl ktA trivial) ?_
  intro k ⟨hk, hp⟩
  refine Goes ?_
  repeat' first | refine W2.m ?_ ?_ | refine W1.m fun h => ?_ | fail
  · simp only [List.length_map] at h
    have hlt : k < p.length := by omega
    rw [rowK iv1 p k (by omega)]
    refine ⟨by (first | exact ⟨by omega, by omega, rfl⟩ | (simp only [List.length_map]; exact ⟨by omega, by omega, rfl⟩)), ?_⟩
    refine Goes ?_
    repeat' first | refine W2.m ?_ ?_ | refine W1.m fun h => ?_ | fail
    refine CallP.is (l2Op_ret _ _) rfl ?_
    conv => whnf
    cases ho : opB p[k] with
    | false =>
      repeat' first
        | (refine CondP.yes ?_; conv => whnf)
        | (refine CondP.not ?_; conv => whnf)
        | ((first | refine CondP.dec (fun h => ?_) (fun h => ?_) | refine CondP.ndec (fun h => ?_) (fun h => ?_)) <;> first | (exfalso; first | omega | exact h (by assumption) | exact absurd h (by assumption)) | (conv => whnf))
        | (refine Both.mk ?_ ?_ <;> (conv => whnf))
        | (refine Keep.mk (by repeat' first | exact trivial | rfl | refine And.intro ?_ ?_) ?_; conv => whnf)
        | (refine And.intro (by first | decide | omega) ?_; conv => whnf)
        | fail
      refine FinOk.pure rfl rfl rfl ⟨?_, rfl, rfl⟩
      unfold progC; rw [if_neg (by omega), opsB_no hlt ho]; rfl
    | true =>
      repeat' first
        | (refine CondP.yes ?_; conv => whnf)
        | (refine CondP.not ?_; conv => whnf)
        | ((first | refine CondP.dec (fun h => ?_) (fun h => ?_) | refine CondP.ndec (fun h => ?_) (fun h => ?_)) <;> first | (exfalso; first | omega | exact h (by assumption) | exact absurd h (by assumption)) | (conv => whnf))
        | (refine Both.mk ?_ ?_ <;> (conv => whnf))
        | (refine Keep.mk (by repeat' first | exact trivial | rfl | refine And.intro ?_ ?_) ?_; conv => whnf)
        | (refine And.intro (by first | decide | omega) ?_; conv => whnf)
        | fail
      exact ⟨k + 1, ⟨by omega, by rw [opsB_take hlt, hp, ho]; rfl⟩, by omega, (Weak.of rfl rfl ktA trivial)⟩
  · simp only [List.length_map] at h
    refine FinOk.pure rfl rfl rfl ⟨?_, rfl, rfl⟩
    rw [List.take_of_length_le (by omega)] at hp
    unfold progC; rw [if_neg (by omega), hp]; rfl
def kindI (op : Int) : Int := if op = 1 then 2 else if op = 2 ∨ op = 6 ∨ op = 7 ∨ op = 9 then 3 else if op = 3 ∨ op = 4 ∨ op = 5 ∨ op = 8 then 4 else if 100 ≤ op ∧ op ≤ 1099 then 1 else 0
theorem kindI_zero (op : Int) : kindI op = 0 ↔ opB op = false := by
  unfold kindI opB
  constructor
  · intro h
    repeat' split at h
    all_goals first | omega | (simp; omega)
  · intro h
    simp at h
    repeat' split
    all_goals omega
theorem kindOf_ret (op : Int) (n : Nat) : Ret Try.prog 101 [iv op] [] n true (Is (iv (kindI op)) [] n) := by
  refine Ret.fn ttOk Try.func101 rfl Try.call101 rfl rfl ?_
  refine Goes ?_
  repeat' first | refine W2.m ?_ ?_ | refine W1.m fun h => ?_ | fail
  all_goals (refine FinOk.pure rfl rfl rfl ⟨?_, rfl, rfl⟩; refine ivI ?_; simp [kindI, *])
theorem implProgramFault_ret (p : List Int) (n : Nat) : Ret Try.prog 87 [il p] [] n true (Is (iv (progC p)) [] n) := by
  refine Ret.fn ttOk Try.func87 rfl Try.call87 rfl rfl ?_
  refine Goes ?_
  repeat' first | refine W2.m ?_ ?_ | refine W1.m fun h => ?_ | fail
  · simp only [List.length_map] at h
    refine FinOk.pure rfl rfl rfl ⟨?_, rfl, rfl⟩; unfold progC; rw [if_pos (by omega)]
  simp only [List.length_map] at h
  refine LoopP.go (fun k : Nat => k ≤ p.length ∧ opsB (p.take k) = true) (fun k => ⟨[(8, il p), (9, iv p.length), (10, iv k)], [], 0⟩) (fun k => p.length - k) 0 ⟨Nat.zero_le _, rfl⟩ ?_ ?_
  · rw [List.length_map]; exact (Weak.of rfl rfl ktA trivial)
  intro k ⟨hk, hp⟩
  refine Goes ?_
  repeat' first | refine W2.m ?_ ?_ | refine W1.m fun h => ?_ | fail
  · have hlt : k < p.length := by omega
    rw [rowK iv1 p k (by omega)]
    refine ⟨by (first | exact ⟨by omega, by omega, rfl⟩ | (simp only [List.length_map]; exact ⟨by omega, by omega, rfl⟩)), ?_⟩
    refine Goes ?_
    repeat' first | refine W2.m ?_ ?_ | refine W1.m fun h => ?_ | fail
    first | refine CallP.is (kindOf_ret _ _) rfl ?_ | refine CallQ.is (kindOf_ret _ _) rfl rfl ?_
    refine Goes ?_
    repeat' first | refine W2.m ?_ ?_ | refine W1.m fun h => ?_ | fail
    · refine FinOk.pure rfl rfl rfl ⟨?_, rfl, rfl⟩
      unfold progC; rw [if_neg (by omega), opsB_no hlt ((kindI_zero _).1 (by assumption))]; rfl
    · refine ⟨k + 1, ⟨by omega, ?_⟩, by omega, (Weak.of rfl rfl ktA trivial)⟩
      rw [opsB_take hlt, hp]
      cases ho : opB p[k] with
      | true => rfl
      | false => exact absurd ((kindI_zero _).2 ho) (by assumption)
  · refine FinOk.pure rfl rfl rfl ⟨?_, rfl, rfl⟩
    rw [List.take_of_length_le (by omega)] at hp
    unfold progC; rw [if_neg (by omega), hp]; rfl
theorem stackFault_ret (s : List Int) (n : Nat) : Ret Try.prog 85 [il s] [] n true (Is (iv (stackC s)) [] n) := by
  refine Ret.fn ttOk Try.func85 rfl Try.call85 rfl rfl ?_
  refine Goes ?_
  repeat' first | refine W2.m ?_ ?_ | refine W1.m fun h => ?_ | fail
  · simp only [List.length_map] at h
    refine FinOk.pure rfl rfl rfl ⟨?_, rfl, rfl⟩; unfold stackC; rw [if_pos (by omega)]
  simp only [List.length_map] at h
  refine LoopP.go (fun k : Nat => k ≤ s.length ∧ allB 0 9999 (s.take k) = true) (fun k => ⟨[(8, il s), (9, iv s.length), (10, iv k)], [], 0⟩) (fun k => s.length - k) 0 ⟨Nat.zero_le _, rfl⟩ ?_ ?_
  · rw [List.length_map]; exact (Weak.of rfl rfl ktA trivial)
  intro k ⟨hk, hp⟩
  refine Goes ?_
  repeat' first | refine W2.m ?_ ?_ | refine W1.m fun h => ?_ | fail
  · have hlt : k < s.length := by omega
    rw [rowK iv1 s k (by omega)]
    refine ⟨by (first | exact ⟨by omega, by omega, rfl⟩ | (simp only [List.length_map]; exact ⟨by omega, by omega, rfl⟩)), ?_⟩
    refine Goes ?_
    repeat' first | refine W2.m ?_ ?_ | refine W1.m fun h => ?_ | fail
    · refine FinOk.pure rfl rfl rfl ⟨?_, rfl, rfl⟩
      unfold stackC; rw [if_neg (by omega), allB_no hlt (by omega)]; rfl
    · refine FinOk.pure rfl rfl rfl ⟨?_, rfl, rfl⟩
      unfold stackC; rw [if_neg (by omega), allB_no hlt (by omega)]; rfl
    · exact ⟨k + 1, ⟨by omega, by rw [allB_take hlt, hp]; simp; omega⟩, by omega, (Weak.of rfl rfl ktA trivial)⟩
  · refine FinOk.pure rfl rfl rfl ⟨?_, rfl, rfl⟩
    rw [List.take_of_length_le (by omega)] at hp
    unfold stackC; rw [if_neg (by omega), hp]; rfl
/-- The machine. -/
abbrev mh (i j : Nat) (s e : List Int) (t u : Int) : Hp := [(i, .box [.own j s.length, iv t, iv u]), (j, .list 2 1 (ivs (s ++ e)))]
theorem takeL (s e : List Int) : List.take s.length (ivs (s ++ e)) = ivs s := by
  rw [show ivs (s ++ e) = ivs s ++ ivs e from List.map_append .., List.take_left' (by simp)]
theorem getL (s e : List Int) (x : Int) : (ivs (s ++ [x] ++ e)).getD (Int.toNat (s.length : Int)) [] = [iv x] := by
  rw [rowK iv1 _ _ (by simp)]; simp
theorem lenS (s : List Int) (x : Int) (h : s.length ≤ 1000) : IntKind.i64.wrap (((s ++ [x]).length : Nat) - 1 : Int) = (s.length : Int) := by
  rw [List.length_append]; simp only [List.length_cons, List.length_nil]; rw [IntWalk.i64_in _ (by omega)]; omega
theorem allB1 {x : Int} (h : inR 0 9999 x) : allB 0 2147483646 [x] = true := by
  unfold inR at h
  simp [allB]; omega
def faultI (k : Int) (n : Nat) : Int := if k = 4 then (if n < 2 then 4 else 0) else if k = 3 then (if n < 1 then 4 else 0) else if k = 2 then (if n < 1 then 4 else if n = 8 then 10 else 0) else if k = 1 then (if n = 8 then 10 else 0) else 0
abbrev fv (f : Nat) : AV := .val (.func (.func f) #[] #[])
end Go.Proofs.Ytfnehjminipaeaa
