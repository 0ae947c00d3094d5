/-
  CHAPTER 2, function by function, by the reading: keys, locks, programs.
-/
import Derived.Test.YtgebhcahgmonpaaP1
import Derived.Test.YtgebhcahgmonpaaM2
namespace Go.Proofs.Ytgebhcahgmonpaa
open Go Go.Am Go.RowKit
set_option linter.unusedVariables false
set_option linter.unusedSimpArgs false
theorem isKey_ret (k : Int) (n : Nat) : Ret Try.prog 44 [iv k] [] n true (Is (bv (decide (inR 0 899 k))) [] n) := by
  refine Ret.fn ttOk Try.func44 rfl Try.call44 rfl rfl ?_
  conv => whnf
  repeat' first
    | (refine CondP.yes ?_; conv => whnf)
    | (refine CondP.not ?_; conv => whnf)
    | ((first | refine CondP.dec (fun h => ?_) (fun h => ?_) | refine CondP.ndec (fun h => ?_) (fun h => ?_)) <;> first | (exfalso; first | omega | contradiction) | (conv => whnf))
    | (refine Both.mk ?_ ?_ <;> (conv => whnf))
    | (refine And.intro (by first | decide | omega) ?_; conv => whnf)
    | fail
  all_goals (refine FinOk.pure rfl rfl rfl ⟨?_, rfl, rfl⟩; refine bvI ?_; simp [inR, *])
theorem l2Key_ret (k : Int) (n : Nat) : Ret Try.prog 45 [iv k] [] n true (Is (bv (decide (inR 0 899 k))) [] n) := by
  refine Ret.fn ttOk Try.func45 rfl Try.call45 rfl rfl ?_
  conv => whnf
  repeat' first
    | (refine CondP.yes ?_; conv => whnf)
    | (refine CondP.not ?_; conv => whnf)
    | ((first | refine CondP.dec (fun h => ?_) (fun h => ?_) | refine CondP.ndec (fun h => ?_) (fun h => ?_)) <;> first | (exfalso; first | omega | contradiction) | (conv => whnf))
    | (refine Both.mk ?_ ?_ <;> (conv => whnf))
    | (refine And.intro (by first | decide | omega) ?_; conv => whnf)
    | fail
  refine CallP.is (l1In_ret _ _ _ _) rfl ?_
  conv => whnf
  repeat' first
    | (refine CondP.yes ?_; conv => whnf)
    | (refine CondP.not ?_; conv => whnf)
    | ((first | refine CondP.dec (fun h => ?_) (fun h => ?_) | refine CondP.ndec (fun h => ?_) (fun h => ?_)) <;> first | (exfalso; first | omega | contradiction) | (conv => whnf))
    | (refine Both.mk ?_ ?_ <;> (conv => whnf))
    | (refine And.intro (by first | decide | omega) ?_; conv => whnf)
    | fail
  refine FinOk.pure rfl rfl rfl ⟨?_, rfl, rfl⟩
  rfl
theorem isHeight_ret (k : Int) (n : Nat) : Ret Try.prog 66 [iv k] [] n true (Is (bv (decide (inR 0 9999 k))) [] n) := by
  refine Ret.fn ttOk Try.func66 rfl Try.call66 rfl rfl ?_
  conv => whnf
  repeat' first
    | (refine CondP.yes ?_; conv => whnf)
    | (refine CondP.not ?_; conv => whnf)
    | ((first | refine CondP.dec (fun h => ?_) (fun h => ?_) | refine CondP.ndec (fun h => ?_) (fun h => ?_)) <;> first | (exfalso; first | omega | contradiction) | (conv => whnf))
    | (refine Both.mk ?_ ?_ <;> (conv => whnf))
    | (refine And.intro (by first | decide | omega) ?_; conv => whnf)
    | fail
  all_goals (refine FinOk.pure rfl rfl rfl ⟨?_, rfl, rfl⟩; refine bvI ?_; simp [inR, *])
theorem l2KeyLock_ret (k : Int) (n : Nat) (hk : inR 0 899 k) : Ret Try.prog 47 [iv k] [] n true (Is (.own n 2) [(n, .list 2 1 (ivs [100 + k, 8]))] (n + 1)) := by
  unfold inR at hk
  refine Ret.fn ttOk Try.func47 rfl Try.call47 rfl rfl ?_
  conv => whnf
  repeat' first
    | (refine CondP.yes ?_; conv => whnf)
    | (refine CondP.not ?_; conv => whnf)
    | ((first | refine CondP.dec (fun h => ?_) (fun h => ?_) | refine CondP.ndec (fun h => ?_) (fun h => ?_)) <;> first | (exfalso; first | omega | contradiction) | (conv => whnf))
    | (refine Both.mk ?_ ?_ <;> (conv => whnf))
    | (refine And.intro (by first | decide | omega) ?_; conv => whnf)
    | fail
  refine FinOk.mk' [0] rfl rfl rfl rfl rfl rfl rfl ⟨?_, ?_, rfl⟩
  · rfl
  · rw [IntWalk.i64_in _ (by omega)]; rfl
theorem specKeyLock_ret (k : Int) (n : Nat) (hk : inR 0 899 k) : Ret Try.prog 23 [iv k] [] n true (Is (.agg [iv 0, .own n 2]) [(n, .list 2 1 (ivs [100 + k, 8]))] (n + 1)) := by
  refine Ret.fn ttOk Try.func23 rfl Try.call23 rfl rfl ?_
  conv => whnf
  repeat' first
    | (refine CondP.yes ?_; conv => whnf)
    | (refine CondP.not ?_; conv => whnf)
    | ((first | refine CondP.dec (fun h => ?_) (fun h => ?_) | refine CondP.ndec (fun h => ?_) (fun h => ?_)) <;> first | (exfalso; first | omega | contradiction) | (conv => whnf))
    | (refine Both.mk ?_ ?_ <;> (conv => whnf))
    | (refine And.intro (by first | decide | omega) ?_; conv => whnf)
    | fail
  refine CallP.is (l2Key_ret _ _) rfl ?_
  conv => whnf
  repeat' first
    | (refine CondP.yes ?_; conv => whnf)
    | (refine CondP.not ?_; conv => whnf)
    | ((first | refine CondP.dec (fun h => ?_) (fun h => ?_) | refine CondP.ndec (fun h => ?_) (fun h => ?_)) <;> first | (exfalso; first | omega | contradiction) | (conv => whnf))
    | (refine Both.mk ?_ ?_ <;> (conv => whnf))
    | (refine And.intro (by first | decide | omega) ?_; conv => whnf)
    | fail
  refine CallP.is (l2KeyLock_ret _ _ hk) rfl ?_
  conv => whnf
  repeat' first
    | (refine CondP.yes ?_; conv => whnf)
    | (refine CondP.not ?_; conv => whnf)
    | ((first | refine CondP.dec (fun h => ?_) (fun h => ?_) | refine CondP.ndec (fun h => ?_) (fun h => ?_)) <;> first | (exfalso; first | omega | contradiction) | (conv => whnf))
    | (refine Both.mk ?_ ?_ <;> (conv => whnf))
    | (refine And.intro (by first | decide | omega) ?_; conv => whnf)
    | fail
  refine FinOk.mk' [1] rfl rfl rfl rfl rfl rfl rfl ⟨?_, ?_, rfl⟩
  · rfl
  · rfl
theorem specKeyLock_no (k : Int) (n : Nat) (hk : ¬ inR 0 899 k) : Ret Try.prog 23 [iv k] [] n true (Is (.agg [iv 3, nl]) [] n) := by
  refine Ret.fn ttOk Try.func23 rfl Try.call23 rfl rfl ?_
  conv => whnf
  repeat' first
    | (refine CondP.yes ?_; conv => whnf)
    | (refine CondP.not ?_; conv => whnf)
    | ((first | refine CondP.dec (fun h => ?_) (fun h => ?_) | refine CondP.ndec (fun h => ?_) (fun h => ?_)) <;> first | (exfalso; first | omega | contradiction) | (conv => whnf))
    | (refine Both.mk ?_ ?_ <;> (conv => whnf))
    | (refine And.intro (by first | decide | omega) ?_; conv => whnf)
    | fail
  refine CallP.is (l2Key_ret _ _) rfl ?_
  conv => whnf
  repeat' first
    | (refine CondP.yes ?_; conv => whnf)
    | (refine CondP.not ?_; conv => whnf)
    | ((first | refine CondP.dec (fun h => ?_) (fun h => ?_) | refine CondP.ndec (fun h => ?_) (fun h => ?_)) <;> first | (exfalso; first | omega | contradiction) | (conv => whnf))
    | (refine Both.mk ?_ ?_ <;> (conv => whnf))
    | (refine And.intro (by first | decide | omega) ?_; conv => whnf)
    | fail
  refine FinOk.pure rfl rfl rfl ⟨?_, rfl, rfl⟩
  rfl
theorem implKeyLock_ret (k : Int) (n : Nat) (hk : inR 0 899 k) : Ret Try.prog 14 [iv k] [] n true (Is (.agg [iv 0, .own n 2]) [(n, .list 2 1 (ivs [100 + k, 8]))] (n + 1)) := by
  refine Ret.fn ttOk Try.func14 rfl Try.call14 rfl rfl ?_
  conv => whnf
  repeat' first
    | (refine CondP.yes ?_; conv => whnf)
    | (refine CondP.not ?_; conv => whnf)
    | ((first | refine CondP.dec (fun h => ?_) (fun h => ?_) | refine CondP.ndec (fun h => ?_) (fun h => ?_)) <;> first | (exfalso; first | omega | contradiction) | (conv => whnf))
    | (refine Both.mk ?_ ?_ <;> (conv => whnf))
    | (refine And.intro (by first | decide | omega) ?_; conv => whnf)
    | fail
  refine CallP.is (isKey_ret _ _) rfl ?_
  conv => whnf
  repeat' first
    | (refine CondP.yes ?_; conv => whnf)
    | (refine CondP.not ?_; conv => whnf)
    | ((first | refine CondP.dec (fun h => ?_) (fun h => ?_) | refine CondP.ndec (fun h => ?_) (fun h => ?_)) <;> first | (exfalso; first | omega | contradiction) | (conv => whnf))
    | (refine Both.mk ?_ ?_ <;> (conv => whnf))
    | (refine And.intro (by first | decide | omega) ?_; conv => whnf)
    | fail
  refine FinOk.mk' [1] rfl rfl rfl rfl rfl rfl rfl ⟨?_, ?_, rfl⟩
  · rfl
  · unfold inR at hk; rw [IntWalk.i64_in _ (by omega)]; rfl
theorem implKeyLock_no (k : Int) (n : Nat) (hk : ¬ inR 0 899 k) : Ret Try.prog 14 [iv k] [] n true (Is (.agg [iv 3, nl]) [] n) := by
  refine Ret.fn ttOk Try.func14 rfl Try.call14 rfl rfl ?_
  conv => whnf
  repeat' first
    | (refine CondP.yes ?_; conv => whnf)
    | (refine CondP.not ?_; conv => whnf)
    | ((first | refine CondP.dec (fun h => ?_) (fun h => ?_) | refine CondP.ndec (fun h => ?_) (fun h => ?_)) <;> first | (exfalso; first | omega | contradiction) | (conv => whnf))
    | (refine Both.mk ?_ ?_ <;> (conv => whnf))
    | (refine And.intro (by first | decide | omega) ?_; conv => whnf)
    | fail
  refine CallP.is (isKey_ret _ _) rfl ?_
  conv => whnf
  repeat' first
    | (refine CondP.yes ?_; conv => whnf)
    | (refine CondP.not ?_; conv => whnf)
    | ((first | refine CondP.dec (fun h => ?_) (fun h => ?_) | refine CondP.ndec (fun h => ?_) (fun h => ?_)) <;> first | (exfalso; first | omega | contradiction) | (conv => whnf))
    | (refine Both.mk ?_ ?_ <;> (conv => whnf))
    | (refine And.intro (by first | decide | omega) ?_; conv => whnf)
    | fail
  refine FinOk.pure rfl rfl rfl ⟨?_, rfl, rfl⟩
  rfl
theorem specPairLock_ret (a b : Int) (n : Nat) (ha : inR 0 899 a) (hb : inR 0 899 b) : Ret Try.prog 20 [iv a, iv b] [] n true (Is (.agg [iv 0, .own n 5]) [(n, .list 2 1 (ivs [100 + a, 8, 6, 100 + b, 8]))] (n + 1)) := by
  refine Ret.fn ttOk Try.func20 rfl Try.call20 rfl rfl ?_
  conv => whnf
  repeat' first
    | (refine CondP.yes ?_; conv => whnf)
    | (refine CondP.not ?_; conv => whnf)
    | ((first | refine CondP.dec (fun h => ?_) (fun h => ?_) | refine CondP.ndec (fun h => ?_) (fun h => ?_)) <;> first | (exfalso; first | omega | contradiction) | (conv => whnf))
    | (refine Both.mk ?_ ?_ <;> (conv => whnf))
    | (refine And.intro (by first | decide | omega) ?_; conv => whnf)
    | fail
  refine CallP.is (l2Key_ret _ _) rfl ?_
  conv => whnf
  repeat' first
    | (refine CondP.yes ?_; conv => whnf)
    | (refine CondP.not ?_; conv => whnf)
    | ((first | refine CondP.dec (fun h => ?_) (fun h => ?_) | refine CondP.ndec (fun h => ?_) (fun h => ?_)) <;> first | (exfalso; first | omega | contradiction) | (conv => whnf))
    | (refine Both.mk ?_ ?_ <;> (conv => whnf))
    | (refine And.intro (by first | decide | omega) ?_; conv => whnf)
    | fail
  refine CallP.is (l2Key_ret _ _) rfl ?_
  conv => whnf
  repeat' first
    | (refine CondP.yes ?_; conv => whnf)
    | (refine CondP.not ?_; conv => whnf)
    | ((first | refine CondP.dec (fun h => ?_) (fun h => ?_) | refine CondP.ndec (fun h => ?_) (fun h => ?_)) <;> first | (exfalso; first | omega | contradiction) | (conv => whnf))
    | (refine Both.mk ?_ ?_ <;> (conv => whnf))
    | (refine And.intro (by first | decide | omega) ?_; conv => whnf)
    | fail
  refine CallP.is (l2KeyLock_ret _ _ ha) rfl ?_
  conv => whnf
  repeat' first
    | (refine CondP.yes ?_; conv => whnf)
    | (refine CondP.not ?_; conv => whnf)
    | ((first | refine CondP.dec (fun h => ?_) (fun h => ?_) | refine CondP.ndec (fun h => ?_) (fun h => ?_)) <;> first | (exfalso; first | omega | contradiction) | (conv => whnf))
    | (refine Both.mk ?_ ?_ <;> (conv => whnf))
    | (refine And.intro (by first | decide | omega) ?_; conv => whnf)
    | fail
  refine ⟨⟨by (first | trivial | omega | (simp only [List.length_map, List.length_take, List.length_drop, List.length_append, List.length_set, List.length_replicate, List.length_cons, List.length_nil, four_len, fours_len, maxLen] at *; omega)), by (first | trivial | omega | (simp only [List.length_map, List.length_take, List.length_drop, List.length_append, List.length_set, List.length_replicate, List.length_cons, List.length_nil, four_len, fours_len, maxLen] at *; omega)), by (first | trivial | omega | (simp only [List.length_map, List.length_take, List.length_drop, List.length_append, List.length_set, List.length_replicate, List.length_cons, List.length_nil, four_len, fours_len, maxLen] at *; omega)), by (first | trivial | omega | (simp only [List.length_map, List.length_take, List.length_drop, List.length_append, List.length_set, List.length_replicate, List.length_cons, List.length_nil, four_len, fours_len, maxLen] at *; omega)), by (first | (refine rowsB_ok ?_; rfl) | (intro r hr; first | exact row1 hr | exact row1 (List.mem_of_mem_take hr)))⟩, ?_⟩
  conv => whnf
  repeat' first
    | (refine CondP.yes ?_; conv => whnf)
    | (refine CondP.not ?_; conv => whnf)
    | ((first | refine CondP.dec (fun h => ?_) (fun h => ?_) | refine CondP.ndec (fun h => ?_) (fun h => ?_)) <;> first | (exfalso; first | omega | contradiction) | (conv => whnf))
    | (refine Both.mk ?_ ?_ <;> (conv => whnf))
    | (refine And.intro (by first | decide | omega) ?_; conv => whnf)
    | fail
  refine CallP.is (l2KeyLock_ret _ _ hb) rfl ?_
  conv => whnf
  repeat' first
    | (refine CondP.yes ?_; conv => whnf)
    | (refine CondP.not ?_; conv => whnf)
    | ((first | refine CondP.dec (fun h => ?_) (fun h => ?_) | refine CondP.ndec (fun h => ?_) (fun h => ?_)) <;> first | (exfalso; first | omega | contradiction) | (conv => whnf))
    | (refine Both.mk ?_ ?_ <;> (conv => whnf))
    | (refine And.intro (by first | decide | omega) ?_; conv => whnf)
    | fail
  refine ⟨⟨by (first | trivial | omega | (simp only [List.length_map, List.length_take, List.length_drop, List.length_append, List.length_set, List.length_replicate, List.length_cons, List.length_nil, four_len, fours_len, maxLen] at *; omega)), by (first | trivial | omega | (simp only [List.length_map, List.length_take, List.length_drop, List.length_append, List.length_set, List.length_replicate, List.length_cons, List.length_nil, four_len, fours_len, maxLen] at *; omega)), by (first | trivial | omega | (simp only [List.length_map, List.length_take, List.length_drop, List.length_append, List.length_set, List.length_replicate, List.length_cons, List.length_nil, four_len, fours_len, maxLen] at *; omega)), by (first | trivial | omega | (simp only [List.length_map, List.length_take, List.length_drop, List.length_append, List.length_set, List.length_replicate, List.length_cons, List.length_nil, four_len, fours_len, maxLen] at *; omega)), by (first | (refine rowsB_ok ?_; rfl) | (intro r hr; first | exact row1 hr | exact row1 (List.mem_of_mem_take hr)))⟩, ?_⟩
  conv => whnf
  repeat' first
    | (refine CondP.yes ?_; conv => whnf)
    | (refine CondP.not ?_; conv => whnf)
    | ((first | refine CondP.dec (fun h => ?_) (fun h => ?_) | refine CondP.ndec (fun h => ?_) (fun h => ?_)) <;> first | (exfalso; first | omega | contradiction) | (conv => whnf))
    | (refine Both.mk ?_ ?_ <;> (conv => whnf))
    | (refine And.intro (by first | decide | omega) ?_; conv => whnf)
    | fail
  refine FinOk.mk' [1] rfl rfl rfl rfl rfl rfl rfl ⟨?_, ?_, rfl⟩
  · rfl
  · rfl
theorem specPairLock_no (a b : Int) (n : Nat) (hn : ¬ (inR 0 899 a ∧ inR 0 899 b)) : Ret Try.prog 20 [iv a, iv b] [] n true (Is (.agg [iv 3, nl]) [] n) := by
  refine Ret.fn ttOk Try.func20 rfl Try.call20 rfl rfl ?_
  conv => whnf
  repeat' first
    | (refine CondP.yes ?_; conv => whnf)
    | (refine CondP.not ?_; conv => whnf)
    | ((first | refine CondP.dec (fun h => ?_) (fun h => ?_) | refine CondP.ndec (fun h => ?_) (fun h => ?_)) <;> first | (exfalso; first | omega | contradiction) | (conv => whnf))
    | (refine Both.mk ?_ ?_ <;> (conv => whnf))
    | (refine And.intro (by first | decide | omega) ?_; conv => whnf)
    | fail
  refine CallP.is (l2Key_ret _ _) rfl ?_
  conv => whnf
  repeat' first
    | (refine CondP.yes ?_; conv => whnf)
    | (refine CondP.not ?_; conv => whnf)
    | ((first | refine CondP.dec (fun h => ?_) (fun h => ?_) | refine CondP.ndec (fun h => ?_) (fun h => ?_)) <;> first | (exfalso; first | omega | contradiction) | (conv => whnf))
    | (refine Both.mk ?_ ?_ <;> (conv => whnf))
    | (refine And.intro (by first | decide | omega) ?_; conv => whnf)
    | fail
  · refine FinOk.pure rfl rfl rfl ⟨?_, rfl, rfl⟩
    rfl
  refine CallP.is (l2Key_ret _ _) rfl ?_
  conv => whnf
  repeat' first
    | (refine CondP.yes ?_; conv => whnf)
    | (refine CondP.not ?_; conv => whnf)
    | ((first | refine CondP.dec (fun h => ?_) (fun h => ?_) | refine CondP.ndec (fun h => ?_) (fun h => ?_)) <;> first | (exfalso; first | omega | contradiction) | (conv => whnf))
    | (refine Both.mk ?_ ?_ <;> (conv => whnf))
    | (refine And.intro (by first | decide | omega) ?_; conv => whnf)
    | fail
  · refine FinOk.pure rfl rfl rfl ⟨?_, rfl, rfl⟩
    rfl
  · exact absurd ⟨by assumption, by assumption⟩ hn
theorem implPairLock_ret (a b : Int) (n : Nat) (ha : inR 0 899 a) (hb : inR 0 899 b) : Ret Try.prog 15 [iv a, iv b] [] n true (Is (.agg [iv 0, .own n 5]) [(n, .list 2 1 (ivs [100 + a, 8, 6, 100 + b, 8]))] (n + 1)) := by
  refine Ret.fn ttOk Try.func15 rfl Try.call15 rfl rfl ?_
  conv => whnf
  repeat' first
    | (refine CondP.yes ?_; conv => whnf)
    | (refine CondP.not ?_; conv => whnf)
    | ((first | refine CondP.dec (fun h => ?_) (fun h => ?_) | refine CondP.ndec (fun h => ?_) (fun h => ?_)) <;> first | (exfalso; first | omega | contradiction) | (conv => whnf))
    | (refine Both.mk ?_ ?_ <;> (conv => whnf))
    | (refine And.intro (by first | decide | omega) ?_; conv => whnf)
    | fail
  refine CallP.is (isKey_ret _ _) rfl ?_
  conv => whnf
  repeat' first
    | (refine CondP.yes ?_; conv => whnf)
    | (refine CondP.not ?_; conv => whnf)
    | ((first | refine CondP.dec (fun h => ?_) (fun h => ?_) | refine CondP.ndec (fun h => ?_) (fun h => ?_)) <;> first | (exfalso; first | omega | contradiction) | (conv => whnf))
    | (refine Both.mk ?_ ?_ <;> (conv => whnf))
    | (refine And.intro (by first | decide | omega) ?_; conv => whnf)
    | fail
  refine CallP.is (isKey_ret _ _) rfl ?_
  conv => whnf
  repeat' first
    | (refine CondP.yes ?_; conv => whnf)
    | (refine CondP.not ?_; conv => whnf)
    | ((first | refine CondP.dec (fun h => ?_) (fun h => ?_) | refine CondP.ndec (fun h => ?_) (fun h => ?_)) <;> first | (exfalso; first | omega | contradiction) | (conv => whnf))
    | (refine Both.mk ?_ ?_ <;> (conv => whnf))
    | (refine And.intro (by first | decide | omega) ?_; conv => whnf)
    | fail
  unfold inR at ha hb
  refine FinOk.mk' [1] rfl rfl rfl rfl rfl rfl rfl ⟨?_, ?_, rfl⟩
  · rfl
  · rw [IntWalk.i64_in (100 + a) (by omega), IntWalk.i64_in (100 + b) (by omega)]; rfl
theorem implPairLock_no (a b : Int) (n : Nat) (hn : ¬ (inR 0 899 a ∧ inR 0 899 b)) : Ret Try.prog 15 [iv a, iv b] [] n true (Is (.agg [iv 3, nl]) [] n) := by
  refine Ret.fn ttOk Try.func15 rfl Try.call15 rfl rfl ?_
  conv => whnf
  repeat' first
    | (refine CondP.yes ?_; conv => whnf)
    | (refine CondP.not ?_; conv => whnf)
    | ((first | refine CondP.dec (fun h => ?_) (fun h => ?_) | refine CondP.ndec (fun h => ?_) (fun h => ?_)) <;> first | (exfalso; first | omega | contradiction) | (conv => whnf))
    | (refine Both.mk ?_ ?_ <;> (conv => whnf))
    | (refine And.intro (by first | decide | omega) ?_; conv => whnf)
    | fail
  refine CallP.is (isKey_ret _ _) rfl ?_
  conv => whnf
  repeat' first
    | (refine CondP.yes ?_; conv => whnf)
    | (refine CondP.not ?_; conv => whnf)
    | ((first | refine CondP.dec (fun h => ?_) (fun h => ?_) | refine CondP.ndec (fun h => ?_) (fun h => ?_)) <;> first | (exfalso; first | omega | contradiction) | (conv => whnf))
    | (refine Both.mk ?_ ?_ <;> (conv => whnf))
    | (refine And.intro (by first | decide | omega) ?_; conv => whnf)
    | fail
  · refine FinOk.pure rfl rfl rfl ⟨?_, rfl, rfl⟩
    rfl
  refine CallP.is (isKey_ret _ _) rfl ?_
  conv => whnf
  repeat' first
    | (refine CondP.yes ?_; conv => whnf)
    | (refine CondP.not ?_; conv => whnf)
    | ((first | refine CondP.dec (fun h => ?_) (fun h => ?_) | refine CondP.ndec (fun h => ?_) (fun h => ?_)) <;> first | (exfalso; first | omega | contradiction) | (conv => whnf))
    | (refine Both.mk ?_ ?_ <;> (conv => whnf))
    | (refine And.intro (by first | decide | omega) ?_; conv => whnf)
    | fail
  · refine FinOk.pure rfl rfl rfl ⟨?_, rfl, rfl⟩
    rfl
  · exact absurd ⟨by assumption, by assumption⟩ hn
theorem specLaterLock_ret (k t : Int) (n : Nat) (hk : inR 0 899 k) (ht : inR 0 999 t) : Ret Try.prog 19 [iv k, iv t] [] n true (Is (.agg [iv 0, .own n 4]) [(n, .list 2 1 (ivs [100 + t, 9, 100 + k, 8]))] (n + 1)) := by
  refine Ret.fn ttOk Try.func19 rfl Try.call19 rfl rfl ?_
  conv => whnf
  repeat' first
    | (refine CondP.yes ?_; conv => whnf)
    | (refine CondP.not ?_; conv => whnf)
    | ((first | refine CondP.dec (fun h => ?_) (fun h => ?_) | refine CondP.ndec (fun h => ?_) (fun h => ?_)) <;> first | (exfalso; first | omega | contradiction) | (conv => whnf))
    | (refine Both.mk ?_ ?_ <;> (conv => whnf))
    | (refine And.intro (by first | decide | omega) ?_; conv => whnf)
    | fail
  refine CallP.is (l2Key_ret _ _) rfl ?_
  conv => whnf
  repeat' first
    | (refine CondP.yes ?_; conv => whnf)
    | (refine CondP.not ?_; conv => whnf)
    | ((first | refine CondP.dec (fun h => ?_) (fun h => ?_) | refine CondP.ndec (fun h => ?_) (fun h => ?_)) <;> first | (exfalso; first | omega | contradiction) | (conv => whnf))
    | (refine Both.mk ?_ ?_ <;> (conv => whnf))
    | (refine And.intro (by first | decide | omega) ?_; conv => whnf)
    | fail
  refine CallP.is (l1In_ret _ _ _ _) rfl ?_
  conv => whnf
  repeat' first
    | (refine CondP.yes ?_; conv => whnf)
    | (refine CondP.not ?_; conv => whnf)
    | ((first | refine CondP.dec (fun h => ?_) (fun h => ?_) | refine CondP.ndec (fun h => ?_) (fun h => ?_)) <;> first | (exfalso; first | omega | contradiction) | (conv => whnf))
    | (refine Both.mk ?_ ?_ <;> (conv => whnf))
    | (refine And.intro (by first | decide | omega) ?_; conv => whnf)
    | fail
  refine CallP.is (l2KeyLock_ret _ _ hk) rfl ?_
  conv => whnf
  repeat' first
    | (refine CondP.yes ?_; conv => whnf)
    | (refine CondP.not ?_; conv => whnf)
    | ((first | refine CondP.dec (fun h => ?_) (fun h => ?_) | refine CondP.ndec (fun h => ?_) (fun h => ?_)) <;> first | (exfalso; first | omega | contradiction) | (conv => whnf))
    | (refine Both.mk ?_ ?_ <;> (conv => whnf))
    | (refine And.intro (by first | decide | omega) ?_; conv => whnf)
    | fail
  refine ⟨⟨by (first | trivial | omega | (simp only [List.length_map, List.length_take, List.length_drop, List.length_append, List.length_set, List.length_replicate, List.length_cons, List.length_nil, four_len, fours_len, maxLen] at *; omega)), by (first | trivial | omega | (simp only [List.length_map, List.length_take, List.length_drop, List.length_append, List.length_set, List.length_replicate, List.length_cons, List.length_nil, four_len, fours_len, maxLen] at *; omega)), by (first | trivial | omega | (simp only [List.length_map, List.length_take, List.length_drop, List.length_append, List.length_set, List.length_replicate, List.length_cons, List.length_nil, four_len, fours_len, maxLen] at *; omega)), by (first | trivial | omega | (simp only [List.length_map, List.length_take, List.length_drop, List.length_append, List.length_set, List.length_replicate, List.length_cons, List.length_nil, four_len, fours_len, maxLen] at *; omega)), by (first | (refine rowsB_ok ?_; rfl) | (intro r hr; first | exact row1 hr | exact row1 (List.mem_of_mem_take hr)))⟩, ?_⟩
  conv => whnf
  repeat' first
    | (refine CondP.yes ?_; conv => whnf)
    | (refine CondP.not ?_; conv => whnf)
    | ((first | refine CondP.dec (fun h => ?_) (fun h => ?_) | refine CondP.ndec (fun h => ?_) (fun h => ?_)) <;> first | (exfalso; first | omega | contradiction) | (conv => whnf))
    | (refine Both.mk ?_ ?_ <;> (conv => whnf))
    | (refine And.intro (by first | decide | omega) ?_; conv => whnf)
    | fail
  unfold inR at ht
  refine FinOk.mk' [1] rfl rfl rfl rfl rfl rfl rfl ⟨?_, ?_, rfl⟩
  · rfl
  · rw [IntWalk.i64_in (100 + t) (by omega)]; rfl
theorem specLaterLock_no (k t : Int) (n : Nat) (hn : ¬ (inR 0 899 k ∧ inR 0 999 t)) : Ret Try.prog 19 [iv k, iv t] [] n true (Is (.agg [iv 3, nl]) [] n) := by
  refine Ret.fn ttOk Try.func19 rfl Try.call19 rfl rfl ?_
  conv => whnf
  repeat' first
    | (refine CondP.yes ?_; conv => whnf)
    | (refine CondP.not ?_; conv => whnf)
    | ((first | refine CondP.dec (fun h => ?_) (fun h => ?_) | refine CondP.ndec (fun h => ?_) (fun h => ?_)) <;> first | (exfalso; first | omega | contradiction) | (conv => whnf))
    | (refine Both.mk ?_ ?_ <;> (conv => whnf))
    | (refine And.intro (by first | decide | omega) ?_; conv => whnf)
    | fail
  refine CallP.is (l2Key_ret _ _) rfl ?_
  conv => whnf
  repeat' first
    | (refine CondP.yes ?_; conv => whnf)
    | (refine CondP.not ?_; conv => whnf)
    | ((first | refine CondP.dec (fun h => ?_) (fun h => ?_) | refine CondP.ndec (fun h => ?_) (fun h => ?_)) <;> first | (exfalso; first | omega | contradiction) | (conv => whnf))
    | (refine Both.mk ?_ ?_ <;> (conv => whnf))
    | (refine And.intro (by first | decide | omega) ?_; conv => whnf)
    | fail
  · refine FinOk.pure rfl rfl rfl ⟨?_, rfl, rfl⟩
    rfl
  refine CallP.is (l1In_ret _ _ _ _) rfl ?_
  conv => whnf
  repeat' first
    | (refine CondP.yes ?_; conv => whnf)
    | (refine CondP.not ?_; conv => whnf)
    | ((first | refine CondP.dec (fun h => ?_) (fun h => ?_) | refine CondP.ndec (fun h => ?_) (fun h => ?_)) <;> first | (exfalso; first | omega | contradiction) | (conv => whnf))
    | (refine Both.mk ?_ ?_ <;> (conv => whnf))
    | (refine And.intro (by first | decide | omega) ?_; conv => whnf)
    | fail
  · refine FinOk.pure rfl rfl rfl ⟨?_, rfl, rfl⟩
    rfl
  · exact absurd ⟨by assumption, by assumption⟩ hn
theorem implLaterLock_no (k t : Int) (n : Nat) (hn : ¬ (inR 0 899 k ∧ inR 0 999 t)) : Ret Try.prog 17 [iv k, iv t] [] n true (Is (.agg [iv 3, nl]) [] n) := by
  refine Ret.fn ttOk Try.func17 rfl Try.call17 rfl rfl ?_
  conv => whnf
  repeat' first
    | (refine CondP.yes ?_; conv => whnf)
    | (refine CondP.not ?_; conv => whnf)
    | ((first | refine CondP.dec (fun h => ?_) (fun h => ?_) | refine CondP.ndec (fun h => ?_) (fun h => ?_)) <;> first | (exfalso; first | omega | contradiction) | (conv => whnf))
    | (refine Both.mk ?_ ?_ <;> (conv => whnf))
    | (refine And.intro (by first | decide | omega) ?_; conv => whnf)
    | fail
  refine CallP.is (isKey_ret _ _) rfl ?_
  conv => whnf
  repeat' first
    | (refine CondP.yes ?_; conv => whnf)
    | (refine CondP.not ?_; conv => whnf)
    | ((first | refine CondP.dec (fun h => ?_) (fun h => ?_) | refine CondP.ndec (fun h => ?_) (fun h => ?_)) <;> first | (exfalso; first | omega | contradiction) | (conv => whnf))
    | (refine Both.mk ?_ ?_ <;> (conv => whnf))
    | (refine And.intro (by first | decide | omega) ?_; conv => whnf)
    | fail
  · refine FinOk.pure rfl rfl rfl ⟨?_, rfl, rfl⟩
    rfl
  all_goals first
    | (refine FinOk.pure rfl rfl rfl ⟨?_, rfl, rfl⟩; rfl)
    | (exfalso; refine absurd ⟨by assumption, ?_⟩ hn; unfold inR; omega)
theorem implLaterLock_ret (k t : Int) (n : Nat) (hk : inR 0 899 k) (ht : inR 0 999 t) : Ret Try.prog 17 [iv k, iv t] [] n true (Is (.agg [iv 0, .own n 4]) [(n, .list 2 1 (ivs [100 + t, 9, 100 + k, 8]))] (n + 1)) := by
  unfold inR at ht
  refine Ret.fn ttOk Try.func17 rfl Try.call17 rfl rfl ?_
  conv => whnf
  repeat' first
    | (refine CondP.yes ?_; conv => whnf)
    | (refine CondP.not ?_; conv => whnf)
    | ((first | refine CondP.dec (fun h => ?_) (fun h => ?_) | refine CondP.ndec (fun h => ?_) (fun h => ?_)) <;> first | (exfalso; first | omega | contradiction) | (conv => whnf))
    | (refine Both.mk ?_ ?_ <;> (conv => whnf))
    | (refine And.intro (by first | decide | omega) ?_; conv => whnf)
    | fail
  refine CallP.is (isKey_ret _ _) rfl ?_
  conv => whnf
  repeat' first
    | (refine CondP.yes ?_; conv => whnf)
    | (refine CondP.not ?_; conv => whnf)
    | ((first | refine CondP.dec (fun h => ?_) (fun h => ?_) | refine CondP.ndec (fun h => ?_) (fun h => ?_)) <;> first | (exfalso; first | omega | contradiction) | (conv => whnf))
    | (refine Both.mk ?_ ?_ <;> (conv => whnf))
    | (refine And.intro (by first | decide | omega) ?_; conv => whnf)
    | fail
  unfold inR at hk
  refine FinOk.mk' [1] rfl rfl rfl rfl rfl rfl rfl ⟨?_, ?_, rfl⟩
  · rfl
  · rw [IntWalk.i64_in (100 + k) (by omega), IntWalk.i64_in (100 + t) (by omega)]; rfl
theorem shortSum_ret (l : List Int) (n : Nat) (hl : l.length ≤ 200) (ha : allB 0 2147483646 l = true) : Ret Try.prog 49 [il l] [] n true (Is (iv (sumI l % 1000)) [] n) := by
  refine Ret.fn ttOk Try.func49 rfl Try.call49 rfl rfl ?_
  conv => whnf
  repeat' first
    | (refine CondP.yes ?_; conv => whnf)
    | (refine CondP.not ?_; conv => whnf)
    | ((first | refine CondP.dec (fun h => ?_) (fun h => ?_) | refine CondP.ndec (fun h => ?_) (fun h => ?_)) <;> first | (exfalso; first | omega | contradiction) | (conv => whnf))
    | (refine Both.mk ?_ ?_ <;> (conv => whnf))
    | (refine And.intro (by first | decide | omega) ?_; conv => whnf)
    | fail
  refine CallP.is (implSumInts_ret l _ (by omega)) rfl ?_
  conv => whnf
  repeat' first
    | (refine CondP.yes ?_; conv => whnf)
    | (refine CondP.not ?_; conv => whnf)
    | ((first | refine CondP.dec (fun h => ?_) (fun h => ?_) | refine CondP.ndec (fun h => ?_) (fun h => ?_)) <;> first | (exfalso; first | omega | contradiction) | (conv => whnf))
    | (refine Both.mk ?_ ?_ <;> (conv => whnf))
    | (refine And.intro (by first | decide | omega) ?_; conv => whnf)
    | fail
  unfold sumIR
  rw [if_neg (by omega), if_pos ha]
  conv => whnf
  repeat' first
    | (refine CondP.yes ?_; conv => whnf)
    | (refine CondP.not ?_; conv => whnf)
    | ((first | refine CondP.dec (fun h => ?_) (fun h => ?_) | refine CondP.ndec (fun h => ?_) (fun h => ?_)) <;> first | (exfalso; first | omega | contradiction) | (conv => whnf))
    | (refine Both.mk ?_ ?_ <;> (conv => whnf))
    | (refine And.intro (by first | decide | omega) ?_; conv => whnf)
    | fail
  refine FinOk.pure rfl rfl rfl ⟨?_, rfl, rfl⟩
  rw [IntWalk.rem_in _ _ (by have := sumI_bd l; omega)]
theorem l2Sign_ret (k t : Int) (n : Nat) : Ret Try.prog 53 [iv k, iv t] [] n true (Is (iv (signF k t)) [] n) := by
  refine Ret.fn ttOk Try.func53 rfl Try.call53 rfl rfl ?_
  conv => whnf
  repeat' first
    | (refine CondP.yes ?_; conv => whnf)
    | (refine CondP.not ?_; conv => whnf)
    | ((first | refine CondP.dec (fun h => ?_) (fun h => ?_) | refine CondP.ndec (fun h => ?_) (fun h => ?_)) <;> first | (exfalso; first | omega | contradiction) | (conv => whnf))
    | (refine Both.mk ?_ ?_ <;> (conv => whnf))
    | (refine And.intro (by first | decide | omega) ?_; conv => whnf)
    | fail
  refine CallP.convIs (l1SumInts_ret [k, t, 7] _ (Nat.le_of_ble_eq_true rfl)) ?_ ?_ rfl trivial ?_
  · rfl
  · exact ⟨Nat.le_refl _, trivial⟩
  conv => whnf
  repeat' first
    | (refine CondP.yes ?_; conv => whnf)
    | (refine CondP.not ?_; conv => whnf)
    | ((first | refine CondP.dec (fun h => ?_) (fun h => ?_) | refine CondP.ndec (fun h => ?_) (fun h => ?_)) <;> first | (exfalso; first | omega | contradiction) | (conv => whnf))
    | (refine Both.mk ?_ ?_ <;> (conv => whnf))
    | (refine And.intro (by first | decide | omega) ?_; conv => whnf)
    | fail
  refine FinOk.pure rfl rfl rfl ⟨?_, rfl, rfl⟩
  rw [IntWalk.rem_in _ _ (by have := sumI_bd [k, t, 7]; omega)]
  rfl
theorem specSignOf_ret (k t : Int) (n : Nat) : Ret Try.prog 37 [iv k, iv t] [] n true (Is (.agg (signR k t)) [] n) := by
  refine Ret.fn ttOk Try.func37 rfl Try.call37 rfl rfl ?_
  conv => whnf
  repeat' first
    | (refine CondP.yes ?_; conv => whnf)
    | (refine CondP.not ?_; conv => whnf)
    | ((first | refine CondP.dec (fun h => ?_) (fun h => ?_) | refine CondP.ndec (fun h => ?_) (fun h => ?_)) <;> first | (exfalso; first | omega | contradiction) | (conv => whnf))
    | (refine Both.mk ?_ ?_ <;> (conv => whnf))
    | (refine And.intro (by first | decide | omega) ?_; conv => whnf)
    | fail
  refine CallP.is (l2Key_ret _ _) rfl ?_
  conv => whnf
  repeat' first
    | (refine CondP.yes ?_; conv => whnf)
    | (refine CondP.not ?_; conv => whnf)
    | ((first | refine CondP.dec (fun h => ?_) (fun h => ?_) | refine CondP.ndec (fun h => ?_) (fun h => ?_)) <;> first | (exfalso; first | omega | contradiction) | (conv => whnf))
    | (refine Both.mk ?_ ?_ <;> (conv => whnf))
    | (refine And.intro (by first | decide | omega) ?_; conv => whnf)
    | fail
  · refine FinOk.pure rfl rfl rfl ⟨?_, rfl, rfl⟩
    unfold signR; rw [if_neg (fun h' => absurd h'.1 (by assumption))]
  refine CallP.is (l1In_ret _ _ _ _) rfl ?_
  conv => whnf
  repeat' first
    | (refine CondP.yes ?_; conv => whnf)
    | (refine CondP.not ?_; conv => whnf)
    | ((first | refine CondP.dec (fun h => ?_) (fun h => ?_) | refine CondP.ndec (fun h => ?_) (fun h => ?_)) <;> first | (exfalso; first | omega | contradiction) | (conv => whnf))
    | (refine Both.mk ?_ ?_ <;> (conv => whnf))
    | (refine And.intro (by first | decide | omega) ?_; conv => whnf)
    | fail
  · refine FinOk.pure rfl rfl rfl ⟨?_, rfl, rfl⟩
    unfold signR; rw [if_neg (fun h' => absurd h'.2 (by assumption))]
  refine CallP.is (l2Sign_ret _ _ _) rfl ?_
  conv => whnf
  repeat' first
    | (refine CondP.yes ?_; conv => whnf)
    | (refine CondP.not ?_; conv => whnf)
    | ((first | refine CondP.dec (fun h => ?_) (fun h => ?_) | refine CondP.ndec (fun h => ?_) (fun h => ?_)) <;> first | (exfalso; first | omega | contradiction) | (conv => whnf))
    | (refine Both.mk ?_ ?_ <;> (conv => whnf))
    | (refine And.intro (by first | decide | omega) ?_; conv => whnf)
    | fail
  refine FinOk.pure rfl rfl rfl ⟨?_, rfl, rfl⟩
  unfold signR; rw [if_pos ⟨by assumption, by assumption⟩]
theorem allB3 {k t : Int} (h : inR 0 899 k) (h' : inR 0 2147483646 t) : allB 0 2147483646 [k, t, 7] = true := by
  unfold inR at h h'
  simp [allB]; omega
theorem implSignOf_ret (k t : Int) (n : Nat) : Ret Try.prog 21 [iv k, iv t] [] n true (Is (.agg (signR k t)) [] n) := by
  refine Ret.fn ttOk Try.func21 rfl Try.call21 rfl rfl ?_
  conv => whnf
  repeat' first
    | (refine CondP.yes ?_; conv => whnf)
    | (refine CondP.not ?_; conv => whnf)
    | ((first | refine CondP.dec (fun h => ?_) (fun h => ?_) | refine CondP.ndec (fun h => ?_) (fun h => ?_)) <;> first | (exfalso; first | omega | contradiction) | (conv => whnf))
    | (refine Both.mk ?_ ?_ <;> (conv => whnf))
    | (refine And.intro (by first | decide | omega) ?_; conv => whnf)
    | fail
  refine CallP.is (isKey_ret _ _) rfl ?_
  conv => whnf
  repeat' first
    | (refine CondP.yes ?_; conv => whnf)
    | (refine CondP.not ?_; conv => whnf)
    | ((first | refine CondP.dec (fun h => ?_) (fun h => ?_) | refine CondP.ndec (fun h => ?_) (fun h => ?_)) <;> first | (exfalso; first | omega | contradiction) | (conv => whnf))
    | (refine Both.mk ?_ ?_ <;> (conv => whnf))
    | (refine And.intro (by first | decide | omega) ?_; conv => whnf)
    | fail
  · refine FinOk.pure rfl rfl rfl ⟨?_, rfl, rfl⟩
    unfold signR; rw [if_neg (fun h' => absurd h'.1 (by assumption))]
  refine CallP.is (isSum_ret _ _) rfl ?_
  conv => whnf
  repeat' first
    | (refine CondP.yes ?_; conv => whnf)
    | (refine CondP.not ?_; conv => whnf)
    | ((first | refine CondP.dec (fun h => ?_) (fun h => ?_) | refine CondP.ndec (fun h => ?_) (fun h => ?_)) <;> first | (exfalso; first | omega | contradiction) | (conv => whnf))
    | (refine Both.mk ?_ ?_ <;> (conv => whnf))
    | (refine And.intro (by first | decide | omega) ?_; conv => whnf)
    | fail
  · refine FinOk.pure rfl rfl rfl ⟨?_, rfl, rfl⟩
    unfold signR; rw [if_neg (fun h' => absurd h'.2 (by assumption))]
  refine CallP.convIs (shortSum_ret [k, t, 7] _ (Nat.le_of_ble_eq_true rfl) (allB3 (by assumption) (by assumption))) ?_ ?_ rfl trivial ?_
  · rfl
  · exact ⟨Nat.le_refl _, trivial⟩
  conv => whnf
  repeat' first
    | (refine CondP.yes ?_; conv => whnf)
    | (refine CondP.not ?_; conv => whnf)
    | ((first | refine CondP.dec (fun h => ?_) (fun h => ?_) | refine CondP.ndec (fun h => ?_) (fun h => ?_)) <;> first | (exfalso; first | omega | contradiction) | (conv => whnf))
    | (refine Both.mk ?_ ?_ <;> (conv => whnf))
    | (refine And.intro (by first | decide | omega) ?_; conv => whnf)
    | fail
  refine FinOk.pure rfl rfl rfl ⟨?_, rfl, rfl⟩
  unfold signR; rw [if_pos ⟨by assumption, by assumption⟩]
  rfl
end Go.Proofs.Ytgebhcahgmonpaa
