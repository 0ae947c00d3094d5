/-
  CHAPTER 2, the specification's runs, by the reading.
-/
import Derived.Test.YtgebhcahgmonpaaP5
namespace Go.Proofs.Ytgebhcahgmonpaa
open Go Go.Am Go.RowKit
set_option linter.unusedVariables false
set_option linter.unusedSimpArgs false
theorem l2Needs_ret (op : Int) (n : Nat) : Ret Try.prog 85 [iv op] [] n true (Is (iv (needs op : Nat)) [] n) := by
  refine Ret.fn ttOk Try.func85 rfl Try.call85 rfl rfl ?_
  conv => whnf
  repeat' first
    | (refine CondP.yes ?_; conv => whnf)
    | (refine CondP.not ?_; conv => whnf)
    | ((first | refine CondP.dec (fun h => ?_) (fun h => ?_) | refine CondP.ndec (fun h => ?_) (fun h => ?_)) <;> first | (exfalso; first | omega | contradiction) | (conv => whnf))
    | (refine Both.mk ?_ ?_ <;> (conv => whnf))
    | (refine And.intro (by first | decide | omega) ?_; conv => whnf)
    | fail
  all_goals (refine FinOk.pure rfl rfl rfl ⟨?_, rfl, rfl⟩; refine ivI ?_; unfold needs; simp [*])
theorem l2Bool_ret (b : Bool) (n : Nat) : Ret Try.prog 90 [bv b] [] n true (Is (iv (flagI b)) [] n) := by
  refine Ret.fn ttOk Try.func90 rfl Try.call90 rfl rfl ?_
  cases b
  all_goals (conv => whnf
             repeat' first
               | (refine CondP.yes ?_; conv => whnf)
               | (refine CondP.not ?_; conv => whnf)
               | ((first | refine CondP.dec (fun h => ?_) (fun h => ?_) | refine CondP.ndec (fun h => ?_) (fun h => ?_)) <;> first | (exfalso; first | omega | contradiction) | (conv => whnf))
               | (refine Both.mk ?_ ?_ <;> (conv => whnf))
               | (refine And.intro (by first | decide | omega) ?_; conv => whnf)
               | fail)
  all_goals (refine FinOk.pure rfl rfl rfl ⟨?_, rfl, rfl⟩; rfl)
/-- What an operation leaves, in the list that it takes. -/
def OutQ (i n : Nat) (r0 : List Int) (x : Int × List Int) : AV → Hp → Nat → Prop := fun r ho m => m = n ∧ ((x.1 = 0 ∧ r = .tup [.own i x.2.length, iv 0] ∧ ho = [(i, .list 2 1 (ivs x.2))]) ∨ (x.1 ≠ 0 ∧ r = .tup [nl, iv x.1] ∧ ho = [(i, .list 2 1 (ivs r0))]))
theorem takeI (r : List Int) : List.take r.length (ivs r) = ivs r := List.take_of_length_le (by simp)
theorem sumI_in (x : Int) : 0 ≤ sumI [x] ∧ sumI [x] ≤ 2147483646 := sumI_bd _
theorem l2One_ret (op : Int) (r : List Int) (x u : Int) (i n : Nat) (hn : needs op = 1) (hl : r.length ≤ 1000) : Ret Try.prog 86 [iv op, .own i r.length, iv x, iv u] [(i, .list 2 1 (ivs r))] n false (OutQ i n r (one2 op r x u)) := by
  refine Ret.of_run (tt := tt) ttOk Try.func86 rfl Try.call86 [i] [.list 2 1 (ivs r)] [iv op, .own 0 r.length, iv x, iv u] false n _ rfl (nodup1 i) (by exact Nat.le_of_ble_eq_true rfl) rfl rfl ?_
  have hop : op = 1 ∨ op = 2 ∨ op = 6 ∨ op = 7 ∨ op = 9 := by
    unfold needs at hn
    split at hn
    · assumption
    · split at hn <;> omega
  rcases hop with rfl | rfl | rfl | rfl | rfl
  · rw [show one2 1 r x u = (0, r ++ [x, x]) from by simp [one2]]
    conv => whnf
    repeat' first
      | (refine CondP.yes ?_; conv => whnf)
      | (refine CondP.not ?_; conv => whnf)
      | ((first | refine CondP.dec (fun h => ?_) (fun h => ?_) | refine CondP.ndec (fun h => ?_) (fun h => ?_)) <;> first | (exfalso; first | omega | contradiction) | (conv => whnf))
      | (refine Both.mk ?_ ?_ <;> (conv => whnf))
      | (refine And.intro (by first | decide | omega) ?_; conv => whnf)
      | fail
    refine ⟨⟨by (first | trivial | omega | (simp only [List.length_map, List.length_take, List.length_drop, List.length_append, List.length_set, List.length_replicate, List.length_cons, List.length_nil, four_len, fours_len, maxLen] at *; omega)), by (first | trivial | omega | (simp only [List.length_map, List.length_take, List.length_drop, List.length_append, List.length_set, List.length_replicate, List.length_cons, List.length_nil, four_len, fours_len, maxLen] at *; omega)), by (first | trivial | omega | (simp only [List.length_map, List.length_take, List.length_drop, List.length_append, List.length_set, List.length_replicate, List.length_cons, List.length_nil, four_len, fours_len, maxLen] at *; omega)), by (first | trivial | omega | (simp only [List.length_map, List.length_take, List.length_drop, List.length_append, List.length_set, List.length_replicate, List.length_cons, List.length_nil, four_len, fours_len, maxLen] at *; omega)), by (first | (refine rowsB_ok ?_; rfl) | (intro r hr; first | exact row1 hr | exact row1 (List.mem_of_mem_take hr)))⟩, ?_⟩
    conv => whnf
    repeat' first
      | (refine CondP.yes ?_; conv => whnf)
      | (refine CondP.not ?_; conv => whnf)
      | ((first | refine CondP.dec (fun h => ?_) (fun h => ?_) | refine CondP.ndec (fun h => ?_) (fun h => ?_)) <;> first | (exfalso; first | omega | contradiction) | (conv => whnf))
      | (refine Both.mk ?_ ?_ <;> (conv => whnf))
      | (refine And.intro (by first | decide | omega) ?_; conv => whnf)
      | fail
    refine FinOk.mk' [] rfl rfl rfl rfl rfl rfl rfl ⟨rfl, .inl ⟨rfl, ?_, ?_⟩⟩
    · show AV.tup [.own i (r.length + 2), iv 0] = _
      simp
    · show [(i, AObj.list 2 1 (List.take r.length (ivs r) ++ [[iv x], [iv x]]))] = _
      rw [takeI]; simp
  · rw [show one2 2 r x u = (0, r) from by simp [one2]]
    conv => whnf
    repeat' first
      | (refine CondP.yes ?_; conv => whnf)
      | (refine CondP.not ?_; conv => whnf)
      | ((first | refine CondP.dec (fun h => ?_) (fun h => ?_) | refine CondP.ndec (fun h => ?_) (fun h => ?_)) <;> first | (exfalso; first | omega | contradiction) | (conv => whnf))
      | (refine Both.mk ?_ ?_ <;> (conv => whnf))
      | (refine And.intro (by first | decide | omega) ?_; conv => whnf)
      | fail
    refine FinOk.mk' [] rfl rfl rfl rfl rfl rfl rfl ⟨rfl, .inl ⟨rfl, ?_, ?_⟩⟩
    · rfl
    · rfl
  · by_cases hx : x = 0
    · rw [show one2 6 r x u = (8, []) from by simp [one2, hx]]
      conv => whnf
      repeat' first
        | (refine CondP.yes ?_; conv => whnf)
        | (refine CondP.not ?_; conv => whnf)
        | ((first | refine CondP.dec (fun h => ?_) (fun h => ?_) | refine CondP.ndec (fun h => ?_) (fun h => ?_)) <;> first | (exfalso; first | omega | contradiction) | (conv => whnf))
        | (refine Both.mk ?_ ?_ <;> (conv => whnf))
        | (refine And.intro (by first | decide | omega) ?_; conv => whnf)
        | fail
      exact FinOk.mk' [] rfl rfl rfl rfl rfl rfl rfl ⟨rfl, .inr ⟨by decide, rfl, rfl⟩⟩
    · rw [show one2 6 r x u = (0, r) from by simp [one2, hx]]
      conv => whnf
      repeat' first
        | (refine CondP.yes ?_; conv => whnf)
        | (refine CondP.not ?_; conv => whnf)
        | ((first | refine CondP.dec (fun h => ?_) (fun h => ?_) | refine CondP.ndec (fun h => ?_) (fun h => ?_)) <;> first | (exfalso; first | omega | contradiction) | (conv => whnf))
        | (refine Both.mk ?_ ?_ <;> (conv => whnf))
        | (refine And.intro (by first | decide | omega) ?_; conv => whnf)
        | fail
      refine FinOk.mk' [] rfl rfl rfl rfl rfl rfl rfl ⟨rfl, .inl ⟨rfl, ?_, ?_⟩⟩
      · rfl
      · rfl
  · rw [show one2 7 r x u = (0, r ++ [sumI [x] % 1000]) from by simp [one2]]
    conv => whnf
    repeat' first
      | (refine CondP.yes ?_; conv => whnf)
      | (refine CondP.not ?_; conv => whnf)
      | ((first | refine CondP.dec (fun h => ?_) (fun h => ?_) | refine CondP.ndec (fun h => ?_) (fun h => ?_)) <;> first | (exfalso; first | omega | contradiction) | (conv => whnf))
      | (refine Both.mk ?_ ?_ <;> (conv => whnf))
      | (refine And.intro (by first | decide | omega) ?_; conv => whnf)
      | fail
    refine CallP.convIs (l1SumInts_ret [x] _ (Nat.le_of_ble_eq_true rfl)) rfl (by repeat' first | exact trivial | exact Nat.le_refl _ | (show _ ≤ List.length _; (first | trivial | omega | (simp only [List.length_map, List.length_take, List.length_drop, List.length_append, List.length_set, List.length_replicate, List.length_cons, List.length_nil, four_len, fours_len, maxLen] at *; omega))) | refine And.intro ?_ ?_) rfl trivial ?_
    conv => whnf
    repeat' first
      | (refine CondP.yes ?_; conv => whnf)
      | (refine CondP.not ?_; conv => whnf)
      | ((first | refine CondP.dec (fun h => ?_) (fun h => ?_) | refine CondP.ndec (fun h => ?_) (fun h => ?_)) <;> first | (exfalso; first | omega | contradiction) | (conv => whnf))
      | (refine Both.mk ?_ ?_ <;> (conv => whnf))
      | (refine And.intro (by first | decide | omega) ?_; conv => whnf)
      | fail
    refine ⟨⟨by (first | trivial | omega | (simp only [List.length_map, List.length_take, List.length_drop, List.length_append, List.length_set, List.length_replicate, List.length_cons, List.length_nil, four_len, fours_len, maxLen] at *; omega)), by (first | trivial | omega | (simp only [List.length_map, List.length_take, List.length_drop, List.length_append, List.length_set, List.length_replicate, List.length_cons, List.length_nil, four_len, fours_len, maxLen] at *; omega)), by (first | trivial | omega | (simp only [List.length_map, List.length_take, List.length_drop, List.length_append, List.length_set, List.length_replicate, List.length_cons, List.length_nil, four_len, fours_len, maxLen] at *; omega)), by (first | trivial | omega | (simp only [List.length_map, List.length_take, List.length_drop, List.length_append, List.length_set, List.length_replicate, List.length_cons, List.length_nil, four_len, fours_len, maxLen] at *; omega)), by (first | (refine rowsB_ok ?_; rfl) | (intro r hr; first | exact row1 hr | exact row1 (List.mem_of_mem_take hr)))⟩, ?_⟩
    conv => whnf
    repeat' first
      | (refine CondP.yes ?_; conv => whnf)
      | (refine CondP.not ?_; conv => whnf)
      | ((first | refine CondP.dec (fun h => ?_) (fun h => ?_) | refine CondP.ndec (fun h => ?_) (fun h => ?_)) <;> first | (exfalso; first | omega | contradiction) | (conv => whnf))
      | (refine Both.mk ?_ ?_ <;> (conv => whnf))
      | (refine And.intro (by first | decide | omega) ?_; conv => whnf)
      | fail
    refine FinOk.mk' [] rfl rfl rfl rfl rfl rfl rfl ⟨rfl, .inl ⟨rfl, ?_, ?_⟩⟩
    · show AV.tup [.own i (r.length + 1), iv 0] = _
      simp
    · show [(i, AObj.list 2 1 (List.take r.length (ivs r) ++ [[iv ((sumI [x]).tmod 1000)]]))] = _
      have := sumI_in x
      rw [takeI, IntWalk.rem_in _ _ (by omega)]; simp
  · by_cases hx : u < x
    · rw [show one2 9 r x u = (8, []) from by simp [one2, hx]]
      conv => whnf
      repeat' first
        | (refine CondP.yes ?_; conv => whnf)
        | (refine CondP.not ?_; conv => whnf)
        | ((first | refine CondP.dec (fun h => ?_) (fun h => ?_) | refine CondP.ndec (fun h => ?_) (fun h => ?_)) <;> first | (exfalso; first | omega | contradiction) | (conv => whnf))
        | (refine Both.mk ?_ ?_ <;> (conv => whnf))
        | (refine And.intro (by first | decide | omega) ?_; conv => whnf)
        | fail
      exact FinOk.mk' [] rfl rfl rfl rfl rfl rfl rfl ⟨rfl, .inr ⟨by decide, rfl, rfl⟩⟩
    · rw [show one2 9 r x u = (0, r) from by simp [one2, hx]]
      conv => whnf
      repeat' first
        | (refine CondP.yes ?_; conv => whnf)
        | (refine CondP.not ?_; conv => whnf)
        | ((first | refine CondP.dec (fun h => ?_) (fun h => ?_) | refine CondP.ndec (fun h => ?_) (fun h => ?_)) <;> first | (exfalso; first | omega | contradiction) | (conv => whnf))
        | (refine Both.mk ?_ ?_ <;> (conv => whnf))
        | (refine And.intro (by first | decide | omega) ?_; conv => whnf)
        | fail
      refine FinOk.mk' [] rfl rfl rfl rfl rfl rfl rfl ⟨rfl, .inl ⟨rfl, ?_, ?_⟩⟩
      · rfl
      · rfl
theorem l2Two_ret (op : Int) (r : List Int) (y x t : Int) (i n : Nat) (hn : needs op = 2) (hl : r.length ≤ 1000) (hx : inR 0 9999 x) (hy : inR 0 9999 y) : Ret Try.prog 87 [iv op, .own i r.length, iv y, iv x, iv t] [(i, .list 2 1 (ivs r))] n false (OutQ i n r (two2 op r y x t)) := by
  refine Ret.of_run (tt := tt) ttOk Try.func87 rfl Try.call87 [i] [.list 2 1 (ivs r)] [iv op, .own 0 r.length, iv y, iv x, iv t] false n _ rfl (nodup1 i) (by exact Nat.le_of_ble_eq_true rfl) rfl rfl ?_
  have hop : op = 3 ∨ op = 4 ∨ op = 5 ∨ op = 8 := by
    unfold needs at hn
    split at hn
    · omega
    · split at hn
      · assumption
      · omega
  unfold inR at hx hy
  have hw := IntWalk.i64_in (y + x) (by omega)
  rcases hop with rfl | rfl | rfl | rfl
  · rw [show two2 3 r y x t = (0, r ++ [x, y]) from by simp [two2]]
    conv => whnf
    repeat' first
      | (refine CondP.yes ?_; conv => whnf)
      | (refine CondP.not ?_; conv => whnf)
      | ((first | refine CondP.dec (fun h => ?_) (fun h => ?_) | refine CondP.ndec (fun h => ?_) (fun h => ?_)) <;> first | (exfalso; first | omega | contradiction) | (conv => whnf))
      | (refine Both.mk ?_ ?_ <;> (conv => whnf))
      | (refine And.intro (by first | decide | omega) ?_; conv => whnf)
      | fail
    refine ⟨⟨by (first | trivial | omega | (simp only [List.length_map, List.length_take, List.length_drop, List.length_append, List.length_set, List.length_replicate, List.length_cons, List.length_nil, four_len, fours_len, maxLen] at *; omega)), by (first | trivial | omega | (simp only [List.length_map, List.length_take, List.length_drop, List.length_append, List.length_set, List.length_replicate, List.length_cons, List.length_nil, four_len, fours_len, maxLen] at *; omega)), by (first | trivial | omega | (simp only [List.length_map, List.length_take, List.length_drop, List.length_append, List.length_set, List.length_replicate, List.length_cons, List.length_nil, four_len, fours_len, maxLen] at *; omega)), by (first | trivial | omega | (simp only [List.length_map, List.length_take, List.length_drop, List.length_append, List.length_set, List.length_replicate, List.length_cons, List.length_nil, four_len, fours_len, maxLen] at *; omega)), by (first | (refine rowsB_ok ?_; rfl) | (intro r hr; first | exact row1 hr | exact row1 (List.mem_of_mem_take hr)))⟩, ?_⟩
    conv => whnf
    repeat' first
      | (refine CondP.yes ?_; conv => whnf)
      | (refine CondP.not ?_; conv => whnf)
      | ((first | refine CondP.dec (fun h => ?_) (fun h => ?_) | refine CondP.ndec (fun h => ?_) (fun h => ?_)) <;> first | (exfalso; first | omega | contradiction) | (conv => whnf))
      | (refine Both.mk ?_ ?_ <;> (conv => whnf))
      | (refine And.intro (by first | decide | omega) ?_; conv => whnf)
      | fail
    refine FinOk.mk' [] rfl rfl rfl rfl rfl rfl rfl ⟨rfl, .inl ⟨rfl, ?_, ?_⟩⟩
    · show AV.tup [.own i (r.length + 2), iv 0] = _
      simp
    · show [(i, AObj.list 2 1 (List.take r.length (ivs r) ++ [[iv x], [iv y]]))] = _
      rw [takeI]; simp
  · by_cases hs : 9999 < y + x
    · rw [show two2 4 r y x t = (3, []) from by simp [two2, hs]]
      conv => whnf
      repeat' first
        | (refine CondP.yes ?_; conv => whnf)
        | (refine CondP.not ?_; conv => whnf)
        | ((first | refine CondP.dec (fun h => ?_) (fun h => ?_) | refine CondP.ndec (fun h => ?_) (fun h => ?_)) <;> first | (exfalso; first | omega | contradiction) | (conv => whnf))
        | (refine Both.mk ?_ ?_ <;> (conv => whnf))
        | (refine And.intro (by first | decide | omega) ?_; conv => whnf)
        | fail
      exact FinOk.mk' [] rfl rfl rfl rfl rfl rfl rfl ⟨rfl, .inr ⟨by decide, rfl, rfl⟩⟩
    · rw [show two2 4 r y x t = (0, r ++ [y + x]) from by simp [two2, hs]]
      conv => whnf
      repeat' first
        | (refine CondP.yes ?_; conv => whnf)
        | (refine CondP.not ?_; conv => whnf)
        | ((first | refine CondP.dec (fun h => ?_) (fun h => ?_) | refine CondP.ndec (fun h => ?_) (fun h => ?_)) <;> first | (exfalso; first | omega | contradiction) | (conv => whnf))
        | (refine Both.mk ?_ ?_ <;> (conv => whnf))
        | (refine And.intro (by first | decide | omega) ?_; conv => whnf)
        | fail
      refine ⟨⟨by (first | trivial | omega | (simp only [List.length_map, List.length_take, List.length_drop, List.length_append, List.length_set, List.length_replicate, List.length_cons, List.length_nil, four_len, fours_len, maxLen] at *; omega)), by (first | trivial | omega | (simp only [List.length_map, List.length_take, List.length_drop, List.length_append, List.length_set, List.length_replicate, List.length_cons, List.length_nil, four_len, fours_len, maxLen] at *; omega)), by (first | trivial | omega | (simp only [List.length_map, List.length_take, List.length_drop, List.length_append, List.length_set, List.length_replicate, List.length_cons, List.length_nil, four_len, fours_len, maxLen] at *; omega)), by (first | trivial | omega | (simp only [List.length_map, List.length_take, List.length_drop, List.length_append, List.length_set, List.length_replicate, List.length_cons, List.length_nil, four_len, fours_len, maxLen] at *; omega)), by (first | (refine rowsB_ok ?_; rfl) | (intro r hr; first | exact row1 hr | exact row1 (List.mem_of_mem_take hr)))⟩, ?_⟩
      conv => whnf
      repeat' first
        | (refine CondP.yes ?_; conv => whnf)
        | (refine CondP.not ?_; conv => whnf)
        | ((first | refine CondP.dec (fun h => ?_) (fun h => ?_) | refine CondP.ndec (fun h => ?_) (fun h => ?_)) <;> first | (exfalso; first | omega | contradiction) | (conv => whnf))
        | (refine Both.mk ?_ ?_ <;> (conv => whnf))
        | (refine And.intro (by first | decide | omega) ?_; conv => whnf)
        | fail
      refine FinOk.mk' [] rfl rfl rfl rfl rfl rfl rfl ⟨rfl, .inl ⟨rfl, ?_, ?_⟩⟩
      · show AV.tup [.own i (r.length + 1), iv 0] = _
        simp
      · show [(i, AObj.list 2 1 (List.take r.length (ivs r) ++ [[iv (IntKind.i64.wrap (y + x))]]))] = _
        rw [takeI, hw]; simp
  · rw [show two2 5 r y x t = (0, r ++ [flagI (decide (y = x))]) from by simp [two2]]
    conv => whnf
    repeat' first
      | (refine CondP.yes ?_; conv => whnf)
      | (refine CondP.not ?_; conv => whnf)
      | ((first | refine CondP.dec (fun h => ?_) (fun h => ?_) | refine CondP.ndec (fun h => ?_) (fun h => ?_)) <;> first | (exfalso; first | omega | contradiction) | (conv => whnf))
      | (refine Both.mk ?_ ?_ <;> (conv => whnf))
      | (refine And.intro (by first | decide | omega) ?_; conv => whnf)
      | fail
    refine CallP.is (l2Bool_ret _ _) rfl ?_
    conv => whnf
    repeat' first
      | (refine CondP.yes ?_; conv => whnf)
      | (refine CondP.not ?_; conv => whnf)
      | ((first | refine CondP.dec (fun h => ?_) (fun h => ?_) | refine CondP.ndec (fun h => ?_) (fun h => ?_)) <;> first | (exfalso; first | omega | contradiction) | (conv => whnf))
      | (refine Both.mk ?_ ?_ <;> (conv => whnf))
      | (refine And.intro (by first | decide | omega) ?_; conv => whnf)
      | fail
    refine ⟨⟨by (first | trivial | omega | (simp only [List.length_map, List.length_take, List.length_drop, List.length_append, List.length_set, List.length_replicate, List.length_cons, List.length_nil, four_len, fours_len, maxLen] at *; omega)), by (first | trivial | omega | (simp only [List.length_map, List.length_take, List.length_drop, List.length_append, List.length_set, List.length_replicate, List.length_cons, List.length_nil, four_len, fours_len, maxLen] at *; omega)), by (first | trivial | omega | (simp only [List.length_map, List.length_take, List.length_drop, List.length_append, List.length_set, List.length_replicate, List.length_cons, List.length_nil, four_len, fours_len, maxLen] at *; omega)), by (first | trivial | omega | (simp only [List.length_map, List.length_take, List.length_drop, List.length_append, List.length_set, List.length_replicate, List.length_cons, List.length_nil, four_len, fours_len, maxLen] at *; omega)), by (first | (refine rowsB_ok ?_; rfl) | (intro r hr; first | exact row1 hr | exact row1 (List.mem_of_mem_take hr)))⟩, ?_⟩
    conv => whnf
    repeat' first
      | (refine CondP.yes ?_; conv => whnf)
      | (refine CondP.not ?_; conv => whnf)
      | ((first | refine CondP.dec (fun h => ?_) (fun h => ?_) | refine CondP.ndec (fun h => ?_) (fun h => ?_)) <;> first | (exfalso; first | omega | contradiction) | (conv => whnf))
      | (refine Both.mk ?_ ?_ <;> (conv => whnf))
      | (refine And.intro (by first | decide | omega) ?_; conv => whnf)
      | fail
    refine FinOk.mk' [] rfl rfl rfl rfl rfl rfl rfl ⟨rfl, .inl ⟨rfl, ?_, ?_⟩⟩
    · show AV.tup [.own i (r.length + 1), iv 0] = _
      simp
    · show [(i, AObj.list 2 1 (List.take r.length (ivs r) ++ [[iv (flagI (decide (y = x)))]]))] = _
      rw [takeI]; simp
  · rw [show two2 8 r y x t = (0, r ++ [flagI (decide (inR 0 899 x) && decide (signF x t = y))]) from by simp [two2]]
    conv => whnf
    repeat' first
      | (refine CondP.yes ?_; conv => whnf)
      | (refine CondP.not ?_; conv => whnf)
      | ((first | refine CondP.dec (fun h => ?_) (fun h => ?_) | refine CondP.ndec (fun h => ?_) (fun h => ?_)) <;> first | (exfalso; first | omega | contradiction) | (conv => whnf))
      | (refine Both.mk ?_ ?_ <;> (conv => whnf))
      | (refine And.intro (by first | decide | omega) ?_; conv => whnf)
      | fail
    refine CallP.is (l2Key_ret _ _) rfl ?_
    conv => whnf
    repeat' first
      | (refine CondP.yes ?_; conv => whnf)
      | (refine CondP.not ?_; conv => whnf)
      | ((first | refine CondP.dec (fun h => ?_) (fun h => ?_) | refine CondP.ndec (fun h => ?_) (fun h => ?_)) <;> first | (exfalso; first | omega | contradiction) | (conv => whnf))
      | (refine Both.mk ?_ ?_ <;> (conv => whnf))
      | (refine And.intro (by first | decide | omega) ?_; conv => whnf)
      | fail
    · have hk : inR 0 899 x := by assumption
      refine CallP.is (l2Sign_ret _ _ _) rfl ?_
      conv => whnf
      repeat' first
        | (refine CondP.yes ?_; conv => whnf)
        | (refine CondP.not ?_; conv => whnf)
        | ((first | refine CondP.dec (fun h => ?_) (fun h => ?_) | refine CondP.ndec (fun h => ?_) (fun h => ?_)) <;> first | (exfalso; first | omega | contradiction) | (conv => whnf))
        | (refine Both.mk ?_ ?_ <;> (conv => whnf))
        | (refine And.intro (by first | decide | omega) ?_; conv => whnf)
        | fail
      refine CallP.is (l2Bool_ret _ _) rfl ?_
      conv => whnf
      repeat' first
        | (refine CondP.yes ?_; conv => whnf)
        | (refine CondP.not ?_; conv => whnf)
        | ((first | refine CondP.dec (fun h => ?_) (fun h => ?_) | refine CondP.ndec (fun h => ?_) (fun h => ?_)) <;> first | (exfalso; first | omega | contradiction) | (conv => whnf))
        | (refine Both.mk ?_ ?_ <;> (conv => whnf))
        | (refine And.intro (by first | decide | omega) ?_; conv => whnf)
        | fail
      refine ⟨⟨by (first | trivial | omega | (simp only [List.length_map, List.length_take, List.length_drop, List.length_append, List.length_set, List.length_replicate, List.length_cons, List.length_nil, four_len, fours_len, maxLen] at *; omega)), by (first | trivial | omega | (simp only [List.length_map, List.length_take, List.length_drop, List.length_append, List.length_set, List.length_replicate, List.length_cons, List.length_nil, four_len, fours_len, maxLen] at *; omega)), by (first | trivial | omega | (simp only [List.length_map, List.length_take, List.length_drop, List.length_append, List.length_set, List.length_replicate, List.length_cons, List.length_nil, four_len, fours_len, maxLen] at *; omega)), by (first | trivial | omega | (simp only [List.length_map, List.length_take, List.length_drop, List.length_append, List.length_set, List.length_replicate, List.length_cons, List.length_nil, four_len, fours_len, maxLen] at *; omega)), by (first | (refine rowsB_ok ?_; rfl) | (intro r hr; first | exact row1 hr | exact row1 (List.mem_of_mem_take hr)))⟩, ?_⟩
      conv => whnf
      repeat' first
        | (refine CondP.yes ?_; conv => whnf)
        | (refine CondP.not ?_; conv => whnf)
        | ((first | refine CondP.dec (fun h => ?_) (fun h => ?_) | refine CondP.ndec (fun h => ?_) (fun h => ?_)) <;> first | (exfalso; first | omega | contradiction) | (conv => whnf))
        | (refine Both.mk ?_ ?_ <;> (conv => whnf))
        | (refine And.intro (by first | decide | omega) ?_; conv => whnf)
        | fail
      refine FinOk.mk' [] rfl rfl rfl rfl rfl rfl rfl ⟨rfl, .inl ⟨rfl, ?_, ?_⟩⟩
      · show AV.tup [.own i (r.length + 1), iv 0] = _
        simp
      · show [(i, AObj.list 2 1 (List.take r.length (ivs r) ++ [[iv (flagI (decide (signF x t = y)))]]))] = _
        rw [takeI, decide_eq_true hk, Bool.true_and]; simp
    · have hk : ¬ inR 0 899 x := by assumption
      refine CallP.is (l2Bool_ret _ _) rfl ?_
      conv => whnf
      repeat' first
        | (refine CondP.yes ?_; conv => whnf)
        | (refine CondP.not ?_; conv => whnf)
        | ((first | refine CondP.dec (fun h => ?_) (fun h => ?_) | refine CondP.ndec (fun h => ?_) (fun h => ?_)) <;> first | (exfalso; first | omega | contradiction) | (conv => whnf))
        | (refine Both.mk ?_ ?_ <;> (conv => whnf))
        | (refine And.intro (by first | decide | omega) ?_; conv => whnf)
        | fail
      refine ⟨⟨by (first | trivial | omega | (simp only [List.length_map, List.length_take, List.length_drop, List.length_append, List.length_set, List.length_replicate, List.length_cons, List.length_nil, four_len, fours_len, maxLen] at *; omega)), by (first | trivial | omega | (simp only [List.length_map, List.length_take, List.length_drop, List.length_append, List.length_set, List.length_replicate, List.length_cons, List.length_nil, four_len, fours_len, maxLen] at *; omega)), by (first | trivial | omega | (simp only [List.length_map, List.length_take, List.length_drop, List.length_append, List.length_set, List.length_replicate, List.length_cons, List.length_nil, four_len, fours_len, maxLen] at *; omega)), by (first | trivial | omega | (simp only [List.length_map, List.length_take, List.length_drop, List.length_append, List.length_set, List.length_replicate, List.length_cons, List.length_nil, four_len, fours_len, maxLen] at *; omega)), by (first | (refine rowsB_ok ?_; rfl) | (intro r hr; first | exact row1 hr | exact row1 (List.mem_of_mem_take hr)))⟩, ?_⟩
      conv => whnf
      repeat' first
        | (refine CondP.yes ?_; conv => whnf)
        | (refine CondP.not ?_; conv => whnf)
        | ((first | refine CondP.dec (fun h => ?_) (fun h => ?_) | refine CondP.ndec (fun h => ?_) (fun h => ?_)) <;> first | (exfalso; first | omega | contradiction) | (conv => whnf))
        | (refine Both.mk ?_ ?_ <;> (conv => whnf))
        | (refine And.intro (by first | decide | omega) ?_; conv => whnf)
        | fail
      refine FinOk.mk' [] rfl rfl rfl rfl rfl rfl rfl ⟨rfl, .inl ⟨rfl, ?_, ?_⟩⟩
      · show AV.tup [.own i (r.length + 1), iv 0] = _
        simp
      · show [(i, AObj.list 2 1 (List.take r.length (ivs r) ++ [[iv (flagI false)]]))] = _
        rw [takeI, decide_eq_false hk, Bool.false_and]; simp
end Go.Proofs.Ytgebhcahgmonpaa
