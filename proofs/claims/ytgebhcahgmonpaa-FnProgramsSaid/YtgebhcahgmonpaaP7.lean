/-
  CHAPTER 2, the specification's step and run, by the reading.
-/
import Derived.Test.YtgebhcahgmonpaaP6
namespace Go.Proofs.Ytgebhcahgmonpaa
open Go Go.Am Go.RowKit
set_option linter.unusedVariables false
set_option linter.unusedSimpArgs false
/-- What a step answers. -/
def StQ (n : Nat) (x : Int × List Int) : AV → Hp → Nat → Prop := fun r ho m => (x.1 = 0 ∧ r = .tup [.own n x.2.length, iv 0] ∧ ho = [(n, .list 2 1 (ivs x.2))] ∧ m = n + 1) ∨ (x.1 ≠ 0 ∧ r = .tup [nl, iv x.1] ∧ ho = [] ∧ m = n)
theorem getL0 (s : List Int) (x : Int) : (ivs (s ++ [x])).getD (Int.toNat (s.length : Int)) [] = [iv x] := by
  have := getL s [] x; rwa [List.append_nil] at this
theorem l2Step_ret (op : Int) (s : List Int) (t u : Int) (n : Nat) (hop : opB op = true) (hl : s.length ≤ 8) (hs : allB 0 9999 s = true) : Ret Try.prog 72 [iv op, il s, iv t, iv u] [] n true (StQ n (step2 op s t u)) := by
  have hL : (ivs s).length = s.length := by simp
  by_cases hfew : s.length < needs op
  · rw [step2_few hfew]
    refine Ret.fn ttOk Try.func72 rfl Try.call72 rfl rfl ?_
    conv => whnf
    repeat' first
      | (refine CondP.yes ?_; conv => whnf)
      | (refine CondP.not ?_; conv => whnf)
      | ((first | refine CondP.dec (fun h => ?_) (fun h => ?_) | refine CondP.ndec (fun h => ?_) (fun h => ?_)) <;> first | (exfalso; first | omega | contradiction) | (conv => whnf))
      | (refine Both.mk ?_ ?_ <;> (conv => whnf))
      | (refine And.intro (by first | decide | omega) ?_; conv => whnf)
      | fail
    refine CallP.is (l2Needs_ret _ _) rfl ?_
    conv => whnf
    repeat' first
      | (refine CondP.yes ?_; conv => whnf)
      | (refine CondP.not ?_; conv => whnf)
      | ((first | refine CondP.dec (fun h => ?_) (fun h => ?_) | refine CondP.ndec (fun h => ?_) (fun h => ?_)) <;> first | (exfalso; first | omega | contradiction) | (conv => whnf))
      | (refine Both.mk ?_ ?_ <;> (conv => whnf))
      | (refine And.intro (by first | decide | omega) ?_; conv => whnf)
      | fail
    exact FinOk.mk' [] rfl rfl rfl rfl rfl rfl rfl (.inr ⟨by decide, rfl, rfl, rfl⟩)
  have h012 : needs op = 0 ∨ needs op = 1 ∨ needs op = 2 := by unfold needs; (repeat' split) <;> simp
  have hnr := l2Needs_ret op
  rcases h012 with hn | hn | hn
  · have hop' : 100 ≤ op ∧ op ≤ 1099 := by
      unfold needs at hn
      simp [opB] at hop
      split at hn
      · omega
      · split at hn <;> omega
    have hout : out2 op s t u = (0, s ++ [op - 100]) := by unfold out2; rw [if_pos hn]
    rw [step2_val hfew hout]
    rw [hn] at hnr
    refine Ret.fn ttOk Try.func72 rfl Try.call72 rfl rfl ?_
    conv => whnf
    repeat' first
      | (refine CondP.yes ?_; conv => whnf)
      | (refine CondP.not ?_; conv => whnf)
      | ((first | refine CondP.dec (fun h => ?_) (fun h => ?_) | refine CondP.ndec (fun h => ?_) (fun h => ?_)) <;> first | (exfalso; first | omega | contradiction) | (conv => whnf))
      | (refine Both.mk ?_ ?_ <;> (conv => whnf))
      | (refine And.intro (by first | decide | omega) ?_; conv => whnf)
      | fail
    refine CallP.is (hnr _) rfl ?_
    conv => whnf
    repeat' first
      | (refine CondP.yes ?_; conv => whnf)
      | (refine CondP.not ?_; conv => whnf)
      | ((first | refine CondP.dec (fun h => ?_) (fun h => ?_) | refine CondP.ndec (fun h => ?_) (fun h => ?_)) <;> first | (exfalso; first | omega | contradiction) | (conv => whnf))
      | (refine Both.mk ?_ ?_ <;> (conv => whnf))
      | (refine And.intro (by first | decide | omega) ?_; conv => whnf)
      | fail
    refine CallP.is (hnr _) rfl ?_
    conv => whnf
    repeat' first
      | (refine CondP.yes ?_; conv => whnf)
      | (refine CondP.not ?_; conv => whnf)
      | ((first | refine CondP.dec (fun h => ?_) (fun h => ?_) | refine CondP.ndec (fun h => ?_) (fun h => ?_)) <;> first | (exfalso; first | omega | contradiction) | (conv => whnf))
      | (refine Both.mk ?_ ?_ <;> (conv => whnf))
      | (refine And.intro (by first | decide | omega) ?_; conv => whnf)
      | fail
    refine CallP.is (l1Ints_ret s _ (by omega)) rfl ?_
    conv => whnf
    repeat' first
      | (refine CondP.yes ?_; conv => whnf)
      | (refine CondP.not ?_; conv => whnf)
      | ((first | refine CondP.dec (fun h => ?_) (fun h => ?_) | refine CondP.ndec (fun h => ?_) (fun h => ?_)) <;> first | (exfalso; first | omega | contradiction) | (conv => whnf))
      | (refine Both.mk ?_ ?_ <;> (conv => whnf))
      | (refine And.intro (by first | decide | omega) ?_; conv => whnf)
      | fail
    refine ⟨⟨by (first | trivial | omega | (simp only [List.length_map, List.length_take, List.length_drop, List.length_append, List.length_set, List.length_replicate, List.length_cons, List.length_nil, four_len, fours_len, maxLen] at *; omega)), by (first | trivial | omega | (simp only [List.length_map, List.length_take, List.length_drop, List.length_append, List.length_set, List.length_replicate, List.length_cons, List.length_nil, four_len, fours_len, maxLen] at *; omega)), by (first | trivial | omega | (simp only [List.length_map, List.length_take, List.length_drop, List.length_append, List.length_set, List.length_replicate, List.length_cons, List.length_nil, four_len, fours_len, maxLen] at *; omega)), by (first | trivial | omega | (simp only [List.length_map, List.length_take, List.length_drop, List.length_append, List.length_set, List.length_replicate, List.length_cons, List.length_nil, four_len, fours_len, maxLen] at *; omega)), by (first | (refine rowsB_ok ?_; rfl) | (intro r hr; first | exact row1 hr | exact row1 (List.mem_of_mem_take hr)))⟩, ?_⟩
    conv => whnf
    repeat' first
      | (refine CondP.yes ?_; conv => whnf)
      | (refine CondP.not ?_; conv => whnf)
      | ((first | refine CondP.dec (fun h => ?_) (fun h => ?_) | refine CondP.ndec (fun h => ?_) (fun h => ?_)) <;> first | (exfalso; first | omega | contradiction) | (conv => whnf))
      | (refine Both.mk ?_ ?_ <;> (conv => whnf))
      | (refine And.intro (by first | decide | omega) ?_; conv => whnf)
      | fail
    · have h' : 8 < ((s.length + 1 : Nat) : Int) := h
      rw [if_pos ⟨rfl, by simp; omega⟩]
      exact FinOk.mk' [] rfl rfl rfl rfl rfl rfl rfl (.inr ⟨by decide, rfl, rfl, rfl⟩)
    · have h' : ¬ 8 < ((s.length + 1 : Nat) : Int) := h
      rw [if_neg (by simp; omega)]
      refine FinOk.mk' [1] rfl rfl rfl rfl rfl rfl rfl (.inl ⟨rfl, ?_, ?_, rfl⟩)
      · show AV.tup [.own n (s.length + 1), iv 0] = _
        simp
      · show [(n, AObj.list 2 1 (List.take s.length (ivs s) ++ [[iv (IntKind.i64.wrap (op - 100))]]))] = _
        rw [takeI, IntWalk.i64_in _ (by omega)]; simp
  · rcases List.eq_nil_or_concat s with rfl | ⟨s1, x, rfl⟩
    · rw [hn] at hfew; simp at hfew
    rw [List.concat_eq_append] at *
    have hL1 : (s1 ++ [x]).length = s1.length + 1 := by simp
    rw [step2_val hfew (out2_one s1 x t u hn)]
    rw [hn] at hnr
    refine Ret.fn ttOk Try.func72 rfl Try.call72 rfl rfl ?_
    conv => whnf
    repeat' first
      | (refine CondP.yes ?_; conv => whnf)
      | (refine CondP.not ?_; conv => whnf)
      | ((first | refine CondP.dec (fun h => ?_) (fun h => ?_) | refine CondP.ndec (fun h => ?_) (fun h => ?_)) <;> first | (exfalso; first | omega | contradiction) | (conv => whnf))
      | (refine Both.mk ?_ ?_ <;> (conv => whnf))
      | (refine And.intro (by first | decide | omega) ?_; conv => whnf)
      | fail
    refine CallP.is (hnr _) rfl ?_
    conv => whnf
    repeat' first
      | (refine CondP.yes ?_; conv => whnf)
      | (refine CondP.not ?_; conv => whnf)
      | ((first | refine CondP.dec (fun h => ?_) (fun h => ?_) | refine CondP.ndec (fun h => ?_) (fun h => ?_)) <;> first | (exfalso; first | omega | contradiction) | (conv => whnf))
      | (refine Both.mk ?_ ?_ <;> (conv => whnf))
      | (refine And.intro (by first | decide | omega) ?_; conv => whnf)
      | fail
    refine CallP.is (hnr _) rfl ?_
    conv => whnf
    repeat' first
      | (refine CondP.yes ?_; conv => whnf)
      | (refine CondP.not ?_; conv => whnf)
      | ((first | refine CondP.dec (fun h => ?_) (fun h => ?_) | refine CondP.ndec (fun h => ?_) (fun h => ?_)) <;> first | (exfalso; first | omega | contradiction) | (conv => whnf))
      | (refine Both.mk ?_ ?_ <;> (conv => whnf))
      | (refine And.intro (by first | decide | omega) ?_; conv => whnf)
      | fail
    have hw : IntKind.i64.wrap (((ivs (s1 ++ [x])).length : Int) - 1) = (s1.length : Int) := by rw [hL, hL1, IntWalk.i64_in _ (by omega)]; omega
    simp only [hw]
    rw [show List.take (Int.toNat (s1.length : Int) - Int.toNat 0) (List.drop (Int.toNat 0) (ivs (s1 ++ [x]))) = ivs s1 from by show List.take (s1.length - 0) (List.drop 0 _) = _; rw [List.drop_zero, Nat.sub_zero, show ivs (s1 ++ [x]) = ivs s1 ++ ivs [x] from List.map_append .., List.take_left' (by simp)]]
    refine ⟨⟨by omega, by omega, by omega, .inl trivial⟩, ?_⟩
    conv => whnf
    repeat' first
      | (refine CondP.yes ?_; conv => whnf)
      | (refine CondP.not ?_; conv => whnf)
      | ((first | refine CondP.dec (fun h => ?_) (fun h => ?_) | refine CondP.ndec (fun h => ?_) (fun h => ?_)) <;> first | (exfalso; first | omega | contradiction) | (conv => whnf))
      | (refine Both.mk ?_ ?_ <;> (conv => whnf))
      | (refine And.intro (by first | decide | omega) ?_; conv => whnf)
      | fail
    refine CallQ.is (l1Ints_ret s1 _ (by omega)) rfl rfl ?_
    conv => whnf
    repeat' first
      | (refine CondP.yes ?_; conv => whnf)
      | (refine CondP.not ?_; conv => whnf)
      | ((first | refine CondP.dec (fun h => ?_) (fun h => ?_) | refine CondP.ndec (fun h => ?_) (fun h => ?_)) <;> first | (exfalso; first | omega | contradiction) | (conv => whnf))
      | (refine Both.mk ?_ ?_ <;> (conv => whnf))
      | (refine And.intro (by first | decide | omega) ?_; conv => whnf)
      | fail
    simp only [hw]
    rw [getL0]
    refine ⟨⟨by omega, by omega, rfl⟩, ?_⟩
    conv => whnf
    repeat' first
      | (refine CondP.yes ?_; conv => whnf)
      | (refine CondP.not ?_; conv => whnf)
      | ((first | refine CondP.dec (fun h => ?_) (fun h => ?_) | refine CondP.ndec (fun h => ?_) (fun h => ?_)) <;> first | (exfalso; first | omega | contradiction) | (conv => whnf))
      | (refine Both.mk ?_ ?_ <;> (conv => whnf))
      | (refine And.intro (by first | decide | omega) ?_; conv => whnf)
      | fail
    refine CallP.heap (l2One_ret op s1 x u 1 _ hn (by omega)) rfl (by repeat' first | exact trivial | rfl | exact leafI (by first | rfl | omega | (simp (disch := omega) only [Int.reduceToNat, IntKind.bits, Nat.min_eq_left, Int.reducePow, IntWalk.i64_in, IntWalk.rem_in, IntWalk.i64_quo, IntWalk.u8_in, IntWalk.u32_in, IntWalk.u64_in]; done) | (simp (disch := omega) only [Int.reduceToNat, IntKind.bits, Nat.min_eq_left, Int.reducePow, IntWalk.i64_in, IntWalk.rem_in, IntWalk.i64_quo, IntWalk.u8_in, IntWalk.u32_in, IntWalk.u64_in]; omega)) | refine And.intro ?_ ?_) rfl ?_
    rintro r ho m ⟨rfl, hcase⟩
    rcases hcase with ⟨hc, rfl, rfl⟩ | ⟨hc, rfl, rfl⟩
    · generalize one2 op s1 x u = xx at *
      obtain ⟨c0, l0⟩ := xx
      dsimp only at hc ⊢
      subst hc
      conv => whnf
      repeat' first
        | (refine CondP.yes ?_; conv => whnf)
        | (refine CondP.not ?_; conv => whnf)
        | ((first | refine CondP.dec (fun h => ?_) (fun h => ?_) | refine CondP.ndec (fun h => ?_) (fun h => ?_)) <;> first | (exfalso; first | omega | contradiction) | (conv => whnf))
        | (refine Both.mk ?_ ?_ <;> (conv => whnf))
        | (refine And.intro (by first | decide | omega) ?_; conv => whnf)
        | fail
      all_goals first
        | (rw [if_pos ⟨rfl, by omega⟩]
           exact FinOk.mk' [] rfl rfl rfl rfl rfl rfl rfl (.inr ⟨by decide, rfl, rfl, rfl⟩))
        | (rw [if_neg (by intro h'; omega)]
           exact FinOk.mk' [1] rfl rfl rfl rfl rfl rfl rfl (.inl ⟨rfl, rfl, rfl, rfl⟩))
    · rw [if_neg (fun h' => hc h'.1)]
      generalize one2 op s1 x u = xx at *
      obtain ⟨c0, l0⟩ := xx
      dsimp only at hc ⊢
      conv => whnf
      repeat' first
        | (refine CondP.yes ?_; conv => whnf)
        | (refine CondP.not ?_; conv => whnf)
        | ((first | refine CondP.dec (fun h => ?_) (fun h => ?_) | refine CondP.ndec (fun h => ?_) (fun h => ?_)) <;> first | (exfalso; first | omega | contradiction) | (conv => whnf))
        | (refine Both.mk ?_ ?_ <;> (conv => whnf))
        | (refine And.intro (by first | decide | omega) ?_; conv => whnf)
        | fail
      all_goals first
        | (exfalso; exact hc (by assumption))
        | exact FinOk.mk' [] rfl rfl rfl rfl rfl rfl rfl (.inr ⟨hc, rfl, rfl, rfl⟩)
  · rcases List.eq_nil_or_concat s with rfl | ⟨s1, x, rfl⟩
    · rw [hn] at hfew; simp at hfew
    rw [List.concat_eq_append] at *
    rcases List.eq_nil_or_concat s1 with rfl | ⟨s2, y, rfl⟩
    · rw [hn] at hfew; simp at hfew
    rw [List.concat_eq_append] at *
    have hL1 : (s2 ++ [y] ++ [x]).length = s2.length + 2 := by simp
    have hxy : inR 0 9999 x ∧ inR 0 9999 y := by
      rw [allB_app, allB_app] at hs
      simp only [Bool.and_eq_true] at hs
      exact ⟨allB_one hs.2, allB_one hs.1.2⟩
    rw [step2_val hfew (out2_two s2 y x t u hn)]
    rw [hn] at hnr
    refine Ret.fn ttOk Try.func72 rfl Try.call72 rfl rfl ?_
    conv => whnf
    repeat' first
      | (refine CondP.yes ?_; conv => whnf)
      | (refine CondP.not ?_; conv => whnf)
      | ((first | refine CondP.dec (fun h => ?_) (fun h => ?_) | refine CondP.ndec (fun h => ?_) (fun h => ?_)) <;> first | (exfalso; first | omega | contradiction) | (conv => whnf))
      | (refine Both.mk ?_ ?_ <;> (conv => whnf))
      | (refine And.intro (by first | decide | omega) ?_; conv => whnf)
      | fail
    refine CallP.is (hnr _) rfl ?_
    conv => whnf
    repeat' first
      | (refine CondP.yes ?_; conv => whnf)
      | (refine CondP.not ?_; conv => whnf)
      | ((first | refine CondP.dec (fun h => ?_) (fun h => ?_) | refine CondP.ndec (fun h => ?_) (fun h => ?_)) <;> first | (exfalso; first | omega | contradiction) | (conv => whnf))
      | (refine Both.mk ?_ ?_ <;> (conv => whnf))
      | (refine And.intro (by first | decide | omega) ?_; conv => whnf)
      | fail
    refine CallP.is (hnr _) rfl ?_
    conv => whnf
    repeat' first
      | (refine CondP.yes ?_; conv => whnf)
      | (refine CondP.not ?_; conv => whnf)
      | ((first | refine CondP.dec (fun h => ?_) (fun h => ?_) | refine CondP.ndec (fun h => ?_) (fun h => ?_)) <;> first | (exfalso; first | omega | contradiction) | (conv => whnf))
      | (refine Both.mk ?_ ?_ <;> (conv => whnf))
      | (refine And.intro (by first | decide | omega) ?_; conv => whnf)
      | fail
    have hw : IntKind.i64.wrap (((ivs (s2 ++ [y] ++ [x])).length : Int) - 2) = (s2.length : Int) := by rw [hL, hL1, IntWalk.i64_in _ (by omega)]; omega
    have hw1 : IntKind.i64.wrap (((ivs (s2 ++ [y] ++ [x])).length : Int) - 1) = ((s2 ++ [y]).length : Int) := by rw [hL, hL1, IntWalk.i64_in _ (by omega), List.length_append]; simp; omega
    simp only [hw]
    rw [show List.take (Int.toNat (s2.length : Int) - Int.toNat 0) (List.drop (Int.toNat 0) (ivs (s2 ++ [y] ++ [x]))) = ivs s2 from by show List.take (s2.length - 0) (List.drop 0 _) = _; rw [List.drop_zero, Nat.sub_zero, List.append_assoc, show ivs (s2 ++ ([y] ++ [x])) = ivs s2 ++ ivs ([y] ++ [x]) from List.map_append .., List.take_left' (by simp)]]
    refine ⟨⟨by omega, by omega, by omega, .inl trivial⟩, ?_⟩
    conv => whnf
    repeat' first
      | (refine CondP.yes ?_; conv => whnf)
      | (refine CondP.not ?_; conv => whnf)
      | ((first | refine CondP.dec (fun h => ?_) (fun h => ?_) | refine CondP.ndec (fun h => ?_) (fun h => ?_)) <;> first | (exfalso; first | omega | contradiction) | (conv => whnf))
      | (refine Both.mk ?_ ?_ <;> (conv => whnf))
      | (refine And.intro (by first | decide | omega) ?_; conv => whnf)
      | fail
    refine CallQ.is (l1Ints_ret s2 _ (by omega)) rfl rfl ?_
    conv => whnf
    repeat' first
      | (refine CondP.yes ?_; conv => whnf)
      | (refine CondP.not ?_; conv => whnf)
      | ((first | refine CondP.dec (fun h => ?_) (fun h => ?_) | refine CondP.ndec (fun h => ?_) (fun h => ?_)) <;> first | (exfalso; first | omega | contradiction) | (conv => whnf))
      | (refine Both.mk ?_ ?_ <;> (conv => whnf))
      | (refine And.intro (by first | decide | omega) ?_; conv => whnf)
      | fail
    simp only [hw]
    rw [getL]
    refine ⟨⟨by omega, by omega, rfl⟩, ?_⟩
    conv => whnf
    repeat' first
      | (refine CondP.yes ?_; conv => whnf)
      | (refine CondP.not ?_; conv => whnf)
      | ((first | refine CondP.dec (fun h => ?_) (fun h => ?_) | refine CondP.ndec (fun h => ?_) (fun h => ?_)) <;> first | (exfalso; first | omega | contradiction) | (conv => whnf))
      | (refine Both.mk ?_ ?_ <;> (conv => whnf))
      | (refine And.intro (by first | decide | omega) ?_; conv => whnf)
      | fail
    simp only [hw1]
    rw [getL0]
    refine ⟨⟨by omega, by simp only [hL, hL1]; simp, rfl⟩, ?_⟩
    conv => whnf
    repeat' first
      | (refine CondP.yes ?_; conv => whnf)
      | (refine CondP.not ?_; conv => whnf)
      | ((first | refine CondP.dec (fun h => ?_) (fun h => ?_) | refine CondP.ndec (fun h => ?_) (fun h => ?_)) <;> first | (exfalso; first | omega | contradiction) | (conv => whnf))
      | (refine Both.mk ?_ ?_ <;> (conv => whnf))
      | (refine And.intro (by first | decide | omega) ?_; conv => whnf)
      | fail
    refine CallP.heap (l2Two_ret op s2 y x t 1 _ hn (by omega) hxy.1 hxy.2) rfl (by repeat' first | exact trivial | rfl | exact leafI (by first | rfl | omega | (simp (disch := omega) only [Int.reduceToNat, IntKind.bits, Nat.min_eq_left, Int.reducePow, IntWalk.i64_in, IntWalk.rem_in, IntWalk.i64_quo, IntWalk.u8_in, IntWalk.u32_in, IntWalk.u64_in]; done) | (simp (disch := omega) only [Int.reduceToNat, IntKind.bits, Nat.min_eq_left, Int.reducePow, IntWalk.i64_in, IntWalk.rem_in, IntWalk.i64_quo, IntWalk.u8_in, IntWalk.u32_in, IntWalk.u64_in]; omega)) | refine And.intro ?_ ?_) rfl ?_
    rintro r ho m ⟨rfl, hcase⟩
    rcases hcase with ⟨hc, rfl, rfl⟩ | ⟨hc, rfl, rfl⟩
    · generalize two2 op s2 y x t = xx at *
      obtain ⟨c0, l0⟩ := xx
      dsimp only at hc ⊢
      subst hc
      conv => whnf
      repeat' first
        | (refine CondP.yes ?_; conv => whnf)
        | (refine CondP.not ?_; conv => whnf)
        | ((first | refine CondP.dec (fun h => ?_) (fun h => ?_) | refine CondP.ndec (fun h => ?_) (fun h => ?_)) <;> first | (exfalso; first | omega | contradiction) | (conv => whnf))
        | (refine Both.mk ?_ ?_ <;> (conv => whnf))
        | (refine And.intro (by first | decide | omega) ?_; conv => whnf)
        | fail
      all_goals first
        | (rw [if_pos ⟨rfl, by omega⟩]
           exact FinOk.mk' [] rfl rfl rfl rfl rfl rfl rfl (.inr ⟨by decide, rfl, rfl, rfl⟩))
        | (rw [if_neg (by intro h'; omega)]
           exact FinOk.mk' [1] rfl rfl rfl rfl rfl rfl rfl (.inl ⟨rfl, rfl, rfl, rfl⟩))
    · rw [if_neg (fun h' => hc h'.1)]
      generalize two2 op s2 y x t = xx at *
      obtain ⟨c0, l0⟩ := xx
      dsimp only at hc ⊢
      conv => whnf
      repeat' first
        | (refine CondP.yes ?_; conv => whnf)
        | (refine CondP.not ?_; conv => whnf)
        | ((first | refine CondP.dec (fun h => ?_) (fun h => ?_) | refine CondP.ndec (fun h => ?_) (fun h => ?_)) <;> first | (exfalso; first | omega | contradiction) | (conv => whnf))
        | (refine Both.mk ?_ ?_ <;> (conv => whnf))
        | (refine And.intro (by first | decide | omega) ?_; conv => whnf)
        | fail
      all_goals first
        | (exfalso; exact hc (by assumption))
        | exact FinOk.mk' [] rfl rfl rfl rfl rfl rfl rfl (.inr ⟨hc, rfl, rfl, rfl⟩)
end Go.Proofs.Ytgebhcahgmonpaa
