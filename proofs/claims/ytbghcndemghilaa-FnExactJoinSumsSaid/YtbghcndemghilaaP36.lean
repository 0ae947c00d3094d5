/-
  CHAPTER 4: branches and climbs, by the reading.
-/
import Derived.Test.YtbghcndemghilaaP35
namespace Go.Proofs.Ytbghcndemghilaa
open Go Go.Am Go.RowKit
set_option linter.unusedVariables false
set_option linter.unusedSimpArgs false
def branchC (l : List Int) (k : Int) : Int := if askC l = 0 then (if inR 0 ((l.length : Int) - 1) k then 0 else 3) else askC l
theorem branchC_ok {l : List Int} {k : Int} (h : branchC l k = 0) : askC l = 0 ∧ ∃ j : Nat, k = j ∧ j < l.length := by
  unfold branchC at h
  by_cases h0 : askC l = 0
  · rw [if_pos h0] at h
    by_cases h1 : inR 0 ((l.length : Int) - 1) k
    · unfold inR at h1
      exact ⟨h0, k.toNat, by omega, by omega⟩
    · rw [if_neg h1] at h; cases h
  · rw [if_neg h0] at h; exact absurd h h0
theorem specBranchOf_no (l : List Int) (k : Int) (n : Nat) (hl : l.length ≤ 1048576) (hc : branchC l k ≠ 0) : Ret Try.prog 33 [il l, iv k] [] n true (Is (.agg [iv (branchC l k), nl]) [] n) := by
  have hL : (ivs l).length = l.length := by simp
  have e1 : IntKind.i64.wrap (((ivs l).length : Int) - 1) = (l.length : Int) - 1 := by rw [hL]; exact IntWalk.i64_in _ (by omega)
  refine Ret.fn ttOk Try.func33 rfl Try.call33 rfl rfl ?_
  conv => whnf
  repeat' first
    | (refine CondP.yes ?_; conv => whnf)
    | (refine CondP.not ?_; conv => whnf)
    | ((first | refine CondP.dec (fun h => ?_) (fun h => ?_) | refine CondP.ndec (fun h => ?_) (fun h => ?_)) <;> first | (exfalso; first | omega | exact h (by assumption) | exact absurd h (by assumption)) | (conv => whnf))
    | (refine Both.mk ?_ ?_ <;> (conv => whnf))
    | (refine Keep.mk (by repeat' first | exact trivial | rfl | refine And.intro ?_ ?_) ?_; conv => whnf)
    | (refine And.intro (by first | decide | omega) ?_; conv => whnf)
    | fail
  refine CallP.is (l4Asked_ret l _ hl) rfl ?_
  conv => whnf
  repeat' first
    | (refine CondP.yes ?_; conv => whnf)
    | (refine CondP.not ?_; conv => whnf)
    | ((first | refine CondP.dec (fun h => ?_) (fun h => ?_) | refine CondP.ndec (fun h => ?_) (fun h => ?_)) <;> first | (exfalso; first | omega | exact h (by assumption) | exact absurd h (by assumption)) | (conv => whnf))
    | (refine Both.mk ?_ ?_ <;> (conv => whnf))
    | (refine Keep.mk (by repeat' first | exact trivial | rfl | refine And.intro ?_ ?_) ?_; conv => whnf)
    | (refine And.intro (by first | decide | omega) ?_; conv => whnf)
    | fail
  · refine FinOk.pure rfl rfl rfl ⟨?_, rfl, rfl⟩
    rw [branchC, if_neg h]
  · rw [e1]
    refine CallP.is (l1In_ret _ _ _ _) rfl ?_
    conv => whnf
    repeat' first
      | (refine CondP.yes ?_; conv => whnf)
      | (refine CondP.not ?_; conv => whnf)
      | ((first | refine CondP.dec (fun h => ?_) (fun h => ?_) | refine CondP.ndec (fun h => ?_) (fun h => ?_)) <;> first | (exfalso; first | omega | exact h (by assumption) | exact absurd h (by assumption)) | (conv => whnf))
      | (refine Both.mk ?_ ?_ <;> (conv => whnf))
      | (refine Keep.mk (by repeat' first | exact trivial | rfl | refine And.intro ?_ ?_) ?_; conv => whnf)
      | (refine And.intro (by first | decide | omega) ?_; conv => whnf)
      | fail
    · refine FinOk.pure rfl rfl rfl ⟨?_, rfl, rfl⟩
      rw [branchC, if_pos (by omega), if_neg h]
    · exfalso
      apply hc
      rw [branchC, if_pos (by omega), if_pos h]
theorem specBranchOf_ret (l : List Int) (k n : Nat) (hc : branchC l k = 0) : Ret Try.prog 33 [il l, iv k] [] n true (Is (.agg [iv 0, .own n (brR (rowsW l) k).length]) [(n, .list 2 1 (ivs (brR (rowsW l) k)))] (n + 1)) := by
  have hL : (ivs l).length = l.length := by simp
  obtain ⟨h0, j, hj, hk⟩ := branchC_ok hc
  obtain ⟨l1, l8, ls⟩ := askC_ok.1 h0
  have e1 : IntKind.i64.wrap (((ivs l).length : Int) - 1) = (l.length : Int) - 1 := by rw [hL]; exact IntWalk.i64_in _ (by omega)
  refine Ret.fn ttOk Try.func33 rfl Try.call33 rfl rfl ?_
  conv => whnf
  repeat' first
    | (refine CondP.yes ?_; conv => whnf)
    | (refine CondP.not ?_; conv => whnf)
    | ((first | refine CondP.dec (fun h => ?_) (fun h => ?_) | refine CondP.ndec (fun h => ?_) (fun h => ?_)) <;> first | (exfalso; first | omega | exact h (by assumption) | exact absurd h (by assumption)) | (conv => whnf))
    | (refine Both.mk ?_ ?_ <;> (conv => whnf))
    | (refine Keep.mk (by repeat' first | exact trivial | rfl | refine And.intro ?_ ?_) ?_; conv => whnf)
    | (refine And.intro (by first | decide | omega) ?_; conv => whnf)
    | fail
  refine CallP.is (l4Asked_ret l _ (by omega)) rfl ?_
  conv => whnf
  repeat' first
    | (refine CondP.yes ?_; conv => whnf)
    | (refine CondP.not ?_; conv => whnf)
    | ((first | refine CondP.dec (fun h => ?_) (fun h => ?_) | refine CondP.ndec (fun h => ?_) (fun h => ?_)) <;> first | (exfalso; first | omega | exact h (by assumption) | exact absurd h (by assumption)) | (conv => whnf))
    | (refine Both.mk ?_ ?_ <;> (conv => whnf))
    | (refine Keep.mk (by repeat' first | exact trivial | rfl | refine And.intro ?_ ?_) ?_; conv => whnf)
    | (refine And.intro (by first | decide | omega) ?_; conv => whnf)
    | fail
  rw [e1]
  refine CallP.is (l1In_ret _ _ _ _) rfl ?_
  conv => whnf
  repeat' first
    | (refine CondP.yes ?_; conv => whnf)
    | (refine CondP.not ?_; conv => whnf)
    | ((first | refine CondP.dec (fun h => ?_) (fun h => ?_) | refine CondP.ndec (fun h => ?_) (fun h => ?_)) <;> first | (exfalso; first | omega | exact h (by assumption) | exact absurd h (by assumption)) | (conv => whnf))
    | (refine Both.mk ?_ ?_ <;> (conv => whnf))
    | (refine Keep.mk (by repeat' first | exact trivial | rfl | refine And.intro ?_ ?_) ?_; conv => whnf)
    | (refine And.intro (by first | decide | omega) ?_; conv => whnf)
    | fail
  · exfalso; apply h; unfold inR; omega
  refine LoopP.go (fun y : List Int × List Int × Nat => RowOk y.1 ∧ y.2.2 < y.1.length ∧ y.2.1 ++ brR (rowsW y.1) y.2.2 = brR (rowsW l) k ∧ y.2.1.length + y.1.length ≤ 8)
    (fun y => ⟨[(1, iv y.2.2), (4, .pt 0 0 0), (6, .pt 1 0 0), (7, il y.1)], [(0, .box [iv 0, nl]), (1, .box [iv 0, .own 2 y.2.1.length]), (2, .list 2 1 (ivs y.2.1))], 3⟩) (fun y => y.1.length) (l, [], k) ⟨⟨l1, l8, ls⟩, by show k < l.length; omega, rfl, by simpa using l8⟩ ?_ ?_
  · refine Weak.trans (Weak.of (tm' := [(1, iv k), (4, .pt 0 0 0), (6, .pt 1 0 0), (7, il l)]) (hp' := [(0, .box [iv 0, nl]), (1, .box [iv 0, nl])]) (nx' := 2) rfl rfl (by repeat' first | exact trivial | rfl | exact leafI (by first | rfl | omega | (simp (disch := omega) only [Int.reduceToNat, IntKind.bits, Nat.min_eq_left, Int.reducePow, IntWalk.i64_in, IntWalk.rem_in, IntWalk.i64_quo, IntWalk.u8_in, IntWalk.u32_in, IntWalk.u64_in]; done) | (simp (disch := omega) only [Int.reduceToNat, IntKind.bits, Nat.min_eq_left, Int.reducePow, IntWalk.i64_in, IntWalk.rem_in, IntWalk.i64_quo, IntWalk.u8_in, IntWalk.u32_in, IntWalk.u64_in]; omega)) | refine And.intro ?_ ?_) (by repeat' first | exact trivial | rfl | exact leafI (by first | rfl | omega | (simp (disch := omega) only [Int.reduceToNat, IntKind.bits, Nat.min_eq_left, Int.reducePow, IntWalk.i64_in, IntWalk.rem_in, IntWalk.i64_quo, IntWalk.u8_in, IntWalk.u32_in, IntWalk.u64_in]; done) | (simp (disch := omega) only [Int.reduceToNat, IntKind.bits, Nat.min_eq_left, Int.reducePow, IntWalk.i64_in, IntWalk.rem_in, IntWalk.i64_quo, IntWalk.u8_in, IntWalk.u32_in, IntWalk.u64_in]; omega)) | refine And.intro ?_ ?_)) ?_
    refine Weak.trans (Weak.name 1 1 2 1 _ (by decide) rfl rfl) ?_
    exact (Weak.of rfl rfl (by repeat' first | exact trivial | rfl | exact leafI (by first | rfl | omega | (simp (disch := omega) only [Int.reduceToNat, IntKind.bits, Nat.min_eq_left, Int.reducePow, IntWalk.i64_in, IntWalk.rem_in, IntWalk.i64_quo, IntWalk.u8_in, IntWalk.u32_in, IntWalk.u64_in]; done) | (simp (disch := omega) only [Int.reduceToNat, IntKind.bits, Nat.min_eq_left, Int.reducePow, IntWalk.i64_in, IntWalk.rem_in, IntWalk.i64_quo, IntWalk.u8_in, IntWalk.u32_in, IntWalk.u64_in]; omega)) | refine And.intro ?_ ?_) (by repeat' first | exact trivial | rfl | exact leafI (by first | rfl | omega | (simp (disch := omega) only [Int.reduceToNat, IntKind.bits, Nat.min_eq_left, Int.reducePow, IntWalk.i64_in, IntWalk.rem_in, IntWalk.i64_quo, IntWalk.u8_in, IntWalk.u32_in, IntWalk.u64_in]; done) | (simp (disch := omega) only [Int.reduceToNat, IntKind.bits, Nat.min_eq_left, Int.reducePow, IntWalk.i64_in, IntWalk.rem_in, IntWalk.i64_quo, IntWalk.u8_in, IntWalk.u32_in, IntWalk.u64_in]; omega)) | refine And.intro ?_ ?_))
  revert h
  generalize k = k0 at *
  rintro h ⟨x, o, k⟩ ⟨f1, f2, f3, f4⟩
  dsimp only at f1 f2 f3 f4 ⊢
  have hX : (ivs x).length = x.length := by simp
  conv => whnf
  repeat' first
    | (refine CondP.yes ?_; conv => whnf)
    | (refine CondP.not ?_; conv => whnf)
    | ((first | refine CondP.dec (fun h => ?_) (fun h => ?_) | refine CondP.ndec (fun h => ?_) (fun h => ?_)) <;> first | (exfalso; first | omega | exact h (by assumption) | exact absurd h (by assumption)) | (conv => whnf))
    | (refine Both.mk ?_ ?_ <;> (conv => whnf))
    | (refine Keep.mk (by repeat' first | exact trivial | rfl | refine And.intro ?_ ?_) ?_; conv => whnf)
    | (refine And.intro (by first | decide | omega) ?_; conv => whnf)
    | fail
  · have e4 : IntKind.i64.wrap ((k : Int).tdiv 2) = ((k / 2 : Nat) : Int) := by first | rfl | omega | (simp (disch := omega) only [Int.reduceToNat, IntKind.bits, Nat.min_eq_left, Int.reducePow, IntWalk.i64_in, IntWalk.rem_in, IntWalk.i64_quo, IntWalk.u8_in, IntWalk.u32_in, IntWalk.u64_in]; done) | (simp (disch := omega) only [Int.reduceToNat, IntKind.bits, Nat.min_eq_left, Int.reducePow, IntWalk.i64_in, IntWalk.rem_in, IntWalk.i64_quo, IntWalk.u8_in, IntWalk.u32_in, IntWalk.u64_in]; omega)
    refine CallQ.is (l4Mate_ret x k _ f2 (by omega)) rfl rfl ?_
    conv => whnf
    repeat' first
      | (refine CondP.yes ?_; conv => whnf)
      | (refine CondP.not ?_; conv => whnf)
      | ((first | refine CondP.dec (fun h => ?_) (fun h => ?_) | refine CondP.ndec (fun h => ?_) (fun h => ?_)) <;> first | (exfalso; first | omega | exact h (by assumption) | exact absurd h (by assumption)) | (conv => whnf))
      | (refine Both.mk ?_ ?_ <;> (conv => whnf))
      | (refine Keep.mk (by repeat' first | exact trivial | rfl | refine And.intro ?_ ?_) ?_; conv => whnf)
      | (refine And.intro (by first | decide | omega) ?_; conv => whnf)
      | fail
    refine ⟨⟨by (first | exact True.intro | omega | (simp only [List.length_map, List.length_take, List.length_drop, List.length_append, List.length_set, List.length_replicate, List.length_cons, List.length_nil, four_len, fours_len, maxLen] at *; omega)), by (first | exact True.intro | omega | (simp only [List.length_map, List.length_take, List.length_drop, List.length_append, List.length_set, List.length_replicate, List.length_cons, List.length_nil, four_len, fours_len, maxLen] at *; omega)), by (first | exact True.intro | omega | (simp only [List.length_map, List.length_take, List.length_drop, List.length_append, List.length_set, List.length_replicate, List.length_cons, List.length_nil, four_len, fours_len, maxLen] at *; omega)), by (first | exact True.intro | omega | (simp only [List.length_map, List.length_take, List.length_drop, List.length_append, List.length_set, List.length_replicate, List.length_cons, List.length_nil, four_len, fours_len, maxLen] at *; omega)), by (first | (intro r hr; first | exact row1 hr | exact row1 (List.mem_of_mem_take hr)) | (refine rowsB_ok ?_; rfl))⟩, ?_⟩
    conv => whnf
    repeat' first
      | (refine CondP.yes ?_; conv => whnf)
      | (refine CondP.not ?_; conv => whnf)
      | ((first | refine CondP.dec (fun h => ?_) (fun h => ?_) | refine CondP.ndec (fun h => ?_) (fun h => ?_)) <;> first | (exfalso; first | omega | exact h (by assumption) | exact absurd h (by assumption)) | (conv => whnf))
      | (refine Both.mk ?_ ?_ <;> (conv => whnf))
      | (refine Keep.mk (by repeat' first | exact trivial | rfl | refine And.intro ?_ ?_) ?_; conv => whnf)
      | (refine And.intro (by first | decide | omega) ?_; conv => whnf)
      | fail
    refine CallP.is (l4Above_fr x _ (by omega)) rfl ?_
    conv => whnf
    repeat' first
      | (refine CondP.yes ?_; conv => whnf)
      | (refine CondP.not ?_; conv => whnf)
      | ((first | refine CondP.dec (fun h => ?_) (fun h => ?_) | refine CondP.ndec (fun h => ?_) (fun h => ?_)) <;> first | (exfalso; first | omega | exact h (by assumption) | exact absurd h (by assumption)) | (conv => whnf))
      | (refine Both.mk ?_ ?_ <;> (conv => whnf))
      | (refine Keep.mk (by repeat' first | exact trivial | rfl | refine And.intro ?_ ?_) ?_; conv => whnf)
      | (refine And.intro (by first | decide | omega) ?_; conv => whnf)
      | fail
    refine ⟨(aboveF x, o ++ [mateI x k], k / 2), ⟨f1.above, by rw [aboveF_len]; show k / 2 < _; omega, ?_, by rw [aboveF_len]; simp; omega⟩, by rw [aboveF_len]; show (x.length + 1) / 2 < x.length; omega, Weak.of rfl rfl ⟨⟨leafI e4, rfl⟩, ⟨rfl, rfl⟩, ⟨rfl, rfl⟩, ⟨rfl, rfl⟩, trivial⟩ ⟨⟨rfl, rfl, rfl⟩, ⟨?_, rfl, rfl⟩, ⟨leafO ?_, rfl, rfl⟩, trivial⟩⟩
    · rw [← f3, rowsW_next (l := x) (by omega)]
      show (o ++ [mateI x k]) ++ _ = o ++ (mateI x k :: _)
      simp
    · show some (AObj.box [iv 0, .own 2 (o.length + 1)]) = some (AObj.box [iv 0, .own 2 (o ++ [mateI x k]).length])
      simp
    · rw [takeM _ rfl]
      simp
  · rw [rowsW_end (l := x) (by omega)] at f3
    have f3' : o = brR (rowsW l) k0 := by rw [← f3]; simp [brR]
    subst f3'
    exact FinOk.mk' [2] rfl rfl rfl rfl rfl rfl rfl ⟨rfl, rfl, rfl⟩
theorem specBranchOf_fr (l : List Int) (k n : Nat) (hc : branchC l k = 0) : Ret Try.prog 33 [il l, iv k] [] n true (Is (.agg [iv 0, il (brR (rowsW l) k)]) [] n) := by
  refine Ret.freeze (fun r ho m hq => ?_) (specBranchOf_ret l k n hc)
  obtain ⟨rfl, rfl, rfl⟩ := hq
  exact ⟨.agg [iv 0, il (brR (rowsW l) k)], .agg _ _ ⟨.refl _ rfl (fun _ e => by cases e), frOwn (look_cons_eq _ _ _) (by simp), trivial⟩, rfl, rfl, rfl⟩
theorem sumsFault_ret (l : List Int) (a b : Int) (n : Nat) (hl : l.length ≤ 1048576) : Ret Try.prog 133 [il l, iv a, iv b] [] n true (Is (iv (if (l.length : Int) < a ∨ b < l.length then 2 else if allB 0 2147483646 l then 0 else 3)) [] n) := by
  have hL : (ivs l).length = l.length := by simp
  refine Ret.fn ttOk Try.func133 rfl Try.call133 rfl rfl ?_
  conv => whnf
  repeat' first
    | (refine CondP.yes ?_; conv => whnf)
    | (refine CondP.not ?_; conv => whnf)
    | ((first | refine CondP.dec (fun h => ?_) (fun h => ?_) | refine CondP.ndec (fun h => ?_) (fun h => ?_)) <;> first | (exfalso; first | omega | exact h (by assumption) | exact absurd h (by assumption)) | (conv => whnf))
    | (refine Both.mk ?_ ?_ <;> (conv => whnf))
    | (refine Keep.mk (by repeat' first | exact trivial | rfl | refine And.intro ?_ ?_) ?_; conv => whnf)
    | (refine And.intro (by first | decide | omega) ?_; conv => whnf)
    | fail
  · rw [if_pos (by omega)]
    refine FinOk.pure rfl rfl rfl ⟨?_, rfl, rfl⟩
    rfl
  · rw [if_pos (by omega)]
    refine FinOk.pure rfl rfl rfl ⟨?_, rfl, rfl⟩
    rfl
  · rw [if_neg (by omega)]
    refine LoopP.go (fun k : Nat => k ≤ l.length ∧ allB 0 2147483646 (l.take k) = true) (fun k => ⟨[(19, il l), (20, iv l.length), (21, iv k)], [], 0⟩) (fun k => l.length - k) 0 ⟨Nat.zero_le _, rfl⟩ (Weak.of rfl rfl ⟨⟨rfl, rfl⟩, ⟨leafI (by omega), rfl⟩, ⟨rfl, rfl⟩, trivial⟩ trivial) ?_
    rintro k ⟨hk, hp⟩
    conv => whnf
    repeat' first
      | (refine CondP.yes ?_; conv => whnf)
      | (refine CondP.not ?_; conv => whnf)
      | ((first | refine CondP.dec (fun h => ?_) (fun h => ?_) | refine CondP.ndec (fun h => ?_) (fun h => ?_)) <;> first | (exfalso; first | omega | exact h (by assumption) | exact absurd h (by assumption)) | (conv => whnf))
      | (refine Both.mk ?_ ?_ <;> (conv => whnf))
      | (refine Keep.mk (by repeat' first | exact trivial | rfl | refine And.intro ?_ ?_) ?_; conv => whnf)
      | (refine And.intro (by first | decide | omega) ?_; conv => whnf)
      | fail
    · have hlt : k < l.length := by omega
      rw [rowK iv1 l k (by omega)]
      refine ⟨by (first | exact ⟨by omega, by omega, rfl⟩ | (simp only [List.length_map]; exact ⟨by omega, by omega, rfl⟩)), ?_⟩
      conv => whnf
      repeat' first
        | (refine CondP.yes ?_; conv => whnf)
        | (refine CondP.not ?_; conv => whnf)
        | ((first | refine CondP.dec (fun h => ?_) (fun h => ?_) | refine CondP.ndec (fun h => ?_) (fun h => ?_)) <;> first | (exfalso; first | omega | exact h (by assumption) | exact absurd h (by assumption)) | (conv => whnf))
        | (refine Both.mk ?_ ?_ <;> (conv => whnf))
        | (refine Keep.mk (by repeat' first | exact trivial | rfl | refine And.intro ?_ ?_) ?_; conv => whnf)
        | (refine And.intro (by first | decide | omega) ?_; conv => whnf)
        | fail
      refine CallP.is (isSum_ret _ _) rfl ?_
      conv => whnf
      repeat' first
        | (refine CondP.yes ?_; conv => whnf)
        | (refine CondP.not ?_; conv => whnf)
        | ((first | refine CondP.dec (fun h => ?_) (fun h => ?_) | refine CondP.ndec (fun h => ?_) (fun h => ?_)) <;> first | (exfalso; first | omega | exact h (by assumption) | exact absurd h (by assumption)) | (conv => whnf))
        | (refine Both.mk ?_ ?_ <;> (conv => whnf))
        | (refine Keep.mk (by repeat' first | exact trivial | rfl | refine And.intro ?_ ?_) ?_; conv => whnf)
        | (refine And.intro (by first | decide | omega) ?_; conv => whnf)
        | fail
      · refine FinOk.pure rfl rfl rfl ⟨?_, rfl, rfl⟩
        rw [allB_no hlt (by simpa [inR] using h)]; rfl
      · exact ⟨k + 1, ⟨by omega, by rw [allB_take hlt, hp]; simpa [inR] using h⟩, by omega, (Weak.of rfl rfl (by repeat' first | exact trivial | rfl | exact leafI (by first | rfl | omega | (simp (disch := omega) only [Int.reduceToNat, IntKind.bits, Nat.min_eq_left, Int.reducePow, IntWalk.i64_in, IntWalk.rem_in, IntWalk.i64_quo, IntWalk.u8_in, IntWalk.u32_in, IntWalk.u64_in]; done) | (simp (disch := omega) only [Int.reduceToNat, IntKind.bits, Nat.min_eq_left, Int.reducePow, IntWalk.i64_in, IntWalk.rem_in, IntWalk.i64_quo, IntWalk.u8_in, IntWalk.u32_in, IntWalk.u64_in]; omega)) | refine And.intro ?_ ?_) trivial)⟩
    · refine FinOk.pure rfl rfl rfl ⟨?_, rfl, rfl⟩
      rw [List.take_of_length_le (by omega)] at hp; rw [hp]; rfl
theorem leavesFault_ret (l : List Int) (n : Nat) (hl : l.length ≤ 1048576) : Ret Try.prog 85 [il l] [] n true (Is (iv (askC l)) [] n) := by
  refine Ret.fn ttOk Try.func85 rfl Try.call85 rfl rfl ?_
  conv => whnf
  repeat' first
    | (refine CondP.yes ?_; conv => whnf)
    | (refine CondP.not ?_; conv => whnf)
    | ((first | refine CondP.dec (fun h => ?_) (fun h => ?_) | refine CondP.ndec (fun h => ?_) (fun h => ?_)) <;> first | (exfalso; first | omega | exact h (by assumption) | exact absurd h (by assumption)) | (conv => whnf))
    | (refine Both.mk ?_ ?_ <;> (conv => whnf))
    | (refine Keep.mk (by repeat' first | exact trivial | rfl | refine And.intro ?_ ?_) ?_; conv => whnf)
    | (refine And.intro (by first | decide | omega) ?_; conv => whnf)
    | fail
  refine CallP.is (sumsFault_ret l 1 8 _ hl) rfl ?_
  conv => whnf
  repeat' first
    | (refine CondP.yes ?_; conv => whnf)
    | (refine CondP.not ?_; conv => whnf)
    | ((first | refine CondP.dec (fun h => ?_) (fun h => ?_) | refine CondP.ndec (fun h => ?_) (fun h => ?_)) <;> first | (exfalso; first | omega | exact h (by assumption) | exact absurd h (by assumption)) | (conv => whnf))
    | (refine Both.mk ?_ ?_ <;> (conv => whnf))
    | (refine Keep.mk (by repeat' first | exact trivial | rfl | refine And.intro ?_ ?_) ?_; conv => whnf)
    | (refine And.intro (by first | decide | omega) ?_; conv => whnf)
    | fail
  refine FinOk.pure rfl rfl rfl ⟨?_, rfl, rfl⟩
  unfold askC
  by_cases h : l.length < 1 ∨ 8 < l.length
  · rw [if_pos h, if_pos (by omega)]
  · rw [if_neg h, if_neg (by omega)]
def climbC (x k : Int) (b : List Int) : Int := if inR 0 2147483646 x ∧ inR 0 255 k then (if 8 < b.length then 2 else if allB 0 2147483646 b then 0 else 3) else 3
theorem climbC_ok {x k : Int} {b : List Int} (h : climbC x k b = 0) : isSumI x ∧ (∃ j : Nat, k = j ∧ j ≤ 255) ∧ b.length ≤ 8 ∧ ∀ z ∈ b, isSumI z := by
  unfold climbC at h
  by_cases h0 : inR 0 2147483646 x ∧ inR 0 255 k
  · rw [if_pos h0] at h
    by_cases h1 : 8 < b.length
    · rw [if_pos h1] at h; cases h
    · rw [if_neg h1] at h
      cases hb : allB 0 2147483646 b with
      | false => rw [hb] at h; cases h
      | true =>
        have h2 := h0.2
        unfold inR at h2
        exact ⟨h0.1, ⟨k.toNat, by omega, by omega⟩, by omega, (allB_iff _ _ _).1 hb⟩
  · rw [if_neg h0] at h; cases h
def climbR (x k : Int) (b : List Int) : List AV := if climbC x k b = 0 then [iv 0, iv (climbF x k.toNat b)] else [iv (climbC x k b), iv 0]
theorem climbFault_ret (x k : Int) (b : List Int) (n : Nat) (hl : b.length ≤ 1048576) : Ret Try.prog 88 [iv x, iv k, il b] [] n true (Is (iv (climbC x k b)) [] n) := by
  unfold climbC
  refine Ret.fn ttOk Try.func88 rfl Try.call88 rfl rfl ?_
  conv => whnf
  repeat' first
    | (refine CondP.yes ?_; conv => whnf)
    | (refine CondP.not ?_; conv => whnf)
    | ((first | refine CondP.dec (fun h => ?_) (fun h => ?_) | refine CondP.ndec (fun h => ?_) (fun h => ?_)) <;> first | (exfalso; first | omega | exact h (by assumption) | exact absurd h (by assumption)) | (conv => whnf))
    | (refine Both.mk ?_ ?_ <;> (conv => whnf))
    | (refine Keep.mk (by repeat' first | exact trivial | rfl | refine And.intro ?_ ?_) ?_; conv => whnf)
    | (refine And.intro (by first | decide | omega) ?_; conv => whnf)
    | fail
  refine CallP.is (isSum_ret _ _) rfl ?_
  conv => whnf
  repeat' first
    | (refine CondP.yes ?_; conv => whnf)
    | (refine CondP.not ?_; conv => whnf)
    | ((first | refine CondP.dec (fun h => ?_) (fun h => ?_) | refine CondP.ndec (fun h => ?_) (fun h => ?_)) <;> first | (exfalso; first | omega | exact h (by assumption) | exact absurd h (by assumption)) | (conv => whnf))
    | (refine Both.mk ?_ ?_ <;> (conv => whnf))
    | (refine Keep.mk (by repeat' first | exact trivial | rfl | refine And.intro ?_ ?_) ?_; conv => whnf)
    | (refine And.intro (by first | decide | omega) ?_; conv => whnf)
    | fail
  · rw [if_neg (fun e => h e.1)]
    refine FinOk.pure rfl rfl rfl ⟨?_, rfl, rfl⟩
    rfl
  · rw [if_neg (fun e => by have := e.2; unfold inR at this; omega)]
    refine FinOk.pure rfl rfl rfl ⟨?_, rfl, rfl⟩
    rfl
  · rw [if_neg (fun e => by have := e.2; unfold inR at this; omega)]
    refine FinOk.pure rfl rfl rfl ⟨?_, rfl, rfl⟩
    rfl
  · rw [if_pos ⟨by assumption, by unfold inR; omega⟩]
    refine CallP.is (sumsFault_ret b 0 8 _ hl) rfl ?_
    conv => whnf
    repeat' first
      | (refine CondP.yes ?_; conv => whnf)
      | (refine CondP.not ?_; conv => whnf)
      | ((first | refine CondP.dec (fun h => ?_) (fun h => ?_) | refine CondP.ndec (fun h => ?_) (fun h => ?_)) <;> first | (exfalso; first | omega | exact h (by assumption) | exact absurd h (by assumption)) | (conv => whnf))
      | (refine Both.mk ?_ ?_ <;> (conv => whnf))
      | (refine Keep.mk (by repeat' first | exact trivial | rfl | refine And.intro ?_ ?_) ?_; conv => whnf)
      | (refine And.intro (by first | decide | omega) ?_; conv => whnf)
      | fail
    refine FinOk.pure rfl rfl rfl ⟨?_, rfl, rfl⟩
    by_cases h : 8 < b.length
    · rw [if_pos h, if_pos (by omega)]
    · rw [if_neg h, if_neg (by omega)]
theorem implClimbOf_ret (x k : Int) (b : List Int) (n : Nat) (hl : b.length ≤ 1048576) : Ret Try.prog 31 [iv x, iv k, il b] [] n true (Is (.agg (climbR x k b)) [] n) := by
  have hB : (ivs b).length = b.length := by simp
  unfold climbR
  refine Ret.fn ttOk Try.func31 rfl Try.call31 rfl rfl ?_
  conv => whnf
  repeat' first
    | (refine CondP.yes ?_; conv => whnf)
    | (refine CondP.not ?_; conv => whnf)
    | ((first | refine CondP.dec (fun h => ?_) (fun h => ?_) | refine CondP.ndec (fun h => ?_) (fun h => ?_)) <;> first | (exfalso; first | omega | exact h (by assumption) | exact absurd h (by assumption)) | (conv => whnf))
    | (refine Both.mk ?_ ?_ <;> (conv => whnf))
    | (refine Keep.mk (by repeat' first | exact trivial | rfl | refine And.intro ?_ ?_) ?_; conv => whnf)
    | (refine And.intro (by first | decide | omega) ?_; conv => whnf)
    | fail
  refine CallP.is (climbFault_ret x k b _ hl) rfl ?_
  conv => whnf
  repeat' first
    | (refine CondP.yes ?_; conv => whnf)
    | (refine CondP.not ?_; conv => whnf)
    | ((first | refine CondP.dec (fun h => ?_) (fun h => ?_) | refine CondP.ndec (fun h => ?_) (fun h => ?_)) <;> first | (exfalso; first | omega | exact h (by assumption) | exact absurd h (by assumption)) | (conv => whnf))
    | (refine Both.mk ?_ ?_ <;> (conv => whnf))
    | (refine Keep.mk (by repeat' first | exact trivial | rfl | refine And.intro ?_ ?_) ?_; conv => whnf)
    | (refine And.intro (by first | decide | omega) ?_; conv => whnf)
    | fail
  · rw [if_neg h]
    refine FinOk.pure rfl rfl rfl ⟨?_, rfl, rfl⟩
    rfl
  · have h0 : climbC x k b = 0 := by omega
    rw [if_pos h0]
    obtain ⟨hx, ⟨j, rfl, hj⟩, hb8, hbs⟩ := climbC_ok h0
    rw [Int.toNat_natCast]
    refine LoopP.go (fun y : Int × Nat × Nat => isSumI y.1 ∧ y.2.1 ≤ 255 ∧ y.2.2 ≤ b.length ∧ climbF y.1 y.2.1 (b.drop y.2.2) = climbF x j b)
      (fun y => ⟨[(1, iv y.2.1), (6, .pt 0 0 0), (8, iv y.1), (22, il b), (23, iv b.length), (24, iv y.2.2)], [(0, .box [iv 0, iv 0])], 1⟩) (fun y => b.length - y.2.2) (x, j, 0) ⟨hx, hj, Nat.zero_le _, rfl⟩
      (Weak.of rfl rfl ⟨⟨rfl, rfl⟩, ⟨rfl, rfl⟩, ⟨rfl, rfl⟩, ⟨rfl, rfl⟩, ⟨leafI (by omega), rfl⟩, ⟨rfl, rfl⟩, trivial⟩ (by repeat' first | exact trivial | rfl | exact leafI (by first | rfl | omega | (simp (disch := omega) only [Int.reduceToNat, IntKind.bits, Nat.min_eq_left, Int.reducePow, IntWalk.i64_in, IntWalk.rem_in, IntWalk.i64_quo, IntWalk.u8_in, IntWalk.u32_in, IntWalk.u64_in]; done) | (simp (disch := omega) only [Int.reduceToNat, IntKind.bits, Nat.min_eq_left, Int.reducePow, IntWalk.i64_in, IntWalk.rem_in, IntWalk.i64_quo, IntWalk.u8_in, IntWalk.u32_in, IntWalk.u64_in]; omega)) | refine And.intro ?_ ?_)) ?_
    rintro ⟨y, a, i⟩ ⟨f1, f2, f3, f4⟩
    dsimp only at f1 f2 f3 f4 ⊢
    have e3 : (a : Int).tmod 2 = (a : Int) % 2 := IntWalk.rem_in _ _ (by omega)
    have e4 : IntKind.i64.wrap ((a : Int).tdiv 2) = ((a / 2 : Nat) : Int) := by first | rfl | omega | (simp (disch := omega) only [Int.reduceToNat, IntKind.bits, Nat.min_eq_left, Int.reducePow, IntWalk.i64_in, IntWalk.rem_in, IntWalk.i64_quo, IntWalk.u8_in, IntWalk.u32_in, IntWalk.u64_in]; done) | (simp (disch := omega) only [Int.reduceToNat, IntKind.bits, Nat.min_eq_left, Int.reducePow, IntWalk.i64_in, IntWalk.rem_in, IntWalk.i64_quo, IntWalk.u8_in, IntWalk.u32_in, IntWalk.u64_in]; omega)
    conv => whnf
    repeat' first
      | (refine CondP.yes ?_; conv => whnf)
      | (refine CondP.not ?_; conv => whnf)
      | ((first | refine CondP.dec (fun h => ?_) (fun h => ?_) | refine CondP.ndec (fun h => ?_) (fun h => ?_)) <;> first | (exfalso; first | omega | exact h (by assumption) | exact absurd h (by assumption)) | (conv => whnf))
      | (refine Both.mk ?_ ?_ <;> (conv => whnf))
      | (refine Keep.mk (by repeat' first | exact trivial | rfl | refine And.intro ?_ ?_) ?_; conv => whnf)
      | (refine And.intro (by first | decide | omega) ?_; conv => whnf)
      | fail
    · have hlt : i < b.length := by omega
      have hz : isSumI b[i] := hbs _ (List.getElem_mem hlt)
      have hd : b.drop i = b[i] :: b.drop (i + 1) := List.drop_eq_getElem_cons hlt
      have j1 := implJoinSums_ret y b[i] 1
      have j2 := implJoinSums_ret b[i] y 1
      rw [sumIR2_yes f1 hz] at j1
      rw [sumIR2_yes hz f1] at j2
      rw [rowK iv1 b i (by omega)]
      refine ⟨by (first | exact ⟨by omega, by omega, rfl⟩ | (simp only [List.length_map]; exact ⟨by omega, by omega, rfl⟩)), ?_⟩
      conv => whnf
      repeat' first
        | (refine CondP.yes ?_; conv => whnf)
        | (refine CondP.not ?_; conv => whnf)
        | ((first | refine CondP.dec (fun h => ?_) (fun h => ?_) | refine CondP.ndec (fun h => ?_) (fun h => ?_)) <;> first | (exfalso; first | omega | exact h (by assumption) | exact absurd h (by assumption)) | (conv => whnf))
        | (refine Both.mk ?_ ?_ <;> (conv => whnf))
        | (refine Keep.mk (by repeat' first | exact trivial | rfl | refine And.intro ?_ ?_) ?_; conv => whnf)
        | (refine And.intro (by first | decide | omega) ?_; conv => whnf)
        | fail
      · refine CallP.is (j2) rfl ?_
        conv => whnf
        repeat' first
          | (refine CondP.yes ?_; conv => whnf)
          | (refine CondP.not ?_; conv => whnf)
          | ((first | refine CondP.dec (fun h => ?_) (fun h => ?_) | refine CondP.ndec (fun h => ?_) (fun h => ?_)) <;> first | (exfalso; first | omega | exact h (by assumption) | exact absurd h (by assumption)) | (conv => whnf))
          | (refine Both.mk ?_ ?_ <;> (conv => whnf))
          | (refine Keep.mk (by repeat' first | exact trivial | rfl | refine And.intro ?_ ?_) ?_; conv => whnf)
          | (refine And.intro (by first | decide | omega) ?_; conv => whnf)
          | fail
        refine ⟨(joinF b[i] y, a / 2, i + 1), ⟨joinF_bd _ _, by show a / 2 ≤ 255; omega, hlt, ?_⟩, by show b.length - (i + 1) < b.length - i; omega, Weak.of rfl rfl ⟨⟨leafI e4, rfl⟩, ⟨rfl, rfl⟩, ⟨rfl, rfl⟩, ⟨rfl, rfl⟩, ⟨rfl, rfl⟩, ⟨leafI (by first | rfl | omega | (simp (disch := omega) only [Int.reduceToNat, IntKind.bits, Nat.min_eq_left, Int.reducePow, IntWalk.i64_in, IntWalk.rem_in, IntWalk.i64_quo, IntWalk.u8_in, IntWalk.u32_in, IntWalk.u64_in]; done) | (simp (disch := omega) only [Int.reduceToNat, IntKind.bits, Nat.min_eq_left, Int.reducePow, IntWalk.i64_in, IntWalk.rem_in, IntWalk.i64_quo, IntWalk.u8_in, IntWalk.u32_in, IntWalk.u64_in]; omega)), rfl⟩, trivial⟩ (by repeat' first | exact trivial | rfl | exact leafI (by first | rfl | omega | (simp (disch := omega) only [Int.reduceToNat, IntKind.bits, Nat.min_eq_left, Int.reducePow, IntWalk.i64_in, IntWalk.rem_in, IntWalk.i64_quo, IntWalk.u8_in, IntWalk.u32_in, IntWalk.u64_in]; done) | (simp (disch := omega) only [Int.reduceToNat, IntKind.bits, Nat.min_eq_left, Int.reducePow, IntWalk.i64_in, IntWalk.rem_in, IntWalk.i64_quo, IntWalk.u8_in, IntWalk.u32_in, IntWalk.u64_in]; omega)) | refine And.intro ?_ ?_)⟩
        rw [← f4, hd]
        show climbF (joinF b[i] y) (a / 2) _ = climbF (if a % 2 = 0 then _ else _) (a / 2) _
        rw [if_neg (by omega)]
      · refine CallP.is (j1) rfl ?_
        conv => whnf
        repeat' first
          | (refine CondP.yes ?_; conv => whnf)
          | (refine CondP.not ?_; conv => whnf)
          | ((first | refine CondP.dec (fun h => ?_) (fun h => ?_) | refine CondP.ndec (fun h => ?_) (fun h => ?_)) <;> first | (exfalso; first | omega | exact h (by assumption) | exact absurd h (by assumption)) | (conv => whnf))
          | (refine Both.mk ?_ ?_ <;> (conv => whnf))
          | (refine Keep.mk (by repeat' first | exact trivial | rfl | refine And.intro ?_ ?_) ?_; conv => whnf)
          | (refine And.intro (by first | decide | omega) ?_; conv => whnf)
          | fail
        refine ⟨(joinF y b[i], a / 2, i + 1), ⟨joinF_bd _ _, by show a / 2 ≤ 255; omega, hlt, ?_⟩, by show b.length - (i + 1) < b.length - i; omega, Weak.of rfl rfl ⟨⟨leafI e4, rfl⟩, ⟨rfl, rfl⟩, ⟨rfl, rfl⟩, ⟨rfl, rfl⟩, ⟨rfl, rfl⟩, ⟨leafI (by first | rfl | omega | (simp (disch := omega) only [Int.reduceToNat, IntKind.bits, Nat.min_eq_left, Int.reducePow, IntWalk.i64_in, IntWalk.rem_in, IntWalk.i64_quo, IntWalk.u8_in, IntWalk.u32_in, IntWalk.u64_in]; done) | (simp (disch := omega) only [Int.reduceToNat, IntKind.bits, Nat.min_eq_left, Int.reducePow, IntWalk.i64_in, IntWalk.rem_in, IntWalk.i64_quo, IntWalk.u8_in, IntWalk.u32_in, IntWalk.u64_in]; omega)), rfl⟩, trivial⟩ (by repeat' first | exact trivial | rfl | exact leafI (by first | rfl | omega | (simp (disch := omega) only [Int.reduceToNat, IntKind.bits, Nat.min_eq_left, Int.reducePow, IntWalk.i64_in, IntWalk.rem_in, IntWalk.i64_quo, IntWalk.u8_in, IntWalk.u32_in, IntWalk.u64_in]; done) | (simp (disch := omega) only [Int.reduceToNat, IntKind.bits, Nat.min_eq_left, Int.reducePow, IntWalk.i64_in, IntWalk.rem_in, IntWalk.i64_quo, IntWalk.u8_in, IntWalk.u32_in, IntWalk.u64_in]; omega)) | refine And.intro ?_ ?_)⟩
        rw [← f4, hd]
        show climbF (joinF y b[i]) (a / 2) _ = climbF (if a % 2 = 0 then _ else _) (a / 2) _
        rw [if_pos (by omega)]
    · refine FinOk.pure rfl rfl rfl ⟨?_, rfl, rfl⟩
      rw [← f4, List.drop_eq_nil_of_le (by omega)]
      rfl
theorem specClimbOf_ret (x k : Int) (b : List Int) (n : Nat) (hl : b.length ≤ 1048576) : Ret Try.prog 32 [iv x, iv k, il b] [] n true (Is (.agg (climbR x k b)) [] n) := by
  have hB : (ivs b).length = b.length := by simp
  refine Ret.fn ttOk Try.func32 rfl Try.call32 rfl rfl ?_
  conv => whnf
  repeat' first
    | (refine CondP.yes ?_; conv => whnf)
    | (refine CondP.not ?_; conv => whnf)
    | ((first | refine CondP.dec (fun h => ?_) (fun h => ?_) | refine CondP.ndec (fun h => ?_) (fun h => ?_)) <;> first | (exfalso; first | omega | exact h (by assumption) | exact absurd h (by assumption)) | (conv => whnf))
    | (refine Both.mk ?_ ?_ <;> (conv => whnf))
    | (refine Keep.mk (by repeat' first | exact trivial | rfl | refine And.intro ?_ ?_) ?_; conv => whnf)
    | (refine And.intro (by first | decide | omega) ?_; conv => whnf)
    | fail
  refine CallP.is (l4Sum_ret _ _) rfl ?_
  conv => whnf
  repeat' first
    | (refine CondP.yes ?_; conv => whnf)
    | (refine CondP.not ?_; conv => whnf)
    | ((first | refine CondP.dec (fun h => ?_) (fun h => ?_) | refine CondP.ndec (fun h => ?_) (fun h => ?_)) <;> first | (exfalso; first | omega | exact h (by assumption) | exact absurd h (by assumption)) | (conv => whnf))
    | (refine Both.mk ?_ ?_ <;> (conv => whnf))
    | (refine Keep.mk (by repeat' first | exact trivial | rfl | refine And.intro ?_ ?_) ?_; conv => whnf)
    | (refine And.intro (by first | decide | omega) ?_; conv => whnf)
    | fail
  · have e : climbC x k b = 3 := by rw [climbC, if_neg (fun e => h e.1)]
    refine FinOk.pure rfl rfl rfl ⟨?_, rfl, rfl⟩
    rw [climbR, e]; rfl
  have hx := h
  refine CallP.is (l1In_ret _ _ _ _) rfl ?_
  conv => whnf
  repeat' first
    | (refine CondP.yes ?_; conv => whnf)
    | (refine CondP.not ?_; conv => whnf)
    | ((first | refine CondP.dec (fun h => ?_) (fun h => ?_) | refine CondP.ndec (fun h => ?_) (fun h => ?_)) <;> first | (exfalso; first | omega | exact h (by assumption) | exact absurd h (by assumption)) | (conv => whnf))
    | (refine Both.mk ?_ ?_ <;> (conv => whnf))
    | (refine Keep.mk (by repeat' first | exact trivial | rfl | refine And.intro ?_ ?_) ?_; conv => whnf)
    | (refine And.intro (by first | decide | omega) ?_; conv => whnf)
    | fail
  · have e : climbC x k b = 3 := by rw [climbC, if_neg (fun e => h e.2)]
    refine FinOk.pure rfl rfl rfl ⟨?_, rfl, rfl⟩
    rw [climbR, e]; rfl
  · have e : climbC x k b = 2 := by rw [climbC, if_pos ⟨hx, by assumption⟩, if_pos (by omega)]
    refine FinOk.pure rfl rfl rfl ⟨?_, rfl, rfl⟩
    rw [climbR, e]; rfl
  have hk : inR 0 255 k := by assumption
  have hA := l1All_ret b 0 2147483646 1 hl
  have e : climbC x k b = if allB 0 2147483646 b = true then 0 else 3 := by rw [climbC, if_pos ⟨hx, hk⟩, if_neg (by omega)]
  cases hb : allB 0 2147483646 b with
  | false =>
    rw [hb] at hA e
    refine CallP.is (hA) rfl ?_
    conv => whnf
    repeat' first
      | (refine CondP.yes ?_; conv => whnf)
      | (refine CondP.not ?_; conv => whnf)
      | ((first | refine CondP.dec (fun h => ?_) (fun h => ?_) | refine CondP.ndec (fun h => ?_) (fun h => ?_)) <;> first | (exfalso; first | omega | exact h (by assumption) | exact absurd h (by assumption)) | (conv => whnf))
      | (refine Both.mk ?_ ?_ <;> (conv => whnf))
      | (refine Keep.mk (by repeat' first | exact trivial | rfl | refine And.intro ?_ ?_) ?_; conv => whnf)
      | (refine And.intro (by first | decide | omega) ?_; conv => whnf)
      | fail
    refine FinOk.pure rfl rfl rfl ⟨?_, rfl, rfl⟩
    rw [climbR, e]; rfl
  | true =>
    rw [hb] at hA e
    rw [if_pos rfl] at e
    obtain ⟨hx, ⟨j, rfl, hj⟩, hb8, hbs⟩ := climbC_ok e
    rw [climbR, if_pos e]
    rw [Int.toNat_natCast]
    refine CallP.is (hA) rfl ?_
    conv => whnf
    repeat' first
      | (refine CondP.yes ?_; conv => whnf)
      | (refine CondP.not ?_; conv => whnf)
      | ((first | refine CondP.dec (fun h => ?_) (fun h => ?_) | refine CondP.ndec (fun h => ?_) (fun h => ?_)) <;> first | (exfalso; first | omega | exact h (by assumption) | exact absurd h (by assumption)) | (conv => whnf))
      | (refine Both.mk ?_ ?_ <;> (conv => whnf))
      | (refine Keep.mk (by repeat' first | exact trivial | rfl | refine And.intro ?_ ?_) ?_; conv => whnf)
      | (refine And.intro (by first | decide | omega) ?_; conv => whnf)
      | fail
    refine LoopP.go (fun y : Int × Nat × Nat => isSumI y.1 ∧ y.2.1 ≤ 255 ∧ y.2.2 ≤ b.length ∧ climbF y.1 y.2.1 (b.drop y.2.2) = climbF x j b)
      (fun y => ⟨[(0, iv y.1), (1, iv y.2.1), (2, il b), (6, .pt 0 0 0), (7, iv y.2.2)], [(0, .box [iv 0, iv 0])], 1⟩) (fun y => b.length - y.2.2) (x, j, 0) ⟨hx, hj, Nat.zero_le _, rfl⟩ (Weak.of rfl rfl (by repeat' first | exact trivial | rfl | exact leafI (by first | rfl | omega | (simp (disch := omega) only [Int.reduceToNat, IntKind.bits, Nat.min_eq_left, Int.reducePow, IntWalk.i64_in, IntWalk.rem_in, IntWalk.i64_quo, IntWalk.u8_in, IntWalk.u32_in, IntWalk.u64_in]; done) | (simp (disch := omega) only [Int.reduceToNat, IntKind.bits, Nat.min_eq_left, Int.reducePow, IntWalk.i64_in, IntWalk.rem_in, IntWalk.i64_quo, IntWalk.u8_in, IntWalk.u32_in, IntWalk.u64_in]; omega)) | refine And.intro ?_ ?_) (by repeat' first | exact trivial | rfl | exact leafI (by first | rfl | omega | (simp (disch := omega) only [Int.reduceToNat, IntKind.bits, Nat.min_eq_left, Int.reducePow, IntWalk.i64_in, IntWalk.rem_in, IntWalk.i64_quo, IntWalk.u8_in, IntWalk.u32_in, IntWalk.u64_in]; done) | (simp (disch := omega) only [Int.reduceToNat, IntKind.bits, Nat.min_eq_left, Int.reducePow, IntWalk.i64_in, IntWalk.rem_in, IntWalk.i64_quo, IntWalk.u8_in, IntWalk.u32_in, IntWalk.u64_in]; omega)) | refine And.intro ?_ ?_)) ?_
    rintro ⟨y, a, i⟩ ⟨f1, f2, f3, f4⟩
    dsimp only at f1 f2 f3 f4 ⊢
    have e3 : (a : Int).tmod 2 = (a : Int) % 2 := IntWalk.rem_in _ _ (by omega)
    have e4 : IntKind.i64.wrap ((a : Int).tdiv 2) = ((a / 2 : Nat) : Int) := by first | rfl | omega | (simp (disch := omega) only [Int.reduceToNat, IntKind.bits, Nat.min_eq_left, Int.reducePow, IntWalk.i64_in, IntWalk.rem_in, IntWalk.i64_quo, IntWalk.u8_in, IntWalk.u32_in, IntWalk.u64_in]; done) | (simp (disch := omega) only [Int.reduceToNat, IntKind.bits, Nat.min_eq_left, Int.reducePow, IntWalk.i64_in, IntWalk.rem_in, IntWalk.i64_quo, IntWalk.u8_in, IntWalk.u32_in, IntWalk.u64_in]; omega)
    conv => whnf
    repeat' first
      | (refine CondP.yes ?_; conv => whnf)
      | (refine CondP.not ?_; conv => whnf)
      | ((first | refine CondP.dec (fun h => ?_) (fun h => ?_) | refine CondP.ndec (fun h => ?_) (fun h => ?_)) <;> first | (exfalso; first | omega | exact h (by assumption) | exact absurd h (by assumption)) | (conv => whnf))
      | (refine Both.mk ?_ ?_ <;> (conv => whnf))
      | (refine Keep.mk (by repeat' first | exact trivial | rfl | refine And.intro ?_ ?_) ?_; conv => whnf)
      | (refine And.intro (by first | decide | omega) ?_; conv => whnf)
      | fail
    · have hlt : i < b.length := by omega
      have hz : isSumI b[i] := hbs _ (List.getElem_mem hlt)
      have hd : b.drop i = b[i] :: b.drop (i + 1) := List.drop_eq_getElem_cons hlt
      rw [rowK iv1 b i (by omega)]
      refine ⟨by (first | exact ⟨by omega, by omega, rfl⟩ | (simp only [List.length_map]; exact ⟨by omega, by omega, rfl⟩)), ?_⟩
      conv => whnf
      repeat' first
        | (refine CondP.yes ?_; conv => whnf)
        | (refine CondP.not ?_; conv => whnf)
        | ((first | refine CondP.dec (fun h => ?_) (fun h => ?_) | refine CondP.ndec (fun h => ?_) (fun h => ?_)) <;> first | (exfalso; first | omega | exact h (by assumption) | exact absurd h (by assumption)) | (conv => whnf))
        | (refine Both.mk ?_ ?_ <;> (conv => whnf))
        | (refine Keep.mk (by repeat' first | exact trivial | rfl | refine And.intro ?_ ?_) ?_; conv => whnf)
        | (refine And.intro (by first | decide | omega) ?_; conv => whnf)
        | fail
      refine CallP.is (l4Join_ret _ _ _) rfl ?_
      conv => whnf
      repeat' first
        | (refine CondP.yes ?_; conv => whnf)
        | (refine CondP.not ?_; conv => whnf)
        | ((first | refine CondP.dec (fun h => ?_) (fun h => ?_) | refine CondP.ndec (fun h => ?_) (fun h => ?_)) <;> first | (exfalso; first | omega | exact h (by assumption) | exact absurd h (by assumption)) | (conv => whnf))
        | (refine Both.mk ?_ ?_ <;> (conv => whnf))
        | (refine Keep.mk (by repeat' first | exact trivial | rfl | refine And.intro ?_ ?_) ?_; conv => whnf)
        | (refine And.intro (by first | decide | omega) ?_; conv => whnf)
        | fail
      refine ⟨(joinF y b[i], a / 2, i + 1), ⟨joinF_bd _ _, by show a / 2 ≤ 255; omega, hlt, ?_⟩, by show b.length - (i + 1) < b.length - i; omega, Weak.of rfl rfl ⟨⟨rfl, rfl⟩, ⟨leafI e4, rfl⟩, ⟨rfl, rfl⟩, ⟨rfl, rfl⟩, ⟨leafI (by first | rfl | omega | (simp (disch := omega) only [Int.reduceToNat, IntKind.bits, Nat.min_eq_left, Int.reducePow, IntWalk.i64_in, IntWalk.rem_in, IntWalk.i64_quo, IntWalk.u8_in, IntWalk.u32_in, IntWalk.u64_in]; done) | (simp (disch := omega) only [Int.reduceToNat, IntKind.bits, Nat.min_eq_left, Int.reducePow, IntWalk.i64_in, IntWalk.rem_in, IntWalk.i64_quo, IntWalk.u8_in, IntWalk.u32_in, IntWalk.u64_in]; omega)), rfl⟩, trivial⟩ (by repeat' first | exact trivial | rfl | exact leafI (by first | rfl | omega | (simp (disch := omega) only [Int.reduceToNat, IntKind.bits, Nat.min_eq_left, Int.reducePow, IntWalk.i64_in, IntWalk.rem_in, IntWalk.i64_quo, IntWalk.u8_in, IntWalk.u32_in, IntWalk.u64_in]; done) | (simp (disch := omega) only [Int.reduceToNat, IntKind.bits, Nat.min_eq_left, Int.reducePow, IntWalk.i64_in, IntWalk.rem_in, IntWalk.i64_quo, IntWalk.u8_in, IntWalk.u32_in, IntWalk.u64_in]; omega)) | refine And.intro ?_ ?_)⟩
      rw [← f4, hd]
      show climbF (joinF y b[i]) (a / 2) _ = climbF (if a % 2 = 0 then _ else _) (a / 2) _
      rw [if_pos (by omega)]
    · have hlt : i < b.length := by omega
      have hz : isSumI b[i] := hbs _ (List.getElem_mem hlt)
      have hd : b.drop i = b[i] :: b.drop (i + 1) := List.drop_eq_getElem_cons hlt
      rw [rowK iv1 b i (by omega)]
      refine ⟨by (first | exact ⟨by omega, by omega, rfl⟩ | (simp only [List.length_map]; exact ⟨by omega, by omega, rfl⟩)), ?_⟩
      conv => whnf
      repeat' first
        | (refine CondP.yes ?_; conv => whnf)
        | (refine CondP.not ?_; conv => whnf)
        | ((first | refine CondP.dec (fun h => ?_) (fun h => ?_) | refine CondP.ndec (fun h => ?_) (fun h => ?_)) <;> first | (exfalso; first | omega | exact h (by assumption) | exact absurd h (by assumption)) | (conv => whnf))
        | (refine Both.mk ?_ ?_ <;> (conv => whnf))
        | (refine Keep.mk (by repeat' first | exact trivial | rfl | refine And.intro ?_ ?_) ?_; conv => whnf)
        | (refine And.intro (by first | decide | omega) ?_; conv => whnf)
        | fail
      refine CallP.is (l4Join_ret _ _ _) rfl ?_
      conv => whnf
      repeat' first
        | (refine CondP.yes ?_; conv => whnf)
        | (refine CondP.not ?_; conv => whnf)
        | ((first | refine CondP.dec (fun h => ?_) (fun h => ?_) | refine CondP.ndec (fun h => ?_) (fun h => ?_)) <;> first | (exfalso; first | omega | exact h (by assumption) | exact absurd h (by assumption)) | (conv => whnf))
        | (refine Both.mk ?_ ?_ <;> (conv => whnf))
        | (refine Keep.mk (by repeat' first | exact trivial | rfl | refine And.intro ?_ ?_) ?_; conv => whnf)
        | (refine And.intro (by first | decide | omega) ?_; conv => whnf)
        | fail
      refine ⟨(joinF b[i] y, a / 2, i + 1), ⟨joinF_bd _ _, by show a / 2 ≤ 255; omega, hlt, ?_⟩, by show b.length - (i + 1) < b.length - i; omega, Weak.of rfl rfl ⟨⟨rfl, rfl⟩, ⟨leafI e4, rfl⟩, ⟨rfl, rfl⟩, ⟨rfl, rfl⟩, ⟨leafI (by first | rfl | omega | (simp (disch := omega) only [Int.reduceToNat, IntKind.bits, Nat.min_eq_left, Int.reducePow, IntWalk.i64_in, IntWalk.rem_in, IntWalk.i64_quo, IntWalk.u8_in, IntWalk.u32_in, IntWalk.u64_in]; done) | (simp (disch := omega) only [Int.reduceToNat, IntKind.bits, Nat.min_eq_left, Int.reducePow, IntWalk.i64_in, IntWalk.rem_in, IntWalk.i64_quo, IntWalk.u8_in, IntWalk.u32_in, IntWalk.u64_in]; omega)), rfl⟩, trivial⟩ (by repeat' first | exact trivial | rfl | exact leafI (by first | rfl | omega | (simp (disch := omega) only [Int.reduceToNat, IntKind.bits, Nat.min_eq_left, Int.reducePow, IntWalk.i64_in, IntWalk.rem_in, IntWalk.i64_quo, IntWalk.u8_in, IntWalk.u32_in, IntWalk.u64_in]; done) | (simp (disch := omega) only [Int.reduceToNat, IntKind.bits, Nat.min_eq_left, Int.reducePow, IntWalk.i64_in, IntWalk.rem_in, IntWalk.i64_quo, IntWalk.u8_in, IntWalk.u32_in, IntWalk.u64_in]; omega)) | refine And.intro ?_ ?_)⟩
      rw [← f4, hd]
      show climbF (joinF b[i] y) (a / 2) _ = climbF (if a % 2 = 0 then _ else _) (a / 2) _
      rw [if_neg (by omega)]
    · refine FinOk.pure rfl rfl rfl ⟨?_, rfl, rfl⟩
      rw [← f4, List.drop_eq_nil_of_le (by omega)]
      rfl
end Go.Proofs.Ytbghcndemghilaa
