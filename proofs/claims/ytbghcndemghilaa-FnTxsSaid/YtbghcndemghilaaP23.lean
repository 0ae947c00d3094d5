/-
  CHAPTER 3: a drawn transaction that may be bent, by the reading.
-/
import Derived.Test.YtbghcndemghilaaP22
namespace Go.Proofs.Ytbghcndemghilaa
open Go Go.Am Go.RowKit
set_option linter.unusedVariables false
set_option linter.unusedSimpArgs false
set_option maxHeartbeats 4000000
def BentQ (i n m : Nat) (c : List Int) : AV → Hp → Nat → Prop := fun r ho k => ∃ (note a : Int) (rx : List (List AV)) (Y : AV) (xs : List InD) (ys : List OutD),
  r = .agg [iv note, .own n xs.length, Y] ∧ ((Y = nl ∧ ys = [] ∧ ho = [(i, .box [ul c, iv a]), (n, .list 109 3 rx)]) ∨ (Y = .own (n + 1) ys.length ∧ ho = [(i, .box [ul c, iv a]), (n, .list 109 3 rx), (n + 1, .list 116 2 (ys.map outRow))])) ∧
  All2 (All2 nilOr) rx (xs.map inRow) ∧ xs.length ≤ 5 ∧ ys.length ≤ 3 ∧ (∀ x ∈ xs, x.2.2.length ≤ 8) ∧ (∀ y ∈ ys, y.2.length ≤ 13) ∧ 0 ≤ a ∧ a ≤ m
theorem nilSame : ∀ (rows : List (List AV)), All2 (All2 nilOr) rows rows
  | [] => trivial
  | r :: rs => ⟨go r, nilSame rs⟩
where go : ∀ (r : List AV), All2 nilOr r r
  | [] => trivial
  | a :: r => ⟨.inl rfl, go r⟩
theorem endZ (k : Nat) (note : Int) (n : Nat) (Y : AV) : AV.agg [iv note, .own n k, Y] = .agg [iv note, .own n (List.replicate k ((0, 0, []) : InD)).length, Y] := by simp
theorem nilZero : ∀ (k : Nat), All2 (All2 nilOr) (List.replicate k [iv 0, iv 0, nl]) ((List.replicate k ((0, 0, []) : InD)).map inRow)
  | 0 => trivial
  | k + 1 => ⟨⟨.inl rfl, .inl rfl, .inr ⟨rfl, rfl⟩, trivial⟩, nilZero k⟩
theorem endL (xs : List InD) (x : InD) (note : Int) (n : Nat) (Y : AV) : AV.agg [iv note, .own n (xs.length + 1), Y] = .agg [iv note, .own n (xs ++ [x]).length, Y] := by simp
theorem endR (xs : List InD) (x : InD) : All2 (All2 nilOr) (List.take xs.length (xs.map inRow) ++ [inRow x]) ((xs ++ [x]).map inRow) := by
  rw [List.take_of_length_le (by simp), List.map_append]; exact nilSame _
theorem endM {xs : List InD} (h : ∀ x ∈ xs, x.2.2.length ≤ 8) {x : InD} (hx : x.2.2.length ≤ 8) : ∀ z ∈ xs ++ [x], z.2.2.length ≤ 8 := fun z hz => (List.mem_append.1 hz).elim (h z) (fun h' => by rw [List.mem_singleton.1 h']; exact hx)
theorem l3Bent_ret (c : List Int) (i n : Nat) (hc : ∀ z ∈ c, isU8 z) (hl : c.length ≤ 1048576) :
    Ret Try.prog 76 [.pt i 0 0] [(i, .box [ul c, iv 0])] n true (BentQ i n 200 c) := by
  refine Ret.of_run (tt := tt) ttOk Try.func76 rfl Try.call76 [i] [.box [ul c, iv 0]] [.pt 0 0 0] true n _ rfl (nodup1 i) (by exact Nat.le_of_ble_eq_true rfl) rfl rfl ?_
  conv => whnf
  repeat' first
    | (refine CondP.yes ?_; conv => whnf)
    | (refine CondP.not ?_; conv => whnf)
    | ((first | refine CondP.dec (fun h => ?_) (fun h => ?_) | refine CondP.ndec (fun h => ?_) (fun h => ?_)) <;> first | (exfalso; first | omega | exact h (by assumption) | exact absurd h (by assumption)) | (conv => whnf))
    | (refine Both.mk ?_ ?_ <;> (conv => whnf))
    | (refine Keep.mk (by repeat' first | exact trivial | rfl | refine And.intro ?_ ?_) ?_; conv => whnf)
    | (refine And.intro (by first | decide | omega) ?_; conv => whnf)
    | fail
  refine CallP.heap (l3Draw_ret c 0 _ hc hl) rfl (by repeat' first | exact trivial | rfl | exact leafI (by first | rfl | omega | (simp (disch := omega) only [Int.reduceToNat, IntKind.bits, Nat.min_eq_left, Int.reducePow, IntWalk.i64_in, IntWalk.rem_in, IntWalk.i64_quo, IntWalk.u8_in, IntWalk.u32_in, IntWalk.u64_in]; done) | (simp (disch := omega) only [Int.reduceToNat, IntKind.bits, Nat.min_eq_left, Int.reducePow, IntWalk.i64_in, IntWalk.rem_in, IntWalk.i64_quo, IntWalk.u8_in, IntWalk.u32_in, IntWalk.u64_in]; omega)) | refine And.intro ?_ ?_) rfl ?_
  rintro r ho m ⟨⟨note, xs, ys⟩, a, rfl, rfl, rfl, ⟨d1, d2, d3, d4, d5, d0⟩, ha, ha2⟩
  dsimp only at d1 d2 d3 d4 d5 ha2 ⊢
  have ha2 : a ≤ 90 := by simpa using ha2
  obtain ⟨y, zs, rfl⟩ : ∃ y zs, ys = y :: zs := by
    cases ys with
    | nil => simp at d2
    | cons y zs => exact ⟨y, zs, rfl⟩
  have d6 : ∀ y' ∈ y :: zs, y'.2.length ≤ 13 := fun y' hy => Nat.le_trans (d5 y' hy) (by decide)
  have d7 := d6 y (List.mem_cons_self ..)
  have d8 : ∀ y' ∈ zs, y'.2.length ≤ 13 := fun y' hy => d6 y' (List.mem_cons_of_mem _ hy)
  conv => whnf
  repeat' first
    | (refine CondP.yes ?_; conv => whnf)
    | (refine CondP.not ?_; conv => whnf)
    | ((first | refine CondP.dec (fun h => ?_) (fun h => ?_) | refine CondP.ndec (fun h => ?_) (fun h => ?_)) <;> first | (exfalso; first | omega | exact h (by assumption) | exact absurd h (by assumption)) | (conv => whnf))
    | (refine Both.mk ?_ ?_ <;> (conv => whnf))
    | (refine Keep.mk (by repeat' first | exact trivial | rfl | refine And.intro ?_ ?_) ?_; conv => whnf)
    | (refine And.intro (by first | decide | omega) ?_; conv => whnf)
    | fail
  have hb := nextF_bd c a 14 (by decide)
  by_cases h3 : nextF c a 14 = 3
  · refine CallP.heapIs (l1Next_ret c a 14 0 _ hc hl (by omega) (by omega) (by decide)) rfl (by repeat' first | exact trivial | rfl | exact leafI (by first | rfl | omega | (simp (disch := omega) only [Int.reduceToNat, IntKind.bits, Nat.min_eq_left, Int.reducePow, IntWalk.i64_in, IntWalk.rem_in, IntWalk.i64_quo, IntWalk.u8_in, IntWalk.u32_in, IntWalk.u64_in]; done) | (simp (disch := omega) only [Int.reduceToNat, IntKind.bits, Nat.min_eq_left, Int.reducePow, IntWalk.i64_in, IntWalk.rem_in, IntWalk.i64_quo, IntWalk.u8_in, IntWalk.u32_in, IntWalk.u64_in]; omega)) | refine And.intro ?_ ?_) rfl ?_
    conv => whnf
    repeat' first
      | (refine CondP.yes ?_; conv => whnf)
      | (refine CondP.not ?_; conv => whnf)
      | ((first | refine CondP.dec (fun h => ?_) (fun h => ?_) | refine CondP.ndec (fun h => ?_) (fun h => ?_)) <;> first | (exfalso; first | omega | exact h (by assumption) | exact absurd h (by assumption)) | (conv => whnf))
      | (refine Both.mk ?_ ?_ <;> (conv => whnf))
      | (refine Keep.mk (by repeat' first | exact trivial | rfl | refine And.intro ?_ ?_) ?_; conv => whnf)
      | (refine And.intro (by first | decide | omega) ?_; conv => whnf)
      | fail
    all_goals (refine CallP.heapIs (l1Pick_ret c (a + 1) [7, -1] 0 _ _ (by exact Nat.ne_of_beq_eq_false rfl) hc hl (by omega) (by omega) (by simp) (by simp)) rfl (by repeat' first | exact trivial | rfl | exact leafI (by first | rfl | omega | (simp (disch := omega) only [Int.reduceToNat, IntKind.bits, Nat.min_eq_left, Int.reducePow, IntWalk.i64_in, IntWalk.rem_in, IntWalk.i64_quo, IntWalk.u8_in, IntWalk.u32_in, IntWalk.u64_in]; done) | (simp (disch := omega) only [Int.reduceToNat, IntKind.bits, Nat.min_eq_left, Int.reducePow, IntWalk.i64_in, IntWalk.rem_in, IntWalk.i64_quo, IntWalk.u8_in, IntWalk.u32_in, IntWalk.u64_in]; omega)) | refine And.intro ?_ ?_) rfl ?_
               conv => whnf
               repeat' first
                 | (refine CondP.yes ?_; conv => whnf)
                 | (refine CondP.not ?_; conv => whnf)
                 | ((first | refine CondP.dec (fun h => ?_) (fun h => ?_) | refine CondP.ndec (fun h => ?_) (fun h => ?_)) <;> first | (exfalso; first | omega | exact h (by assumption) | exact absurd h (by assumption)) | (conv => whnf))
                 | (refine Both.mk ?_ ?_ <;> (conv => whnf))
                 | (refine Keep.mk (by repeat' first | exact trivial | rfl | refine And.intro ?_ ?_) ?_; conv => whnf)
                 | (refine And.intro (by first | decide | omega) ?_; conv => whnf)
                 | fail)
    all_goals (refine CallP.heapIs (l1Pick_ret c (a + 1 + 1) [0, 4] 0 _ _ (by exact Nat.ne_of_beq_eq_false rfl) hc hl (by omega) (by omega) (by simp) (by simp)) rfl (by repeat' first | exact trivial | rfl | exact leafI (by first | rfl | omega | (simp (disch := omega) only [Int.reduceToNat, IntKind.bits, Nat.min_eq_left, Int.reducePow, IntWalk.i64_in, IntWalk.rem_in, IntWalk.i64_quo, IntWalk.u8_in, IntWalk.u32_in, IntWalk.u64_in]; done) | (simp (disch := omega) only [Int.reduceToNat, IntKind.bits, Nat.min_eq_left, Int.reducePow, IntWalk.i64_in, IntWalk.rem_in, IntWalk.i64_quo, IntWalk.u8_in, IntWalk.u32_in, IntWalk.u64_in]; omega)) | refine And.intro ?_ ?_) rfl ?_
               conv => whnf
               repeat' first
                 | (refine CondP.yes ?_; conv => whnf)
                 | (refine CondP.not ?_; conv => whnf)
                 | ((first | refine CondP.dec (fun h => ?_) (fun h => ?_) | refine CondP.ndec (fun h => ?_) (fun h => ?_)) <;> first | (exfalso; first | omega | exact h (by assumption) | exact absurd h (by assumption)) | (conv => whnf))
                 | (refine Both.mk ?_ ?_ <;> (conv => whnf))
                 | (refine Keep.mk (by repeat' first | exact trivial | rfl | refine And.intro ?_ ?_) ?_; conv => whnf)
                 | (refine And.intro (by first | decide | omega) ?_; conv => whnf)
                 | fail)
    all_goals (refine CallP.heapIs (l1Pick_ret c (a + 1 + 1 + 1) [0, 10000] 0 _ _ (by exact Nat.ne_of_beq_eq_false rfl) hc hl (by omega) (by omega) (by simp) (by simp)) rfl (by repeat' first | exact trivial | rfl | exact leafI (by first | rfl | omega | (simp (disch := omega) only [Int.reduceToNat, IntKind.bits, Nat.min_eq_left, Int.reducePow, IntWalk.i64_in, IntWalk.rem_in, IntWalk.i64_quo, IntWalk.u8_in, IntWalk.u32_in, IntWalk.u64_in]; done) | (simp (disch := omega) only [Int.reduceToNat, IntKind.bits, Nat.min_eq_left, Int.reducePow, IntWalk.i64_in, IntWalk.rem_in, IntWalk.i64_quo, IntWalk.u8_in, IntWalk.u32_in, IntWalk.u64_in]; omega)) | refine And.intro ?_ ?_) rfl ?_
               conv => whnf
               repeat' first
                 | (refine CondP.yes ?_; conv => whnf)
                 | (refine CondP.not ?_; conv => whnf)
                 | ((first | refine CondP.dec (fun h => ?_) (fun h => ?_) | refine CondP.ndec (fun h => ?_) (fun h => ?_)) <;> first | (exfalso; first | omega | exact h (by assumption) | exact absurd h (by assumption)) | (conv => whnf))
                 | (refine Both.mk ?_ ?_ <;> (conv => whnf))
                 | (refine Keep.mk (by repeat' first | exact trivial | rfl | refine And.intro ?_ ?_) ?_; conv => whnf)
                 | (refine And.intro (by first | decide | omega) ?_; conv => whnf)
                 | fail)
    all_goals (refine ⟨⟨by (first | exact True.intro | omega | (simp only [List.length_map, List.length_take, List.length_drop, List.length_append, List.length_set, List.length_replicate, List.length_cons, List.length_nil, four_len, fours_len, maxLen] at *; omega)), by (first | exact True.intro | omega | (simp only [List.length_map, List.length_take, List.length_drop, List.length_append, List.length_set, List.length_replicate, List.length_cons, List.length_nil, four_len, fours_len, maxLen] at *; omega)), by (first | exact True.intro | omega | (simp only [List.length_map, List.length_take, List.length_drop, List.length_append, List.length_set, List.length_replicate, List.length_cons, List.length_nil, four_len, fours_len, maxLen] at *; omega)), by (first | exact True.intro | omega | (simp only [List.length_map, List.length_take, List.length_drop, List.length_append, List.length_set, List.length_replicate, List.length_cons, List.length_nil, four_len, fours_len, maxLen] at *; omega)), by (first | (intro r hr; first | exact row1 hr | exact row1 (List.mem_of_mem_take hr)) | (refine rowsB_ok ?_; rfl))⟩, ?_⟩
               conv => whnf
               repeat' first
                 | (refine CondP.yes ?_; conv => whnf)
                 | (refine CondP.not ?_; conv => whnf)
                 | ((first | refine CondP.dec (fun h => ?_) (fun h => ?_) | refine CondP.ndec (fun h => ?_) (fun h => ?_)) <;> first | (exfalso; first | omega | exact h (by assumption) | exact absurd h (by assumption)) | (conv => whnf))
                 | (refine Both.mk ?_ ?_ <;> (conv => whnf))
                 | (refine Keep.mk (by repeat' first | exact trivial | rfl | refine And.intro ?_ ?_) ?_; conv => whnf)
                 | (refine And.intro (by first | decide | omega) ?_; conv => whnf)
                 | fail)
    all_goals exact FinOk.mk' [2, 3] rfl rfl rfl rfl rfl rfl rfl ⟨note, a + 1 + 1 + 1 + 1, _, _, xs ++ [(pickF c (a + 1) [7, -1], pickF c (a + 1 + 1) [0, 4], [pickF c (a + 1 + 1 + 1) [0, 10000]])], y :: zs, endL xs _ _ _ _, .inr ⟨rfl, rfl⟩, endR xs (pickF c (a + 1) [7, -1], pickF c (a + 1 + 1) [0, 4], [pickF c (a + 1 + 1 + 1) [0, 10000]]), by simp; omega, d3, endM d4 (by simp), d6, by omega, by simp; omega⟩
  refine CallP.heapIs (l1Next_ret c a 14 0 _ hc hl (by omega) (by omega) (by decide)) rfl (by repeat' first | exact trivial | rfl | exact leafI (by first | rfl | omega | (simp (disch := omega) only [Int.reduceToNat, IntKind.bits, Nat.min_eq_left, Int.reducePow, IntWalk.i64_in, IntWalk.rem_in, IntWalk.i64_quo, IntWalk.u8_in, IntWalk.u32_in, IntWalk.u64_in]; done) | (simp (disch := omega) only [Int.reduceToNat, IntKind.bits, Nat.min_eq_left, Int.reducePow, IntWalk.i64_in, IntWalk.rem_in, IntWalk.i64_quo, IntWalk.u8_in, IntWalk.u32_in, IntWalk.u64_in]; omega)) | refine And.intro ?_ ?_) rfl ?_
  conv => whnf
  repeat' first
    | (refine CondP.yes ?_; conv => whnf)
    | (refine CondP.not ?_; conv => whnf)
    | ((first | refine CondP.dec (fun h => ?_) (fun h => ?_) | refine CondP.ndec (fun h => ?_) (fun h => ?_)) <;> first | (exfalso; first | omega | exact h (by assumption) | exact absurd h (by assumption)) | (conv => whnf))
    | (refine Both.mk ?_ ?_ <;> (conv => whnf))
    | (refine Keep.mk (by repeat' first | exact trivial | rfl | refine And.intro ?_ ?_) ?_; conv => whnf)
    | (refine And.intro (by first | decide | omega) ?_; conv => whnf)
    | fail
  · refine CallP.heapIs (l1Pick_ret c (a + 1) [-1, 65536] 0 5 _ (by decide) hc hl (by omega) (by omega) (by simp) (by simp)) rfl (by repeat' first | exact trivial | rfl | exact leafI (by first | rfl | omega | (simp (disch := omega) only [Int.reduceToNat, IntKind.bits, Nat.min_eq_left, Int.reducePow, IntWalk.i64_in, IntWalk.rem_in, IntWalk.i64_quo, IntWalk.u8_in, IntWalk.u32_in, IntWalk.u64_in]; done) | (simp (disch := omega) only [Int.reduceToNat, IntKind.bits, Nat.min_eq_left, Int.reducePow, IntWalk.i64_in, IntWalk.rem_in, IntWalk.i64_quo, IntWalk.u8_in, IntWalk.u32_in, IntWalk.u64_in]; omega)) | refine And.intro ?_ ?_) rfl ?_
    conv => whnf
    repeat' first
      | (refine CondP.yes ?_; conv => whnf)
      | (refine CondP.not ?_; conv => whnf)
      | ((first | refine CondP.dec (fun h => ?_) (fun h => ?_) | refine CondP.ndec (fun h => ?_) (fun h => ?_)) <;> first | (exfalso; first | omega | exact h (by assumption) | exact absurd h (by assumption)) | (conv => whnf))
      | (refine Both.mk ?_ ?_ <;> (conv => whnf))
      | (refine Keep.mk (by repeat' first | exact trivial | rfl | refine And.intro ?_ ?_) ?_; conv => whnf)
      | (refine And.intro (by first | decide | omega) ?_; conv => whnf)
      | fail
    generalize pickF c (a + 1) [-1, 65536] = v
    exact FinOk.mk' [2, 3] rfl rfl rfl rfl rfl rfl rfl ⟨v, a + 1 + 1, xs.map inRow, _, xs, y :: zs, rfl, .inr ⟨rfl, rfl⟩, nilSame _, by omega, d3, d4, d6, by omega, by simp; omega⟩
  · refine CallP.heapIs (l1Pick_ret c (a + 1) [-1, 1000000, 1000001] 0 5 _ (by decide) hc hl (by omega) (by omega) (by simp) (by simp)) rfl (by repeat' first | exact trivial | rfl | exact leafI (by first | rfl | omega | (simp (disch := omega) only [Int.reduceToNat, IntKind.bits, Nat.min_eq_left, Int.reducePow, IntWalk.i64_in, IntWalk.rem_in, IntWalk.i64_quo, IntWalk.u8_in, IntWalk.u32_in, IntWalk.u64_in]; done) | (simp (disch := omega) only [Int.reduceToNat, IntKind.bits, Nat.min_eq_left, Int.reducePow, IntWalk.i64_in, IntWalk.rem_in, IntWalk.i64_quo, IntWalk.u8_in, IntWalk.u32_in, IntWalk.u64_in]; omega)) | refine And.intro ?_ ?_) rfl ?_
    conv => whnf
    repeat' first
      | (refine CondP.yes ?_; conv => whnf)
      | (refine CondP.not ?_; conv => whnf)
      | ((first | refine CondP.dec (fun h => ?_) (fun h => ?_) | refine CondP.ndec (fun h => ?_) (fun h => ?_)) <;> first | (exfalso; first | omega | exact h (by assumption) | exact absurd h (by assumption)) | (conv => whnf))
      | (refine Both.mk ?_ ?_ <;> (conv => whnf))
      | (refine Keep.mk (by repeat' first | exact trivial | rfl | refine And.intro ?_ ?_) ?_; conv => whnf)
      | (refine And.intro (by first | decide | omega) ?_; conv => whnf)
      | fail
    generalize pickF c (a + 1) [-1, 1000000, 1000001] = v
    refine ⟨by simp, ?_⟩
    conv => whnf
    repeat' first
      | (refine CondP.yes ?_; conv => whnf)
      | (refine CondP.not ?_; conv => whnf)
      | ((first | refine CondP.dec (fun h => ?_) (fun h => ?_) | refine CondP.ndec (fun h => ?_) (fun h => ?_)) <;> first | (exfalso; first | omega | exact h (by assumption) | exact absurd h (by assumption)) | (conv => whnf))
      | (refine Both.mk ?_ ?_ <;> (conv => whnf))
      | (refine Keep.mk (by repeat' first | exact trivial | rfl | refine And.intro ?_ ?_) ?_; conv => whnf)
      | (refine And.intro (by first | decide | omega) ?_; conv => whnf)
      | fail
    exact FinOk.mk' [2, 3] rfl rfl rfl rfl rfl rfl rfl ⟨note, a + 1 + 1, xs.map inRow, _, xs, (v, y.2) :: zs, rfl, .inr ⟨rfl, rfl⟩, nilSame _, by omega, d3, d4, fun y' hy => (List.mem_cons.1 hy).elim (fun e => by subst e; exact d7) (d8 y'), by omega, by simp; omega⟩
  · refine CallP.heap (l2Bent_fr c (a + 1) 0 _ hc hl (by omega) (by omega)) rfl (by repeat' first | exact trivial | rfl | exact leafI (by first | rfl | omega | (simp (disch := omega) only [Int.reduceToNat, IntKind.bits, Nat.min_eq_left, Int.reducePow, IntWalk.i64_in, IntWalk.rem_in, IntWalk.i64_quo, IntWalk.u8_in, IntWalk.u32_in, IntWalk.u64_in]; done) | (simp (disch := omega) only [Int.reduceToNat, IntKind.bits, Nat.min_eq_left, Int.reducePow, IntWalk.i64_in, IntWalk.rem_in, IntWalk.i64_quo, IntWalk.u8_in, IntWalk.u32_in, IntWalk.u64_in]; omega)) | refine And.intro ?_ ?_) rfl ?_
    rintro r ho m ⟨ll, a2, rfl, rfl, rfl, hll, ha3, ha4, hlr⟩
    conv => whnf
    repeat' first
      | (refine CondP.yes ?_; conv => whnf)
      | (refine CondP.not ?_; conv => whnf)
      | ((first | refine CondP.dec (fun h => ?_) (fun h => ?_) | refine CondP.ndec (fun h => ?_) (fun h => ?_)) <;> first | (exfalso; first | omega | exact h (by assumption) | exact absurd h (by assumption)) | (conv => whnf))
      | (refine Both.mk ?_ ?_ <;> (conv => whnf))
      | (refine Keep.mk (by repeat' first | exact trivial | rfl | refine And.intro ?_ ?_) ?_; conv => whnf)
      | (refine And.intro (by first | decide | omega) ?_; conv => whnf)
      | fail
    refine ⟨by simp, ?_⟩
    conv => whnf
    repeat' first
      | (refine CondP.yes ?_; conv => whnf)
      | (refine CondP.not ?_; conv => whnf)
      | ((first | refine CondP.dec (fun h => ?_) (fun h => ?_) | refine CondP.ndec (fun h => ?_) (fun h => ?_)) <;> first | (exfalso; first | omega | exact h (by assumption) | exact absurd h (by assumption)) | (conv => whnf))
      | (refine Both.mk ?_ ?_ <;> (conv => whnf))
      | (refine Keep.mk (by repeat' first | exact trivial | rfl | refine And.intro ?_ ?_) ?_; conv => whnf)
      | (refine And.intro (by first | decide | omega) ?_; conv => whnf)
      | fail
    exact FinOk.mk' [2, 3] rfl rfl rfl rfl rfl rfl rfl ⟨note, a2, xs.map inRow, _, xs, (y.1, ll) :: zs, rfl, .inr ⟨rfl, rfl⟩, nilSame _, by omega, d3, d4, fun y' hy => (List.mem_cons.1 hy).elim (fun e => by subst e; exact hll) (d8 y'), by omega, by simp; omega⟩
  · exact FinOk.mk' [2] rfl rfl rfl rfl rfl rfl rfl ⟨note, a + 1, xs.map inRow, _, xs, [], rfl, .inl ⟨rfl, rfl, rfl⟩, nilSame _, by omega, by simp, d4, by simp, by omega, by simp; omega⟩
  · have hv := pickF_in c (a + 1) 2 5 [2, 5] (by simp) rfl
    refine CallP.heapIs (l1Pick_ret c (a + 1) [2, 5] 0 5 _ (by decide) hc hl (by omega) (by omega) (by simp) (by simp)) rfl (by repeat' first | exact trivial | rfl | exact leafI (by first | rfl | omega | (simp (disch := omega) only [Int.reduceToNat, IntKind.bits, Nat.min_eq_left, Int.reducePow, IntWalk.i64_in, IntWalk.rem_in, IntWalk.i64_quo, IntWalk.u8_in, IntWalk.u32_in, IntWalk.u64_in]; done) | (simp (disch := omega) only [Int.reduceToNat, IntKind.bits, Nat.min_eq_left, Int.reducePow, IntWalk.i64_in, IntWalk.rem_in, IntWalk.i64_quo, IntWalk.u8_in, IntWalk.u32_in, IntWalk.u64_in]; omega)) | refine And.intro ?_ ?_) rfl ?_
    conv => whnf
    repeat' first
      | (refine CondP.yes ?_; conv => whnf)
      | (refine CondP.not ?_; conv => whnf)
      | ((first | refine CondP.dec (fun h => ?_) (fun h => ?_) | refine CondP.ndec (fun h => ?_) (fun h => ?_)) <;> first | (exfalso; first | omega | exact h (by assumption) | exact absurd h (by assumption)) | (conv => whnf))
      | (refine Both.mk ?_ ?_ <;> (conv => whnf))
      | (refine Keep.mk (by repeat' first | exact trivial | rfl | refine And.intro ?_ ?_) ?_; conv => whnf)
      | (refine And.intro (by first | decide | omega) ?_; conv => whnf)
      | fail
    generalize pickF c (a + 1) [2, 5] = v at *
    refine ⟨⟨by omega, by omega, by omega, by show v * (40 : Int) ≤ _; omega⟩, ?_⟩
    conv => whnf
    repeat' first
      | (refine CondP.yes ?_; conv => whnf)
      | (refine CondP.not ?_; conv => whnf)
      | ((first | refine CondP.dec (fun h => ?_) (fun h => ?_) | refine CondP.ndec (fun h => ?_) (fun h => ?_)) <;> first | (exfalso; first | omega | exact h (by assumption) | exact absurd h (by assumption)) | (conv => whnf))
      | (refine Both.mk ?_ ?_ <;> (conv => whnf))
      | (refine Keep.mk (by repeat' first | exact trivial | rfl | refine And.intro ?_ ?_) ?_; conv => whnf)
      | (refine And.intro (by first | decide | omega) ?_; conv => whnf)
      | fail
    exact FinOk.mk' [6, 3] rfl rfl rfl rfl rfl rfl rfl ⟨note, a + 1 + 1, _, _, List.replicate v.toNat (0, 0, []), y :: zs, endZ _ _ _ _, .inr ⟨rfl, rfl⟩, nilZero _, by simp; omega, d3, fun x hx => by rw [List.eq_of_mem_replicate hx]; exact Nat.zero_le _, d6, by omega, by simp; omega⟩
  · exact FinOk.mk' [2, 3] rfl rfl rfl rfl rfl rfl rfl ⟨note, a + 1, xs.map inRow, _, xs, y :: zs, rfl, .inr ⟨rfl, rfl⟩, nilSame _, by omega, d3, d4, d6, by omega, by simp; omega⟩
end Go.Proofs.Ytbghcndemghilaa
