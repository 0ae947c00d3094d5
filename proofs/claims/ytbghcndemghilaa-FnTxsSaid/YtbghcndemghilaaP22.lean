/-
  CHAPTER 3: a drawn transaction, by the reading.
-/
import Derived.Test.YtbghcndemghilaaP21
namespace Go.Proofs.Ytbghcndemghilaa
open Go Go.Am Go.RowKit
set_option linter.unusedVariables false
set_option linter.unusedSimpArgs false
/-- Sizes of a drawn transaction. -/
def Drawn (t : TxD) : Prop := t.2.1.length ≤ 2 ∧ 1 ≤ t.2.2.length ∧ t.2.2.length ≤ 3 ∧ (∀ x ∈ t.2.1, x.2.2.length ≤ 8) ∧ (∀ y ∈ t.2.2, y.2.length ≤ 7) ∧ okT t
/-- A drawn transaction, and the source further on. -/
def DrawT (i n m : Nat) (c : List Int) : AV → Hp → Nat → Prop := fun r ho k => ∃ (t : TxD) (a : Int), r = .agg [iv t.1, .own n t.2.1.length, .own (n + 1) t.2.2.length] ∧ ho = [(i, .box [ul c, iv a]), (n, .list 109 3 (t.2.1.map inRow)), (n + 1, .list 116 2 (t.2.2.map outRow))] ∧ k = n + 2 ∧ Drawn t ∧ 0 ≤ a ∧ a ≤ m
theorem l3Draw_ret (c : List Int) (i n : Nat) (hc : ∀ z ∈ c, isU8 z) (hl : c.length ≤ 1048576) :
    Ret Try.prog 63 [.pt i 0 0] [(i, .box [ul c, iv 0])] n true (DrawT i n 90 c) := by
  refine Ret.of_run (tt := tt) ttOk Try.func63 rfl Try.call63 [i] [.box [ul c, iv 0]] [.pt 0 0 0] true n _ rfl (nodup1 i) (by exact Nat.le_of_ble_eq_true rfl) rfl rfl ?_
  conv => whnf
  repeat' first
    | (refine CondP.yes ?_; conv => whnf)
    | (refine CondP.not ?_; conv => whnf)
    | ((first | refine CondP.dec (fun h => ?_) (fun h => ?_) | refine CondP.ndec (fun h => ?_) (fun h => ?_)) <;> first | (exfalso; first | omega | exact h (by assumption) | exact absurd h (by assumption)) | (conv => whnf))
    | (refine Both.mk ?_ ?_ <;> (conv => whnf))
    | (refine Keep.mk (by repeat' first | exact trivial | rfl | refine And.intro ?_ ?_) ?_; conv => whnf)
    | (refine And.intro (by first | decide | omega) ?_; conv => whnf)
    | fail
  refine CallP.heapIs (l1Pick_ret c 0 [0, 5, 300, 65535] 0 2 _ (by decide) hc hl (by omega) (by omega) (by simp) (by simp)) rfl (by repeat' first | exact trivial | rfl | exact leafI (by first | rfl | omega | (simp (disch := omega) only [Int.reduceToNat, IntKind.bits, Nat.min_eq_left, Int.reducePow, IntWalk.i64_in, IntWalk.rem_in, IntWalk.i64_quo, IntWalk.u8_in, IntWalk.u32_in, IntWalk.u64_in]; done) | (simp (disch := omega) only [Int.reduceToNat, IntKind.bits, Nat.min_eq_left, Int.reducePow, IntWalk.i64_in, IntWalk.rem_in, IntWalk.i64_quo, IntWalk.u8_in, IntWalk.u32_in, IntWalk.u64_in]; omega)) | refine And.intro ?_ ?_) rfl ?_
  conv => whnf
  repeat' first
    | (refine CondP.yes ?_; conv => whnf)
    | (refine CondP.not ?_; conv => whnf)
    | ((first | refine CondP.dec (fun h => ?_) (fun h => ?_) | refine CondP.ndec (fun h => ?_) (fun h => ?_)) <;> first | (exfalso; first | omega | exact h (by assumption) | exact absurd h (by assumption)) | (conv => whnf))
    | (refine Both.mk ?_ ?_ <;> (conv => whnf))
    | (refine Keep.mk (by repeat' first | exact trivial | rfl | refine And.intro ?_ ?_) ?_; conv => whnf)
    | (refine And.intro (by first | decide | omega) ?_; conv => whnf)
    | fail
  have hnote := pickF_in c 0 0 65535 [0, 5, 300, 65535] (by simp) rfl
  generalize pickF c 0 [0, 5, 300, 65535] = note at *
  have hb := nextF_bd c 1 3 (by decide)
  refine CallP.heapIs (l1Next_ret c 1 3 0 _ hc hl (by omega) (by omega) (by decide)) rfl (by repeat' first | exact trivial | rfl | exact leafI (by first | rfl | omega | (simp (disch := omega) only [Int.reduceToNat, IntKind.bits, Nat.min_eq_left, Int.reducePow, IntWalk.i64_in, IntWalk.rem_in, IntWalk.i64_quo, IntWalk.u8_in, IntWalk.u32_in, IntWalk.u64_in]; done) | (simp (disch := omega) only [Int.reduceToNat, IntKind.bits, Nat.min_eq_left, Int.reducePow, IntWalk.i64_in, IntWalk.rem_in, IntWalk.i64_quo, IntWalk.u8_in, IntWalk.u32_in, IntWalk.u64_in]; omega)) | refine And.intro ?_ ?_) rfl ?_
  conv => whnf
  repeat' first
    | (refine CondP.yes ?_; conv => whnf)
    | (refine CondP.not ?_; conv => whnf)
    | ((first | refine CondP.dec (fun h => ?_) (fun h => ?_) | refine CondP.ndec (fun h => ?_) (fun h => ?_)) <;> first | (exfalso; first | omega | exact h (by assumption) | exact absurd h (by assumption)) | (conv => whnf))
    | (refine Both.mk ?_ ?_ <;> (conv => whnf))
    | (refine Keep.mk (by repeat' first | exact trivial | rfl | refine And.intro ?_ ?_) ?_; conv => whnf)
    | (refine And.intro (by first | decide | omega) ?_; conv => whnf)
    | fail
  refine LoopP.go (fun y : List InD × Nat => y.1.length + y.2 ≤ 2 ∧ ∀ x ∈ y.1, okI x)
      (fun y => ⟨[(0, .pt 0 0 0), (2, .pt 1 0 0), (3, .pt 3 0 0), (4, iv y.2)], [(1, .box [iv 0, nl, nl]), (3, .box [iv note, .own 4 y.1.length, .own 5 0]), (4, .list 109 3 (y.1.map inRow)), (5, .list 116 2 []), (0, .box [ul c, iv (2 + 2 * y.1.length)])], 6⟩) (fun y => y.2) ([], (nextF c 1 3).toNat) ⟨by show 0 + _ ≤ 2; omega, by simp⟩ ?_ ?_
  · refine Weak.trans (Weak.of (tm' := [(0, .pt 0 0 0), (2, .pt 1 0 0), (3, .pt 3 0 0), (4, iv (nextF c 1 3).toNat)]) (hp' := [(1, .box [iv 0, nl, nl]), (3, .box [iv note, nl, nl]), (0, .box [ul c, iv 2])]) (nx' := 4) rfl rfl ⟨⟨rfl, rfl⟩, ⟨rfl, rfl⟩, ⟨rfl, rfl⟩, ⟨leafI (by omega), rfl⟩, trivial⟩ ⟨⟨rfl, rfl, rfl⟩, ⟨rfl, rfl, rfl⟩, ⟨rfl, rfl, rfl⟩, trivial⟩) ?_
    refine Weak.trans (Weak.name 3 1 109 3 _ (by decide) rfl rfl) ?_
    refine Weak.trans (Weak.name 3 2 116 2 _ (by decide) rfl rfl) ?_
    exact (Weak.of rfl rfl (by repeat' first | exact trivial | rfl | exact leafI (by first | rfl | omega | (simp (disch := omega) only [Int.reduceToNat, IntKind.bits, Nat.min_eq_left, Int.reducePow, IntWalk.i64_in, IntWalk.rem_in, IntWalk.i64_quo, IntWalk.u8_in, IntWalk.u32_in, IntWalk.u64_in]; done) | (simp (disch := omega) only [Int.reduceToNat, IntKind.bits, Nat.min_eq_left, Int.reducePow, IntWalk.i64_in, IntWalk.rem_in, IntWalk.i64_quo, IntWalk.u8_in, IntWalk.u32_in, IntWalk.u64_in]; omega)) | refine And.intro ?_ ?_) (by repeat' first | exact trivial | rfl | exact leafI (by first | rfl | omega | (simp (disch := omega) only [Int.reduceToNat, IntKind.bits, Nat.min_eq_left, Int.reducePow, IntWalk.i64_in, IntWalk.rem_in, IntWalk.i64_quo, IntWalk.u8_in, IntWalk.u32_in, IntWalk.u64_in]; done) | (simp (disch := omega) only [Int.reduceToNat, IntKind.bits, Nat.min_eq_left, Int.reducePow, IntWalk.i64_in, IntWalk.rem_in, IntWalk.i64_quo, IntWalk.u8_in, IntWalk.u32_in, IntWalk.u64_in]; omega)) | refine And.intro ?_ ?_))
  rintro ⟨l, k⟩ ⟨hlk, hlp⟩
  dsimp only at hlk hlp ⊢
  conv => whnf
  repeat' first
    | (refine CondP.yes ?_; conv => whnf)
    | (refine CondP.not ?_; conv => whnf)
    | ((first | refine CondP.dec (fun h => ?_) (fun h => ?_) | refine CondP.ndec (fun h => ?_) (fun h => ?_)) <;> first | (exfalso; first | omega | exact h (by assumption) | exact absurd h (by assumption)) | (conv => whnf))
    | (refine Both.mk ?_ ?_ <;> (conv => whnf))
    | (refine Keep.mk (by repeat' first | exact trivial | rfl | refine And.intro ?_ ?_) ?_; conv => whnf)
    | (refine And.intro (by first | decide | omega) ?_; conv => whnf)
    | fail
  · refine CallP.heapIs (l1Pick_ret c (2 + 2 * l.length) [7, 70000, 2147483646] 0 6 _ (by decide) hc hl (by omega) (by omega) (by simp) (by simp)) rfl (by repeat' first | exact trivial | rfl | exact leafI (by first | rfl | omega | (simp (disch := omega) only [Int.reduceToNat, IntKind.bits, Nat.min_eq_left, Int.reducePow, IntWalk.i64_in, IntWalk.rem_in, IntWalk.i64_quo, IntWalk.u8_in, IntWalk.u32_in, IntWalk.u64_in]; done) | (simp (disch := omega) only [Int.reduceToNat, IntKind.bits, Nat.min_eq_left, Int.reducePow, IntWalk.i64_in, IntWalk.rem_in, IntWalk.i64_quo, IntWalk.u8_in, IntWalk.u32_in, IntWalk.u64_in]; omega)) | refine And.intro ?_ ?_) rfl ?_
    conv => whnf
    repeat' first
      | (refine CondP.yes ?_; conv => whnf)
      | (refine CondP.not ?_; conv => whnf)
      | ((first | refine CondP.dec (fun h => ?_) (fun h => ?_) | refine CondP.ndec (fun h => ?_) (fun h => ?_)) <;> first | (exfalso; first | omega | exact h (by assumption) | exact absurd h (by assumption)) | (conv => whnf))
      | (refine Both.mk ?_ ?_ <;> (conv => whnf))
      | (refine Keep.mk (by repeat' first | exact trivial | rfl | refine And.intro ?_ ?_) ?_; conv => whnf)
      | (refine And.intro (by first | decide | omega) ?_; conv => whnf)
      | fail
    have hv := pickF_in c (2 + 2 * l.length) 0 2147483646 [7, 70000, 2147483646] (by simp) rfl
    have hp := nextF_bd c (2 + 2 * l.length + 1) 1000 (by decide)
    generalize pickF c (2 + 2 * l.length) [7, 70000, 2147483646] = v at *
    refine CallP.heapIs (l1Next_ret c (2 + 2 * l.length + 1) 1000 0 _ hc hl (by omega) (by omega) (by decide)) rfl (by repeat' first | exact trivial | rfl | exact leafI (by first | rfl | omega | (simp (disch := omega) only [Int.reduceToNat, IntKind.bits, Nat.min_eq_left, Int.reducePow, IntWalk.i64_in, IntWalk.rem_in, IntWalk.i64_quo, IntWalk.u8_in, IntWalk.u32_in, IntWalk.u64_in]; done) | (simp (disch := omega) only [Int.reduceToNat, IntKind.bits, Nat.min_eq_left, Int.reducePow, IntWalk.i64_in, IntWalk.rem_in, IntWalk.i64_quo, IntWalk.u8_in, IntWalk.u32_in, IntWalk.u64_in]; omega)) | refine And.intro ?_ ?_) rfl ?_
    conv => whnf
    repeat' first
      | (refine CondP.yes ?_; conv => whnf)
      | (refine CondP.not ?_; conv => whnf)
      | ((first | refine CondP.dec (fun h => ?_) (fun h => ?_) | refine CondP.ndec (fun h => ?_) (fun h => ?_)) <;> first | (exfalso; first | omega | exact h (by assumption) | exact absurd h (by assumption)) | (conv => whnf))
      | (refine Both.mk ?_ ?_ <;> (conv => whnf))
      | (refine Keep.mk (by repeat' first | exact trivial | rfl | refine And.intro ?_ ?_) ?_; conv => whnf)
      | (refine And.intro (by first | decide | omega) ?_; conv => whnf)
      | fail
    generalize nextF c (2 + 2 * l.length + 1) 1000 = p at *
    refine ⟨⟨by (first | exact True.intro | omega | (simp only [List.length_map, List.length_take, List.length_drop, List.length_append, List.length_set, List.length_replicate, List.length_cons, List.length_nil, four_len, fours_len, maxLen] at *; omega)), by (first | exact True.intro | omega | (simp only [List.length_map, List.length_take, List.length_drop, List.length_append, List.length_set, List.length_replicate, List.length_cons, List.length_nil, four_len, fours_len, maxLen] at *; omega)), by (first | exact True.intro | omega | (simp only [List.length_map, List.length_take, List.length_drop, List.length_append, List.length_set, List.length_replicate, List.length_cons, List.length_nil, four_len, fours_len, maxLen] at *; omega)), by (first | exact True.intro | omega | (simp only [List.length_map, List.length_take, List.length_drop, List.length_append, List.length_set, List.length_replicate, List.length_cons, List.length_nil, four_len, fours_len, maxLen] at *; omega)), by (first | (intro r hr; first | exact row1 hr | exact row1 (List.mem_of_mem_take hr)) | (refine rowsB_ok ?_; rfl))⟩, ?_⟩
    conv => whnf
    repeat' first
      | (refine CondP.yes ?_; conv => whnf)
      | (refine CondP.not ?_; conv => whnf)
      | ((first | refine CondP.dec (fun h => ?_) (fun h => ?_) | refine CondP.ndec (fun h => ?_) (fun h => ?_)) <;> first | (exfalso; first | omega | exact h (by assumption) | exact absurd h (by assumption)) | (conv => whnf))
      | (refine Both.mk ?_ ?_ <;> (conv => whnf))
      | (refine Keep.mk (by repeat' first | exact trivial | rfl | refine And.intro ?_ ?_) ?_; conv => whnf)
      | (refine And.intro (by first | decide | omega) ?_; conv => whnf)
      | fail
    refine ⟨(l ++ [(v, (l.length : Int), [p])], k - 1), ⟨by simp; omega, ?_⟩, by show k - 1 < k; omega, Weak.of rfl rfl ⟨⟨rfl, rfl⟩, ⟨rfl, rfl⟩, ⟨rfl, rfl⟩, ⟨leafI (by rw [IntWalk.i64_in _ (by omega)]; show _ = ((k - 1 : Nat) : Int); omega), rfl⟩, trivial⟩ ⟨⟨rfl, rfl, rfl⟩, ⟨?_, rfl, rfl⟩, ⟨leafO ?_, rfl, rfl⟩, ⟨rfl, rfl, rfl⟩, ⟨?_, rfl, rfl⟩, trivial⟩⟩
    · intro x hx
      rcases List.mem_append.1 hx with h' | h'
      · exact hlp x h'
      · rw [List.mem_singleton.1 h']
        exact ⟨hv, ⟨by show (0 : Int) ≤ (l.length : Int); omega, by show (l.length : Int) ≤ 3; omega⟩, by show 1 ≤ 8; decide, fun z hz => by rw [List.mem_singleton.1 hz]; exact ⟨by omega, by omega⟩⟩
    · show some (AObj.box [iv note, .own 4 (l.length + 1), .own 5 0]) = some (AObj.box [iv note, .own 4 (l ++ [(v, (l.length : Int), [p])]).length, .own 5 0])
      simp
    · rw [List.take_of_length_le (by simp)]
      show _ = (l ++ [(v, (l.length : Int), [p])]).map inRow
      rw [List.map_append]; rfl
    · show some (AObj.box [ul c, iv (2 + 2 * l.length + 1 + 1)]) = some (AObj.box [ul c, iv (2 + 2 * (l ++ [(v, (l.length : Int), [p])]).length)])
      rw [show ((l ++ [(v, (l.length : Int), [p])]).length : Int) = l.length + 1 by simp, show (2 + 2 * (l.length : Int) + 1 + 1) = 2 + 2 * (l.length + 1) by omega]
  · have hb2 := nextF_bd c (2 + 2 * l.length) 3 (by decide)
    refine CallP.heapIs (l1Next_ret c (2 + 2 * l.length) 3 0 _ hc hl (by omega) (by omega) (by decide)) rfl (by repeat' first | exact trivial | rfl | exact leafI (by first | rfl | omega | (simp (disch := omega) only [Int.reduceToNat, IntKind.bits, Nat.min_eq_left, Int.reducePow, IntWalk.i64_in, IntWalk.rem_in, IntWalk.i64_quo, IntWalk.u8_in, IntWalk.u32_in, IntWalk.u64_in]; done) | (simp (disch := omega) only [Int.reduceToNat, IntKind.bits, Nat.min_eq_left, Int.reducePow, IntWalk.i64_in, IntWalk.rem_in, IntWalk.i64_quo, IntWalk.u8_in, IntWalk.u32_in, IntWalk.u64_in]; omega)) | refine And.intro ?_ ?_) rfl ?_
    conv => whnf
    repeat' first
      | (refine CondP.yes ?_; conv => whnf)
      | (refine CondP.not ?_; conv => whnf)
      | ((first | refine CondP.dec (fun h => ?_) (fun h => ?_) | refine CondP.ndec (fun h => ?_) (fun h => ?_)) <;> first | (exfalso; first | omega | exact h (by assumption) | exact absurd h (by assumption)) | (conv => whnf))
      | (refine Both.mk ?_ ?_ <;> (conv => whnf))
      | (refine Keep.mk (by repeat' first | exact trivial | rfl | refine And.intro ?_ ?_) ?_; conv => whnf)
      | (refine And.intro (by first | decide | omega) ?_; conv => whnf)
      | fail
    generalize nextF c (2 + 2 * l.length) 3 = v at *
    refine LoopP.go (fun y : List OutD × Nat × Int => y.1.length + y.2.1 ≤ 3 ∧ 1 ≤ y.1.length + y.2.1 ∧ 0 ≤ y.2.2 ∧ y.2.2 ≤ 7 + 21 * y.1.length ∧ ∀ x ∈ y.1, okO x ∧ x.2.length ≤ 7)
      (fun y => ⟨[(0, .pt 0 0 0), (2, .pt 1 0 0), (3, .pt 3 0 0), (5, iv y.2.1)], [(1, .box [iv 0, nl, nl]), (3, .box [iv note, .own 4 l.length, .own 5 y.1.length]), (4, .list 109 3 (l.map inRow)), (5, .list 116 2 (y.1.map outRow)), (0, .box [ul c, iv y.2.2])], 6⟩) (fun y => y.2.1) ([], v.toNat + 1, 3 + 2 * l.length) ⟨by show 0 + (v.toNat + 1) ≤ 3; omega, by show 1 ≤ 0 + (v.toNat + 1); omega, by show 0 ≤ 3 + 2 * (l.length : Int); omega, by show 3 + 2 * (l.length : Int) ≤ 7 + 21 * ((0 : Nat) : Int); omega, by simp⟩ ?_ ?_
    · refine Weak.of rfl rfl ⟨⟨rfl, rfl⟩, ⟨rfl, rfl⟩, ⟨rfl, rfl⟩, ⟨leafI (by rw [IntWalk.i64_in _ (by omega)]; show _ = ((v.toNat + 1 : Nat) : Int); omega), rfl⟩, trivial⟩ ⟨⟨rfl, rfl, rfl⟩, ⟨rfl, rfl, rfl⟩, ⟨rfl, rfl, rfl⟩, ⟨rfl, rfl, rfl⟩, ⟨?_, rfl, rfl⟩, trivial⟩
      show some (AObj.box [ul c, iv (2 + 2 * l.length + 1)]) = some (AObj.box [ul c, iv (3 + 2 * l.length)])
      rw [show (2 + 2 * (l.length : Int) + 1) = 3 + 2 * l.length by omega]
    rintro ⟨ys, q, at_⟩ ⟨h1, h2, h3, h4, h5⟩
    dsimp only at h1 h2 h3 h4 h5 ⊢
    conv => whnf
    repeat' first
      | (refine CondP.yes ?_; conv => whnf)
      | (refine CondP.not ?_; conv => whnf)
      | ((first | refine CondP.dec (fun h => ?_) (fun h => ?_) | refine CondP.ndec (fun h => ?_) (fun h => ?_)) <;> first | (exfalso; first | omega | exact h (by assumption) | exact absurd h (by assumption)) | (conv => whnf))
      | (refine Both.mk ?_ ?_ <;> (conv => whnf))
      | (refine Keep.mk (by repeat' first | exact trivial | rfl | refine And.intro ?_ ?_) ?_; conv => whnf)
      | (refine And.intro (by first | decide | omega) ?_; conv => whnf)
      | fail
    · refine CallP.heapIs (l1Pick_ret c at_ [1, 50, 70000] 0 6 _ (by decide) hc hl (by omega) (by omega) (by simp) (by simp)) rfl (by repeat' first | exact trivial | rfl | exact leafI (by first | rfl | omega | (simp (disch := omega) only [Int.reduceToNat, IntKind.bits, Nat.min_eq_left, Int.reducePow, IntWalk.i64_in, IntWalk.rem_in, IntWalk.i64_quo, IntWalk.u8_in, IntWalk.u32_in, IntWalk.u64_in]; done) | (simp (disch := omega) only [Int.reduceToNat, IntKind.bits, Nat.min_eq_left, Int.reducePow, IntWalk.i64_in, IntWalk.rem_in, IntWalk.i64_quo, IntWalk.u8_in, IntWalk.u32_in, IntWalk.u64_in]; omega)) | refine And.intro ?_ ?_) rfl ?_
      conv => whnf
      repeat' first
        | (refine CondP.yes ?_; conv => whnf)
        | (refine CondP.not ?_; conv => whnf)
        | ((first | refine CondP.dec (fun h => ?_) (fun h => ?_) | refine CondP.ndec (fun h => ?_) (fun h => ?_)) <;> first | (exfalso; first | omega | exact h (by assumption) | exact absurd h (by assumption)) | (conv => whnf))
        | (refine Both.mk ?_ ?_ <;> (conv => whnf))
        | (refine Keep.mk (by repeat' first | exact trivial | rfl | refine And.intro ?_ ?_) ?_; conv => whnf)
        | (refine And.intro (by first | decide | omega) ?_; conv => whnf)
        | fail
      have hw := pickF_in c at_ 0 2147483646 [1, 50, 70000] (by simp) rfl
      generalize pickF c at_ [1, 50, 70000] = w at *
      refine CallP.heap (l2Draw_fr c (at_ + 1) 0 _ hc hl (by omega) (by omega)) rfl (by repeat' first | exact trivial | rfl | exact leafI (by first | rfl | omega | (simp (disch := omega) only [Int.reduceToNat, IntKind.bits, Nat.min_eq_left, Int.reducePow, IntWalk.i64_in, IntWalk.rem_in, IntWalk.i64_quo, IntWalk.u8_in, IntWalk.u32_in, IntWalk.u64_in]; done) | (simp (disch := omega) only [Int.reduceToNat, IntKind.bits, Nat.min_eq_left, Int.reducePow, IntWalk.i64_in, IntWalk.rem_in, IntWalk.i64_quo, IntWalk.u8_in, IntWalk.u32_in, IntWalk.u64_in]; omega)) | refine And.intro ?_ ?_) rfl ?_
      rintro r ho m ⟨ll, a2, rfl, rfl, rfl, hll, ha3, ha4, hlr⟩
      conv => whnf
      repeat' first
        | (refine CondP.yes ?_; conv => whnf)
        | (refine CondP.not ?_; conv => whnf)
        | ((first | refine CondP.dec (fun h => ?_) (fun h => ?_) | refine CondP.ndec (fun h => ?_) (fun h => ?_)) <;> first | (exfalso; first | omega | exact h (by assumption) | exact absurd h (by assumption)) | (conv => whnf))
        | (refine Both.mk ?_ ?_ <;> (conv => whnf))
        | (refine Keep.mk (by repeat' first | exact trivial | rfl | refine And.intro ?_ ?_) ?_; conv => whnf)
        | (refine And.intro (by first | decide | omega) ?_; conv => whnf)
        | fail
      refine ⟨⟨by (first | exact True.intro | omega | (simp only [List.length_map, List.length_take, List.length_drop, List.length_append, List.length_set, List.length_replicate, List.length_cons, List.length_nil, four_len, fours_len, maxLen] at *; omega)), by (first | exact True.intro | omega | (simp only [List.length_map, List.length_take, List.length_drop, List.length_append, List.length_set, List.length_replicate, List.length_cons, List.length_nil, four_len, fours_len, maxLen] at *; omega)), by (first | exact True.intro | omega | (simp only [List.length_map, List.length_take, List.length_drop, List.length_append, List.length_set, List.length_replicate, List.length_cons, List.length_nil, four_len, fours_len, maxLen] at *; omega)), by (first | exact True.intro | omega | (simp only [List.length_map, List.length_take, List.length_drop, List.length_append, List.length_set, List.length_replicate, List.length_cons, List.length_nil, four_len, fours_len, maxLen] at *; omega)), by (first | (intro r hr; first | exact row1 hr | exact row1 (List.mem_of_mem_take hr)) | (refine rowsB_ok ?_; rfl))⟩, ?_⟩
      conv => whnf
      repeat' first
        | (refine CondP.yes ?_; conv => whnf)
        | (refine CondP.not ?_; conv => whnf)
        | ((first | refine CondP.dec (fun h => ?_) (fun h => ?_) | refine CondP.ndec (fun h => ?_) (fun h => ?_)) <;> first | (exfalso; first | omega | exact h (by assumption) | exact absurd h (by assumption)) | (conv => whnf))
        | (refine Both.mk ?_ ?_ <;> (conv => whnf))
        | (refine Keep.mk (by repeat' first | exact trivial | rfl | refine And.intro ?_ ?_) ?_; conv => whnf)
        | (refine And.intro (by first | decide | omega) ?_; conv => whnf)
        | fail
      refine ⟨(ys ++ [(w, ll)], q - 1, a2), ⟨by simp; omega, by simp; omega, by show 0 ≤ a2; omega, by simp; omega, ?_⟩, by show q - 1 < q; omega, Weak.of rfl rfl ⟨⟨rfl, rfl⟩, ⟨rfl, rfl⟩, ⟨rfl, rfl⟩, ⟨leafI (by rw [IntWalk.i64_in _ (by omega)]; show _ = ((q - 1 : Nat) : Int); omega), rfl⟩, trivial⟩ ⟨⟨rfl, rfl, rfl⟩, ⟨?_, rfl, rfl⟩, ⟨rfl, rfl, rfl⟩, ⟨leafO ?_, rfl, rfl⟩, ⟨rfl, rfl, rfl⟩, trivial⟩⟩
      · intro x hx
        rcases List.mem_append.1 hx with h' | h'
        · exact h5 x h'
        · rw [List.mem_singleton.1 h']; exact ⟨⟨hw, Nat.le_trans hll (by decide), hlr⟩, hll⟩
      · show some (AObj.box [iv note, .own 4 l.length, .own 5 (ys.length + 1)]) = some (AObj.box [iv note, .own 4 l.length, .own 5 (ys ++ [(w, ll)]).length])
        simp
      · rw [List.take_of_length_le (by simp)]
        show _ = (ys ++ [(w, ll)]).map outRow
        rw [List.map_append]; rfl
    · exact FinOk.mk' [4, 5] rfl rfl rfl rfl rfl rfl rfl ⟨(note, l, ys), at_, rfl, rfl, rfl, ⟨by show l.length ≤ 2; omega, by show 1 ≤ ys.length; omega, by show ys.length ≤ 3; omega, fun x hx => (hlp x hx).2.2.1, fun y hy => (h5 y hy).2, hnote, by show l.length ≤ 4; omega, by show ys.length ≤ 4; omega, hlp, fun y hy => (h5 y hy).1⟩, h3, by omega⟩
end Go.Proofs.Ytbghcndemghilaa
