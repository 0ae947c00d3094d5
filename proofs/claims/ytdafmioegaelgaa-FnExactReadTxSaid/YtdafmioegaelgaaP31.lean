/-
  CHAPTER 3: the specification's ReadTx, by the reading.
-/
import Derived.Test.YtdafmioegaelgaaP29
import Derived.Test.YtdafmioegaelgaaP30
namespace Go.Proofs.Ytdafmioegaelgaa
open Go Go.Am Go.RowKit
set_option linter.unusedVariables false
set_option linter.unusedSimpArgs false
def inS (d : List Int) (s : RS) : InD × RS :=
  let a := bigS d s
  let b := varF d a.2
  let l := listS d b.2
  ((a.1, b.1, l.1), l.2)
def outS (d : List Int) (s : RS) : OutD × RS :=
  let a := bigS d s
  let l := listS d a.2
  ((a.1, l.1), l.2)
theorem bigS_bd {d : List Int} (hd : ∀ z ∈ d, isU8 z) (s : RS) (hs : s.1 ≤ d.length) : (bigS d s).2.1 ≤ d.length := (varF_bd hd _ (varF_bd hd s hs).2.2.2.1).2.2.2.1
theorem inS_bd {d : List Int} (hd : ∀ z ∈ d, isU8 z) (s : RS) (hs : s.1 ≤ d.length) : (inS d s).2.1 ≤ d.length := listS_bd hd _ (varF_bd hd _ (bigS_bd hd s hs)).2.2.2.1
theorem outS_bd {d : List Int} (hd : ∀ z ∈ d, isU8 z) (s : RS) (hs : s.1 ≤ d.length) : (outS d s).2.1 ≤ d.length := listS_bd hd _ (bigS_bd hd s hs)
def txS (d : List Int) (s : RS) : TxD × RS :=
  let n := varF d s
  let c := varF d n.2
  let xs := whF (inS d) c.1.toNat c.2
  let e := varF d xs.2
  let ys := whF (outS d) e.1.toNat e.2
  ((n.1, xs.1, ys.1), ys.2)
/-- Wrong, too, where it is at fault. -/
def endS (x : TxD × RS) : RS := (x.2.1, x.2.2 || decide (faultC x.1 ≠ 0))
theorem l3Read_ret (d : List Int) (s : RS) (i n : Nat) (hd : ∀ z ∈ d, isU8 z) (hl : d.length ≤ 1048576) (hs : s.1 ≤ d.length) : Ret Try.prog 55 [.pt i 0 0] [(i, rdO d s)] n true (Is (.agg [iv (txS d s).1.1, .own n (txS d s).1.2.1.length, .own (n + 1) (txS d s).1.2.2.length]) [(i, rdO d (endS (txS d s))), (n, .list 125 3 ((txS d s).1.2.1.map inRow)), (n + 1, .list 127 2 ((txS d s).1.2.2.map outRow))] (n + 2)) := by
  refine Ret.of_run (tt := tt) ttOk Try.func55 rfl Try.call55 [i] [rdO d s] [.pt 0 0 0] true n _ rfl (nodup1 i) (by exact Nat.le_of_ble_eq_true rfl) rfl rfl ?_
  have h1 := varF_bd hd s hs
  have h2 := varF_bd hd _ h1.2.2.2.1
  conv => whnf
  repeat' first
    | (refine CondP.yes ?_; conv => whnf)
    | (refine CondP.not ?_; conv => whnf)
    | ((first | refine CondP.dec (fun h => ?_) (fun h => ?_) | refine CondP.ndec (fun h => ?_) (fun h => ?_)) <;> first | (exfalso; first | omega | exact h (by assumption) | exact absurd h (by assumption)) | (conv => whnf))
    | (refine Both.mk ?_ ?_ <;> (conv => whnf))
    | (refine Keep.mk (by repeat' first | exact trivial | rfl | refine And.intro ?_ ?_) ?_; conv => whnf)
    | (refine And.intro (by first | decide | omega) ?_; conv => whnf)
    | fail
  refine CallP.heapIs (l3Var_ret d s 0 _ hd hl hs) rfl (by repeat' first | exact trivial | rfl | exact leafI (by first | rfl | omega | (simp (disch := omega) only [Int.reduceToNat, IntKind.bits, Nat.min_eq_left, Int.reducePow, IntWalk.i64_in, IntWalk.rem_in, IntWalk.i64_quo, IntWalk.u8_in, IntWalk.u32_in, IntWalk.u64_in]; done) | (simp (disch := omega) only [Int.reduceToNat, IntKind.bits, Nat.min_eq_left, Int.reducePow, IntWalk.i64_in, IntWalk.rem_in, IntWalk.i64_quo, IntWalk.u8_in, IntWalk.u32_in, IntWalk.u64_in]; omega)) | refine And.intro ?_ ?_) rfl ?_
  conv => whnf
  repeat' first
    | (refine CondP.yes ?_; conv => whnf)
    | (refine CondP.not ?_; conv => whnf)
    | ((first | refine CondP.dec (fun h => ?_) (fun h => ?_) | refine CondP.ndec (fun h => ?_) (fun h => ?_)) <;> first | (exfalso; first | omega | exact h (by assumption) | exact absurd h (by assumption)) | (conv => whnf))
    | (refine Both.mk ?_ ?_ <;> (conv => whnf))
    | (refine Keep.mk (by repeat' first | exact trivial | rfl | refine And.intro ?_ ?_) ?_; conv => whnf)
    | (refine And.intro (by first | decide | omega) ?_; conv => whnf)
    | fail
  refine CallP.heapIs (l3Var_ret d _ 0 _ hd hl h1.2.2.2.1) rfl (by repeat' first | exact trivial | rfl | exact leafI (by first | rfl | omega | (simp (disch := omega) only [Int.reduceToNat, IntKind.bits, Nat.min_eq_left, Int.reducePow, IntWalk.i64_in, IntWalk.rem_in, IntWalk.i64_quo, IntWalk.u8_in, IntWalk.u32_in, IntWalk.u64_in]; done) | (simp (disch := omega) only [Int.reduceToNat, IntKind.bits, Nat.min_eq_left, Int.reducePow, IntWalk.i64_in, IntWalk.rem_in, IntWalk.i64_quo, IntWalk.u8_in, IntWalk.u32_in, IntWalk.u64_in]; omega)) | refine And.intro ?_ ?_) rfl ?_
  conv => whnf
  repeat' first
    | (refine CondP.yes ?_; conv => whnf)
    | (refine CondP.not ?_; conv => whnf)
    | ((first | refine CondP.dec (fun h => ?_) (fun h => ?_) | refine CondP.ndec (fun h => ?_) (fun h => ?_)) <;> first | (exfalso; first | omega | exact h (by assumption) | exact absurd h (by assumption)) | (conv => whnf))
    | (refine Both.mk ?_ ?_ <;> (conv => whnf))
    | (refine Keep.mk (by repeat' first | exact trivial | rfl | refine And.intro ?_ ?_) ?_; conv => whnf)
    | (refine And.intro (by first | decide | omega) ?_; conv => whnf)
    | fail
  unfold txS
  generalize varF d s = ns at *
  obtain ⟨note, s1⟩ := ns
  dsimp only at h1 h2 ⊢
  generalize varF d s1 = cs at *
  obtain ⟨k, s2⟩ := cs
  dsimp only at h2 ⊢
  obtain ⟨k, rfl⟩ := Int.eq_ofNat_of_zero_le h2.1
  rw [Int.toNat_natCast]
  have hL := whF_len (f := inS d) k s2
  have hB := whF_bd (inS_bd hd) k s2 h2.2.2.2.1
  generalize hW : whF (inS d) k s2 = W at *
  obtain ⟨L, S⟩ := W
  dsimp only at hL hB ⊢
  refine LoopP.go (fun y : List InD × Nat × RS => y.1 ++ (whF (inS d) y.2.1 y.2.2).1 = L ∧ (whF (inS d) y.2.1 y.2.2).2 = S ∧ y.2.2.1 ≤ d.length ∧ y.1.length + y.2.1 ≤ 65535)
      (fun y => ⟨[(0, .pt 0 0 0), (2, .pt 1 0 0), (3, .pt 2 0 0), (4, iv y.2.1)], [(0, rdO d y.2.2), (1, .box [iv 0, nl, nl]), (2, .box [iv note, .own 3 y.1.length, .own 4 0]), (3, .list 125 3 (y.1.map inRow)), (4, .list 127 2 [])], 5⟩) (fun y => y.2.1) ([], k, s2) ⟨by show [] ++ (whF (inS d) k s2).1 = L; rw [hW]; rfl, by show (whF (inS d) k s2).2 = S; rw [hW], h2.2.2.2.1, by show 0 + k ≤ 65535; omega⟩ ?_ ?_
  · refine Weak.trans (Weak.of (tm' := [(0, .pt 0 0 0), (2, .pt 1 0 0), (3, .pt 2 0 0), (4, iv k)]) (hp' := [(0, rdO d s2), (1, .box [iv 0, nl, nl]), (2, .box [iv note, nl, nl])]) (nx' := 3) rfl rfl ⟨⟨rfl, rfl⟩, ⟨rfl, rfl⟩, ⟨rfl, rfl⟩, ⟨rfl, rfl⟩, trivial⟩ ⟨⟨rfl, rfl, rfl⟩, ⟨rfl, rfl, rfl⟩, ⟨rfl, rfl, rfl⟩, trivial⟩) ?_
    refine Weak.trans (Weak.name 2 1 125 3 _ (by decide) rfl rfl) ?_
    refine Weak.trans (Weak.name 2 2 127 2 _ (by decide) rfl rfl) ?_
    exact (Weak.of rfl rfl (by repeat' first | exact trivial | rfl | exact leafI (by first | rfl | omega | (simp (disch := omega) only [Int.reduceToNat, IntKind.bits, Nat.min_eq_left, Int.reducePow, IntWalk.i64_in, IntWalk.rem_in, IntWalk.i64_quo, IntWalk.u8_in, IntWalk.u32_in, IntWalk.u64_in]; done) | (simp (disch := omega) only [Int.reduceToNat, IntKind.bits, Nat.min_eq_left, Int.reducePow, IntWalk.i64_in, IntWalk.rem_in, IntWalk.i64_quo, IntWalk.u8_in, IntWalk.u32_in, IntWalk.u64_in]; omega)) | refine And.intro ?_ ?_) (by repeat' first | exact trivial | rfl | exact leafI (by first | rfl | omega | (simp (disch := omega) only [Int.reduceToNat, IntKind.bits, Nat.min_eq_left, Int.reducePow, IntWalk.i64_in, IntWalk.rem_in, IntWalk.i64_quo, IntWalk.u8_in, IntWalk.u32_in, IntWalk.u64_in]; done) | (simp (disch := omega) only [Int.reduceToNat, IntKind.bits, Nat.min_eq_left, Int.reducePow, IntWalk.i64_in, IntWalk.rem_in, IntWalk.i64_quo, IntWalk.u8_in, IntWalk.u32_in, IntWalk.u64_in]; omega)) | refine And.intro ?_ ?_))
  have rest : ∀ (xs : List InD) (s3 : RS) (e1 : xs = L) (e2 : s3 = S), True := fun _ _ _ _ => trivial
  rintro ⟨l, k, a, b⟩ ⟨e1, e2, e3, e4⟩
  dsimp only at e1 e2 e3 e4 ⊢
  cases b with
  | true =>
    rw [whF_stop (by rfl)] at e1 e2
    simp only [List.append_nil] at e1
    subst e1 e2
    conv => whnf
    repeat' first
      | (refine CondP.yes ?_; conv => whnf)
      | (refine CondP.not ?_; conv => whnf)
      | ((first | refine CondP.dec (fun h => ?_) (fun h => ?_) | refine CondP.ndec (fun h => ?_) (fun h => ?_)) <;> first | (exfalso; first | omega | exact h (by assumption) | exact absurd h (by assumption)) | (conv => whnf))
      | (refine Both.mk ?_ ?_ <;> (conv => whnf))
      | (refine Keep.mk (by repeat' first | exact trivial | rfl | refine And.intro ?_ ?_) ?_; conv => whnf)
      | (refine And.intro (by first | decide | omega) ?_; conv => whnf)
      | fail
    · try dsimp only
      have c1 := varF_bd hd (a, true) e3
      refine CallP.heapIs (l3Var_ret d (a, true) 0 _ hd hl e3) rfl (by repeat' first | exact trivial | rfl | exact leafI (by first | rfl | omega | (simp (disch := omega) only [Int.reduceToNat, IntKind.bits, Nat.min_eq_left, Int.reducePow, IntWalk.i64_in, IntWalk.rem_in, IntWalk.i64_quo, IntWalk.u8_in, IntWalk.u32_in, IntWalk.u64_in]; done) | (simp (disch := omega) only [Int.reduceToNat, IntKind.bits, Nat.min_eq_left, Int.reducePow, IntWalk.i64_in, IntWalk.rem_in, IntWalk.i64_quo, IntWalk.u8_in, IntWalk.u32_in, IntWalk.u64_in]; omega)) | refine And.intro ?_ ?_) rfl ?_
      conv => whnf
      repeat' first
        | (refine CondP.yes ?_; conv => whnf)
        | (refine CondP.not ?_; conv => whnf)
        | ((first | refine CondP.dec (fun h => ?_) (fun h => ?_) | refine CondP.ndec (fun h => ?_) (fun h => ?_)) <;> first | (exfalso; first | omega | exact h (by assumption) | exact absurd h (by assumption)) | (conv => whnf))
        | (refine Both.mk ?_ ?_ <;> (conv => whnf))
        | (refine Keep.mk (by repeat' first | exact trivial | rfl | refine And.intro ?_ ?_) ?_; conv => whnf)
        | (refine And.intro (by first | decide | omega) ?_; conv => whnf)
        | fail
      clear hW hB rest
      generalize varF d (a, true) = cs at *
      obtain ⟨q, s4⟩ := cs
      dsimp only at c1 ⊢
      obtain ⟨q, rfl⟩ := Int.eq_ofNat_of_zero_le c1.1
      rw [Int.toNat_natCast]
      have hL2 := whF_len (f := outS d) q s4
      generalize hW2 : whF (outS d) q s4 = W at *
      obtain ⟨L, S⟩ := W
      dsimp only at hL2 ⊢
      refine LoopP.go (fun y : List OutD × Nat × RS => y.1 ++ (whF (outS d) y.2.1 y.2.2).1 = L ∧ (whF (outS d) y.2.1 y.2.2).2 = S ∧ y.2.2.1 ≤ d.length ∧ y.1.length + y.2.1 ≤ 65535)
        (fun y => ⟨[(0, .pt 0 0 0), (2, .pt 1 0 0), (3, .pt 2 0 0), (6, iv y.2.1)], [(0, rdO d y.2.2), (1, .box [iv 0, nl, nl]), (2, .box [iv note, .own 3 l.length, .own 4 y.1.length]), (3, .list 125 3 (l.map inRow)), (4, .list 127 2 (y.1.map outRow))], 5⟩) (fun y => y.2.1) ([], q, s4) ⟨by show [] ++ (whF (outS d) q s4).1 = L; rw [hW2]; rfl, by show (whF (outS d) q s4).2 = S; rw [hW2], c1.2.2.2.1, by show 0 + q ≤ 65535; omega⟩ ?_ ?_
      · exact (Weak.of rfl rfl (by repeat' first | exact trivial | rfl | exact leafI (by first | rfl | omega | (simp (disch := omega) only [Int.reduceToNat, IntKind.bits, Nat.min_eq_left, Int.reducePow, IntWalk.i64_in, IntWalk.rem_in, IntWalk.i64_quo, IntWalk.u8_in, IntWalk.u32_in, IntWalk.u64_in]; done) | (simp (disch := omega) only [Int.reduceToNat, IntKind.bits, Nat.min_eq_left, Int.reducePow, IntWalk.i64_in, IntWalk.rem_in, IntWalk.i64_quo, IntWalk.u8_in, IntWalk.u32_in, IntWalk.u64_in]; omega)) | refine And.intro ?_ ?_) (by repeat' first | exact trivial | rfl | exact leafI (by first | rfl | omega | (simp (disch := omega) only [Int.reduceToNat, IntKind.bits, Nat.min_eq_left, Int.reducePow, IntWalk.i64_in, IntWalk.rem_in, IntWalk.i64_quo, IntWalk.u8_in, IntWalk.u32_in, IntWalk.u64_in]; done) | (simp (disch := omega) only [Int.reduceToNat, IntKind.bits, Nat.min_eq_left, Int.reducePow, IntWalk.i64_in, IntWalk.rem_in, IntWalk.i64_quo, IntWalk.u8_in, IntWalk.u32_in, IntWalk.u64_in]; omega)) | refine And.intro ?_ ?_))
      rintro ⟨m, q, p, b⟩ ⟨f1, f2, f3, f4⟩
      dsimp only at f1 f2 f3 f4 ⊢
      cases b with
      | true =>
        rw [whF_stop (by rfl)] at f1 f2
        simp only [List.append_nil] at f1
        subst f1 f2
        conv => whnf
        repeat' first
          | (refine CondP.yes ?_; conv => whnf)
          | (refine CondP.not ?_; conv => whnf)
          | ((first | refine CondP.dec (fun h => ?_) (fun h => ?_) | refine CondP.ndec (fun h => ?_) (fun h => ?_)) <;> first | (exfalso; first | omega | exact h (by assumption) | exact absurd h (by assumption)) | (conv => whnf))
          | (refine Both.mk ?_ ?_ <;> (conv => whnf))
          | (refine Keep.mk (by repeat' first | exact trivial | rfl | refine And.intro ?_ ?_) ?_; conv => whnf)
          | (refine And.intro (by first | decide | omega) ?_; conv => whnf)
          | fail
        all_goals exact FinOk.mk' [3, 4] rfl rfl rfl rfl rfl rfl rfl ⟨rfl, rfl, rfl⟩
      | false =>
        conv => whnf
        repeat' first
          | (refine CondP.yes ?_; conv => whnf)
          | (refine CondP.not ?_; conv => whnf)
          | ((first | refine CondP.dec (fun h => ?_) (fun h => ?_) | refine CondP.ndec (fun h => ?_) (fun h => ?_)) <;> first | (exfalso; first | omega | exact h (by assumption) | exact absurd h (by assumption)) | (conv => whnf))
          | (refine Both.mk ?_ ?_ <;> (conv => whnf))
          | (refine Keep.mk (by repeat' first | exact trivial | rfl | refine And.intro ?_ ?_) ?_; conv => whnf)
          | (refine And.intro (by first | decide | omega) ?_; conv => whnf)
          | fail
        · obtain ⟨q, rfl⟩ : ∃ y, q = y + 1 := ⟨q - 1, by omega⟩
          rw [whF_next (by rfl)] at f1 f2
          have b1 := bigS_bd hd (p, false) f3
          have b3 := outS_bd hd (p, false) f3
          refine CallP.heapIs (l3ReadBig_ret d (p, false) 0 _ hd hl f3) rfl (by repeat' first | exact trivial | rfl | exact leafI (by first | rfl | omega | (simp (disch := omega) only [Int.reduceToNat, IntKind.bits, Nat.min_eq_left, Int.reducePow, IntWalk.i64_in, IntWalk.rem_in, IntWalk.i64_quo, IntWalk.u8_in, IntWalk.u32_in, IntWalk.u64_in]; done) | (simp (disch := omega) only [Int.reduceToNat, IntKind.bits, Nat.min_eq_left, Int.reducePow, IntWalk.i64_in, IntWalk.rem_in, IntWalk.i64_quo, IntWalk.u8_in, IntWalk.u32_in, IntWalk.u64_in]; omega)) | refine And.intro ?_ ?_) rfl ?_
          conv => whnf
          repeat' first
            | (refine CondP.yes ?_; conv => whnf)
            | (refine CondP.not ?_; conv => whnf)
            | ((first | refine CondP.dec (fun h => ?_) (fun h => ?_) | refine CondP.ndec (fun h => ?_) (fun h => ?_)) <;> first | (exfalso; first | omega | exact h (by assumption) | exact absurd h (by assumption)) | (conv => whnf))
            | (refine Both.mk ?_ ?_ <;> (conv => whnf))
            | (refine Keep.mk (by repeat' first | exact trivial | rfl | refine And.intro ?_ ?_) ?_; conv => whnf)
            | (refine And.intro (by first | decide | omega) ?_; conv => whnf)
            | fail
          refine CallP.heapIs (l3ReadList_fr d _ 0 _ hd hl b1) rfl (by repeat' first | exact trivial | rfl | exact leafI (by first | rfl | omega | (simp (disch := omega) only [Int.reduceToNat, IntKind.bits, Nat.min_eq_left, Int.reducePow, IntWalk.i64_in, IntWalk.rem_in, IntWalk.i64_quo, IntWalk.u8_in, IntWalk.u32_in, IntWalk.u64_in]; done) | (simp (disch := omega) only [Int.reduceToNat, IntKind.bits, Nat.min_eq_left, Int.reducePow, IntWalk.i64_in, IntWalk.rem_in, IntWalk.i64_quo, IntWalk.u8_in, IntWalk.u32_in, IntWalk.u64_in]; omega)) | refine And.intro ?_ ?_) rfl ?_
          conv => whnf
          repeat' first
            | (refine CondP.yes ?_; conv => whnf)
            | (refine CondP.not ?_; conv => whnf)
            | ((first | refine CondP.dec (fun h => ?_) (fun h => ?_) | refine CondP.ndec (fun h => ?_) (fun h => ?_)) <;> first | (exfalso; first | omega | exact h (by assumption) | exact absurd h (by assumption)) | (conv => whnf))
            | (refine Both.mk ?_ ?_ <;> (conv => whnf))
            | (refine Keep.mk (by repeat' first | exact trivial | rfl | refine And.intro ?_ ?_) ?_; conv => whnf)
            | (refine And.intro (by first | decide | omega) ?_; conv => whnf)
            | fail
          refine ⟨⟨by (first | exact True.intro | omega | (simp only [List.length_map, List.length_take, List.length_drop, List.length_append, List.length_set, List.length_replicate, List.length_cons, List.length_nil, four_len, fours_len, maxLen] at *; omega)), by (first | exact True.intro | omega | (simp only [List.length_map, List.length_take, List.length_drop, List.length_append, List.length_set, List.length_replicate, List.length_cons, List.length_nil, four_len, fours_len, maxLen] at *; omega)), by (first | exact True.intro | omega | (simp only [List.length_map, List.length_take, List.length_drop, List.length_append, List.length_set, List.length_replicate, List.length_cons, List.length_nil, four_len, fours_len, maxLen] at *; omega)), by (first | exact True.intro | omega | (simp only [List.length_map, List.length_take, List.length_drop, List.length_append, List.length_set, List.length_replicate, List.length_cons, List.length_nil, four_len, fours_len, maxLen] at *; omega)), by (first | (intro r hr; first | exact row1 hr | exact row1 (List.mem_of_mem_take hr)) | (refine rowsB_ok ?_; rfl))⟩, ?_⟩
          conv => whnf
          repeat' first
            | (refine CondP.yes ?_; conv => whnf)
            | (refine CondP.not ?_; conv => whnf)
            | ((first | refine CondP.dec (fun h => ?_) (fun h => ?_) | refine CondP.ndec (fun h => ?_) (fun h => ?_)) <;> first | (exfalso; first | omega | exact h (by assumption) | exact absurd h (by assumption)) | (conv => whnf))
            | (refine Both.mk ?_ ?_ <;> (conv => whnf))
            | (refine Keep.mk (by repeat' first | exact trivial | rfl | refine And.intro ?_ ?_) ?_; conv => whnf)
            | (refine And.intro (by first | decide | omega) ?_; conv => whnf)
            | fail
          refine ⟨(m ++ [(outS d (p, false)).1], q, (outS d (p, false)).2), ⟨by rw [← f1]; simp, f2, b3, by simp; omega⟩, by show q < q + 1; omega, Weak.of rfl rfl ⟨⟨rfl, rfl⟩, ⟨rfl, rfl⟩, ⟨rfl, rfl⟩, ⟨leafI (by rw [IntWalk.i64_in _ (by omega)]; show _ = ((q : Nat) : Int); omega), rfl⟩, trivial⟩ ⟨⟨rfl, rfl, rfl⟩, ⟨rfl, rfl, rfl⟩, ⟨?_, rfl, rfl⟩, ⟨rfl, rfl, rfl⟩, ⟨leafO ?_, rfl, rfl⟩, trivial⟩⟩
          · show some (AObj.box [iv note, .own 3 l.length, .own 4 (m.length + 1)]) = some (AObj.box [iv note, .own 3 l.length, .own 4 (m ++ [(outS d (p, false)).1]).length])
            simp
          · rw [List.take_of_length_le (by simp)]
            show _ = (m ++ [(outS d (p, false)).1]).map outRow
            rw [List.map_append]; rfl
        · obtain rfl : q = 0 := by omega
          simp only [whF, List.append_nil] at f1 f2
          subst f1 f2
          refine CallP.convAIs (l3Fault_rp (note, l, m) _ (show l.length ≤ 1048576 by omega) (show m.length ≤ 1048576 by omega)) (by repeat' first | exact trivial | exact cvSame rfl | exact cvNil | exact cvOwn rfl (by (first | rfl | (simp only [List.length_map]; done) | (simp only [List.length_map]; first | rfl | assumption | omega))) | exact cvcSame rfl | exact cvcNil | exact cvcOwn rfl (by (first | rfl | (simp only [List.length_map]; done) | (simp only [List.length_map]; first | rfl | assumption | omega))) | refine cvBox rfl ?_ rfl | refine cvAgg ?_ | refine And.intro ?_ ?_) rfl (by first | exact trivial | exact ⟨flat_ivs _, trivial⟩) ?_
          conv => whnf
          repeat' first
            | (refine CondP.yes ?_; conv => whnf)
            | (refine CondP.not ?_; conv => whnf)
            | ((first | refine CondP.dec (fun h => ?_) (fun h => ?_) | refine CondP.ndec (fun h => ?_) (fun h => ?_)) <;> first | (exfalso; first | omega | exact h (by assumption) | exact absurd h (by assumption)) | (conv => whnf))
            | (refine Both.mk ?_ ?_ <;> (conv => whnf))
            | (refine Keep.mk (by repeat' first | exact trivial | rfl | refine And.intro ?_ ?_) ?_; conv => whnf)
            | (refine And.intro (by first | decide | omega) ?_; conv => whnf)
            | fail
          exact FinOk.mk' [3, 4] rfl rfl rfl rfl rfl rfl rfl ⟨rfl, rfl, rfl⟩
    · try dsimp only
      have c1 := varF_bd hd (a, true) e3
      refine CallP.heapIs (l3Var_ret d (a, true) 0 _ hd hl e3) rfl (by repeat' first | exact trivial | rfl | exact leafI (by first | rfl | omega | (simp (disch := omega) only [Int.reduceToNat, IntKind.bits, Nat.min_eq_left, Int.reducePow, IntWalk.i64_in, IntWalk.rem_in, IntWalk.i64_quo, IntWalk.u8_in, IntWalk.u32_in, IntWalk.u64_in]; done) | (simp (disch := omega) only [Int.reduceToNat, IntKind.bits, Nat.min_eq_left, Int.reducePow, IntWalk.i64_in, IntWalk.rem_in, IntWalk.i64_quo, IntWalk.u8_in, IntWalk.u32_in, IntWalk.u64_in]; omega)) | refine And.intro ?_ ?_) rfl ?_
      conv => whnf
      repeat' first
        | (refine CondP.yes ?_; conv => whnf)
        | (refine CondP.not ?_; conv => whnf)
        | ((first | refine CondP.dec (fun h => ?_) (fun h => ?_) | refine CondP.ndec (fun h => ?_) (fun h => ?_)) <;> first | (exfalso; first | omega | exact h (by assumption) | exact absurd h (by assumption)) | (conv => whnf))
        | (refine Both.mk ?_ ?_ <;> (conv => whnf))
        | (refine Keep.mk (by repeat' first | exact trivial | rfl | refine And.intro ?_ ?_) ?_; conv => whnf)
        | (refine And.intro (by first | decide | omega) ?_; conv => whnf)
        | fail
      clear hW hB rest
      generalize varF d (a, true) = cs at *
      obtain ⟨q, s4⟩ := cs
      dsimp only at c1 ⊢
      obtain ⟨q, rfl⟩ := Int.eq_ofNat_of_zero_le c1.1
      rw [Int.toNat_natCast]
      have hL2 := whF_len (f := outS d) q s4
      generalize hW2 : whF (outS d) q s4 = W at *
      obtain ⟨L, S⟩ := W
      dsimp only at hL2 ⊢
      refine LoopP.go (fun y : List OutD × Nat × RS => y.1 ++ (whF (outS d) y.2.1 y.2.2).1 = L ∧ (whF (outS d) y.2.1 y.2.2).2 = S ∧ y.2.2.1 ≤ d.length ∧ y.1.length + y.2.1 ≤ 65535)
        (fun y => ⟨[(0, .pt 0 0 0), (2, .pt 1 0 0), (3, .pt 2 0 0), (6, iv y.2.1)], [(0, rdO d y.2.2), (1, .box [iv 0, nl, nl]), (2, .box [iv note, .own 3 l.length, .own 4 y.1.length]), (3, .list 125 3 (l.map inRow)), (4, .list 127 2 (y.1.map outRow))], 5⟩) (fun y => y.2.1) ([], q, s4) ⟨by show [] ++ (whF (outS d) q s4).1 = L; rw [hW2]; rfl, by show (whF (outS d) q s4).2 = S; rw [hW2], c1.2.2.2.1, by show 0 + q ≤ 65535; omega⟩ ?_ ?_
      · exact (Weak.of rfl rfl (by repeat' first | exact trivial | rfl | exact leafI (by first | rfl | omega | (simp (disch := omega) only [Int.reduceToNat, IntKind.bits, Nat.min_eq_left, Int.reducePow, IntWalk.i64_in, IntWalk.rem_in, IntWalk.i64_quo, IntWalk.u8_in, IntWalk.u32_in, IntWalk.u64_in]; done) | (simp (disch := omega) only [Int.reduceToNat, IntKind.bits, Nat.min_eq_left, Int.reducePow, IntWalk.i64_in, IntWalk.rem_in, IntWalk.i64_quo, IntWalk.u8_in, IntWalk.u32_in, IntWalk.u64_in]; omega)) | refine And.intro ?_ ?_) (by repeat' first | exact trivial | rfl | exact leafI (by first | rfl | omega | (simp (disch := omega) only [Int.reduceToNat, IntKind.bits, Nat.min_eq_left, Int.reducePow, IntWalk.i64_in, IntWalk.rem_in, IntWalk.i64_quo, IntWalk.u8_in, IntWalk.u32_in, IntWalk.u64_in]; done) | (simp (disch := omega) only [Int.reduceToNat, IntKind.bits, Nat.min_eq_left, Int.reducePow, IntWalk.i64_in, IntWalk.rem_in, IntWalk.i64_quo, IntWalk.u8_in, IntWalk.u32_in, IntWalk.u64_in]; omega)) | refine And.intro ?_ ?_))
      rintro ⟨m, q, p, b⟩ ⟨f1, f2, f3, f4⟩
      dsimp only at f1 f2 f3 f4 ⊢
      cases b with
      | true =>
        rw [whF_stop (by rfl)] at f1 f2
        simp only [List.append_nil] at f1
        subst f1 f2
        conv => whnf
        repeat' first
          | (refine CondP.yes ?_; conv => whnf)
          | (refine CondP.not ?_; conv => whnf)
          | ((first | refine CondP.dec (fun h => ?_) (fun h => ?_) | refine CondP.ndec (fun h => ?_) (fun h => ?_)) <;> first | (exfalso; first | omega | exact h (by assumption) | exact absurd h (by assumption)) | (conv => whnf))
          | (refine Both.mk ?_ ?_ <;> (conv => whnf))
          | (refine Keep.mk (by repeat' first | exact trivial | rfl | refine And.intro ?_ ?_) ?_; conv => whnf)
          | (refine And.intro (by first | decide | omega) ?_; conv => whnf)
          | fail
        all_goals exact FinOk.mk' [3, 4] rfl rfl rfl rfl rfl rfl rfl ⟨rfl, rfl, rfl⟩
      | false =>
        conv => whnf
        repeat' first
          | (refine CondP.yes ?_; conv => whnf)
          | (refine CondP.not ?_; conv => whnf)
          | ((first | refine CondP.dec (fun h => ?_) (fun h => ?_) | refine CondP.ndec (fun h => ?_) (fun h => ?_)) <;> first | (exfalso; first | omega | exact h (by assumption) | exact absurd h (by assumption)) | (conv => whnf))
          | (refine Both.mk ?_ ?_ <;> (conv => whnf))
          | (refine Keep.mk (by repeat' first | exact trivial | rfl | refine And.intro ?_ ?_) ?_; conv => whnf)
          | (refine And.intro (by first | decide | omega) ?_; conv => whnf)
          | fail
        · obtain ⟨q, rfl⟩ : ∃ y, q = y + 1 := ⟨q - 1, by omega⟩
          rw [whF_next (by rfl)] at f1 f2
          have b1 := bigS_bd hd (p, false) f3
          have b3 := outS_bd hd (p, false) f3
          refine CallP.heapIs (l3ReadBig_ret d (p, false) 0 _ hd hl f3) rfl (by repeat' first | exact trivial | rfl | exact leafI (by first | rfl | omega | (simp (disch := omega) only [Int.reduceToNat, IntKind.bits, Nat.min_eq_left, Int.reducePow, IntWalk.i64_in, IntWalk.rem_in, IntWalk.i64_quo, IntWalk.u8_in, IntWalk.u32_in, IntWalk.u64_in]; done) | (simp (disch := omega) only [Int.reduceToNat, IntKind.bits, Nat.min_eq_left, Int.reducePow, IntWalk.i64_in, IntWalk.rem_in, IntWalk.i64_quo, IntWalk.u8_in, IntWalk.u32_in, IntWalk.u64_in]; omega)) | refine And.intro ?_ ?_) rfl ?_
          conv => whnf
          repeat' first
            | (refine CondP.yes ?_; conv => whnf)
            | (refine CondP.not ?_; conv => whnf)
            | ((first | refine CondP.dec (fun h => ?_) (fun h => ?_) | refine CondP.ndec (fun h => ?_) (fun h => ?_)) <;> first | (exfalso; first | omega | exact h (by assumption) | exact absurd h (by assumption)) | (conv => whnf))
            | (refine Both.mk ?_ ?_ <;> (conv => whnf))
            | (refine Keep.mk (by repeat' first | exact trivial | rfl | refine And.intro ?_ ?_) ?_; conv => whnf)
            | (refine And.intro (by first | decide | omega) ?_; conv => whnf)
            | fail
          refine CallP.heapIs (l3ReadList_fr d _ 0 _ hd hl b1) rfl (by repeat' first | exact trivial | rfl | exact leafI (by first | rfl | omega | (simp (disch := omega) only [Int.reduceToNat, IntKind.bits, Nat.min_eq_left, Int.reducePow, IntWalk.i64_in, IntWalk.rem_in, IntWalk.i64_quo, IntWalk.u8_in, IntWalk.u32_in, IntWalk.u64_in]; done) | (simp (disch := omega) only [Int.reduceToNat, IntKind.bits, Nat.min_eq_left, Int.reducePow, IntWalk.i64_in, IntWalk.rem_in, IntWalk.i64_quo, IntWalk.u8_in, IntWalk.u32_in, IntWalk.u64_in]; omega)) | refine And.intro ?_ ?_) rfl ?_
          conv => whnf
          repeat' first
            | (refine CondP.yes ?_; conv => whnf)
            | (refine CondP.not ?_; conv => whnf)
            | ((first | refine CondP.dec (fun h => ?_) (fun h => ?_) | refine CondP.ndec (fun h => ?_) (fun h => ?_)) <;> first | (exfalso; first | omega | exact h (by assumption) | exact absurd h (by assumption)) | (conv => whnf))
            | (refine Both.mk ?_ ?_ <;> (conv => whnf))
            | (refine Keep.mk (by repeat' first | exact trivial | rfl | refine And.intro ?_ ?_) ?_; conv => whnf)
            | (refine And.intro (by first | decide | omega) ?_; conv => whnf)
            | fail
          refine ⟨⟨by (first | exact True.intro | omega | (simp only [List.length_map, List.length_take, List.length_drop, List.length_append, List.length_set, List.length_replicate, List.length_cons, List.length_nil, four_len, fours_len, maxLen] at *; omega)), by (first | exact True.intro | omega | (simp only [List.length_map, List.length_take, List.length_drop, List.length_append, List.length_set, List.length_replicate, List.length_cons, List.length_nil, four_len, fours_len, maxLen] at *; omega)), by (first | exact True.intro | omega | (simp only [List.length_map, List.length_take, List.length_drop, List.length_append, List.length_set, List.length_replicate, List.length_cons, List.length_nil, four_len, fours_len, maxLen] at *; omega)), by (first | exact True.intro | omega | (simp only [List.length_map, List.length_take, List.length_drop, List.length_append, List.length_set, List.length_replicate, List.length_cons, List.length_nil, four_len, fours_len, maxLen] at *; omega)), by (first | (intro r hr; first | exact row1 hr | exact row1 (List.mem_of_mem_take hr)) | (refine rowsB_ok ?_; rfl))⟩, ?_⟩
          conv => whnf
          repeat' first
            | (refine CondP.yes ?_; conv => whnf)
            | (refine CondP.not ?_; conv => whnf)
            | ((first | refine CondP.dec (fun h => ?_) (fun h => ?_) | refine CondP.ndec (fun h => ?_) (fun h => ?_)) <;> first | (exfalso; first | omega | exact h (by assumption) | exact absurd h (by assumption)) | (conv => whnf))
            | (refine Both.mk ?_ ?_ <;> (conv => whnf))
            | (refine Keep.mk (by repeat' first | exact trivial | rfl | refine And.intro ?_ ?_) ?_; conv => whnf)
            | (refine And.intro (by first | decide | omega) ?_; conv => whnf)
            | fail
          refine ⟨(m ++ [(outS d (p, false)).1], q, (outS d (p, false)).2), ⟨by rw [← f1]; simp, f2, b3, by simp; omega⟩, by show q < q + 1; omega, Weak.of rfl rfl ⟨⟨rfl, rfl⟩, ⟨rfl, rfl⟩, ⟨rfl, rfl⟩, ⟨leafI (by rw [IntWalk.i64_in _ (by omega)]; show _ = ((q : Nat) : Int); omega), rfl⟩, trivial⟩ ⟨⟨rfl, rfl, rfl⟩, ⟨rfl, rfl, rfl⟩, ⟨?_, rfl, rfl⟩, ⟨rfl, rfl, rfl⟩, ⟨leafO ?_, rfl, rfl⟩, trivial⟩⟩
          · show some (AObj.box [iv note, .own 3 l.length, .own 4 (m.length + 1)]) = some (AObj.box [iv note, .own 3 l.length, .own 4 (m ++ [(outS d (p, false)).1]).length])
            simp
          · rw [List.take_of_length_le (by simp)]
            show _ = (m ++ [(outS d (p, false)).1]).map outRow
            rw [List.map_append]; rfl
        · obtain rfl : q = 0 := by omega
          simp only [whF, List.append_nil] at f1 f2
          subst f1 f2
          refine CallP.convAIs (l3Fault_rp (note, l, m) _ (show l.length ≤ 1048576 by omega) (show m.length ≤ 1048576 by omega)) (by repeat' first | exact trivial | exact cvSame rfl | exact cvNil | exact cvOwn rfl (by (first | rfl | (simp only [List.length_map]; done) | (simp only [List.length_map]; first | rfl | assumption | omega))) | exact cvcSame rfl | exact cvcNil | exact cvcOwn rfl (by (first | rfl | (simp only [List.length_map]; done) | (simp only [List.length_map]; first | rfl | assumption | omega))) | refine cvBox rfl ?_ rfl | refine cvAgg ?_ | refine And.intro ?_ ?_) rfl (by first | exact trivial | exact ⟨flat_ivs _, trivial⟩) ?_
          conv => whnf
          repeat' first
            | (refine CondP.yes ?_; conv => whnf)
            | (refine CondP.not ?_; conv => whnf)
            | ((first | refine CondP.dec (fun h => ?_) (fun h => ?_) | refine CondP.ndec (fun h => ?_) (fun h => ?_)) <;> first | (exfalso; first | omega | exact h (by assumption) | exact absurd h (by assumption)) | (conv => whnf))
            | (refine Both.mk ?_ ?_ <;> (conv => whnf))
            | (refine Keep.mk (by repeat' first | exact trivial | rfl | refine And.intro ?_ ?_) ?_; conv => whnf)
            | (refine And.intro (by first | decide | omega) ?_; conv => whnf)
            | fail
          exact FinOk.mk' [3, 4] rfl rfl rfl rfl rfl rfl rfl ⟨rfl, rfl, rfl⟩
  | false =>
    conv => whnf
    repeat' first
      | (refine CondP.yes ?_; conv => whnf)
      | (refine CondP.not ?_; conv => whnf)
      | ((first | refine CondP.dec (fun h => ?_) (fun h => ?_) | refine CondP.ndec (fun h => ?_) (fun h => ?_)) <;> first | (exfalso; first | omega | exact h (by assumption) | exact absurd h (by assumption)) | (conv => whnf))
      | (refine Both.mk ?_ ?_ <;> (conv => whnf))
      | (refine Keep.mk (by repeat' first | exact trivial | rfl | refine And.intro ?_ ?_) ?_; conv => whnf)
      | (refine And.intro (by first | decide | omega) ?_; conv => whnf)
      | fail
    · obtain ⟨k, rfl⟩ : ∃ q, k = q + 1 := ⟨k - 1, by omega⟩
      rw [whF_next (by rfl)] at e1 e2
      have b1 := bigS_bd hd (a, false) e3
      have b2 := varF_bd hd _ b1
      have b3 := inS_bd hd (a, false) e3
      refine CallP.heapIs (l3ReadBig_ret d (a, false) 0 _ hd hl e3) rfl (by repeat' first | exact trivial | rfl | exact leafI (by first | rfl | omega | (simp (disch := omega) only [Int.reduceToNat, IntKind.bits, Nat.min_eq_left, Int.reducePow, IntWalk.i64_in, IntWalk.rem_in, IntWalk.i64_quo, IntWalk.u8_in, IntWalk.u32_in, IntWalk.u64_in]; done) | (simp (disch := omega) only [Int.reduceToNat, IntKind.bits, Nat.min_eq_left, Int.reducePow, IntWalk.i64_in, IntWalk.rem_in, IntWalk.i64_quo, IntWalk.u8_in, IntWalk.u32_in, IntWalk.u64_in]; omega)) | refine And.intro ?_ ?_) rfl ?_
      conv => whnf
      repeat' first
        | (refine CondP.yes ?_; conv => whnf)
        | (refine CondP.not ?_; conv => whnf)
        | ((first | refine CondP.dec (fun h => ?_) (fun h => ?_) | refine CondP.ndec (fun h => ?_) (fun h => ?_)) <;> first | (exfalso; first | omega | exact h (by assumption) | exact absurd h (by assumption)) | (conv => whnf))
        | (refine Both.mk ?_ ?_ <;> (conv => whnf))
        | (refine Keep.mk (by repeat' first | exact trivial | rfl | refine And.intro ?_ ?_) ?_; conv => whnf)
        | (refine And.intro (by first | decide | omega) ?_; conv => whnf)
        | fail
      refine CallP.heapIs (l3Var_ret d _ 0 _ hd hl b1) rfl (by repeat' first | exact trivial | rfl | exact leafI (by first | rfl | omega | (simp (disch := omega) only [Int.reduceToNat, IntKind.bits, Nat.min_eq_left, Int.reducePow, IntWalk.i64_in, IntWalk.rem_in, IntWalk.i64_quo, IntWalk.u8_in, IntWalk.u32_in, IntWalk.u64_in]; done) | (simp (disch := omega) only [Int.reduceToNat, IntKind.bits, Nat.min_eq_left, Int.reducePow, IntWalk.i64_in, IntWalk.rem_in, IntWalk.i64_quo, IntWalk.u8_in, IntWalk.u32_in, IntWalk.u64_in]; omega)) | refine And.intro ?_ ?_) rfl ?_
      conv => whnf
      repeat' first
        | (refine CondP.yes ?_; conv => whnf)
        | (refine CondP.not ?_; conv => whnf)
        | ((first | refine CondP.dec (fun h => ?_) (fun h => ?_) | refine CondP.ndec (fun h => ?_) (fun h => ?_)) <;> first | (exfalso; first | omega | exact h (by assumption) | exact absurd h (by assumption)) | (conv => whnf))
        | (refine Both.mk ?_ ?_ <;> (conv => whnf))
        | (refine Keep.mk (by repeat' first | exact trivial | rfl | refine And.intro ?_ ?_) ?_; conv => whnf)
        | (refine And.intro (by first | decide | omega) ?_; conv => whnf)
        | fail
      refine CallP.heapIs (l3ReadList_fr d _ 0 _ hd hl b2.2.2.2.1) rfl (by repeat' first | exact trivial | rfl | exact leafI (by first | rfl | omega | (simp (disch := omega) only [Int.reduceToNat, IntKind.bits, Nat.min_eq_left, Int.reducePow, IntWalk.i64_in, IntWalk.rem_in, IntWalk.i64_quo, IntWalk.u8_in, IntWalk.u32_in, IntWalk.u64_in]; done) | (simp (disch := omega) only [Int.reduceToNat, IntKind.bits, Nat.min_eq_left, Int.reducePow, IntWalk.i64_in, IntWalk.rem_in, IntWalk.i64_quo, IntWalk.u8_in, IntWalk.u32_in, IntWalk.u64_in]; omega)) | refine And.intro ?_ ?_) rfl ?_
      conv => whnf
      repeat' first
        | (refine CondP.yes ?_; conv => whnf)
        | (refine CondP.not ?_; conv => whnf)
        | ((first | refine CondP.dec (fun h => ?_) (fun h => ?_) | refine CondP.ndec (fun h => ?_) (fun h => ?_)) <;> first | (exfalso; first | omega | exact h (by assumption) | exact absurd h (by assumption)) | (conv => whnf))
        | (refine Both.mk ?_ ?_ <;> (conv => whnf))
        | (refine Keep.mk (by repeat' first | exact trivial | rfl | refine And.intro ?_ ?_) ?_; conv => whnf)
        | (refine And.intro (by first | decide | omega) ?_; conv => whnf)
        | fail
      refine ⟨⟨by (first | exact True.intro | omega | (simp only [List.length_map, List.length_take, List.length_drop, List.length_append, List.length_set, List.length_replicate, List.length_cons, List.length_nil, four_len, fours_len, maxLen] at *; omega)), by (first | exact True.intro | omega | (simp only [List.length_map, List.length_take, List.length_drop, List.length_append, List.length_set, List.length_replicate, List.length_cons, List.length_nil, four_len, fours_len, maxLen] at *; omega)), by (first | exact True.intro | omega | (simp only [List.length_map, List.length_take, List.length_drop, List.length_append, List.length_set, List.length_replicate, List.length_cons, List.length_nil, four_len, fours_len, maxLen] at *; omega)), by (first | exact True.intro | omega | (simp only [List.length_map, List.length_take, List.length_drop, List.length_append, List.length_set, List.length_replicate, List.length_cons, List.length_nil, four_len, fours_len, maxLen] at *; omega)), by (first | (intro r hr; first | exact row1 hr | exact row1 (List.mem_of_mem_take hr)) | (refine rowsB_ok ?_; rfl))⟩, ?_⟩
      conv => whnf
      repeat' first
        | (refine CondP.yes ?_; conv => whnf)
        | (refine CondP.not ?_; conv => whnf)
        | ((first | refine CondP.dec (fun h => ?_) (fun h => ?_) | refine CondP.ndec (fun h => ?_) (fun h => ?_)) <;> first | (exfalso; first | omega | exact h (by assumption) | exact absurd h (by assumption)) | (conv => whnf))
        | (refine Both.mk ?_ ?_ <;> (conv => whnf))
        | (refine Keep.mk (by repeat' first | exact trivial | rfl | refine And.intro ?_ ?_) ?_; conv => whnf)
        | (refine And.intro (by first | decide | omega) ?_; conv => whnf)
        | fail
      refine ⟨(l ++ [(inS d (a, false)).1], k, (inS d (a, false)).2), ⟨by rw [← e1]; simp, e2, b3, by simp; omega⟩, by show k < k + 1; omega, Weak.of rfl rfl ⟨⟨rfl, rfl⟩, ⟨rfl, rfl⟩, ⟨rfl, rfl⟩, ⟨leafI (by rw [IntWalk.i64_in _ (by omega)]; show _ = ((k : Nat) : Int); omega), rfl⟩, trivial⟩ ⟨⟨rfl, rfl, rfl⟩, ⟨rfl, rfl, rfl⟩, ⟨?_, rfl, rfl⟩, ⟨leafO ?_, rfl, rfl⟩, ⟨rfl, rfl, rfl⟩, trivial⟩⟩
      · show some (AObj.box [iv note, .own 3 (l.length + 1), .own 4 0]) = some (AObj.box [iv note, .own 3 (l ++ [(inS d (a, false)).1]).length, .own 4 0])
        simp
      · rw [List.take_of_length_le (by simp)]
        show _ = (l ++ [(inS d (a, false)).1]).map inRow
        rw [List.map_append]; rfl
    · obtain rfl : k = 0 := by omega
      simp only [whF, List.append_nil] at e1 e2
      subst e1 e2
      try dsimp only
      have c1 := varF_bd hd (a, false) e3
      refine CallP.heapIs (l3Var_ret d (a, false) 0 _ hd hl e3) rfl (by repeat' first | exact trivial | rfl | exact leafI (by first | rfl | omega | (simp (disch := omega) only [Int.reduceToNat, IntKind.bits, Nat.min_eq_left, Int.reducePow, IntWalk.i64_in, IntWalk.rem_in, IntWalk.i64_quo, IntWalk.u8_in, IntWalk.u32_in, IntWalk.u64_in]; done) | (simp (disch := omega) only [Int.reduceToNat, IntKind.bits, Nat.min_eq_left, Int.reducePow, IntWalk.i64_in, IntWalk.rem_in, IntWalk.i64_quo, IntWalk.u8_in, IntWalk.u32_in, IntWalk.u64_in]; omega)) | refine And.intro ?_ ?_) rfl ?_
      conv => whnf
      repeat' first
        | (refine CondP.yes ?_; conv => whnf)
        | (refine CondP.not ?_; conv => whnf)
        | ((first | refine CondP.dec (fun h => ?_) (fun h => ?_) | refine CondP.ndec (fun h => ?_) (fun h => ?_)) <;> first | (exfalso; first | omega | exact h (by assumption) | exact absurd h (by assumption)) | (conv => whnf))
        | (refine Both.mk ?_ ?_ <;> (conv => whnf))
        | (refine Keep.mk (by repeat' first | exact trivial | rfl | refine And.intro ?_ ?_) ?_; conv => whnf)
        | (refine And.intro (by first | decide | omega) ?_; conv => whnf)
        | fail
      clear hW hB rest
      generalize varF d (a, false) = cs at *
      obtain ⟨q, s4⟩ := cs
      dsimp only at c1 ⊢
      obtain ⟨q, rfl⟩ := Int.eq_ofNat_of_zero_le c1.1
      rw [Int.toNat_natCast]
      have hL2 := whF_len (f := outS d) q s4
      generalize hW2 : whF (outS d) q s4 = W at *
      obtain ⟨L, S⟩ := W
      dsimp only at hL2 ⊢
      refine LoopP.go (fun y : List OutD × Nat × RS => y.1 ++ (whF (outS d) y.2.1 y.2.2).1 = L ∧ (whF (outS d) y.2.1 y.2.2).2 = S ∧ y.2.2.1 ≤ d.length ∧ y.1.length + y.2.1 ≤ 65535)
        (fun y => ⟨[(0, .pt 0 0 0), (2, .pt 1 0 0), (3, .pt 2 0 0), (6, iv y.2.1)], [(0, rdO d y.2.2), (1, .box [iv 0, nl, nl]), (2, .box [iv note, .own 3 l.length, .own 4 y.1.length]), (3, .list 125 3 (l.map inRow)), (4, .list 127 2 (y.1.map outRow))], 5⟩) (fun y => y.2.1) ([], q, s4) ⟨by show [] ++ (whF (outS d) q s4).1 = L; rw [hW2]; rfl, by show (whF (outS d) q s4).2 = S; rw [hW2], c1.2.2.2.1, by show 0 + q ≤ 65535; omega⟩ ?_ ?_
      · exact (Weak.of rfl rfl (by repeat' first | exact trivial | rfl | exact leafI (by first | rfl | omega | (simp (disch := omega) only [Int.reduceToNat, IntKind.bits, Nat.min_eq_left, Int.reducePow, IntWalk.i64_in, IntWalk.rem_in, IntWalk.i64_quo, IntWalk.u8_in, IntWalk.u32_in, IntWalk.u64_in]; done) | (simp (disch := omega) only [Int.reduceToNat, IntKind.bits, Nat.min_eq_left, Int.reducePow, IntWalk.i64_in, IntWalk.rem_in, IntWalk.i64_quo, IntWalk.u8_in, IntWalk.u32_in, IntWalk.u64_in]; omega)) | refine And.intro ?_ ?_) (by repeat' first | exact trivial | rfl | exact leafI (by first | rfl | omega | (simp (disch := omega) only [Int.reduceToNat, IntKind.bits, Nat.min_eq_left, Int.reducePow, IntWalk.i64_in, IntWalk.rem_in, IntWalk.i64_quo, IntWalk.u8_in, IntWalk.u32_in, IntWalk.u64_in]; done) | (simp (disch := omega) only [Int.reduceToNat, IntKind.bits, Nat.min_eq_left, Int.reducePow, IntWalk.i64_in, IntWalk.rem_in, IntWalk.i64_quo, IntWalk.u8_in, IntWalk.u32_in, IntWalk.u64_in]; omega)) | refine And.intro ?_ ?_))
      rintro ⟨m, q, p, b⟩ ⟨f1, f2, f3, f4⟩
      dsimp only at f1 f2 f3 f4 ⊢
      cases b with
      | true =>
        rw [whF_stop (by rfl)] at f1 f2
        simp only [List.append_nil] at f1
        subst f1 f2
        conv => whnf
        repeat' first
          | (refine CondP.yes ?_; conv => whnf)
          | (refine CondP.not ?_; conv => whnf)
          | ((first | refine CondP.dec (fun h => ?_) (fun h => ?_) | refine CondP.ndec (fun h => ?_) (fun h => ?_)) <;> first | (exfalso; first | omega | exact h (by assumption) | exact absurd h (by assumption)) | (conv => whnf))
          | (refine Both.mk ?_ ?_ <;> (conv => whnf))
          | (refine Keep.mk (by repeat' first | exact trivial | rfl | refine And.intro ?_ ?_) ?_; conv => whnf)
          | (refine And.intro (by first | decide | omega) ?_; conv => whnf)
          | fail
        all_goals exact FinOk.mk' [3, 4] rfl rfl rfl rfl rfl rfl rfl ⟨rfl, rfl, rfl⟩
      | false =>
        conv => whnf
        repeat' first
          | (refine CondP.yes ?_; conv => whnf)
          | (refine CondP.not ?_; conv => whnf)
          | ((first | refine CondP.dec (fun h => ?_) (fun h => ?_) | refine CondP.ndec (fun h => ?_) (fun h => ?_)) <;> first | (exfalso; first | omega | exact h (by assumption) | exact absurd h (by assumption)) | (conv => whnf))
          | (refine Both.mk ?_ ?_ <;> (conv => whnf))
          | (refine Keep.mk (by repeat' first | exact trivial | rfl | refine And.intro ?_ ?_) ?_; conv => whnf)
          | (refine And.intro (by first | decide | omega) ?_; conv => whnf)
          | fail
        · obtain ⟨q, rfl⟩ : ∃ y, q = y + 1 := ⟨q - 1, by omega⟩
          rw [whF_next (by rfl)] at f1 f2
          have b1 := bigS_bd hd (p, false) f3
          have b3 := outS_bd hd (p, false) f3
          refine CallP.heapIs (l3ReadBig_ret d (p, false) 0 _ hd hl f3) rfl (by repeat' first | exact trivial | rfl | exact leafI (by first | rfl | omega | (simp (disch := omega) only [Int.reduceToNat, IntKind.bits, Nat.min_eq_left, Int.reducePow, IntWalk.i64_in, IntWalk.rem_in, IntWalk.i64_quo, IntWalk.u8_in, IntWalk.u32_in, IntWalk.u64_in]; done) | (simp (disch := omega) only [Int.reduceToNat, IntKind.bits, Nat.min_eq_left, Int.reducePow, IntWalk.i64_in, IntWalk.rem_in, IntWalk.i64_quo, IntWalk.u8_in, IntWalk.u32_in, IntWalk.u64_in]; omega)) | refine And.intro ?_ ?_) rfl ?_
          conv => whnf
          repeat' first
            | (refine CondP.yes ?_; conv => whnf)
            | (refine CondP.not ?_; conv => whnf)
            | ((first | refine CondP.dec (fun h => ?_) (fun h => ?_) | refine CondP.ndec (fun h => ?_) (fun h => ?_)) <;> first | (exfalso; first | omega | exact h (by assumption) | exact absurd h (by assumption)) | (conv => whnf))
            | (refine Both.mk ?_ ?_ <;> (conv => whnf))
            | (refine Keep.mk (by repeat' first | exact trivial | rfl | refine And.intro ?_ ?_) ?_; conv => whnf)
            | (refine And.intro (by first | decide | omega) ?_; conv => whnf)
            | fail
          refine CallP.heapIs (l3ReadList_fr d _ 0 _ hd hl b1) rfl (by repeat' first | exact trivial | rfl | exact leafI (by first | rfl | omega | (simp (disch := omega) only [Int.reduceToNat, IntKind.bits, Nat.min_eq_left, Int.reducePow, IntWalk.i64_in, IntWalk.rem_in, IntWalk.i64_quo, IntWalk.u8_in, IntWalk.u32_in, IntWalk.u64_in]; done) | (simp (disch := omega) only [Int.reduceToNat, IntKind.bits, Nat.min_eq_left, Int.reducePow, IntWalk.i64_in, IntWalk.rem_in, IntWalk.i64_quo, IntWalk.u8_in, IntWalk.u32_in, IntWalk.u64_in]; omega)) | refine And.intro ?_ ?_) rfl ?_
          conv => whnf
          repeat' first
            | (refine CondP.yes ?_; conv => whnf)
            | (refine CondP.not ?_; conv => whnf)
            | ((first | refine CondP.dec (fun h => ?_) (fun h => ?_) | refine CondP.ndec (fun h => ?_) (fun h => ?_)) <;> first | (exfalso; first | omega | exact h (by assumption) | exact absurd h (by assumption)) | (conv => whnf))
            | (refine Both.mk ?_ ?_ <;> (conv => whnf))
            | (refine Keep.mk (by repeat' first | exact trivial | rfl | refine And.intro ?_ ?_) ?_; conv => whnf)
            | (refine And.intro (by first | decide | omega) ?_; conv => whnf)
            | fail
          refine ⟨⟨by (first | exact True.intro | omega | (simp only [List.length_map, List.length_take, List.length_drop, List.length_append, List.length_set, List.length_replicate, List.length_cons, List.length_nil, four_len, fours_len, maxLen] at *; omega)), by (first | exact True.intro | omega | (simp only [List.length_map, List.length_take, List.length_drop, List.length_append, List.length_set, List.length_replicate, List.length_cons, List.length_nil, four_len, fours_len, maxLen] at *; omega)), by (first | exact True.intro | omega | (simp only [List.length_map, List.length_take, List.length_drop, List.length_append, List.length_set, List.length_replicate, List.length_cons, List.length_nil, four_len, fours_len, maxLen] at *; omega)), by (first | exact True.intro | omega | (simp only [List.length_map, List.length_take, List.length_drop, List.length_append, List.length_set, List.length_replicate, List.length_cons, List.length_nil, four_len, fours_len, maxLen] at *; omega)), by (first | (intro r hr; first | exact row1 hr | exact row1 (List.mem_of_mem_take hr)) | (refine rowsB_ok ?_; rfl))⟩, ?_⟩
          conv => whnf
          repeat' first
            | (refine CondP.yes ?_; conv => whnf)
            | (refine CondP.not ?_; conv => whnf)
            | ((first | refine CondP.dec (fun h => ?_) (fun h => ?_) | refine CondP.ndec (fun h => ?_) (fun h => ?_)) <;> first | (exfalso; first | omega | exact h (by assumption) | exact absurd h (by assumption)) | (conv => whnf))
            | (refine Both.mk ?_ ?_ <;> (conv => whnf))
            | (refine Keep.mk (by repeat' first | exact trivial | rfl | refine And.intro ?_ ?_) ?_; conv => whnf)
            | (refine And.intro (by first | decide | omega) ?_; conv => whnf)
            | fail
          refine ⟨(m ++ [(outS d (p, false)).1], q, (outS d (p, false)).2), ⟨by rw [← f1]; simp, f2, b3, by simp; omega⟩, by show q < q + 1; omega, Weak.of rfl rfl ⟨⟨rfl, rfl⟩, ⟨rfl, rfl⟩, ⟨rfl, rfl⟩, ⟨leafI (by rw [IntWalk.i64_in _ (by omega)]; show _ = ((q : Nat) : Int); omega), rfl⟩, trivial⟩ ⟨⟨rfl, rfl, rfl⟩, ⟨rfl, rfl, rfl⟩, ⟨?_, rfl, rfl⟩, ⟨rfl, rfl, rfl⟩, ⟨leafO ?_, rfl, rfl⟩, trivial⟩⟩
          · show some (AObj.box [iv note, .own 3 l.length, .own 4 (m.length + 1)]) = some (AObj.box [iv note, .own 3 l.length, .own 4 (m ++ [(outS d (p, false)).1]).length])
            simp
          · rw [List.take_of_length_le (by simp)]
            show _ = (m ++ [(outS d (p, false)).1]).map outRow
            rw [List.map_append]; rfl
        · obtain rfl : q = 0 := by omega
          simp only [whF, List.append_nil] at f1 f2
          subst f1 f2
          refine CallP.convAIs (l3Fault_rp (note, l, m) _ (show l.length ≤ 1048576 by omega) (show m.length ≤ 1048576 by omega)) (by repeat' first | exact trivial | exact cvSame rfl | exact cvNil | exact cvOwn rfl (by (first | rfl | (simp only [List.length_map]; done) | (simp only [List.length_map]; first | rfl | assumption | omega))) | exact cvcSame rfl | exact cvcNil | exact cvcOwn rfl (by (first | rfl | (simp only [List.length_map]; done) | (simp only [List.length_map]; first | rfl | assumption | omega))) | refine cvBox rfl ?_ rfl | refine cvAgg ?_ | refine And.intro ?_ ?_) rfl (by first | exact trivial | exact ⟨flat_ivs _, trivial⟩) ?_
          conv => whnf
          repeat' first
            | (refine CondP.yes ?_; conv => whnf)
            | (refine CondP.not ?_; conv => whnf)
            | ((first | refine CondP.dec (fun h => ?_) (fun h => ?_) | refine CondP.ndec (fun h => ?_) (fun h => ?_)) <;> first | (exfalso; first | omega | exact h (by assumption) | exact absurd h (by assumption)) | (conv => whnf))
            | (refine Both.mk ?_ ?_ <;> (conv => whnf))
            | (refine Keep.mk (by repeat' first | exact trivial | rfl | refine And.intro ?_ ?_) ?_; conv => whnf)
            | (refine And.intro (by first | decide | omega) ?_; conv => whnf)
            | fail
          exact FinOk.mk' [3, 4] rfl rfl rfl rfl rfl rfl rfl ⟨rfl, rfl, rfl⟩
end Go.Proofs.Ytdafmioegaelgaa
