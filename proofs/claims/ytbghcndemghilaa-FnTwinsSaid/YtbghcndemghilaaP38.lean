/-
  CHAPTER 4: the draws, by the reading.
-/
import Derived.Test.YtbghcndemghilaaPick
import Derived.Test.YtbghcndemghilaaAmG
namespace Go.Proofs.Ytbghcndemghilaa
open Go Go.Am Go.RowKit
set_option linter.unusedVariables false
set_option linter.unusedSimpArgs false
theorem leafBx1 {c : List Int} {x y : Int} (h : x = y) : some (AObj.box [ul c, iv x]) = some (AObj.box [ul c, iv y]) := by rw [h]
abbrev inD (z : Int) : Prop := -1 ≤ z ∧ z ≤ 2147483647
def Draw4 (i n : Nat) (c : List Int) (at_ : Int) : AV → Hp → Nat → Prop := fun r ho k => ∃ (l : List Int) (a : Int), r = .own n l.length ∧ ho = [(i, .box [ul c, iv a]), (n, .list 2 1 (ivs l))] ∧ k = n + 1 ∧ l.length ≤ 9 ∧ at_ ≤ a ∧ a ≤ at_ + 30 ∧ ∀ z ∈ l, inD z
theorem l4Draw_ret (c : List Int) (at_ : Int) (i n : Nat) (hc : ∀ z ∈ c, isU8 z) (hl : c.length ≤ 1048576) (ha : 0 ≤ at_) (ha2 : at_ ≤ 100) :
    Ret Try.prog 84 [.pt i 0 0] [(i, .box [ul c, iv at_])] n true (Draw4 i n c at_) := by
  refine Ret.of_run (tt := tt) ttOk Try.func84 rfl Try.call84 [i] [.box [ul c, iv at_]] [.pt 0 0 0] true n _ rfl (nodup1 i) (by exact Nat.le_of_ble_eq_true rfl) rfl rfl ?_
  have hb := nextF_bd c at_ 8 (by decide)
  conv => whnf
  repeat' first
    | (refine CondP.yes ?_; conv => whnf)
    | (refine CondP.not ?_; conv => whnf)
    | ((first | refine CondP.dec (fun h => ?_) (fun h => ?_) | refine CondP.ndec (fun h => ?_) (fun h => ?_)) <;> first | (exfalso; first | omega | exact h (by assumption) | exact absurd h (by assumption)) | (conv => whnf))
    | (refine Both.mk ?_ ?_ <;> (conv => whnf))
    | (refine Keep.mk (by repeat' first | exact trivial | rfl | refine And.intro ?_ ?_) ?_; conv => whnf)
    | (refine And.intro (by first | decide | omega) ?_; conv => whnf)
    | fail
  refine CallP.heapIs (l1Next_ret c at_ 8 0 _ hc hl ha (by omega) (by decide)) rfl (by repeat' first | exact trivial | rfl | exact leafI (by first | rfl | omega | (simp (disch := omega) only [Int.reduceToNat, IntKind.bits, Nat.min_eq_left, Int.reducePow, IntWalk.i64_in, IntWalk.rem_in, IntWalk.i64_quo, IntWalk.u8_in, IntWalk.u32_in, IntWalk.u64_in]; done) | (simp (disch := omega) only [Int.reduceToNat, IntKind.bits, Nat.min_eq_left, Int.reducePow, IntWalk.i64_in, IntWalk.rem_in, IntWalk.i64_quo, IntWalk.u8_in, IntWalk.u32_in, IntWalk.u64_in]; omega)) | refine And.intro ?_ ?_) rfl ?_
  conv => whnf
  repeat' first
    | (refine CondP.yes ?_; conv => whnf)
    | (refine CondP.not ?_; conv => whnf)
    | ((first | refine CondP.dec (fun h => ?_) (fun h => ?_) | refine CondP.ndec (fun h => ?_) (fun h => ?_)) <;> first | (exfalso; first | omega | exact h (by assumption) | exact absurd h (by assumption)) | (conv => whnf))
    | (refine Both.mk ?_ ?_ <;> (conv => whnf))
    | (refine Keep.mk (by repeat' first | exact trivial | rfl | refine And.intro ?_ ?_) ?_; conv => whnf)
    | (refine And.intro (by first | decide | omega) ?_; conv => whnf)
    | fail
  have e1 : IntKind.i64.wrap (1 + nextF c at_ 8) = ((1 + nextF c at_ 8).toNat : Int) := by rw [IntWalk.i64_in _ (by omega)]; omega
  rw [e1]
  generalize hk : (1 + nextF c at_ 8).toNat = k0 at *
  have hk8 : k0 ≤ 8 := by omega
  refine LoopP.go (fun y : List Int × Nat => y.1.length + y.2 = k0 ∧ ∀ z ∈ y.1, inD z) (fun y => ⟨[(0, .pt 0 0 0), (3, .own 1 y.1.length), (4, iv y.2)], [(0, .box [ul c, iv (at_ + 1 + 2 * (y.1.length : Int))]), (1, .list 2 1 (ivs y.1))], 2⟩) (fun y => y.2) ([], k0) ⟨by simp, by simp⟩
    (Weak.of rfl rfl (by repeat' first | exact trivial | rfl | exact leafI (by first | rfl | omega | (simp (disch := omega) only [Int.reduceToNat, IntKind.bits, Nat.min_eq_left, Int.reducePow, IntWalk.i64_in, IntWalk.rem_in, IntWalk.i64_quo, IntWalk.u8_in, IntWalk.u32_in, IntWalk.u64_in]; done) | (simp (disch := omega) only [Int.reduceToNat, IntKind.bits, Nat.min_eq_left, Int.reducePow, IntWalk.i64_in, IntWalk.rem_in, IntWalk.i64_quo, IntWalk.u8_in, IntWalk.u32_in, IntWalk.u64_in]; omega)) | refine And.intro ?_ ?_) ⟨⟨leafBx1 (by simp), rfl, rfl⟩, ⟨rfl, rfl, rfl⟩, trivial⟩) ?_
  rintro ⟨l, k⟩ ⟨h1, h2⟩
  dsimp only at h1 h2 ⊢
  generalize ha0 : at_ + 1 + 2 * (l.length : Int) = a0 at *
  have haa : 0 ≤ a0 ∧ a0 ≤ 200 := by omega
  conv => whnf
  repeat' first
    | (refine CondP.yes ?_; conv => whnf)
    | (refine CondP.not ?_; conv => whnf)
    | ((first | refine CondP.dec (fun h => ?_) (fun h => ?_) | refine CondP.ndec (fun h => ?_) (fun h => ?_)) <;> first | (exfalso; first | omega | exact h (by assumption) | exact absurd h (by assumption)) | (conv => whnf))
    | (refine Both.mk ?_ ?_ <;> (conv => whnf))
    | (refine Keep.mk (by repeat' first | exact trivial | rfl | refine And.intro ?_ ?_) ?_; conv => whnf)
    | (refine And.intro (by first | decide | omega) ?_; conv => whnf)
    | fail
  · refine CallP.heapIs (l1Next_ret c a0 1000 0 _ hc hl (by omega) (by omega) (by decide)) rfl (by repeat' first | exact trivial | rfl | exact leafI (by first | rfl | omega | (simp (disch := omega) only [Int.reduceToNat, IntKind.bits, Nat.min_eq_left, Int.reducePow, IntWalk.i64_in, IntWalk.rem_in, IntWalk.i64_quo, IntWalk.u8_in, IntWalk.u32_in, IntWalk.u64_in]; done) | (simp (disch := omega) only [Int.reduceToNat, IntKind.bits, Nat.min_eq_left, Int.reducePow, IntWalk.i64_in, IntWalk.rem_in, IntWalk.i64_quo, IntWalk.u8_in, IntWalk.u32_in, IntWalk.u64_in]; omega)) | refine And.intro ?_ ?_) rfl ?_
    conv => whnf
    repeat' first
      | (refine CondP.yes ?_; conv => whnf)
      | (refine CondP.not ?_; conv => whnf)
      | ((first | refine CondP.dec (fun h => ?_) (fun h => ?_) | refine CondP.ndec (fun h => ?_) (fun h => ?_)) <;> first | (exfalso; first | omega | exact h (by assumption) | exact absurd h (by assumption)) | (conv => whnf))
      | (refine Both.mk ?_ ?_ <;> (conv => whnf))
      | (refine Keep.mk (by repeat' first | exact trivial | rfl | refine And.intro ?_ ?_) ?_; conv => whnf)
      | (refine And.intro (by first | decide | omega) ?_; conv => whnf)
      | fail
    have hb1 := nextF_bd c a0 1000 (by decide)
    generalize nextF c a0 1000 = v at *
    have hv := pickF_in c (a0 + 1) (-1) 2147483647 [v, 7, 2147483646] (by simp) (by simp [allB]; omega)
    refine CallP.heapIs (l1Pick_ret c (a0 + 1) [v, 7, 2147483646] 0 2 _ (by decide) hc hl (by omega) (by omega) (by simp) (by simp)) rfl (by repeat' first | exact trivial | rfl | exact leafI (by first | rfl | omega | (simp (disch := omega) only [Int.reduceToNat, IntKind.bits, Nat.min_eq_left, Int.reducePow, IntWalk.i64_in, IntWalk.rem_in, IntWalk.i64_quo, IntWalk.u8_in, IntWalk.u32_in, IntWalk.u64_in]; done) | (simp (disch := omega) only [Int.reduceToNat, IntKind.bits, Nat.min_eq_left, Int.reducePow, IntWalk.i64_in, IntWalk.rem_in, IntWalk.i64_quo, IntWalk.u8_in, IntWalk.u32_in, IntWalk.u64_in]; omega)) | refine And.intro ?_ ?_) rfl ?_
    conv => whnf
    repeat' first
      | (refine CondP.yes ?_; conv => whnf)
      | (refine CondP.not ?_; conv => whnf)
      | ((first | refine CondP.dec (fun h => ?_) (fun h => ?_) | refine CondP.ndec (fun h => ?_) (fun h => ?_)) <;> first | (exfalso; first | omega | exact h (by assumption) | exact absurd h (by assumption)) | (conv => whnf))
      | (refine Both.mk ?_ ?_ <;> (conv => whnf))
      | (refine Keep.mk (by repeat' first | exact trivial | rfl | refine And.intro ?_ ?_) ?_; conv => whnf)
      | (refine And.intro (by first | decide | omega) ?_; conv => whnf)
      | fail
    generalize pickF c (a0 + 1) [v, 7, 2147483646] = u at *
    refine ⟨⟨by (first | exact True.intro | omega | (simp only [List.length_map, List.length_take, List.length_drop, List.length_append, List.length_set, List.length_replicate, List.length_cons, List.length_nil, four_len, fours_len, maxLen] at *; omega)), by (first | exact True.intro | omega | (simp only [List.length_map, List.length_take, List.length_drop, List.length_append, List.length_set, List.length_replicate, List.length_cons, List.length_nil, four_len, fours_len, maxLen] at *; omega)), by (first | exact True.intro | omega | (simp only [List.length_map, List.length_take, List.length_drop, List.length_append, List.length_set, List.length_replicate, List.length_cons, List.length_nil, four_len, fours_len, maxLen] at *; omega)), by (first | exact True.intro | omega | (simp only [List.length_map, List.length_take, List.length_drop, List.length_append, List.length_set, List.length_replicate, List.length_cons, List.length_nil, four_len, fours_len, maxLen] at *; omega)), by (first | (intro r hr; first | exact row1 hr | exact row1 (List.mem_of_mem_take hr)) | (refine rowsB_ok ?_; rfl))⟩, ?_⟩
    conv => whnf
    repeat' first
      | (refine CondP.yes ?_; conv => whnf)
      | (refine CondP.not ?_; conv => whnf)
      | ((first | refine CondP.dec (fun h => ?_) (fun h => ?_) | refine CondP.ndec (fun h => ?_) (fun h => ?_)) <;> first | (exfalso; first | omega | exact h (by assumption) | exact absurd h (by assumption)) | (conv => whnf))
      | (refine Both.mk ?_ ?_ <;> (conv => whnf))
      | (refine Keep.mk (by repeat' first | exact trivial | rfl | refine And.intro ?_ ?_) ?_; conv => whnf)
      | (refine And.intro (by first | decide | omega) ?_; conv => whnf)
      | fail
    refine ⟨(l ++ [u], k - 1), ⟨by simp; omega, fun z hz => ?_⟩, by show k - 1 < k; omega, Weak.of rfl rfl ⟨⟨rfl, rfl⟩, ⟨leafW (by simp), rfl⟩, ⟨leafI (by rw [IntWalk.i64_in _ (by omega)]; show _ = ((k - 1 : Nat) : Int); omega), rfl⟩, trivial⟩ ⟨⟨leafBx1 (by simp; omega), rfl, rfl⟩, ⟨leafO ?_, rfl, rfl⟩, trivial⟩⟩
    · rcases List.mem_append.1 hz with hz | hz
      · exact h2 z hz
      · simp at hz; subst hz; exact hv
    · rw [List.take_of_length_le (by simp)]
      show _ = (l ++ [u]).map iv1
      rw [List.map_append]; rfl
  · obtain rfl : k = 0 := by omega
    have hll : l.length ≤ 8 := by omega
    have hb1 := nextF_bd c a0 10 (by decide)
    have ew := hb1
    refine CallP.heapIs (l1Next_ret c a0 10 0 _ hc hl (by omega) (by omega) (by decide)) rfl (by repeat' first | exact trivial | rfl | exact leafI (by first | rfl | omega | (simp (disch := omega) only [Int.reduceToNat, IntKind.bits, Nat.min_eq_left, Int.reducePow, IntWalk.i64_in, IntWalk.rem_in, IntWalk.i64_quo, IntWalk.u8_in, IntWalk.u32_in, IntWalk.u64_in]; done) | (simp (disch := omega) only [Int.reduceToNat, IntKind.bits, Nat.min_eq_left, Int.reducePow, IntWalk.i64_in, IntWalk.rem_in, IntWalk.i64_quo, IntWalk.u8_in, IntWalk.u32_in, IntWalk.u64_in]; omega)) | refine And.intro ?_ ?_) rfl ?_
    conv => whnf
    repeat' first
      | (refine CondP.yes ?_; conv => whnf)
      | (refine CondP.not ?_; conv => whnf)
      | ((first | refine CondP.dec (fun h => ?_) (fun h => ?_) | refine CondP.ndec (fun h => ?_) (fun h => ?_)) <;> first | (exfalso; first | omega | exact h (by assumption) | exact absurd h (by assumption)) | (conv => whnf))
      | (refine Both.mk ?_ ?_ <;> (conv => whnf))
      | (refine Keep.mk (by repeat' first | exact trivial | rfl | refine And.intro ?_ ?_) ?_; conv => whnf)
      | (refine And.intro (by first | decide | omega) ?_; conv => whnf)
      | fail
    · have hv := pickF_in c (a0 + 1) (-1) 2147483647 [-1, 2147483647, 7] (by simp) rfl
      refine CallP.heapIs (l1Pick_ret c (a0 + 1) [-1, 2147483647, 7] 0 2 _ (by decide) hc hl (by omega) (by omega) (by simp) (by simp)) rfl (by repeat' first | exact trivial | rfl | exact leafI (by first | rfl | omega | (simp (disch := omega) only [Int.reduceToNat, IntKind.bits, Nat.min_eq_left, Int.reducePow, IntWalk.i64_in, IntWalk.rem_in, IntWalk.i64_quo, IntWalk.u8_in, IntWalk.u32_in, IntWalk.u64_in]; done) | (simp (disch := omega) only [Int.reduceToNat, IntKind.bits, Nat.min_eq_left, Int.reducePow, IntWalk.i64_in, IntWalk.rem_in, IntWalk.i64_quo, IntWalk.u8_in, IntWalk.u32_in, IntWalk.u64_in]; omega)) | refine And.intro ?_ ?_) rfl ?_
      conv => whnf
      repeat' first
        | (refine CondP.yes ?_; conv => whnf)
        | (refine CondP.not ?_; conv => whnf)
        | ((first | refine CondP.dec (fun h => ?_) (fun h => ?_) | refine CondP.ndec (fun h => ?_) (fun h => ?_)) <;> first | (exfalso; first | omega | exact h (by assumption) | exact absurd h (by assumption)) | (conv => whnf))
        | (refine Both.mk ?_ ?_ <;> (conv => whnf))
        | (refine Keep.mk (by repeat' first | exact trivial | rfl | refine And.intro ?_ ?_) ?_; conv => whnf)
        | (refine And.intro (by first | decide | omega) ?_; conv => whnf)
        | fail
      generalize pickF c (a0 + 1) [-1, 2147483647, 7] = u at *
      refine ⟨⟨by (first | exact True.intro | omega | (simp only [List.length_map, List.length_take, List.length_drop, List.length_append, List.length_set, List.length_replicate, List.length_cons, List.length_nil, four_len, fours_len, maxLen] at *; omega)), by (first | exact True.intro | omega | (simp only [List.length_map, List.length_take, List.length_drop, List.length_append, List.length_set, List.length_replicate, List.length_cons, List.length_nil, four_len, fours_len, maxLen] at *; omega)), by (first | exact True.intro | omega | (simp only [List.length_map, List.length_take, List.length_drop, List.length_append, List.length_set, List.length_replicate, List.length_cons, List.length_nil, four_len, fours_len, maxLen] at *; omega)), by (first | exact True.intro | omega | (simp only [List.length_map, List.length_take, List.length_drop, List.length_append, List.length_set, List.length_replicate, List.length_cons, List.length_nil, four_len, fours_len, maxLen] at *; omega)), by (first | (intro r hr; first | exact row1 hr | exact row1 (List.mem_of_mem_take hr)) | (refine rowsB_ok ?_; rfl))⟩, ?_⟩
      conv => whnf
      repeat' first
        | (refine CondP.yes ?_; conv => whnf)
        | (refine CondP.not ?_; conv => whnf)
        | ((first | refine CondP.dec (fun h => ?_) (fun h => ?_) | refine CondP.ndec (fun h => ?_) (fun h => ?_)) <;> first | (exfalso; first | omega | exact h (by assumption) | exact absurd h (by assumption)) | (conv => whnf))
        | (refine Both.mk ?_ ?_ <;> (conv => whnf))
        | (refine Keep.mk (by repeat' first | exact trivial | rfl | refine And.intro ?_ ?_) ?_; conv => whnf)
        | (refine And.intro (by first | decide | omega) ?_; conv => whnf)
        | fail
      refine FinOk.mk' [1] rfl rfl rfl rfl rfl rfl rfl ⟨l ++ [u], a0 + 1 + 1, ?_, ?_, rfl, by simp; omega, by omega, by omega, fun z hz => ?_⟩
      · exact ownI (by simp)
      · show [(i, AObj.box [ul c, iv (a0 + 1 + 1)]), (n, AObj.list _ 1 _)] = _
        rw [List.take_of_length_le (by simp)]
        simp
      · rcases List.mem_append.1 hz with hz | hz
        · exact h2 z hz
        · simp at hz; subst hz; exact hv
    · have hv := pickF_in c (a0 + 1) 0 9 [0, 9] (by simp) rfl
      refine CallP.heapIs (l1Pick_ret c (a0 + 1) [0, 9] 0 2 _ (by decide) hc hl (by omega) (by omega) (by simp) (by simp)) rfl (by repeat' first | exact trivial | rfl | exact leafI (by first | rfl | omega | (simp (disch := omega) only [Int.reduceToNat, IntKind.bits, Nat.min_eq_left, Int.reducePow, IntWalk.i64_in, IntWalk.rem_in, IntWalk.i64_quo, IntWalk.u8_in, IntWalk.u32_in, IntWalk.u64_in]; done) | (simp (disch := omega) only [Int.reduceToNat, IntKind.bits, Nat.min_eq_left, Int.reducePow, IntWalk.i64_in, IntWalk.rem_in, IntWalk.i64_quo, IntWalk.u8_in, IntWalk.u32_in, IntWalk.u64_in]; omega)) | refine And.intro ?_ ?_) rfl ?_
      conv => whnf
      repeat' first
        | (refine CondP.yes ?_; conv => whnf)
        | (refine CondP.not ?_; conv => whnf)
        | ((first | refine CondP.dec (fun h => ?_) (fun h => ?_) | refine CondP.ndec (fun h => ?_) (fun h => ?_)) <;> first | (exfalso; first | omega | exact h (by assumption) | exact absurd h (by assumption)) | (conv => whnf))
        | (refine Both.mk ?_ ?_ <;> (conv => whnf))
        | (refine Keep.mk (by repeat' first | exact trivial | rfl | refine And.intro ?_ ?_) ?_; conv => whnf)
        | (refine And.intro (by first | decide | omega) ?_; conv => whnf)
        | fail
      generalize pickF c (a0 + 1) [0, 9] = u at *
      obtain ⟨u, rfl⟩ := Int.eq_ofNat_of_zero_le hv.1
      refine ⟨⟨by omega, by omega, by omega, by show (u : Int) * 8 ≤ 140737488355328; omega⟩, ?_⟩
      conv => whnf
      repeat' first
        | (refine CondP.yes ?_; conv => whnf)
        | (refine CondP.not ?_; conv => whnf)
        | ((first | refine CondP.dec (fun h => ?_) (fun h => ?_) | refine CondP.ndec (fun h => ?_) (fun h => ?_)) <;> first | (exfalso; first | omega | exact h (by assumption) | exact absurd h (by assumption)) | (conv => whnf))
        | (refine Both.mk ?_ ?_ <;> (conv => whnf))
        | (refine Keep.mk (by repeat' first | exact trivial | rfl | refine And.intro ?_ ?_) ?_; conv => whnf)
        | (refine And.intro (by first | decide | omega) ?_; conv => whnf)
        | fail
      refine FinOk.mk' [3] rfl rfl rfl rfl rfl rfl rfl ⟨List.replicate u 0, a0 + 1 + 1, ?_, ?_, rfl, by simp; omega, by omega, by omega, fun z hz => ?_⟩
      · exact ownI (by simp)
      · show [(i, AObj.box [ul c, iv (a0 + 1 + 1)]), (n, AObj.list _ 1 (List.replicate u [iv 0]))] = _
        simp
      · rw [List.eq_of_mem_replicate hz]; exact ⟨by omega, by omega⟩
    · exact FinOk.mk' [1] rfl rfl rfl rfl rfl rfl rfl ⟨l, a0 + 1, rfl, rfl, rfl, by omega, by omega, by omega, h2⟩
end Go.Proofs.Ytbghcndemghilaa
