/-
  CHAPTER 1, function by function, by the reading.
-/
import Derived.Test.YtbghcndemghilaaAmT
import Derived.Test.YtbghcndemghilaaM1
namespace Go.Proofs.Ytbghcndemghilaa
open Go Go.Am Go.RowKit
set_option linter.unusedVariables false
set_option linter.unusedSimpArgs false
theorem l1In_ret (v lo hi : Int) (n : Nat) : Ret Try.prog 74 [iv v, iv lo, iv hi] [] n true (Is (bv (decide (inR lo hi v))) [] n) := by
  refine Ret.fn ttOk Try.func74 rfl Try.call74 rfl rfl ?_
  conv => whnf
  repeat' first
    | (refine CondP.yes ?_; conv => whnf)
    | (refine CondP.not ?_; conv => whnf)
    | ((first | refine CondP.dec (fun h => ?_) (fun h => ?_) | refine CondP.ndec (fun h => ?_) (fun h => ?_)) <;> first | (exfalso; first | omega | exact h (by assumption) | exact absurd h (by assumption)) | (conv => whnf))
    | (refine Both.mk ?_ ?_ <;> (conv => whnf))
    | (refine Keep.mk (by repeat' first | exact trivial | rfl | refine And.intro ?_ ?_) ?_; conv => whnf)
    | (refine And.intro (by first | decide | omega) ?_; conv => whnf)
    | fail
  all_goals (refine FinOk.pure rfl rfl rfl ⟨bvI ?_, rfl, rfl⟩; simp [inR, *])
theorem isSum_ret (v : Int) (n : Nat) : Ret Try.prog 126 [iv v] [] n true (Is (bv (decide (inR 0 2147483646 v))) [] n) := by
  refine Ret.fn ttOk Try.func126 rfl Try.call126 rfl rfl ?_
  conv => whnf
  repeat' first
    | (refine CondP.yes ?_; conv => whnf)
    | (refine CondP.not ?_; conv => whnf)
    | ((first | refine CondP.dec (fun h => ?_) (fun h => ?_) | refine CondP.ndec (fun h => ?_) (fun h => ?_)) <;> first | (exfalso; first | omega | exact h (by assumption) | exact absurd h (by assumption)) | (conv => whnf))
    | (refine Both.mk ?_ ?_ <;> (conv => whnf))
    | (refine Keep.mk (by repeat' first | exact trivial | rfl | refine And.intro ?_ ?_) ?_; conv => whnf)
    | (refine And.intro (by first | decide | omega) ?_; conv => whnf)
    | fail
  all_goals (refine FinOk.pure rfl rfl rfl ⟨bvI ?_, rfl, rfl⟩; simp [inR, *])
theorem l1All_ret (zs : List Int) (lo hi : Int) (n : Nat) (hl : zs.length ≤ 1048576) : Ret Try.prog 90 [il zs, iv lo, iv hi] [] n true (Is (bv (allB lo hi zs)) [] n) := by
  refine Ret.fn ttOk Try.func90 rfl Try.call90 rfl rfl ?_
  conv => whnf
  repeat' first
    | (refine CondP.yes ?_; conv => whnf)
    | (refine CondP.not ?_; conv => whnf)
    | ((first | refine CondP.dec (fun h => ?_) (fun h => ?_) | refine CondP.ndec (fun h => ?_) (fun h => ?_)) <;> first | (exfalso; first | omega | exact h (by assumption) | exact absurd h (by assumption)) | (conv => whnf))
    | (refine Both.mk ?_ ?_ <;> (conv => whnf))
    | (refine Keep.mk (by repeat' first | exact trivial | rfl | refine And.intro ?_ ?_) ?_; conv => whnf)
    | (refine And.intro (by first | decide | omega) ?_; conv => whnf)
    | fail
  refine LoopP.go (fun k : Nat => k ≤ zs.length ∧ allB lo hi (zs.take k) = true) (fun k => ⟨[(0, il zs), (1, iv lo), (2, iv hi), (7, iv k)], [], 0⟩) (fun k => zs.length - k) 0 ⟨Nat.zero_le _, rfl⟩ (Weak.of rfl rfl (by repeat' first | exact trivial | rfl | exact leafI (by first | rfl | omega | (simp (disch := omega) only [Int.reduceToNat, IntKind.bits, Nat.min_eq_left, Int.reducePow, IntWalk.i64_in, IntWalk.rem_in, IntWalk.i64_quo, IntWalk.u8_in, IntWalk.u32_in, IntWalk.u64_in]; done) | (simp (disch := omega) only [Int.reduceToNat, IntKind.bits, Nat.min_eq_left, Int.reducePow, IntWalk.i64_in, IntWalk.rem_in, IntWalk.i64_quo, IntWalk.u8_in, IntWalk.u32_in, IntWalk.u64_in]; omega)) | refine And.intro ?_ ?_) trivial) ?_
  intro k ⟨hk, hp⟩
  conv => whnf
  repeat' first
    | (refine CondP.yes ?_; conv => whnf)
    | (refine CondP.not ?_; conv => whnf)
    | ((first | refine CondP.dec (fun h => ?_) (fun h => ?_) | refine CondP.ndec (fun h => ?_) (fun h => ?_)) <;> first | (exfalso; first | omega | exact h (by assumption) | exact absurd h (by assumption)) | (conv => whnf))
    | (refine Both.mk ?_ ?_ <;> (conv => whnf))
    | (refine Keep.mk (by repeat' first | exact trivial | rfl | refine And.intro ?_ ?_) ?_; conv => whnf)
    | (refine And.intro (by first | decide | omega) ?_; conv => whnf)
    | fail
  · simp only [List.length_map] at h
    have hlt : k < zs.length := by omega
    rw [rowK iv1 zs k (by omega)]
    refine ⟨by (first | exact ⟨by omega, by omega, rfl⟩ | (simp only [List.length_map]; exact ⟨by omega, by omega, rfl⟩)), ?_⟩
    conv => whnf
    repeat' first
      | (refine CondP.yes ?_; conv => whnf)
      | (refine CondP.not ?_; conv => whnf)
      | ((first | refine CondP.dec (fun h => ?_) (fun h => ?_) | refine CondP.ndec (fun h => ?_) (fun h => ?_)) <;> first | (exfalso; first | omega | exact h (by assumption) | exact absurd h (by assumption)) | (conv => whnf))
      | (refine Both.mk ?_ ?_ <;> (conv => whnf))
      | (refine Keep.mk (by repeat' first | exact trivial | rfl | refine And.intro ?_ ?_) ?_; conv => whnf)
      | (refine And.intro (by first | decide | omega) ?_; conv => whnf)
      | fail
    refine CallP.is (l1In_ret _ _ _ _) rfl ?_
    conv => whnf
    repeat' first
      | (refine CondP.yes ?_; conv => whnf)
      | (refine CondP.not ?_; conv => whnf)
      | ((first | refine CondP.dec (fun h => ?_) (fun h => ?_) | refine CondP.ndec (fun h => ?_) (fun h => ?_)) <;> first | (exfalso; first | omega | exact h (by assumption) | exact absurd h (by assumption)) | (conv => whnf))
      | (refine Both.mk ?_ ?_ <;> (conv => whnf))
      | (refine Keep.mk (by repeat' first | exact trivial | rfl | refine And.intro ?_ ?_) ?_; conv => whnf)
      | (refine And.intro (by first | decide | omega) ?_; conv => whnf)
      | fail
    · refine FinOk.pure rfl rfl rfl ⟨?_, rfl, rfl⟩
      rw [allB_no hlt (by simpa [inR] using h)]
    · exact ⟨k + 1, ⟨by omega, by rw [allB_take hlt, hp]; simpa [inR] using h⟩, by omega, (Weak.of rfl rfl (by repeat' first | exact trivial | rfl | exact leafI (by first | rfl | omega | (simp (disch := omega) only [Int.reduceToNat, IntKind.bits, Nat.min_eq_left, Int.reducePow, IntWalk.i64_in, IntWalk.rem_in, IntWalk.i64_quo, IntWalk.u8_in, IntWalk.u32_in, IntWalk.u64_in]; done) | (simp (disch := omega) only [Int.reduceToNat, IntKind.bits, Nat.min_eq_left, Int.reducePow, IntWalk.i64_in, IntWalk.rem_in, IntWalk.i64_quo, IntWalk.u8_in, IntWalk.u32_in, IntWalk.u64_in]; omega)) | refine And.intro ?_ ?_) trivial)⟩
  · simp only [List.length_map] at h
    refine FinOk.pure rfl rfl rfl ⟨?_, rfl, rfl⟩
    rw [List.take_of_length_le (by omega)] at hp; rw [hp]
theorem lwBig_ret (zs : List Int) (n : Nat) : Ret Try.prog 13 [ul zs] [] n true (Is (bv (decide (1048576 < (zs.length : Int)))) [] n) := by
  refine Ret.fn ttOk Try.func13 rfl Try.call13 rfl rfl ?_
  conv => whnf
  repeat' first
    | (refine CondP.yes ?_; conv => whnf)
    | (refine CondP.not ?_; conv => whnf)
    | ((first | refine CondP.dec (fun h => ?_) (fun h => ?_) | refine CondP.ndec (fun h => ?_) (fun h => ?_)) <;> first | (exfalso; first | omega | exact h (by assumption) | exact absurd h (by assumption)) | (conv => whnf))
    | (refine Both.mk ?_ ?_ <;> (conv => whnf))
    | (refine Keep.mk (by repeat' first | exact trivial | rfl | refine And.intro ?_ ?_) ?_; conv => whnf)
    | (refine And.intro (by first | decide | omega) ?_; conv => whnf)
    | fail
  refine FinOk.pure rfl rfl rfl ⟨?_, rfl, rfl⟩
  refine bvI ?_
  rw [List.length_map]
theorem l1Source_ret (c : List Int) (n : Nat) : Ret Try.prog 62 [ul c] [] n true (Is (.pt n 0 0) [(n, .box [ul c, iv 0])] (n + 1)) := by
  refine Ret.fn ttOk Try.func62 rfl Try.call62 rfl rfl ?_
  conv => whnf
  repeat' first
    | (refine CondP.yes ?_; conv => whnf)
    | (refine CondP.not ?_; conv => whnf)
    | ((first | refine CondP.dec (fun h => ?_) (fun h => ?_) | refine CondP.ndec (fun h => ?_) (fun h => ?_)) <;> first | (exfalso; first | omega | exact h (by assumption) | exact absurd h (by assumption)) | (conv => whnf))
    | (refine Both.mk ?_ ?_ <;> (conv => whnf))
    | (refine Keep.mk (by repeat' first | exact trivial | rfl | refine And.intro ?_ ?_) ?_; conv => whnf)
    | (refine And.intro (by first | decide | omega) ?_; conv => whnf)
    | fail
  refine FinOk.mk' [0] rfl rfl rfl rfl rfl rfl rfl ⟨?_, ?_, rfl⟩
  · rfl
  · rfl
theorem l1Next_ret (c : List Int) (at_ k : Int) (i n : Nat) (hc : ∀ z ∈ c, isU8 z) (hl : c.length ≤ 1048576) (ha : 0 ≤ at_) (ha2 : at_ ≤ 1099511627776) (hk : k ≤ 1099511627776) : Ret Try.prog 66 [.pt i 0 0, iv k] [(i, .box [ul c, iv at_])] n true (Is (iv (nextF c at_ k)) [(i, .box [ul c, iv (at_ + 1)])] n) := by
  refine Ret.of_run (tt := tt) ttOk Try.func66 rfl Try.call66 [i] [.box [ul c, iv at_]] [.pt 0 0 0, iv k] true n _ rfl (nodup1 i) (by exact Nat.le_of_ble_eq_true rfl) rfl rfl ?_
  have e0 : IntKind.i64.wrap (at_ + 1) = at_ + 1 := IntWalk.i64_in _ (by omega)
  have e1 : IntKind.i64.wrap (at_ + 1 - 1) = at_ := by rw [IntWalk.i64_in _ (by omega)]; omega
  conv => whnf
  repeat' first
    | (refine CondP.yes ?_; conv => whnf)
    | (refine CondP.not ?_; conv => whnf)
    | ((first | refine CondP.dec (fun h => ?_) (fun h => ?_) | refine CondP.ndec (fun h => ?_) (fun h => ?_)) <;> first | (exfalso; first | omega | exact h (by assumption) | exact absurd h (by assumption)) | (conv => whnf))
    | (refine Both.mk ?_ ?_ <;> (conv => whnf))
    | (refine Keep.mk (by repeat' first | exact trivial | rfl | refine And.intro ?_ ?_) ?_; conv => whnf)
    | (refine And.intro (by first | decide | omega) ?_; conv => whnf)
    | fail
  · rw [e0]
    refine FinOk.mk' [] rfl rfl rfl rfl rfl rfl rfl ⟨?_, rfl, rfl⟩
    rw [nextF_lo _ _ _ (by omega)]; rfl
  · simp only [List.length_map] at h
    rw [e0, e1, IntWalk.i64_in (at_ * 7) (by omega)]
    refine FinOk.mk' [] rfl rfl rfl rfl rfl rfl rfl ⟨?_, rfl, rfl⟩
    refine ivI ?_
    unfold nextF
    rw [if_neg (by omega), if_pos (by omega), IntWalk.rem_in _ _ (by omega)]
  · have hc0 : ¬ (c.length : Int) = 0 := by simpa only [List.length_map] using h
    simp only [e0, e1, List.length_map]
    have hm := modN ha (show 0 < c.length by omega)
    have hm2 := modN (show 0 ≤ at_ + 1 by omega) (show 0 < c.length by omega)
    obtain ⟨g1, g2, g3⟩ := getU8 hc hm.2
    obtain ⟨g4, g5, g6⟩ := getU8 hc hm2.2
    have hd : 0 ≤ at_ / (c.length : Int) ∧ at_ / (c.length : Int) ≤ at_ := ⟨Int.ediv_nonneg ha (by omega), Int.ediv_le_self _ ha⟩
    have hq : IntKind.i64.wrap (at_.tdiv (c.length : Int)) = at_ / (c.length : Int) := IntWalk.i64_quo _ _ (by omega)
    have hN : ∀ v, 0 ≤ v → v.tmod k = v % k := fun v hv => Int.tmod_eq_emod_of_nonneg hv
    generalize hx : c[(at_ % c.length).toNat] = x at *
    generalize hy : c[((at_ + 1) % c.length).toNat] = y at *
    simp only [hm.1]
    rw [rowK uv1 c _ hm.2, hx]
    refine ⟨by (first | exact ⟨by omega, by omega, rfl⟩ | (simp only [List.length_map]; exact ⟨by omega, by omega, rfl⟩)), ?_⟩
    conv => whnf
    repeat' first
      | (refine CondP.yes ?_; conv => whnf)
      | (refine CondP.not ?_; conv => whnf)
      | ((first | refine CondP.dec (fun h => ?_) (fun h => ?_) | refine CondP.ndec (fun h => ?_) (fun h => ?_)) <;> first | (exfalso; first | omega | exact h (by assumption) | exact absurd h (by assumption)) | (conv => whnf))
      | (refine Both.mk ?_ ?_ <;> (conv => whnf))
      | (refine Keep.mk (by repeat' first | exact trivial | rfl | refine And.intro ?_ ?_) ?_; conv => whnf)
      | (refine And.intro (by first | decide | omega) ?_; conv => whnf)
      | fail
    · simp only [e0, hm2.1]
      rw [rowK uv1 c _ hm2.2, hy]
      refine ⟨by (first | exact ⟨by omega, by omega, rfl⟩ | (simp only [List.length_map]; exact ⟨by omega, by omega, rfl⟩)), ?_⟩
      conv => whnf
      repeat' first
        | (refine CondP.yes ?_; conv => whnf)
        | (refine CondP.not ?_; conv => whnf)
        | ((first | refine CondP.dec (fun h => ?_) (fun h => ?_) | refine CondP.ndec (fun h => ?_) (fun h => ?_)) <;> first | (exfalso; first | omega | exact h (by assumption) | exact absurd h (by assumption)) | (conv => whnf))
        | (refine Both.mk ?_ ?_ <;> (conv => whnf))
        | (refine Keep.mk (by repeat' first | exact trivial | rfl | refine And.intro ?_ ?_) ?_; conv => whnf)
        | (refine And.intro (by first | decide | omega) ?_; conv => whnf)
        | fail
      refine FinOk.mk' [] rfl rfl rfl rfl rfl rfl rfl ⟨ivI ?_, rfl, rfl⟩
      rw [hq]
      unfold nextF
      rw [if_neg (by omega), if_neg (by omega), if_pos (by omega), g1, g4]
      generalize at_ / (c.length : Int) = d at *
      simp (disch := omega) only [IntWalk.i64_in]
      rw [hN _ (by omega)]
    · refine FinOk.mk' [] rfl rfl rfl rfl rfl rfl rfl ⟨ivI ?_, rfl, rfl⟩
      rw [hq]
      unfold nextF
      rw [if_neg (by omega), if_neg (by omega), if_neg (by omega), g1]
      generalize at_ / (c.length : Int) = d at *
      simp (disch := omega) only [IntWalk.i64_in]
      rw [hN _ (by omega)]
end Go.Proofs.Ytbghcndemghilaa
