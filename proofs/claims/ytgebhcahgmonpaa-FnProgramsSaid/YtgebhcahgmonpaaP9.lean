/-
  CHAPTER 2: draws, by the reading.
-/
import Derived.Test.YtgebhcahgmonpaaM3
import Derived.Test.YtgebhcahgmonpaaAmE
namespace Go.Proofs.Ytgebhcahgmonpaa
open Go Go.Am Go.RowKit
set_option linter.unusedVariables false
set_option linter.unusedSimpArgs false
theorem l1Pick_ret (c : List Int) (at_ : Int) (zs : List Int) (i j n : Nat) (hij : i ≠ j) (hc : ∀ z ∈ c, isU8 z) (hl : c.length ≤ 1048576) (ha : 0 ≤ at_) (ha2 : at_ ≤ 1000000) (hz : zs ≠ []) (hz2 : zs.length ≤ 1000) :
    Ret Try.prog 43 [.pt i 0 0, .own j zs.length] [(i, .box [ul c, iv at_]), (j, .list 2 1 (ivs zs))] n true (Is (iv (pickF c at_ zs)) [(i, .box [ul c, iv (at_ + 1)]), (j, .list 2 1 (ivs zs))] n) := by
  refine Ret.of_run (tt := tt) ttOk Try.func43 rfl Try.call43 [i, j] [.box [ul c, iv at_], .list 2 1 (ivs zs)] [.pt 0 0 0, .own 1 zs.length] true n _ rfl (nodup2 hij) (by exact Nat.le_of_ble_eq_true rfl) rfl rfl ?_
  have hp := pickF_at c at_ zs hz
  conv => whnf
  repeat' first
    | (refine CondP.yes ?_; conv => whnf)
    | (refine CondP.not ?_; conv => whnf)
    | ((first | refine CondP.dec (fun h => ?_) (fun h => ?_) | refine CondP.ndec (fun h => ?_) (fun h => ?_)) <;> first | (exfalso; first | omega | contradiction) | (conv => whnf))
    | (refine Both.mk ?_ ?_ <;> (conv => whnf))
    | (refine And.intro (by first | decide | omega) ?_; conv => whnf)
    | fail
  refine CallP.heapIs (l1Next_ret c at_ zs.length 0 _ hc hl ha (by omega) (by omega)) rfl (by repeat' first | exact trivial | rfl | exact leafI (by first | rfl | omega | (simp (disch := omega) only [Int.reduceToNat, IntKind.bits, Nat.min_eq_left, Int.reducePow, IntWalk.i64_in, IntWalk.rem_in, IntWalk.i64_quo, IntWalk.u8_in, IntWalk.u32_in, IntWalk.u64_in]; done) | (simp (disch := omega) only [Int.reduceToNat, IntKind.bits, Nat.min_eq_left, Int.reducePow, IntWalk.i64_in, IntWalk.rem_in, IntWalk.i64_quo, IntWalk.u8_in, IntWalk.u32_in, IntWalk.u64_in]; omega)) | refine And.intro ?_ ?_) rfl ?_
  conv => whnf
  repeat' first
    | (refine CondP.yes ?_; conv => whnf)
    | (refine CondP.not ?_; conv => whnf)
    | ((first | refine CondP.dec (fun h => ?_) (fun h => ?_) | refine CondP.ndec (fun h => ?_) (fun h => ?_)) <;> first | (exfalso; first | omega | contradiction) | (conv => whnf))
    | (refine Both.mk ?_ ?_ <;> (conv => whnf))
    | (refine And.intro (by first | decide | omega) ?_; conv => whnf)
    | fail
  rw [rowN iv1 zs _ hp.1]
  refine ⟨by rw [List.length_map]; exact hp.1, ?_⟩
  conv => whnf
  repeat' first
    | (refine CondP.yes ?_; conv => whnf)
    | (refine CondP.not ?_; conv => whnf)
    | ((first | refine CondP.dec (fun h => ?_) (fun h => ?_) | refine CondP.ndec (fun h => ?_) (fun h => ?_)) <;> first | (exfalso; first | omega | contradiction) | (conv => whnf))
    | (refine Both.mk ?_ ?_ <;> (conv => whnf))
    | (refine And.intro (by first | decide | omega) ?_; conv => whnf)
    | fail
  refine FinOk.mk' [] rfl rfl rfl rfl rfl rfl rfl ⟨?_, ?_, rfl⟩
  · refine ivI ?_
    unfold pickF
    simp [List.getD_eq_getElem?_getD, hp.1]
  · rfl
theorem lwAt_ret (c : List Int) (i k : Int) (n : Nat) (hc : ∀ z ∈ c, isU8 z) (hl : c.length ≤ 1048576) (hi : 0 ≤ i) (hi2 : i ≤ 1000000) (hk : k ≤ 1099511627776) : Ret Try.prog 18 [ul c, iv i, iv k] [] n true (Is (iv (atF c i k)) [] n) := by
  refine Ret.fn ttOk Try.func18 rfl Try.call18 rfl rfl ?_
  conv => whnf
  repeat' first
    | (refine CondP.yes ?_; conv => whnf)
    | (refine CondP.not ?_; conv => whnf)
    | ((first | refine CondP.dec (fun h => ?_) (fun h => ?_) | refine CondP.ndec (fun h => ?_) (fun h => ?_)) <;> first | (exfalso; first | omega | contradiction) | (conv => whnf))
    | (refine Both.mk ?_ ?_ <;> (conv => whnf))
    | (refine And.intro (by first | decide | omega) ?_; conv => whnf)
    | fail
  · refine FinOk.pure rfl rfl rfl ⟨?_, rfl, rfl⟩
    refine ivI ?_
    unfold atF; rw [if_pos (by omega)]
  · simp only [List.length_map] at h
    refine FinOk.pure rfl rfl rfl ⟨?_, rfl, rfl⟩
    refine ivI ?_
    unfold atF
    rw [if_neg (by omega), if_pos (by omega), IntWalk.i64_in (i * 7) (by omega), IntWalk.rem_in _ _ (by omega)]
  · have hc0 : ¬ (c.length : Int) = 0 := by simpa only [List.length_map] using h
    simp only [List.length_map]
    have hm := modN hi (show 0 < c.length by omega)
    have hm2 := modN (show 0 ≤ i + 1 by omega) (show 0 < c.length by omega)
    obtain ⟨g1, g2, g3⟩ := getU8 hc hm.2
    obtain ⟨g4, g5, g6⟩ := getU8 hc hm2.2
    have hd : 0 ≤ i / (c.length : Int) ∧ i / (c.length : Int) ≤ i := ⟨Int.ediv_nonneg hi (by omega), Int.ediv_le_self _ hi⟩
    have hq : IntKind.i64.wrap (i.tdiv (c.length : Int)) = i / (c.length : Int) := IntWalk.i64_quo _ _ (by omega)
    have hN : ∀ v, 0 ≤ v → v.tmod k = v % k := fun v hv => Int.tmod_eq_emod_of_nonneg hv
    have e0 : IntKind.i64.wrap (i + 1) = i + 1 := IntWalk.i64_in _ (by omega)
    generalize hx : c[(i % c.length).toNat] = x at *
    generalize hy : c[((i + 1) % c.length).toNat] = y at *
    simp only [hm.1]
    rw [rowK uv1 c _ hm.2, hx]
    refine ⟨by (first | exact ⟨by omega, by omega, rfl⟩ | (simp only [List.length_map]; exact ⟨by omega, by omega, rfl⟩)), ?_⟩
    conv => whnf
    repeat' first
      | (refine CondP.yes ?_; conv => whnf)
      | (refine CondP.not ?_; conv => whnf)
      | ((first | refine CondP.dec (fun h => ?_) (fun h => ?_) | refine CondP.ndec (fun h => ?_) (fun h => ?_)) <;> first | (exfalso; first | omega | contradiction) | (conv => whnf))
      | (refine Both.mk ?_ ?_ <;> (conv => whnf))
      | (refine And.intro (by first | decide | omega) ?_; conv => whnf)
      | fail
    · simp only [e0, hm2.1]
      rw [rowK uv1 c _ hm2.2, hy]
      refine ⟨by (first | exact ⟨by omega, by omega, rfl⟩ | (simp only [List.length_map]; exact ⟨by omega, by omega, rfl⟩)), ?_⟩
      conv => whnf
      repeat' first
        | (refine CondP.yes ?_; conv => whnf)
        | (refine CondP.not ?_; conv => whnf)
        | ((first | refine CondP.dec (fun h => ?_) (fun h => ?_) | refine CondP.ndec (fun h => ?_) (fun h => ?_)) <;> first | (exfalso; first | omega | contradiction) | (conv => whnf))
        | (refine Both.mk ?_ ?_ <;> (conv => whnf))
        | (refine And.intro (by first | decide | omega) ?_; conv => whnf)
        | fail
      refine FinOk.pure rfl rfl rfl ⟨?_, rfl, rfl⟩
      refine ivI ?_
      rw [hq]
      unfold atF
      rw [if_neg (by omega), if_neg (by omega), if_pos (by omega), g1, g4]
      generalize i / (c.length : Int) = d at *
      simp (disch := omega) only [IntWalk.i64_in]
      rw [hN _ (by omega)]
    · refine FinOk.pure rfl rfl rfl ⟨?_, rfl, rfl⟩
      refine ivI ?_
      rw [hq]
      unfold atF
      rw [if_neg (by omega), if_neg (by omega), if_neg (by omega), g1]
      generalize i / (c.length : Int) = d at *
      simp (disch := omega) only [IntWalk.i64_in]
      rw [hN _ (by omega)]
end Go.Proofs.Ytgebhcahgmonpaa
