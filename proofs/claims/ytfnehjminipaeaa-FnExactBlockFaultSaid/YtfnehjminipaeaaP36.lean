/-
  CHAPTER 4: branches and climbs, by the reading.
-/
import Derived.Test.YtfnehjminipaeaaP35
namespace Go.Proofs.Ytfnehjminipaeaa
open Go Go.Am Go.RowKit
set_option linter.unusedVariables false
set_option linter.unusedSimpArgs false
def branchC (l : List Int) (k : Int) : Int := if askC l = 0 then (if inR 0 ((l.length : Int) - 1) k then 0 else 3) else askC l
theorem branchC_ok {l : List Int} {k : Int} (h : branchC l k = 0) : askC l = 0 ∧ ∃ j : Nat, k = j ∧ j < l.length := by
  unfold branchC at h
  by_cases h0 : askC l = 0
  · rw [if_pos h0] at h
    by_cases h1 : inR 0 ((l.length : Int) - 1) k
    · unfold inR at h1
      exact ⟨h0, k.toNat, by omega, by omega⟩
    · rw [if_neg h1] at h; cases h
  · rw [if_neg h0] at h; exact absurd h h0
theorem sumsFault_ret (l : List Int) (a b : Int) (n : Nat) (hl : l.length ≤ 1048576) : Ret Try.prog 89 [il l, iv a, iv b] [] n true (Is (iv (if (l.length : Int) < a ∨ b < l.length then 2 else if allB 0 2147483646 l then 0 else 3)) [] n) := by
  have hL : (ivs l).length = l.length := by simp
  refine Ret.fn ttOk Try.func89 rfl Try.call89 rfl rfl ?_
  refine Goes ?_
  repeat' first | refine W2.m ?_ ?_ | refine W1.m fun h => ?_ | fail
  · rw [if_pos (by omega)]
    refine FinOk.pure rfl rfl rfl ⟨?_, rfl, rfl⟩
    rfl
  · rw [if_pos (by omega)]
    refine FinOk.pure rfl rfl rfl ⟨?_, rfl, rfl⟩
    rfl
  · rw [if_neg (by omega)]
    refine LoopP.go (fun k : Nat => k ≤ l.length ∧ allB 0 2147483646 (l.take k) = true) (fun k => ⟨[(19, il l), (20, iv l.length), (21, iv k)], [], 0⟩) (fun k => l.length - k) 0 ⟨Nat.zero_le _, rfl⟩ (Weak.of rfl rfl ⟨⟨rfl, rfl⟩, ⟨leafI (by omega), rfl⟩, ⟨rfl, rfl⟩, trivial⟩ trivial) ?_
    rintro k ⟨hk, hp⟩
    refine Goes ?_
    repeat' first | refine W2.m ?_ ?_ | refine W1.m fun h => ?_ | fail
    · have hlt : k < l.length := by omega
      rw [rowK iv1 l k (by omega)]
      refine ⟨by (first | exact ⟨by omega, by omega, rfl⟩ | (simp only [List.length_map]; exact ⟨by omega, by omega, rfl⟩)), ?_⟩
      refine Goes ?_
      repeat' first | refine W2.m ?_ ?_ | refine W1.m fun h => ?_ | fail
      first | refine CallP.is (isSum_ret _ _) rfl ?_ | refine CallQ.is (isSum_ret _ _) rfl rfl ?_
      refine Goes ?_
      repeat' first | refine W2.m ?_ ?_ | refine W1.m fun h => ?_ | fail
      · refine FinOk.pure rfl rfl rfl ⟨?_, rfl, rfl⟩
        rw [allB_no hlt (by simpa [inR] using h)]; rfl
      · exact ⟨k + 1, ⟨by omega, by rw [allB_take hlt, hp]; simpa [inR] using h⟩, by omega, (Weak.of rfl rfl ktA trivial)⟩
    · refine FinOk.pure rfl rfl rfl ⟨?_, rfl, rfl⟩
      rw [List.take_of_length_le (by omega)] at hp; rw [hp]; rfl
theorem leavesFault_ret (l : List Int) (n : Nat) (hl : l.length ≤ 1048576) : Ret Try.prog 65 [il l] [] n true (Is (iv (askC l)) [] n) := by
  refine Ret.fn ttOk Try.func65 rfl Try.call65 rfl rfl ?_
  refine Goes ?_
  repeat' first | refine W2.m ?_ ?_ | refine W1.m fun h => ?_ | fail
  first | refine CallP.is (sumsFault_ret l 1 8 _ hl) rfl ?_ | refine CallQ.is (sumsFault_ret l 1 8 _ hl) rfl rfl ?_
  refine Goes ?_
  repeat' first | refine W2.m ?_ ?_ | refine W1.m fun h => ?_ | fail
  refine FinOk.pure rfl rfl rfl ⟨?_, rfl, rfl⟩
  unfold askC
  by_cases h : l.length < 1 ∨ 8 < l.length
  · rw [if_pos h, if_pos (by omega)]
  · rw [if_neg h, if_neg (by omega)]
def climbC (x k : Int) (b : List Int) : Int := if inR 0 2147483646 x ∧ inR 0 255 k then (if 8 < b.length then 2 else if allB 0 2147483646 b then 0 else 3) else 3
theorem climbC_ok {x k : Int} {b : List Int} (h : climbC x k b = 0) : isSumI x ∧ (∃ j : Nat, k = j ∧ j ≤ 255) ∧ b.length ≤ 8 ∧ ∀ z ∈ b, isSumI z := by
  unfold climbC at h
  by_cases h0 : inR 0 2147483646 x ∧ inR 0 255 k
  · rw [if_pos h0] at h
    by_cases h1 : 8 < b.length
    · rw [if_pos h1] at h; cases h
    · rw [if_neg h1] at h
      cases hb : allB 0 2147483646 b with
      | false => rw [hb] at h; cases h
      | true =>
        have h2 := h0.2
        unfold inR at h2
        exact ⟨h0.1, ⟨k.toNat, by omega, by omega⟩, by omega, (allB_iff _ _ _).1 hb⟩
  · rw [if_neg h0] at h; cases h
def climbR (x k : Int) (b : List Int) : List AV := if climbC x k b = 0 then [iv 0, iv (climbF x k.toNat b)] else [iv (climbC x k b), iv 0]
end Go.Proofs.Ytfnehjminipaeaa
