/-
  CHAPTER 10: the specification's ServerFault; the law.
-/
import Derived.Test.YthpboccokdhpnaaS5
namespace Go.Proofs.Ythpboccokdhpnaa
open Go Go.Am Go.RowKit
set_option linter.unusedVariables false
set_option linter.unusedSimpArgs false
theorem any_take {α : Type} (p : α → Bool) (xs : List α) (k : Nat) (h : k < xs.length) : (xs.take (k + 1)).any p = ((xs.take k).any p || p xs[k]) := by
  rw [takeS xs k h, List.any_append]; simp
theorem any_at {α : Type} {p : α → Bool} {xs : List α} {k : Nat} (h : k < xs.length) (hp : p xs[k] = true) : xs.any p = true := List.any_eq_true.2 ⟨_, List.getElem_mem h, hp⟩
/-- A server by its address. -/
theorem l10One_rp (s : ServD) (k n : Nat) (hf : FitsSv s) (hlt : k < s.sess.length) : Ret Try.prog 53 [.rp (servC s), iv k] [] n true (Is (iv (oneC s.sess[k] (s.sess.take k))) [] n) := by
  have hL : (s.sess.map sessR).length = s.sess.length := by simp
  have hll := hf.len
  have hx := hf.sess _ (List.getElem_mem hlt)
  have hR := fun n => l10Rest_ret s.sess[k].rest hx.rest n
  have hA := fun n => l9Arg_ret s.sess[k].worker hx.worker n
  have hE := empS s.sess[k].worker
  have hrow := rowK sessR s.sess k hlt
  obtain ⟨es, hes⟩ : ∃ es, es = s.sess.take k := ⟨_, rfl⟩
  have hel : es.length = k := by rw [hes, List.length_take]; omega
  have heat : ∀ j (hj : j < k), s.sess[j]'(by omega) = es[j]'(by omega) := fun j hj => by subst hes; simp
  rw [← hes]
  generalize s.sess[k] = x at *
  cases hr : restF x.rest with
  | false =>
    rw [hr] at hR
    refine Ret.fn ttOk Try.func53 rfl Try.call53 rfl rfl ?_
    refine Goes ?_
    repeat' first | refine W2.m ?_ ?_ | refine W1.m fun h => ?_ | fail
    rw [hrow]
    refine ⟨by rw [hL]; exact ⟨by omega, by omega, rfl⟩, ?_⟩
    refine Goes ?_
    repeat' first | refine W2.m ?_ ?_ | refine W1.m fun h => ?_ | fail
    first | refine CallP.is (hR _) rfl ?_ | refine CallQ.is (hR _) rfl rfl ?_
    refine Goes ?_
    repeat' first | refine W2.m ?_ ?_ | refine W1.m fun h => ?_ | fail
    refine FinOk.pure rfl rfl rfl ⟨?_, rfl, rfl⟩
    unfold oneC; rw [hr, if_pos (by simp)]
  | true =>
    rw [hr] at hR
    cases ha : argF x.worker with
    | false =>
      rw [ha] at hA
      refine Ret.fn ttOk Try.func53 rfl Try.call53 rfl rfl ?_
      refine Goes ?_
      repeat' first | refine W2.m ?_ ?_ | refine W1.m fun h => ?_ | fail
      rw [hrow]
      refine ⟨by rw [hL]; exact ⟨by omega, by omega, rfl⟩, ?_⟩
      refine Goes ?_
      repeat' first | refine W2.m ?_ ?_ | refine W1.m fun h => ?_ | fail
      first | refine CallP.is (hR _) rfl ?_ | refine CallQ.is (hR _) rfl rfl ?_
      refine Goes ?_
      repeat' first | refine W2.m ?_ ?_ | refine W1.m fun h => ?_ | fail
      first | refine CallP.is (hA _) rfl ?_ | refine CallQ.is (hA _) rfl rfl ?_
      refine Goes ?_
      repeat' first | refine W2.m ?_ ?_ | refine W1.m fun h => ?_ | fail
      refine FinOk.pure rfl rfl rfl ⟨?_, rfl, rfl⟩
      unfold oneC; rw [ha, if_pos (by simp)]
    | true =>
      rw [ha] at hA
      have hC : oneC x es = if ¬ (inR (-1) 998 x.extra ∧ inR 1 9999 x.level) then 3 else if x.worker.size ≠ 0 ∧ x.extra = -1 then 1 else if ¬ x.extra = -1 ∧ es.any (sameExtra x) = true then 6 else 0 := by
        unfold oneC; rw [hr, ha, if_neg (by simp)]
      refine Ret.fn ttOk Try.func53 rfl Try.call53 rfl rfl ?_
      refine Goes ?_
      repeat' first | refine W2.m ?_ ?_ | refine W1.m fun h => ?_ | fail
      rw [hrow]
      refine ⟨by rw [hL]; exact ⟨by omega, by omega, rfl⟩, ?_⟩
      refine Goes ?_
      repeat' first | refine W2.m ?_ ?_ | refine W1.m fun h => ?_ | fail
      first | refine CallP.is (hR _) rfl ?_ | refine CallQ.is (hR _) rfl rfl ?_
      refine Goes ?_
      repeat' first | refine W2.m ?_ ?_ | refine W1.m fun h => ?_ | fail
      first | refine CallP.is (hA _) rfl ?_ | refine CallQ.is (hA _) rfl rfl ?_
      refine Goes ?_
      repeat' first | refine W2.m ?_ ?_ | refine W1.m fun h => ?_ | fail
      first | refine CallP.is (l1In_ret x.extra (-1) 998 _) rfl ?_ | refine CallQ.is (l1In_ret x.extra (-1) 998 _) rfl rfl ?_
      refine Goes ?_
      repeat' first | refine W2.m ?_ ?_ | refine W1.m fun h => ?_ | fail
      · have hlv : ¬ inR (-1) 998 x.extra := by assumption
        refine FinOk.pure rfl rfl rfl ⟨?_, rfl, rfl⟩
        rw [hC, if_pos (fun h => hlv h.1)]
      have h4 : inR (-1) 998 x.extra := by assumption
      first | refine CallP.is (l1In_ret x.level 1 9999 _) rfl ?_ | refine CallQ.is (l1In_ret x.level 1 9999 _) rfl rfl ?_
      refine Goes ?_
      repeat' first | refine W2.m ?_ ?_ | refine W1.m fun h => ?_ | fail
      · have hlv : ¬ inR 1 9999 x.level := by assumption
        refine FinOk.pure rfl rfl rfl ⟨?_, rfl, rfl⟩
        rw [hC, if_pos (fun h => hlv h.2)]
      have hlv : inR 1 9999 x.level := by assumption
      rw [if_neg (fun h => h ⟨h4, hlv⟩)] at hC
      unfold inR at h4
      rw [hE]
      by_cases he : x.worker.size ≠ 0 ∧ x.extra = -1
      · have he1 := he.1
        have he2 := he.2
        rw [if_pos he] at hC
        refine Goes ?_
        repeat' first | refine W2.m ?_ ?_ | refine W1.m fun h => ?_ | fail
        refine FinOk.pure rfl rfl rfl ⟨?_, rfl, rfl⟩
        rw [hC]
      rw [if_neg he] at hC
      have he' : x.worker.size = 0 ∨ 0 ≤ x.extra := by
        by_cases h0 : x.worker.size = 0
        · exact .inl h0
        · exact .inr (Int.not_lt.1 fun h => he ⟨h0, by omega⟩)
      refine Goes ?_
      repeat' first | refine W2.m ?_ ?_ | refine W1.m fun h => ?_ | fail
      all_goals first
        | (exfalso; omega)
        | (refine LoopP.go (fun j : Nat => j ≤ k ∧ (0 ≤ x.extra → (es.take j).any (sameExtra x) = false)) (fun j => ⟨[(0, .rp (servC s)), (1, iv k), (5, .rp (sessR x)), (6, iv j)], [], 0⟩) (fun j => k - j) 0 ⟨Nat.zero_le _, fun _ => rfl⟩ (Weak.of rfl rfl ktA trivial) ?_
           intro j ⟨hj, hp⟩
           refine Goes ?_
           repeat' first | refine W2.m ?_ ?_ | refine W1.m fun h => ?_ | fail
           all_goals first
             | (have hjk : j = k := by omega
                subst hjk
                rw [List.take_of_length_le (by omega)] at hp
                have hno : ¬ (¬ x.extra = -1 ∧ es.any (sameExtra x) = true) := fun h => by rw [hp (by omega)] at h; cases h.2
                rw [if_neg hno] at hC
                refine FinOk.pure rfl rfl rfl ⟨?_, rfl, rfl⟩
                rw [hC])
             | (have hlo : ¬ 0 ≤ x.extra := by omega
                exact ⟨j + 1, ⟨by omega, fun h => absurd h hlo⟩, by omega, (Weak.of rfl rfl ktA trivial)⟩)
             | (have hlj : j < k := by omega
                rw [rowK sessR s.sess j (by omega), heat j hlj]
                refine ⟨by rw [hL]; exact ⟨by omega, by omega, rfl⟩, ?_⟩
                refine Goes ?_
                repeat' first | refine W2.m ?_ ?_ | refine W1.m fun h => ?_ | fail
                · have hq : sameExtra x (es[j]'(by omega)) = true := decide_eq_true h
                  rw [if_pos ⟨by omega, any_at (by omega) hq⟩] at hC
                  refine FinOk.pure rfl rfl rfl ⟨?_, rfl, rfl⟩
                  rw [hC]
                · have hq : sameExtra x (es[j]'(by omega)) = false := decide_eq_false h
                  exact ⟨j + 1, ⟨by omega, fun h0 => by rw [any_take _ es j (by omega), hp h0, hq]; rfl⟩, by omega, (Weak.of rfl rfl ktA trivial)⟩))
theorem l10Fault_rp (s : ServD) (n : Nat) (hf : FitsSv s) : Ret Try.prog 29 [.rp (servC s)] [] n true (Is (iv (faultSv s)) [] n) := by
  have hL : (s.sess.map sessR).length = s.sess.length := by simp
  have hll := hf.len
  refine Ret.fn ttOk Try.func29 rfl Try.call29 rfl rfl ?_
  refine Goes ?_
  repeat' first | refine W2.m ?_ ?_ | refine W1.m fun h => ?_ | fail
  · refine FinOk.pure rfl rfl rfl ⟨?_, rfl, rfl⟩
    unfold faultSv; rw [if_pos (by omega)]
  have h2 : ¬ 4 < s.sess.length := by omega
  have hC : faultSv s = if ¬ allC [] s.sess = 0 then allC [] s.sess else if ¬ inR 0 999 s.next ∨ s.sess.any (laterExtra s) = true then 3 else 0 := by
    unfold faultSv; rw [if_neg h2]
  refine LoopP.go (fun k : Nat => k ≤ s.sess.length ∧ allC [] s.sess = allC (s.sess.take k) (s.sess.drop k)) (fun k => ⟨[(0, .rp (servC s)), (3, iv k)], [], 0⟩) (fun k => s.sess.length - k) 0 ⟨Nat.zero_le _, rfl⟩ (Weak.of rfl rfl ktA trivial) ?_
  intro k ⟨hk, hp⟩
  refine Goes ?_
  repeat' first | refine W2.m ?_ ?_ | refine W1.m fun h => ?_ | fail
  · have hlt : k < s.sess.length := by omega
    rw [allC_at _ k hlt] at hp
    first | refine CallP.is (l10One_rp s k _ hf hlt) rfl ?_ | refine CallQ.is (l10One_rp s k _ hf hlt) rfl rfl ?_
    refine Goes ?_
    repeat' first | refine W2.m ?_ ?_ | refine W1.m fun h => ?_ | fail
    · have h' : ¬ oneC s.sess[k] (s.sess.take k) = 0 := h
      rw [if_pos h'] at hp
      refine FinOk.pure rfl rfl rfl ⟨?_, rfl, rfl⟩
      rw [hC, hp, if_pos h']
    · have h' : oneC s.sess[k] (s.sess.take k) = 0 := Decidable.not_not.1 h
      rw [if_neg (fun h => h h')] at hp
      exact ⟨k + 1, ⟨by omega, hp⟩, by omega, (Weak.of rfl rfl ktA trivial)⟩
  · obtain rfl : k = s.sess.length := by omega
    rw [List.drop_length, allC] at hp
    rw [hp, if_neg (by simp)] at hC
    first | refine CallP.is (l1In_ret s.next 0 999 _) rfl ?_ | refine CallQ.is (l1In_ret s.next 0 999 _) rfl rfl ?_
    refine Goes ?_
    repeat' first | refine W2.m ?_ ?_ | refine W1.m fun h => ?_ | fail
    · have h' : ¬ inR 0 999 s.next := by assumption
      refine FinOk.pure rfl rfl rfl ⟨?_, rfl, rfl⟩
      rw [hC, if_pos (.inl h')]
    have hN : inR 0 999 s.next := by assumption
    refine LoopP.go (fun k : Nat => k ≤ s.sess.length ∧ (s.sess.take k).any (laterExtra s) = false) (fun k => ⟨[(0, .rp (servC s)), (5, iv k)], [], 0⟩) (fun k => s.sess.length - k) 0 ⟨Nat.zero_le _, rfl⟩ (Weak.of rfl rfl ktA trivial) ?_
    intro k ⟨hk, hp⟩
    refine Goes ?_
    repeat' first | refine W2.m ?_ ?_ | refine W1.m fun h => ?_ | fail
    · have hlt : k < s.sess.length := by omega
      rw [rowK sessR s.sess k hlt]
      refine ⟨by rw [hL]; exact ⟨by omega, by omega, rfl⟩, ?_⟩
      refine Goes ?_
      repeat' first | refine W2.m ?_ ?_ | refine W1.m fun h => ?_ | fail
      · have hq : laterExtra s s.sess[k] = true := decide_eq_true h
        rw [if_pos (.inr (any_at hlt hq))] at hC
        refine FinOk.pure rfl rfl rfl ⟨?_, rfl, rfl⟩
        rw [hC]
      · have hq : laterExtra s s.sess[k] = false := decide_eq_false h
        exact ⟨k + 1, ⟨by omega, by rw [any_take _ _ k hlt, hp, hq]; rfl⟩, by omega, (Weak.of rfl rfl ktA trivial)⟩
    · obtain rfl : k = s.sess.length := by omega
      rw [List.take_length] at hp
      rw [if_neg (fun h => by rcases h with h | h; exact h hN; rw [hp] at h; cases h)] at hC
      refine FinOk.pure rfl rfl rfl ⟨?_, rfl, rfl⟩
      rw [hC]
theorem specServerFault_ret (s : ServD) (n : Nat) (hf : FitsSv s) : Ret Try.prog 9 [servV s] [] n true (Is (iv (faultSv s)) [] n) := by
  refine Ret.fn ttOk Try.func9 rfl Try.call9 rfl rfl ?_
  refine Goes ?_
  repeat' first | refine W2.m ?_ ?_ | refine W1.m fun h => ?_ | fail
  refine CallP.convAIs (l10Fault_rp s _ hf) cvargsA rfl (by first | exact trivial | exact ⟨flat_ivs _, trivial⟩) ?_
  refine Goes ?_
  repeat' first | refine W2.m ?_ ?_ | refine W1.m fun h => ?_ | fail
  refine FinOk.pure rfl rfl rfl ⟨?_, rfl, rfl⟩
  rfl
theorem lawServerFault (s : ServD) (n : Nat) (hm : MemSv s) : Ret Try.prog 3 [servV s] [] n true (fun r _ _ => r = bv true) := by
  refine Ret.fn ttOk Try.func3 rfl Try.call3 rfl rfl ?_
  refine Goes ?_
  repeat' first | refine W2.m ?_ ?_ | refine W1.m fun h => ?_ | fail
  first | refine CallP.is (szServer_ret s 1048576 _ (by decide) (by decide) hm) rfl ?_ | refine CallQ.is (szServer_ret s 1048576 _ (by decide) (by decide) hm) rfl rfl ?_
  refine Goes ?_
  repeat' first | refine W2.m ?_ ?_ | refine W1.m fun h => ?_ | fail
  · exact FinOk.pure rfl rfl rfl rfl
  have hf : FitsSv s := fitsSv_of (by have := (leftI_pos h).2; omega)
  first | refine CallP.is (toServer_fr s _ hf) rfl ?_ | refine CallQ.is (toServer_fr s _ hf) rfl rfl ?_
  refine Goes ?_
  repeat' first | refine W2.m ?_ ?_ | refine W1.m fun h => ?_ | fail
  first | refine CallP.is (specServerFault_ret s _ hf) rfl ?_ | refine CallQ.is (specServerFault_ret s _ hf) rfl rfl ?_
  refine Goes ?_
  repeat' first | refine W2.m ?_ ?_ | refine W1.m fun h => ?_ | fail
  first | refine CallP.is (toServer_fr s _ hf) rfl ?_ | refine CallQ.is (toServer_fr s _ hf) rfl rfl ?_
  refine Goes ?_
  repeat' first | refine W2.m ?_ ?_ | refine W1.m fun h => ?_ | fail
  first | refine CallP.is (implServerFault_ret s _ hf) rfl ?_ | refine CallQ.is (implServerFault_ret s _ hf) rfl rfl ?_
  refine Goes ?_
  repeat' first | refine W2.m ?_ ?_ | refine W1.m fun h => ?_ | fail
  first | refine CallQ.is (toServer_fr s _ hf) rfl rfl ?_ | refine CallP.is (toServer_fr s _ hf) rfl ?_
  refine Goes ?_
  repeat' first | refine W2.m ?_ ?_ | refine W1.m fun h => ?_ | fail
  first | refine CallP.is (eqServer_yes s _ hf) rfl ?_ | refine CallQ.is (eqServer_yes s _ hf) rfl rfl ?_
  refine Goes ?_
  repeat' first | refine W2.m ?_ ?_ | refine W1.m fun h => ?_ | fail
  exact FinOk.pure rfl rfl rfl rfl
end Go.Proofs.Ythpboccokdhpnaa
