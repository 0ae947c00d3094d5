/-
  CHAPTER 10: the marks looked for; servers and their results: marks, comparisons.
-/
import Derived.Test.YthpboccokdhpnaaS7
namespace Go.Proofs.Ythpboccokdhpnaa
open Go Go.Am Go.RowKit
set_option linter.unusedVariables false
set_option linter.unusedSimpArgs false
theorem heldSessionS_rd (xs : List SessD) (m n : Nat) (hl : xs.length ≤ 1048576) (hm : m ≤ 900000000000) : Ret Try.prog 66 [.lst ((mkSes m xs).map sessR), iv m] [] n true (Is (iv ((m + 4 * xs.length : Nat) : Int)) [] n) := by
  obtain ⟨ys, hys⟩ : ∃ ys, ys = mkSes m xs := ⟨_, rfl⟩
  have hyl : ys.length = xs.length := by rw [hys, mkL_len]
  have hL : (ys.map sessR).length = xs.length := by simp [hyl]
  have hrow : ∀ k (h : k < xs.length), (ys.map sessR).getD (Int.toNat (k : Int)) [] = [sv (mkX (m + 4 * k)), iv ((m + 4 * k + 1 : Nat) : Int), sv (mkX (m + 4 * k + 2)), iv ((m + 4 * k + 3 : Nat) : Int)] := fun k h => by
    subst hys
    have e := nSes_eq (xs.take k) m
    rw [List.length_take, show min k xs.length = k by omega] at e
    rw [rowK sessR _ k (by rw [mkL_len]; exact h), mkL_at xs m k h (by rw [mkL_len]; exact h), e]; rfl
  rw [← hys]
  refine Ret.fn ttOk Try.func66 rfl Try.call66 rfl rfl ?_
  refine Goes ?_
  repeat' first | refine W2.m ?_ ?_ | refine W1.m fun h => ?_ | fail
  refine LoopP.go (fun k : Nat => k ≤ xs.length) (fun k => ⟨[(0, .lst (ys.map sessR)), (1, iv ((m + 4 * k : Nat) : Int)), (5, iv k)], [], 0⟩) (fun k => xs.length - k) 0 (Nat.zero_le _) (Weak.of rfl rfl ktA trivial) ?_
  intro k hk
  refine Goes ?_
  repeat' first | refine W2.m ?_ ?_ | refine W1.m fun h => ?_ | fail
  · have hlt : k < xs.length := by omega
    have hr := hrow k hlt
    have w1 : IntKind.i64.wrap (((m + 4 * k : Nat) : Int) + 1) = ((m + 4 * k + 1 : Nat) : Int) := by rw [IntWalk.i64_in _ (by omega)]; omega
    have w2 : IntKind.i64.wrap (((m + 4 * k + 1 : Nat) : Int) + 1) = ((m + 4 * k + 2 : Nat) : Int) := by rw [IntWalk.i64_in _ (by omega)]; omega
    have w3 : IntKind.i64.wrap (((m + 4 * k + 2 : Nat) : Int) + 1) = ((m + 4 * k + 3 : Nat) : Int) := by rw [IntWalk.i64_in _ (by omega)]; omega
    have w4 : IntKind.i64.wrap (((m + 4 * k + 3 : Nat) : Int) + 1) = ((m + 4 * (k + 1) : Nat) : Int) := by rw [IntWalk.i64_in _ (by omega)]; omega
    rw [hr]
    refine ⟨by rw [hL]; exact ⟨by omega, by omega, rfl⟩, ?_⟩
    refine Goes ?_
    repeat' first | refine W2.m ?_ ?_ | refine W1.m fun h => ?_ | fail
    first | refine CallQ.is (markText_ret (m + 4 * k) _ (by omega)) rfl rfl ?_ | refine CallP.is (markText_ret (m + 4 * k) _ (by omega)) rfl ?_
    refine Goes ?_
    repeat' first | refine W2.m ?_ ?_ | refine W1.m fun h => ?_ | fail
    simp only [beq_self_eq_true, Bool.not_true]
    refine Goes ?_
    repeat' first | refine W2.m ?_ ?_ | refine W1.m fun h => ?_ | fail
    rw [w1, hr]
    refine ⟨by rw [hL]; exact ⟨by omega, by omega, rfl⟩, ?_⟩
    refine Goes ?_
    repeat' first | refine W2.m ?_ ?_ | refine W1.m fun h => ?_ | fail
    rw [w2, hr]
    refine ⟨by rw [hL]; exact ⟨by omega, by omega, rfl⟩, ?_⟩
    refine Goes ?_
    repeat' first | refine W2.m ?_ ?_ | refine W1.m fun h => ?_ | fail
    first | refine CallQ.is (markText_ret (m + 4 * k + 2) _ (by omega)) rfl rfl ?_ | refine CallP.is (markText_ret (m + 4 * k + 2) _ (by omega)) rfl ?_
    refine Goes ?_
    repeat' first | refine W2.m ?_ ?_ | refine W1.m fun h => ?_ | fail
    simp only [beq_self_eq_true, Bool.not_true]
    refine Goes ?_
    repeat' first | refine W2.m ?_ ?_ | refine W1.m fun h => ?_ | fail
    rw [w3, hr]
    refine ⟨by rw [hL]; exact ⟨by omega, by omega, rfl⟩, ?_⟩
    refine Goes ?_
    repeat' first | refine W2.m ?_ ?_ | refine W1.m fun h => ?_ | fail
    rw [w4]
    exact ⟨k + 1, by omega, by omega, (Weak.of rfl rfl ktA trivial)⟩
  · obtain rfl : k = xs.length := by omega
    refine FinOk.pure rfl rfl rfl ⟨?_, rfl, rfl⟩
    rfl
abbrev sessO (i : Nat) (xs : List SessD) : Nat × AObj := (i, .list 54 4 (xs.map sessR))
theorem toServer_own (s : ServD) (n : Nat) (h : FitsSv s) : Ret Try.prog 10 [servV s] [] n true (Is (.agg [.own n s.sess.length, iv s.next]) [sessO n s.sess] (n + 1)) := by
  refine Ret.fn ttOk Try.func10 rfl Try.call10 rfl rfl ?_
  refine Goes ?_
  repeat' first | refine W2.m ?_ ?_ | refine W1.m fun h => ?_ | fail
  first | refine CallP.is (toSessionS_ret s.sess _ h.len fun x hx n => toSession_fr x n) rfl ?_ | refine CallQ.is (toSessionS_ret s.sess _ h.len fun x hx n => toSession_fr x n) rfl rfl ?_
  refine Goes ?_
  repeat' first | refine W2.m ?_ ?_ | refine W1.m fun h => ?_ | fail
  refine FinOk.mk' [3] rfl rfl rfl rfl rfl rfl rfl ⟨?_, ?_, rfl⟩
  · rfl
  · rfl
theorem markServer_own (z : Int) (xs : List SessD) (i m n : Nat) (hl : xs.length ≤ 1048576) (hm : m ≤ 900000000000) :
    Ret Try.prog 16 [.agg [.own i xs.length, iv z], iv m] [sessO i xs] n true (Is (iv ((m + 4 * xs.length : Nat) : Int)) [sessO i (mkSes m xs)] n) := by
  refine Ret.of_run (tt := tt) ttOk Try.func16 rfl Try.call16 [i] [.list 54 4 (xs.map sessR)] [.agg [.own 0 xs.length, iv z], iv m] true n _ rfl (nodup1 i) (by exact Nat.le_of_ble_eq_true rfl) rfl rfl ?_
  refine Goes ?_
  repeat' first | refine W2.m ?_ ?_ | refine W1.m fun h => ?_ | fail
  refine CallP.heapIs (markSessionS_own xs 0 m _ hl hm) rfl ktA rfl ?_
  refine Goes ?_
  repeat' first | refine W2.m ?_ ?_ | refine W1.m fun h => ?_ | fail
  refine FinOk.mk' [] rfl rfl rfl rfl rfl rfl rfl ⟨?_, ?_, rfl⟩
  · rfl
  · rfl
theorem heldServer_rd (z : Int) (xs : List SessD) (m n : Nat) (hl : xs.length ≤ 1048576) (hm : m ≤ 900000000000) : Ret Try.prog 46 [.agg [.lst ((mkSes m xs).map sessR), iv z], iv m] [] n true (Is (iv ((m + 4 * xs.length : Nat) : Int)) [] n) := by
  refine Ret.fn ttOk Try.func46 rfl Try.call46 rfl rfl ?_
  refine Goes ?_
  repeat' first | refine W2.m ?_ ?_ | refine W1.m fun h => ?_ | fail
  first | refine CallP.is (heldSessionS_rd xs m _ hl hm) rfl ?_ | refine CallQ.is (heldSessionS_rd xs m _ hl hm) rfl rfl ?_
  refine Goes ?_
  repeat' first | refine W2.m ?_ ?_ | refine W1.m fun h => ?_ | fail
  all_goals first
    | (exfalso; omega)
    | (refine FinOk.pure rfl rfl rfl ⟨?_, rfl, rfl⟩
       rfl)
/-! ### a server's result without lines and acts -/
abbrev svRes (c : Int) (s : AV) (z : Int) : AV := .agg [iv c, nl, nl, s, iv z]
abbrev svResR (c : Int) (s : List SessD) (z : Int) : AV := .agg [iv c, .lst [], .lst [], .lst (s.map sessR), iv z]
theorem markStringS_nil (m : Int) (n : Nat) : Ret Try.prog 42 [nl, iv m] [] n true (Is (iv m) [] n) := by
  refine Ret.fn ttOk Try.func42 rfl Try.call42 rfl rfl ?_
  refine Goes ?_
  repeat' first | refine W2.m ?_ ?_ | refine W1.m fun h => ?_ | fail
  refine LoopP.go (fun _ : Unit => True) (fun _ => ⟨[(0, nl), (1, iv m), (5, iv 0)], [], 0⟩) (fun _ => 0) () trivial (Weak.of rfl rfl ktA trivial) ?_
  intro _ _
  refine Goes ?_
  repeat' first | refine W2.m ?_ ?_ | refine W1.m fun h => ?_ | fail
  refine FinOk.pure rfl rfl rfl ⟨?_, rfl, rfl⟩
  rfl
theorem markActS_nil (m : Int) (n : Nat) : Ret Try.prog 43 [nl, iv m] [] n true (Is (iv m) [] n) := by
  refine Ret.fn ttOk Try.func43 rfl Try.call43 rfl rfl ?_
  refine Goes ?_
  repeat' first | refine W2.m ?_ ?_ | refine W1.m fun h => ?_ | fail
  refine LoopP.go (fun _ : Unit => True) (fun _ => ⟨[(0, nl), (1, iv m), (5, iv 0)], [], 0⟩) (fun _ => 0) () trivial (Weak.of rfl rfl ktA trivial) ?_
  intro _ _
  refine Goes ?_
  repeat' first | refine W2.m ?_ ?_ | refine W1.m fun h => ?_ | fail
  refine FinOk.pure rfl rfl rfl ⟨?_, rfl, rfl⟩
  rfl
theorem markSessionS_nil (m : Int) (n : Nat) : Ret Try.prog 41 [nl, iv m] [] n true (Is (iv m) [] n) := by
  refine Ret.fn ttOk Try.func41 rfl Try.call41 rfl rfl ?_
  refine Goes ?_
  repeat' first | refine W2.m ?_ ?_ | refine W1.m fun h => ?_ | fail
  refine LoopP.go (fun _ : Unit => True) (fun _ => ⟨[(0, nl), (1, iv m), (5, iv 0)], [], 0⟩) (fun _ => 0) () trivial (Weak.of rfl rfl ktA trivial) ?_
  intro _ _
  refine Goes ?_
  repeat' first | refine W2.m ?_ ?_ | refine W1.m fun h => ?_ | fail
  refine FinOk.pure rfl rfl rfl ⟨?_, rfl, rfl⟩
  rfl
theorem markServer_nil (z m : Int) (n : Nat) : Ret Try.prog 16 [.agg [nl, iv z], iv m] [] n true (Is (iv m) [] n) := by
  refine Ret.fn ttOk Try.func16 rfl Try.call16 rfl rfl ?_
  refine Goes ?_
  repeat' first | refine W2.m ?_ ?_ | refine W1.m fun h => ?_ | fail
  first | refine CallP.is (markSessionS_nil m _) rfl ?_ | refine CallQ.is (markSessionS_nil m _) rfl rfl ?_
  refine Goes ?_
  repeat' first | refine W2.m ?_ ?_ | refine W1.m fun h => ?_ | fail
  refine FinOk.pure rfl rfl rfl ⟨?_, rfl, rfl⟩
  rfl
theorem heldStringS_no (m : Int) (n : Nat) : Ret Try.prog 44 [.lst [], iv m] [] n true (Is (iv m) [] n) := by
  refine Ret.fn ttOk Try.func44 rfl Try.call44 rfl rfl ?_
  refine Goes ?_
  repeat' first | refine W2.m ?_ ?_ | refine W1.m fun h => ?_ | fail
  refine LoopP.go (fun _ : Unit => True) (fun _ => ⟨[(0, .lst []), (1, iv m), (5, iv 0)], [], 0⟩) (fun _ => 0) () trivial (Weak.of rfl rfl ktA trivial) ?_
  intro _ _
  refine Goes ?_
  repeat' first | refine W2.m ?_ ?_ | refine W1.m fun h => ?_ | fail
  refine FinOk.pure rfl rfl rfl ⟨?_, rfl, rfl⟩
  rfl
theorem heldActS_no (m : Int) (n : Nat) : Ret Try.prog 45 [.lst [], iv m] [] n true (Is (iv m) [] n) := by
  refine Ret.fn ttOk Try.func45 rfl Try.call45 rfl rfl ?_
  refine Goes ?_
  repeat' first | refine W2.m ?_ ?_ | refine W1.m fun h => ?_ | fail
  refine LoopP.go (fun _ : Unit => True) (fun _ => ⟨[(0, .lst []), (1, iv m), (5, iv 0)], [], 0⟩) (fun _ => 0) () trivial (Weak.of rfl rfl ktA trivial) ?_
  intro _ _
  refine Goes ?_
  repeat' first | refine W2.m ?_ ?_ | refine W1.m fun h => ?_ | fail
  refine FinOk.pure rfl rfl rfl ⟨?_, rfl, rfl⟩
  rfl
theorem markServerResult_own (c z : Int) (xs : List SessD) (i m n : Nat) (hl : xs.length ≤ 1048576) (hm : m ≤ 900000000000) :
    Ret Try.prog 17 [svRes c (.own i xs.length) z, iv m] [sessO i xs] n true (Is (iv ((m + 4 * xs.length : Nat) : Int)) [sessO i (mkSes m xs)] n) := by
  refine Ret.of_run (tt := tt) ttOk Try.func17 rfl Try.call17 [i] [.list 54 4 (xs.map sessR)] [svRes c (.own 0 xs.length) z, iv m] true n _ rfl (nodup1 i) (by exact Nat.le_of_ble_eq_true rfl) rfl rfl ?_
  refine Goes ?_
  repeat' first | refine W2.m ?_ ?_ | refine W1.m fun h => ?_ | fail
  first | refine CallP.is (markStringS_nil m _) rfl ?_ | refine CallQ.is (markStringS_nil m _) rfl rfl ?_
  refine Goes ?_
  repeat' first | refine W2.m ?_ ?_ | refine W1.m fun h => ?_ | fail
  first | refine CallP.is (markActS_nil m _) rfl ?_ | refine CallQ.is (markActS_nil m _) rfl rfl ?_
  refine Goes ?_
  repeat' first | refine W2.m ?_ ?_ | refine W1.m fun h => ?_ | fail
  refine CallP.heapIs (markServer_own z xs 0 m _ hl hm) rfl ktA rfl ?_
  refine Goes ?_
  repeat' first | refine W2.m ?_ ?_ | refine W1.m fun h => ?_ | fail
  refine FinOk.mk' [] rfl rfl rfl rfl rfl rfl rfl ⟨?_, ?_, rfl⟩
  · rfl
  · rfl
theorem markServerResult_nil (c z m : Int) (n : Nat) : Ret Try.prog 17 [svRes c nl z, iv m] [] n true (Is (iv m) [] n) := by
  refine Ret.fn ttOk Try.func17 rfl Try.call17 rfl rfl ?_
  refine Goes ?_
  repeat' first | refine W2.m ?_ ?_ | refine W1.m fun h => ?_ | fail
  first | refine CallP.is (markStringS_nil m _) rfl ?_ | refine CallQ.is (markStringS_nil m _) rfl rfl ?_
  refine Goes ?_
  repeat' first | refine W2.m ?_ ?_ | refine W1.m fun h => ?_ | fail
  first | refine CallP.is (markActS_nil m _) rfl ?_ | refine CallQ.is (markActS_nil m _) rfl rfl ?_
  refine Goes ?_
  repeat' first | refine W2.m ?_ ?_ | refine W1.m fun h => ?_ | fail
  first | refine CallP.is (markServer_nil z m _) rfl ?_ | refine CallQ.is (markServer_nil z m _) rfl rfl ?_
  refine Goes ?_
  repeat' first | refine W2.m ?_ ?_ | refine W1.m fun h => ?_ | fail
  refine FinOk.pure rfl rfl rfl ⟨?_, rfl, rfl⟩
  rfl
theorem heldServerResult_rd (c z : Int) (xs : List SessD) (m n : Nat) (hl : xs.length ≤ 1048576) (hm : m ≤ 900000000000) : Ret Try.prog 18 [svResR c (mkSes m xs) z, iv m] [] n true (Is (iv ((m + 4 * xs.length : Nat) : Int)) [] n) := by
  refine Ret.fn ttOk Try.func18 rfl Try.call18 rfl rfl ?_
  refine Goes ?_
  repeat' first | refine W2.m ?_ ?_ | refine W1.m fun h => ?_ | fail
  first | refine CallP.is (heldStringS_no m _) rfl ?_ | refine CallQ.is (heldStringS_no m _) rfl rfl ?_
  refine Goes ?_
  repeat' first | refine W2.m ?_ ?_ | refine W1.m fun h => ?_ | fail
  first | refine CallP.is (heldActS_no m _) rfl ?_ | refine CallQ.is (heldActS_no m _) rfl rfl ?_
  refine Goes ?_
  repeat' first | refine W2.m ?_ ?_ | refine W1.m fun h => ?_ | fail
  first | refine CallP.is (heldServer_rd z xs m _ hl hm) rfl ?_ | refine CallQ.is (heldServer_rd z xs m _ hl hm) rfl rfl ?_
  refine Goes ?_
  repeat' first | refine W2.m ?_ ?_ | refine W1.m fun h => ?_ | fail
  all_goals first
    | (exfalso; omega)
    | (refine FinOk.pure rfl rfl rfl ⟨?_, rfl, rfl⟩
       rfl)
theorem eqStringS_no (n : Nat) : Ret Try.prog 39 [.lst [], .lst []] [] n true (Is (bv true) [] n) := by
  refine Ret.fn ttOk Try.func39 rfl Try.call39 rfl rfl ?_
  refine Goes ?_
  repeat' first | refine W2.m ?_ ?_ | refine W1.m fun h => ?_ | fail
  refine LoopP.go (fun _ : Unit => True) (fun _ => ⟨[(0, .lst []), (1, .lst []), (5, iv 0)], [], 0⟩) (fun _ => 0) () trivial (Weak.of rfl rfl ktA trivial) ?_
  intro _ _
  refine Goes ?_
  repeat' first | refine W2.m ?_ ?_ | refine W1.m fun h => ?_ | fail
  refine FinOk.pure rfl rfl rfl ⟨?_, rfl, rfl⟩
  rfl
theorem eqActS_no (n : Nat) : Ret Try.prog 40 [.lst [], .lst []] [] n true (Is (bv true) [] n) := by
  refine Ret.fn ttOk Try.func40 rfl Try.call40 rfl rfl ?_
  refine Goes ?_
  repeat' first | refine W2.m ?_ ?_ | refine W1.m fun h => ?_ | fail
  refine LoopP.go (fun _ : Unit => True) (fun _ => ⟨[(0, .lst []), (1, .lst []), (5, iv 0)], [], 0⟩) (fun _ => 0) () trivial (Weak.of rfl rfl ktA trivial) ?_
  intro _ _
  refine Goes ?_
  repeat' first | refine W2.m ?_ ?_ | refine W1.m fun h => ?_ | fail
  refine FinOk.pure rfl rfl rfl ⟨?_, rfl, rfl⟩
  rfl
theorem eqServerResult_yes (c z : Int) (xs : List SessD) (n : Nat) (hf : FitsSv ⟨xs, z⟩) : Ret Try.prog 15 [svResR c xs z, svResR c xs z] [] n true (Is (bv true) [] n) := by
  refine Ret.fn ttOk Try.func15 rfl Try.call15 rfl rfl ?_
  refine Goes ?_
  repeat' first | refine W2.m ?_ ?_ | refine W1.m fun h => ?_ | fail
  first | refine CallP.is (eqStringS_no _) rfl ?_ | refine CallQ.is (eqStringS_no _) rfl rfl ?_
  refine Goes ?_
  repeat' first | refine W2.m ?_ ?_ | refine W1.m fun h => ?_ | fail
  first | refine CallP.is (eqActS_no _) rfl ?_ | refine CallQ.is (eqActS_no _) rfl rfl ?_
  refine Goes ?_
  repeat' first | refine W2.m ?_ ?_ | refine W1.m fun h => ?_ | fail
  first | refine CallP.is (eqServer_yes ⟨xs, z⟩ _ hf) rfl ?_ | refine CallQ.is (eqServer_yes ⟨xs, z⟩ _ hf) rfl rfl ?_
  refine Goes ?_
  repeat' first | refine W2.m ?_ ?_ | refine W1.m fun h => ?_ | fail
  refine FinOk.pure rfl rfl rfl ⟨?_, rfl, rfl⟩
  rfl
end Go.Proofs.Ythpboccokdhpnaa
