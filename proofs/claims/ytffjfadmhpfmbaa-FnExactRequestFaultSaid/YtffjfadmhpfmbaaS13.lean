/-
  CHAPTER 9: requests: RequestFault, both sides; its law.
-/
import Derived.Test.YtffjfadmhpfmbaaS0
import Derived.Test.YtffjfadmhpfmbaaP1
namespace Go.Proofs.Ytffjfadmhpfmbaa
open Go Go.Am Go.RowKit
set_option linter.unusedVariables false
set_option linter.unusedSimpArgs false
structure ReqD where
  id : Int
  method : Int
  args : List ByteArray
abbrev reqC (r : ReqD) : List AV := [iv r.id, iv r.method, .lst (r.args.map strR)]
abbrev reqV (r : ReqD) : AV := .agg (reqC r)
def sizeRq (r : ReqD) : Nat := r.args.length + psum ByteArray.size r.args
structure MemRq (r : ReqD) : Prop where
  len : r.args.length ≤ 9223372036854775807
  args : ∀ x ∈ r.args, x.size ≤ 9223372036854775807
  id : isI64 r.id
  method : isI64 r.method
structure FitsRq (r : ReqD) : Prop where
  len : r.args.length ≤ 1048576
  args : ∀ x ∈ r.args, x.size ≤ 1048576
theorem fitsRq_of {r : ReqD} (h : sizeRq r ≤ 1048576) : FitsRq r := by
  unfold sizeRq at h
  exact ⟨by omega, fun x hx => by have := psum_mem ByteArray.size r.args x hx; omega⟩
theorem toRequest_fr (r : ReqD) (n : Nat) (h : FitsRq r) : Ret Try.prog 7 [reqV r] [] n true (Is (reqV r) [] n) := by
  refine Ret.fn ttOk Try.func7 rfl Try.call7 rfl rfl ?_
  refine Goes ?_
  repeat' first | refine W2.m ?_ ?_ | refine W1.m fun h => ?_ | fail
  first | refine CallP.is (toStringS_fr r.args _ h.len) rfl ?_ | refine CallQ.is (toStringS_fr r.args _ h.len) rfl rfl ?_
  refine Goes ?_
  repeat' first | refine W2.m ?_ ?_ | refine W1.m fun h => ?_ | fail
  refine FinOk.pure rfl rfl rfl ⟨?_, rfl, rfl⟩
  rfl
theorem szRequest_ret (r : ReqD) (l : Int) (n : Nat) (h0 : 0 ≤ l) (h1 : l ≤ 1048576) (hm : MemRq r) : Ret Try.prog 5 [reqV r, iv l] [] n true (Is (iv (leftI l (sizeRq r))) [] n) := by
  refine Ret.fn ttOk Try.func5 rfl Try.call5 rfl rfl ?_
  refine Goes ?_
  repeat' first | refine W2.m ?_ ?_ | refine W1.m fun h => ?_ | fail
  first | refine CallP.is (szStringS_ret r.args l _ h0 h1 hm.len hm.args) rfl ?_ | refine CallQ.is (szStringS_ret r.args l _ h0 h1 hm.len hm.args) rfl rfl ?_
  refine Goes ?_
  repeat' first | refine W2.m ?_ ?_ | refine W1.m fun h => ?_ | fail
  · have h' : leftI l (r.args.length + psum ByteArray.size r.args : Nat) < 0 := h
    refine FinOk.pure rfl rfl rfl ⟨?_, rfl, rfl⟩
    unfold sizeRq
    rw [(leftI_neg h' h0).1]
  · refine FinOk.pure rfl rfl rfl ⟨?_, rfl, rfl⟩
    rfl
theorem eqRequest_yes (r : ReqD) (n : Nat) (hf : FitsRq r) : Ret Try.prog 9 [reqV r, reqV r] [] n true (Is (bv true) [] n) := by
  refine Ret.fn ttOk Try.func9 rfl Try.call9 rfl rfl ?_
  refine Goes ?_
  repeat' first | refine W2.m ?_ ?_ | refine W1.m fun h => ?_ | fail
  first | refine CallP.is (eqStringS_yes r.args _ hf.len) rfl ?_ | refine CallQ.is (eqStringS_yes r.args _ hf.len) rfl rfl ?_
  refine Goes ?_
  repeat' first | refine W2.m ?_ ?_ | refine W1.m fun h => ?_ | fail
  refine FinOk.pure rfl rfl rfl ⟨?_, rfl, rfl⟩
  rfl
def argsTo (ws : List ByteArray) : Nat → Bool
  | 0 => true
  | k + 1 => argsTo ws k && argF (ws.getD k ⟨#[]⟩)
theorem argsTo_no {ws : List ByteArray} {k : Nat} (h' : argF (ws.getD k ⟨#[]⟩) = false) : ∀ {n : Nat}, k < n → argsTo ws n = false
  | 0, h => absurd h (Nat.not_lt_zero _)
  | n + 1, h => by
    rw [argsTo]
    by_cases hk : k = n
    · subst hk; rw [h', Bool.and_false]
    · rw [argsTo_no h' (by omega)]; rfl
def argsC (ws : List ByteArray) : Int := if 5 < ws.length then 2 else if argsTo ws ws.length = true then 0 else 5
theorem argsFault_ret (ws : List ByteArray) (n : Nat) (hl : ws.length ≤ 1048576) (hx : ∀ x ∈ ws, x.size ≤ 1048576) : Ret Try.prog 19 [.lst (ws.map strR)] [] n true (Is (iv (argsC ws)) [] n) := by
  have hL : (ws.map strR).length = ws.length := by simp
  refine Ret.fn ttOk Try.func19 rfl Try.call19 rfl rfl ?_
  refine Goes ?_
  repeat' first | refine W2.m ?_ ?_ | refine W1.m fun h => ?_ | fail
  · refine FinOk.pure rfl rfl rfl ⟨?_, rfl, rfl⟩
    unfold argsC; rw [if_pos (by omega)]
  have h5 : ¬ 5 < ws.length := by omega
  refine LoopP.go (fun k : Nat => k ≤ ws.length ∧ argsTo ws k = true) (fun k => ⟨[(8, .lst (ws.map strR)), (9, iv ws.length), (10, iv k)], [], 0⟩) (fun k => ws.length - k) 0 ⟨Nat.zero_le _, rfl⟩ ?_ ?_
  · rw [hL]; exact (Weak.of rfl rfl ktA trivial)
  intro k ⟨hk, hp⟩
  refine Goes ?_
  repeat' first | refine W2.m ?_ ?_ | refine W1.m fun h => ?_ | fail
  · have hlt : k < ws.length := by omega
    have hgd : ws.getD k ⟨#[]⟩ = ws[k] := by simp [List.getD_eq_getElem?_getD, hlt]
    have hA := fun n => isArg_ret ws[k] (hx _ (List.getElem_mem hlt)) n
    rw [rowK strR ws k hlt]
    refine ⟨by rw [hL]; exact ⟨by omega, by omega, rfl⟩, ?_⟩
    refine Goes ?_
    repeat' first | refine W2.m ?_ ?_ | refine W1.m fun h => ?_ | fail
    cases ha : argF ws[k] with
    | false =>
      rw [ha] at hA
      first | refine CallP.is (hA _) rfl ?_ | refine CallQ.is (hA _) rfl rfl ?_
      refine Goes ?_
      repeat' first | refine W2.m ?_ ?_ | refine W1.m fun h => ?_ | fail
      refine FinOk.pure rfl rfl rfl ⟨?_, rfl, rfl⟩
      unfold argsC; rw [if_neg h5, argsTo_no (by rw [hgd]; exact ha) hlt, if_neg (by simp)]
    | true =>
      rw [ha] at hA
      first | refine CallP.is (hA _) rfl ?_ | refine CallQ.is (hA _) rfl rfl ?_
      refine Goes ?_
      repeat' first | refine W2.m ?_ ?_ | refine W1.m fun h => ?_ | fail
      exact ⟨k + 1, ⟨by omega, by rw [argsTo, hp, hgd, ha]; rfl⟩, by omega, (Weak.of rfl rfl ktA trivial)⟩
  · obtain rfl : k = ws.length := by omega
    refine FinOk.pure rfl rfl rfl ⟨?_, rfl, rfl⟩
    unfold argsC; rw [if_neg h5, if_pos hp]
theorem l9Args_ret (ws : List ByteArray) (n : Nat) (hl : ws.length ≤ 1048576) (hx : ∀ x ∈ ws, x.size ≤ 1048576) : Ret Try.prog 26 [.lst (ws.map strR)] [] n true (Is (iv (argsC ws)) [] n) := by
  have hL : (ws.map strR).length = ws.length := by simp
  refine Ret.fn ttOk Try.func26 rfl Try.call26 rfl rfl ?_
  refine Goes ?_
  repeat' first | refine W2.m ?_ ?_ | refine W1.m fun h => ?_ | fail
  · refine FinOk.pure rfl rfl rfl ⟨?_, rfl, rfl⟩
    unfold argsC; rw [if_pos (by omega)]
  have h5 : ¬ 5 < ws.length := by omega
  refine LoopP.go (fun k : Nat => k ≤ ws.length ∧ argsTo ws k = true) (fun k => ⟨[(0, .lst (ws.map strR)), (3, iv k)], [], 0⟩) (fun k => ws.length - k) 0 ⟨Nat.zero_le _, rfl⟩ (Weak.of rfl rfl ktA trivial) ?_
  intro k ⟨hk, hp⟩
  refine Goes ?_
  repeat' first | refine W2.m ?_ ?_ | refine W1.m fun h => ?_ | fail
  · have hlt : k < ws.length := by omega
    have hgd : ws.getD k ⟨#[]⟩ = ws[k] := by simp [List.getD_eq_getElem?_getD, hlt]
    have hA := fun n => l9Arg_ret ws[k] (hx _ (List.getElem_mem hlt)) n
    rw [rowK strR ws k hlt]
    refine ⟨by rw [hL]; exact ⟨by omega, by omega, rfl⟩, ?_⟩
    refine Goes ?_
    repeat' first | refine W2.m ?_ ?_ | refine W1.m fun h => ?_ | fail
    cases ha : argF ws[k] with
    | false =>
      rw [ha] at hA
      first | refine CallP.is (hA _) rfl ?_ | refine CallQ.is (hA _) rfl rfl ?_
      refine Goes ?_
      repeat' first | refine W2.m ?_ ?_ | refine W1.m fun h => ?_ | fail
      refine FinOk.pure rfl rfl rfl ⟨?_, rfl, rfl⟩
      unfold argsC; rw [if_neg h5, argsTo_no (by rw [hgd]; exact ha) hlt, if_neg (by simp)]
    | true =>
      rw [ha] at hA
      first | refine CallP.is (hA _) rfl ?_ | refine CallQ.is (hA _) rfl rfl ?_
      refine Goes ?_
      repeat' first | refine W2.m ?_ ?_ | refine W1.m fun h => ?_ | fail
      exact ⟨k + 1, ⟨by omega, by rw [argsTo, hp, hgd, ha]; rfl⟩, by omega, (Weak.of rfl rfl ktA trivial)⟩
  · obtain rfl : k = ws.length := by omega
    refine FinOk.pure rfl rfl rfl ⟨?_, rfl, rfl⟩
    unfold argsC; rw [if_neg h5, if_pos hp]
def faultRq (r : ReqD) : Int := if inR 0 9999 r.id ∧ inR 1 3 r.method then argsC r.args else 3
theorem isId_ret (z : Int) (n : Nat) : Ret Try.prog 18 [iv z] [] n true (Is (bv (decide (inR 0 9999 z))) [] n) := by
  refine Ret.fn ttOk Try.func18 rfl Try.call18 rfl rfl ?_
  refine Goes ?_
  repeat' first | refine W2.m ?_ ?_ | refine W1.m fun h => ?_ | fail
  all_goals (refine FinOk.pure rfl rfl rfl ⟨bvI ?_, rfl, rfl⟩; simp [inR, *])
theorem implRequestFault_ret (r : ReqD) (n : Nat) (hf : FitsRq r) : Ret Try.prog 8 [reqV r] [] n true (Is (iv (faultRq r)) [] n) := by
  refine Ret.fn ttOk Try.func8 rfl Try.call8 rfl rfl ?_
  refine Goes ?_
  repeat' first | refine W2.m ?_ ?_ | refine W1.m fun h => ?_ | fail
  first | refine CallP.is (isId_ret r.id _) rfl ?_ | refine CallQ.is (isId_ret r.id _) rfl rfl ?_
  refine Goes ?_
  repeat' first | refine W2.m ?_ ?_ | refine W1.m fun h => ?_ | fail
  · have h1 : ¬ inR 0 9999 r.id := by assumption
    refine FinOk.pure rfl rfl rfl ⟨?_, rfl, rfl⟩
    unfold faultRq; rw [if_neg (fun h => h1 h.1)]
  · have h2 : ¬ inR 1 3 r.method := by unfold inR; omega
    refine FinOk.pure rfl rfl rfl ⟨?_, rfl, rfl⟩
    unfold faultRq; rw [if_neg (fun h => h2 h.2)]
  · have h2 : ¬ inR 1 3 r.method := by unfold inR; omega
    refine FinOk.pure rfl rfl rfl ⟨?_, rfl, rfl⟩
    unfold faultRq; rw [if_neg (fun h => h2 h.2)]
  · have h1 : inR 0 9999 r.id := by assumption
    have h2 : inR 1 3 r.method := by unfold inR; omega
    first | refine CallP.is (argsFault_ret r.args _ hf.len hf.args) rfl ?_ | refine CallQ.is (argsFault_ret r.args _ hf.len hf.args) rfl rfl ?_
    refine Goes ?_
    repeat' first | refine W2.m ?_ ?_ | refine W1.m fun h => ?_ | fail
    refine FinOk.pure rfl rfl rfl ⟨?_, rfl, rfl⟩
    unfold faultRq; rw [if_pos ⟨h1, h2⟩]
theorem l9Fault_rp (r : ReqD) (n : Nat) (hf : FitsRq r) : Ret Try.prog 16 [.rp (reqC r)] [] n true (Is (iv (faultRq r)) [] n) := by
  refine Ret.fn ttOk Try.func16 rfl Try.call16 rfl rfl ?_
  refine Goes ?_
  repeat' first | refine W2.m ?_ ?_ | refine W1.m fun h => ?_ | fail
  first | refine CallP.is (l1In_ret r.id 0 9999 _) rfl ?_ | refine CallQ.is (l1In_ret r.id 0 9999 _) rfl rfl ?_
  refine Goes ?_
  repeat' first | refine W2.m ?_ ?_ | refine W1.m fun h => ?_ | fail
  · have h1 : ¬ inR 0 9999 r.id := by assumption
    refine FinOk.pure rfl rfl rfl ⟨?_, rfl, rfl⟩
    unfold faultRq; rw [if_neg (fun h => h1 h.1)]
  have h1 : inR 0 9999 r.id := by assumption
  first | refine CallP.is (l1In_ret r.method 1 3 _) rfl ?_ | refine CallQ.is (l1In_ret r.method 1 3 _) rfl rfl ?_
  refine Goes ?_
  repeat' first | refine W2.m ?_ ?_ | refine W1.m fun h => ?_ | fail
  · have h2 : ¬ inR 1 3 r.method := by assumption
    refine FinOk.pure rfl rfl rfl ⟨?_, rfl, rfl⟩
    unfold faultRq; rw [if_neg (fun h => h2 h.2)]
  have h2 : inR 1 3 r.method := by assumption
  first | refine CallP.is (l9Args_ret r.args _ hf.len hf.args) rfl ?_ | refine CallQ.is (l9Args_ret r.args _ hf.len hf.args) rfl rfl ?_
  refine Goes ?_
  repeat' first | refine W2.m ?_ ?_ | refine W1.m fun h => ?_ | fail
  refine FinOk.pure rfl rfl rfl ⟨?_, rfl, rfl⟩
  unfold faultRq; rw [if_pos ⟨h1, h2⟩]
theorem specRequestFault_ret (r : ReqD) (n : Nat) (hf : FitsRq r) : Ret Try.prog 6 [reqV r] [] n true (Is (iv (faultRq r)) [] n) := by
  refine Ret.fn ttOk Try.func6 rfl Try.call6 rfl rfl ?_
  refine Goes ?_
  repeat' first | refine W2.m ?_ ?_ | refine W1.m fun h => ?_ | fail
  refine CallP.convAIs (l9Fault_rp r _ hf) cvargsA rfl (by first | exact trivial | exact ⟨flat_ivs _, trivial⟩) ?_
  refine Goes ?_
  repeat' first | refine W2.m ?_ ?_ | refine W1.m fun h => ?_ | fail
  refine FinOk.pure rfl rfl rfl ⟨?_, rfl, rfl⟩
  rfl
theorem lawRequestFault (r : ReqD) (n : Nat) (hm : MemRq r) : Ret Try.prog 3 [reqV r] [] n true (fun r _ _ => r = bv true) := by
  refine Ret.fn ttOk Try.func3 rfl Try.call3 rfl rfl ?_
  refine Goes ?_
  repeat' first | refine W2.m ?_ ?_ | refine W1.m fun h => ?_ | fail
  first | refine CallP.is (szRequest_ret r 1048576 _ (by decide) (by decide) hm) rfl ?_ | refine CallQ.is (szRequest_ret r 1048576 _ (by decide) (by decide) hm) rfl rfl ?_
  refine Goes ?_
  repeat' first | refine W2.m ?_ ?_ | refine W1.m fun h => ?_ | fail
  · exact FinOk.pure rfl rfl rfl rfl
  have hf : FitsRq r := fitsRq_of (by have := (leftI_pos h).2; omega)
  first | refine CallP.is (toRequest_fr r _ hf) rfl ?_ | refine CallQ.is (toRequest_fr r _ hf) rfl rfl ?_
  refine Goes ?_
  repeat' first | refine W2.m ?_ ?_ | refine W1.m fun h => ?_ | fail
  first | refine CallP.is (specRequestFault_ret r _ hf) rfl ?_ | refine CallQ.is (specRequestFault_ret r _ hf) rfl rfl ?_
  refine Goes ?_
  repeat' first | refine W2.m ?_ ?_ | refine W1.m fun h => ?_ | fail
  first | refine CallP.is (toRequest_fr r _ hf) rfl ?_ | refine CallQ.is (toRequest_fr r _ hf) rfl rfl ?_
  refine Goes ?_
  repeat' first | refine W2.m ?_ ?_ | refine W1.m fun h => ?_ | fail
  first | refine CallP.is (implRequestFault_ret r _ hf) rfl ?_ | refine CallQ.is (implRequestFault_ret r _ hf) rfl rfl ?_
  refine Goes ?_
  repeat' first | refine W2.m ?_ ?_ | refine W1.m fun h => ?_ | fail
  first | refine CallQ.is (toRequest_fr r _ hf) rfl rfl ?_ | refine CallP.is (toRequest_fr r _ hf) rfl ?_
  refine Goes ?_
  repeat' first | refine W2.m ?_ ?_ | refine W1.m fun h => ?_ | fail
  first | refine CallP.is (eqRequest_yes r _ hf) rfl ?_ | refine CallQ.is (eqRequest_yes r _ hf) rfl rfl ?_
  refine Goes ?_
  repeat' first | refine W2.m ?_ ?_ | refine W1.m fun h => ?_ | fail
  exact FinOk.pure rfl rfl rfl rfl
end Go.Proofs.Ytffjfadmhpfmbaa
