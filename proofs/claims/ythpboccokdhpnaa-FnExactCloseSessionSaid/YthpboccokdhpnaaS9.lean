/-
  CHAPTER 10: OpenSession, both sides; its law.
-/
import Derived.Test.YthpboccokdhpnaaAmX
import Derived.Test.YthpboccokdhpnaaS6
import Derived.Test.YthpboccokdhpnaaS8
namespace Go.Proofs.Ythpboccokdhpnaa
open Go Go.Am Go.RowKit
set_option linter.unusedVariables false
set_option linter.unusedSimpArgs false
theorem cloneSess_full (xs : List SessD) (n : Nat) (hl : xs.length ≤ 1048576) (hne : xs ≠ []) : Ret Try.prog 63 [.lst (xs.map sessR)] [] n true (Is (.own n xs.length) [(n, .list 54 4 (xs.map sessR))] (n + 1)) := by
  have hL : (xs.map sessR).length = xs.length := by simp
  refine Ret.fn ttOk Try.func63 rfl Try.call63 rfl rfl ?_
  refine Goes ?_
  repeat' first | refine W2.m ?_ ?_ | refine W1.m fun h => ?_ | fail
  refine ⟨by simpa using hne, ?_⟩
  refine Goes ?_
  repeat' first | refine W2.m ?_ ?_ | refine W1.m fun h => ?_ | fail
  refine ⟨⟨lenA, by rw [hL]; show _ * 48 ≤ _; omega, by rw [hL]; unfold maxLen; omega, trivial, fun r hr => by obtain ⟨x, _, rfl⟩ := List.mem_map.1 hr; rfl⟩, ?_⟩
  refine Goes ?_
  repeat' first | refine W2.m ?_ ?_ | refine W1.m fun h => ?_ | fail
  refine FinOk.mk' [0] rfl rfl rfl rfl rfl rfl rfl ⟨?_, ?_, rfl⟩
  · exact ownI (by simp)
  · exact objI (by simp)
theorem cloneSess_nil (cap : Nat) (n : Nat) : Ret Try.prog 63 [.val (.slice none 0 cap)] [] n true (Is nl [] n) := by
  refine Ret.fn ttOk Try.func63 rfl Try.call63 rfl rfl ?_
  refine Goes ?_
  repeat' first | refine W2.m ?_ ?_ | refine W1.m fun h => ?_ | fail
  refine FinOk.pure rfl rfl rfl ⟨?_, rfl, rfl⟩
  rfl
theorem cloneSess_emp (a : Addr) (cap : Nat) (n : Nat) : Ret Try.prog 63 [.val (.slice (some a) 0 cap)] [] n true (Is (.own n 0) [(n, .list 54 4 [])] (n + 1)) := by
  refine Ret.fn ttOk Try.func63 rfl Try.call63 rfl rfl ?_
  refine Goes ?_
  repeat' first | refine W2.m ?_ ?_ | refine W1.m fun h => ?_ | fail
  refine FinOk.mk' [0] rfl rfl rfl rfl rfl rfl rfl ⟨?_, ?_, rfl⟩
  · rfl
  · rfl
theorem cloneSess_own (xs : List SessD) (n : Nat) (hl : xs.length ≤ 1048576) : Ret Try.prog 63 [.lst (xs.map sessR)] [] n true (Is (.own n xs.length) [(n, .list 54 4 (xs.map sessR))] (n + 1)) := by
  by_cases h : xs = []
  · subst h
    refine Ret.emp fun a cap => ?_
    cases a with
    | none => exact Ret.ownNil (e := 54) (s := 4) (by decide) (fun r ho m ⟨h1, h2, h3⟩ => .inr ⟨h1, h2, h3, rfl, rfl, rfl⟩) (cloneSess_nil cap n)
    | some a => exact cloneSess_emp a cap n
  · exact cloneSess_full xs n hl h
theorem copyOfServer_own (s : ServD) (n : Nat) (hl : s.sess.length ≤ 1048576) : Ret Try.prog 38 [servV s] [] n true (Is (.agg [.own n s.sess.length, iv s.next]) [sessO n s.sess] (n + 1)) := by
  refine Ret.fn ttOk Try.func38 rfl Try.call38 rfl rfl ?_
  refine Goes ?_
  repeat' first | refine W2.m ?_ ?_ | refine W1.m fun h => ?_ | fail
  first | refine CallP.is (cloneSess_own s.sess _ hl) rfl ?_ | refine CallQ.is (cloneSess_own s.sess _ hl) rfl rfl ?_
  refine Goes ?_
  repeat' first | refine W2.m ?_ ?_ | refine W1.m fun h => ?_ | fail
  refine FinOk.mk' [2] rfl rfl rfl rfl rfl rfl rfl ⟨?_, ?_, rfl⟩
  · rfl
  · rfl
theorem l10Copy_own (s : ServD) (n : Nat) (hl : s.sess.length ≤ 1048576) : Ret Try.prog 37 [servV s] [] n true (Is (.agg [.own n s.sess.length, iv s.next]) [sessO n s.sess] (n + 1)) := by
  have hL : (s.sess.map sessR).length = s.sess.length := by simp
  have hz : 0 + (s.sess.map sessR).length = s.sess.length := by simp
  refine Ret.fn ttOk Try.func37 rfl Try.call37 rfl rfl ?_
  refine Goes ?_
  repeat' first | refine W2.m ?_ ?_ | refine W1.m fun h => ?_ | fail
  all_goals
    refine ⟨⟨Nat.le_refl _, by rw [hL]; show (0 + s.sess.length) * 48 ≤ _; omega, by rw [hL]; unfold maxLen; omega, trivial, fun r hr => by obtain ⟨x, _, rfl⟩ := List.mem_map.1 hr; rfl⟩, ?_⟩
    refine Goes ?_
    repeat' first | refine W2.m ?_ ?_ | refine W1.m fun h => ?_ | fail
  all_goals
    refine FinOk.mk' [2] rfl rfl rfl rfl rfl rfl rfl ⟨?_, ?_, rfl⟩
    · rw [hz]; rfl
    · rfl
theorem l10Bad_ret (c : Int) (n : Nat) : Ret Try.prog 36 [iv c] [] n true (Is (.agg [iv c, nl, nl, nl, iv 0]) [] n) := by
  refine Ret.fn ttOk Try.func36 rfl Try.call36 rfl rfl ?_
  refine Goes ?_
  repeat' first | refine W2.m ?_ ?_ | refine W1.m fun h => ?_ | fail
  refine FinOk.pure rfl rfl rfl ⟨?_, rfl, rfl⟩
  rfl
def openC (s : ServD) : Int := if ¬ faultSv s = 0 then faultSv s else if s.sess.length = 4 then 10 else 0
def openS (s : ServD) : List SessD := s.sess ++ [⟨⟨#[]⟩, -1, ⟨#[]⟩, 1⟩]
theorem faultSv_len {s : ServD} (h : faultSv s = 0) : s.sess.length ≤ 4 := by
  unfold faultSv at h
  split at h
  · cases h
  · omega
theorem openC_bad {s : ServD} (h : ¬ faultSv s = 0) : openC s = faultSv s := by unfold openC; rw [if_pos h]
theorem openC_full {s : ServD} (h : faultSv s = 0) (h4 : s.sess.length = 4) : openC s = 10 := by unfold openC; rw [if_neg (fun k => k h), if_pos h4]
theorem openC_ok {s : ServD} (h : openC s = 0) : faultSv s = 0 ∧ ¬ s.sess.length = 4 := by
  unfold openC at h
  split at h
  · exact absurd h (by assumption)
  · split at h
    · cases h
    · exact ⟨Decidable.not_not.1 (by assumption), by assumption⟩
theorem implOpen_bad (s : ServD) (n : Nat) (hf : FitsSv s) (hc : openC s ≠ 0) : Ret Try.prog 14 [servV s] [] n true (Is (svRes (openC s) nl 0) [] n) := by
  have hL : (s.sess.map sessR).length = s.sess.length := by simp
  refine Ret.fn ttOk Try.func14 rfl Try.call14 rfl rfl ?_
  refine Goes ?_
  repeat' first | refine W2.m ?_ ?_ | refine W1.m fun h => ?_ | fail
  first | refine CallP.is (implServerFault_ret s _ hf) rfl ?_ | refine CallQ.is (implServerFault_ret s _ hf) rfl rfl ?_
  refine Goes ?_
  repeat' first | refine W2.m ?_ ?_ | refine W1.m fun h => ?_ | fail
  · have h1 : ¬ faultSv s = 0 := h
    refine FinOk.pure rfl rfl rfl ⟨?_, rfl, rfl⟩
    rw [openC_bad h1]
  · have h1 : faultSv s = 0 := Decidable.not_not.1 (by assumption)
    refine FinOk.pure rfl rfl rfl ⟨?_, rfl, rfl⟩
    rw [openC_full h1 (by omega)]
  · exfalso
    have h1 : faultSv s = 0 := Decidable.not_not.1 (by assumption)
    refine hc ?_
    unfold openC
    rw [if_neg (fun k => k h1), if_neg (by omega)]
theorem implOpen_ok (s : ServD) (n : Nat) (hf : FitsSv s) (hc : openC s = 0) : Ret Try.prog 14 [servV s] [] n true (Is (svRes 0 (.own n (s.sess.length + 1)) s.next) [sessO n (openS s)] (n + 1)) := by
  have hL : (s.sess.map sessR).length = s.sess.length := by simp
  have hll := hf.len
  obtain ⟨h0, h4⟩ := openC_ok hc
  have hS := fun n => implServerFault_ret s n hf
  rw [h0] at hS
  refine Ret.fn ttOk Try.func14 rfl Try.call14 rfl rfl ?_
  refine Goes ?_
  repeat' first | refine W2.m ?_ ?_ | refine W1.m fun h => ?_ | fail
  first | refine CallP.is (hS _) rfl ?_ | refine CallQ.is (hS _) rfl rfl ?_
  refine Goes ?_
  repeat' first | refine W2.m ?_ ?_ | refine W1.m fun h => ?_ | fail
  first | refine CallP.is (copyOfServer_own s _ hf.len) rfl ?_ | refine CallQ.is (copyOfServer_own s _ hf.len) rfl rfl ?_
  refine Goes ?_
  repeat' first | refine W2.m ?_ ?_ | refine W1.m fun h => ?_ | fail
  refine ⟨⟨by omega, by show (s.sess.length + 1) * 48 ≤ _; omega, by show s.sess.length + 1 ≤ _; unfold maxLen; omega, Nat.le_refl _, fun r hr => ?_⟩, ?_⟩
  · simp only [List.take_succ_cons, List.take_zero, List.mem_singleton] at hr
    subst hr; rfl
  refine Goes ?_
  repeat' first | refine W2.m ?_ ?_ | refine W1.m fun h => ?_ | fail
  refine FinOk.mk' [2] rfl rfl rfl rfl rfl rfl rfl ⟨?_, ?_, rfl⟩
  · rfl
  · exact objI (by rw [List.take_of_length_le (by omega)]; simp [openS])
theorem specOpen_bad (s : ServD) (n : Nat) (hf : FitsSv s) (hc : openC s ≠ 0) : Ret Try.prog 13 [servV s] [] n true (Is (svRes (openC s) nl 0) [] n) := by
  have hL : (s.sess.map sessR).length = s.sess.length := by simp
  refine Ret.fn ttOk Try.func13 rfl Try.call13 rfl rfl ?_
  refine Goes ?_
  repeat' first | refine W2.m ?_ ?_ | refine W1.m fun h => ?_ | fail
  refine CallP.convAIs (l10Fault_rp s _ hf) cvargsA rfl (by first | exact trivial | exact ⟨flat_ivs _, trivial⟩) ?_
  refine Goes ?_
  repeat' first | refine W2.m ?_ ?_ | refine W1.m fun h => ?_ | fail
  · have h1 : ¬ faultSv s = 0 := h
    first | refine CallP.is (l10Bad_ret _ _) rfl ?_ | refine CallQ.is (l10Bad_ret _ _) rfl rfl ?_
    refine Goes ?_
    repeat' first | refine W2.m ?_ ?_ | refine W1.m fun h => ?_ | fail
    refine FinOk.pure rfl rfl rfl ⟨?_, rfl, rfl⟩
    rw [openC_bad h1]
  · have h1 : faultSv s = 0 := Decidable.not_not.1 (by assumption)
    have h2 := faultSv_len h1
    first | refine CallP.is (l10Bad_ret _ _) rfl ?_ | refine CallQ.is (l10Bad_ret _ _) rfl rfl ?_
    refine Goes ?_
    repeat' first | refine W2.m ?_ ?_ | refine W1.m fun h => ?_ | fail
    refine FinOk.pure rfl rfl rfl ⟨?_, rfl, rfl⟩
    rw [openC_full h1 (by omega)]
  · exfalso
    have h1 : faultSv s = 0 := Decidable.not_not.1 (by assumption)
    refine hc ?_
    unfold openC
    rw [if_neg (fun k => k h1), if_neg (by omega)]
theorem specOpen_ok (s : ServD) (n : Nat) (hf : FitsSv s) (hc : openC s = 0) : Ret Try.prog 13 [servV s] [] n true (Is (svRes 0 (.own n (s.sess.length + 1)) s.next) [sessO n (openS s)] (n + 1)) := by
  have hL : (s.sess.map sessR).length = s.sess.length := by simp
  have hll := hf.len
  obtain ⟨h0, h4⟩ := openC_ok hc
  have h2 := faultSv_len h0
  have hS := fun n => l10Fault_rp s n hf
  rw [h0] at hS
  refine Ret.fn ttOk Try.func13 rfl Try.call13 rfl rfl ?_
  refine Goes ?_
  repeat' first | refine W2.m ?_ ?_ | refine W1.m fun h => ?_ | fail
  refine CallP.convAIs (hS _) cvargsA rfl (by first | exact trivial | exact ⟨flat_ivs _, trivial⟩) ?_
  refine Goes ?_
  repeat' first | refine W2.m ?_ ?_ | refine W1.m fun h => ?_ | fail
  first | refine CallP.is (l10Copy_own s _ hf.len) rfl ?_ | refine CallQ.is (l10Copy_own s _ hf.len) rfl rfl ?_
  refine Goes ?_
  repeat' first | refine W2.m ?_ ?_ | refine W1.m fun h => ?_ | fail
  refine ⟨⟨by omega, by show (s.sess.length + 1) * 48 ≤ _; omega, by show s.sess.length + 1 ≤ _; unfold maxLen; omega, Nat.le_refl _, fun r hr => ?_⟩, ?_⟩
  · simp only [List.take_succ_cons, List.take_zero, List.mem_singleton] at hr
    subst hr; rfl
  refine Goes ?_
  repeat' first | refine W2.m ?_ ?_ | refine W1.m fun h => ?_ | fail
  refine FinOk.mk' [2] rfl rfl rfl rfl rfl rfl rfl ⟨?_, ?_, rfl⟩
  · rfl
  · exact objI (by rw [List.take_of_length_le (by omega)]; simp [openS])
theorem specOpen_fr (s : ServD) (n : Nat) (hf : FitsSv s) (hc : openC s = 0) : Ret Try.prog 13 [servV s] [] n true (Is (svRes 0 (.lst ((openS s).map sessR)) s.next) [] n) :=
  Ret.freeze (by
    rintro _ _ _ ⟨rfl, rfl, rfl⟩
    exact ⟨_, .agg _ [iv 0, nl, nl, .lst ((openS s).map sessR), iv s.next] ⟨.refl _ rfl (fun _ e => by cases e), .refl _ rfl (fun _ e => by cases e), .refl _ rfl (fun _ e => by cases e), frOwn (look_cons_eq _ _ _) (by simp [openS]), .refl _ rfl (fun _ e => by cases e), trivial⟩, rfl, rfl, rfl⟩) (specOpen_ok s n hf hc)
theorem cvServ {hp : Hp} {i k : Nat} {z : Int} {xs : List SessD} (h : Go.Am.look hp i = some (AObj.list 54 4 (xs.map sessR))) (hk : k = xs.length) : Cv hp [] false (.agg [.own i k, iv z]) (servV ⟨xs, z⟩) :=
  cvAgg ⟨cvcOwn h (by simpa using hk), cvcSame rfl, trivial⟩
theorem cvServS {hp : Hp} {z : Int} {xs : List SessD} : Cv hp [] false (servV ⟨xs, z⟩) (servV ⟨xs, z⟩) := cvAgg ⟨cvcSame rfl, cvcSame rfl, trivial⟩
theorem cvRes {hp : Hp} {i k : Nat} {c z : Int} {xs : List SessD} (h : Go.Am.look hp i = some (AObj.list 54 4 (xs.map sessR))) (hk : k = xs.length) : Cv hp [] false (svRes c (.own i k) z) (svResR c xs z) :=
  cvAgg ⟨cvcSame rfl, cvcNil, cvcNil, cvcOwn h (by simpa using hk), cvcSame rfl, trivial⟩
theorem cvResS {hp : Hp} {c z : Int} {xs : List SessD} : Cv hp [] false (svRes c (.lst (xs.map sessR)) z) (svResR c xs z) := cvAgg ⟨cvcSame rfl, cvcNil, cvcNil, cvcSame rfl, cvcSame rfl, trivial⟩
theorem cvResN {hp : Hp} {c z : Int} : Cv hp [] false (svRes c nl z) (svResR c [] z) := cvAgg ⟨cvcSame rfl, cvcNil, cvcNil, cvcNil, cvcSame rfl, trivial⟩
theorem flSess (xs : List SessD) : ∀ r ∈ xs.map sessR, ∀ c ∈ r, ∃ v, c = AV.val v := by
  intro r hr c hc
  obtain ⟨x, _, rfl⟩ := List.mem_map.1 hr
  simp only [List.mem_cons, List.not_mem_nil, or_false] at hc
  rcases hc with rfl | rfl | rfl | rfl <;> exact ⟨_, rfl⟩
theorem fitsNo (z : Int) : FitsSv ⟨[], z⟩ := ⟨Nat.zero_le _, fun x hx => by cases hx⟩
theorem lawOpen_bad (s : ServD) (n : Nat) (hm : MemSv s) (hc : openC s ≠ 0) : Ret Try.prog 4 [servV s] [] n true (fun r _ _ => r = bv true) := by
  refine Ret.fn ttOk Try.func4 rfl Try.call4 rfl rfl ?_
  refine Goes ?_
  repeat' first | refine W2.m ?_ ?_ | refine W1.m fun h => ?_ | fail
  first | refine CallP.is (szServer_ret s 1048576 _ (by decide) (by decide) hm) rfl ?_ | refine CallQ.is (szServer_ret s 1048576 _ (by decide) (by decide) hm) rfl rfl ?_
  refine Goes ?_
  repeat' first | refine W2.m ?_ ?_ | refine W1.m fun h => ?_ | fail
  · exact FinOk.pure rfl rfl rfl rfl
  have hf : FitsSv s := fitsSv_of (by have := (leftI_pos h).2; omega)
  first | refine CallP.is (toServer_fr s _ hf) rfl ?_ | refine CallQ.is (toServer_fr s _ hf) rfl rfl ?_
  refine Goes ?_
  repeat' first | refine W2.m ?_ ?_ | refine W1.m fun h => ?_ | fail
  first | refine CallP.is (specOpen_bad s _ hf hc) rfl ?_ | refine CallQ.is (specOpen_bad s _ hf hc) rfl rfl ?_
  refine Goes ?_
  repeat' first | refine W2.m ?_ ?_ | refine W1.m fun h => ?_ | fail
  first | refine CallP.is (toServer_own s _ hf) rfl ?_ | refine CallQ.is (toServer_own s _ hf) rfl rfl ?_
  refine Goes ?_
  repeat' first | refine W2.m ?_ ?_ | refine W1.m fun h => ?_ | fail
  refine CallP.convAIs (implOpen_bad s _ hf hc) ⟨cvServ rfl rfl, trivial⟩ rfl trivial ?_
  refine Goes ?_
  repeat' first | refine W2.m ?_ ?_ | refine W1.m fun h => ?_ | fail
  refine CallP.convAIs (eqServerResult_yes (openC s) 0 [] _ (fitsNo 0)) ⟨cvResN, cvResN, trivial⟩ rfl trivial ?_
  refine Goes ?_
  repeat' first | refine W2.m ?_ ?_ | refine W1.m fun h => ?_ | fail
  first | refine CallQ.is (toServer_fr s _ hf) rfl rfl ?_ | refine CallP.is (toServer_fr s _ hf) rfl ?_
  refine Goes ?_
  repeat' first | refine W2.m ?_ ?_ | refine W1.m fun h => ?_ | fail
  refine CallP.convAIs (eqServer_yes s _ hf) ⟨cvServ rfl rfl, cvServS, trivial⟩ rfl trivial ?_
  refine Goes ?_
  repeat' first | refine W2.m ?_ ?_ | refine W1.m fun h => ?_ | fail
  refine CallP.heapIs (markServer_own s.next s.sess 2 1 _ hf.len (by decide)) rfl ktA rfl ?_
  refine Goes ?_
  repeat' first | refine W2.m ?_ ?_ | refine W1.m fun h => ?_ | fail
  refine CallP.convAIs (eqServerResult_yes (openC s) 0 [] _ (fitsNo 0)) ⟨cvResN, cvResN, trivial⟩ rfl trivial ?_
  refine Goes ?_
  repeat' first | refine W2.m ?_ ?_ | refine W1.m fun h => ?_ | fail
  first | refine CallP.is (markServerResult_nil (openC s) 0 1 _) rfl ?_ | refine CallQ.is (markServerResult_nil (openC s) 0 1 _) rfl rfl ?_
  refine Goes ?_
  repeat' first | refine W2.m ?_ ?_ | refine W1.m fun h => ?_ | fail
  refine CallP.convAIs (heldServerResult_rd (openC s) 0 [] 1 _ (Nat.zero_le _) (by decide)) ⟨cvResN, cvSame rfl, trivial⟩ rfl trivial ?_
  refine Goes ?_
  repeat' first | refine W2.m ?_ ?_ | refine W1.m fun h => ?_ | fail
  first | refine CallP.is (toServer_fr s _ hf) rfl ?_ | refine CallQ.is (toServer_fr s _ hf) rfl rfl ?_
  refine Goes ?_
  repeat' first | refine W2.m ?_ ?_ | refine W1.m fun h => ?_ | fail
  first | refine CallP.is (implOpen_bad s _ hf hc) rfl ?_ | refine CallQ.is (implOpen_bad s _ hf hc) rfl rfl ?_
  refine Goes ?_
  repeat' first | refine W2.m ?_ ?_ | refine W1.m fun h => ?_ | fail
  refine CallP.convAIs (eqServerResult_yes (openC s) 0 [] _ (fitsNo 0)) ⟨cvResN, cvResN, trivial⟩ rfl trivial ?_
  refine Goes ?_
  repeat' first | refine W2.m ?_ ?_ | refine W1.m fun h => ?_ | fail
  refine CallP.convAIs (heldServerResult_rd (openC s) 0 [] 1 _ (Nat.zero_le _) (by decide)) ⟨cvResN, cvSame rfl, trivial⟩ rfl trivial ?_
  refine Goes ?_
  repeat' first | refine W2.m ?_ ?_ | refine W1.m fun h => ?_ | fail
  exact FinOk.pure rfl rfl rfl rfl
theorem lawOpen_ok (s : ServD) (n : Nat) (hm : MemSv s) (hc : openC s = 0) : Ret Try.prog 4 [servV s] [] n true (fun r _ _ => r = bv true) := by
  have hlo : (openS s).length = s.sess.length + 1 := by simp [openS]
  refine Ret.fn ttOk Try.func4 rfl Try.call4 rfl rfl ?_
  refine Goes ?_
  repeat' first | refine W2.m ?_ ?_ | refine W1.m fun h => ?_ | fail
  first | refine CallP.is (szServer_ret s 1048576 _ (by decide) (by decide) hm) rfl ?_ | refine CallQ.is (szServer_ret s 1048576 _ (by decide) (by decide) hm) rfl rfl ?_
  refine Goes ?_
  repeat' first | refine W2.m ?_ ?_ | refine W1.m fun h => ?_ | fail
  · exact FinOk.pure rfl rfl rfl rfl
  have hf : FitsSv s := fitsSv_of (by have := (leftI_pos h).2; omega)
  have h4 := faultSv_len (openC_ok hc).1
  have hfo : FitsSv ⟨openS s, s.next⟩ := ⟨by show (openS s).length ≤ _; omega, fun x hx => by
    rcases List.mem_append.1 hx with hx | hx
    · exact hf.sess x hx
    · rw [List.mem_singleton.1 hx]; exact ⟨by decide, by decide⟩⟩
  have hmk : ∀ i n, Ret Try.prog 17 [svRes 0 (.own i (s.sess.length + 1)) s.next, iv (1 : Nat)] [sessO i (openS s)] n true (Is (iv ((1 + 4 * (openS s).length : Nat) : Int)) [sessO i (mkSes 1 (openS s))] n) := fun i n => by
    have := markServerResult_own 0 s.next (openS s) i 1 n (by omega) (by decide)
    rw [hlo] at this
    rw [hlo]
    exact this
  first | refine CallP.is (toServer_fr s _ hf) rfl ?_ | refine CallQ.is (toServer_fr s _ hf) rfl rfl ?_
  refine Goes ?_
  repeat' first | refine W2.m ?_ ?_ | refine W1.m fun h => ?_ | fail
  first | refine CallP.is (specOpen_fr s _ hf hc) rfl ?_ | refine CallQ.is (specOpen_fr s _ hf hc) rfl rfl ?_
  refine Goes ?_
  repeat' first | refine W2.m ?_ ?_ | refine W1.m fun h => ?_ | fail
  first | refine CallP.is (toServer_own s _ hf) rfl ?_ | refine CallQ.is (toServer_own s _ hf) rfl rfl ?_
  refine Goes ?_
  repeat' first | refine W2.m ?_ ?_ | refine W1.m fun h => ?_ | fail
  refine CallP.convAIs (implOpen_ok s _ hf hc) ⟨cvServ rfl rfl, trivial⟩ rfl ⟨flSess _, trivial⟩ ?_
  refine Goes ?_
  repeat' first | refine W2.m ?_ ?_ | refine W1.m fun h => ?_ | fail
  refine CallP.convAIs (eqServerResult_yes 0 s.next (openS s) _ hfo) ⟨cvRes rfl hlo.symm, cvResS, trivial⟩ rfl trivial ?_
  refine Goes ?_
  repeat' first | refine W2.m ?_ ?_ | refine W1.m fun h => ?_ | fail
  first | refine CallQ.is (toServer_fr s _ hf) rfl rfl ?_ | refine CallP.is (toServer_fr s _ hf) rfl ?_
  refine Goes ?_
  repeat' first | refine W2.m ?_ ?_ | refine W1.m fun h => ?_ | fail
  refine CallP.convAIs (eqServer_yes s _ hf) ⟨cvServ rfl rfl, cvServS, trivial⟩ rfl trivial ?_
  refine Goes ?_
  repeat' first | refine W2.m ?_ ?_ | refine W1.m fun h => ?_ | fail
  refine CallP.heapIs (markServer_own s.next s.sess 2 1 _ hf.len (by decide)) rfl ktA rfl ?_
  refine Goes ?_
  repeat' first | refine W2.m ?_ ?_ | refine W1.m fun h => ?_ | fail
  refine CallP.convAIs (eqServerResult_yes 0 s.next (openS s) _ hfo) ⟨cvRes rfl hlo.symm, cvResS, trivial⟩ rfl trivial ?_
  refine Goes ?_
  repeat' first | refine W2.m ?_ ?_ | refine W1.m fun h => ?_ | fail
  refine CallP.heapIs (hmk 4 _) rfl ktA rfl ?_
  refine Goes ?_
  repeat' first | refine W2.m ?_ ?_ | refine W1.m fun h => ?_ | fail
  refine CallP.convAIs (heldServerResult_rd 0 s.next (openS s) 1 _ (by omega) (by decide)) ⟨cvRes rfl (by rw [mkL_len]; exact hlo.symm), cvSame rfl, trivial⟩ rfl trivial ?_
  refine Goes ?_
  repeat' first | refine W2.m ?_ ?_ | refine W1.m fun h => ?_ | fail
  first | refine CallP.is (toServer_fr s _ hf) rfl ?_ | refine CallQ.is (toServer_fr s _ hf) rfl rfl ?_
  refine Goes ?_
  repeat' first | refine W2.m ?_ ?_ | refine W1.m fun h => ?_ | fail
  first | refine CallP.is (implOpen_ok s _ hf hc) rfl ?_ | refine CallQ.is (implOpen_ok s _ hf hc) rfl rfl ?_
  refine Goes ?_
  repeat' first | refine W2.m ?_ ?_ | refine W1.m fun h => ?_ | fail
  refine CallP.convAIs (eqServerResult_yes 0 s.next (openS s) _ hfo) ⟨cvRes rfl hlo.symm, cvResS, trivial⟩ rfl trivial ?_
  refine Goes ?_
  repeat' first | refine W2.m ?_ ?_ | refine W1.m fun h => ?_ | fail
  refine CallP.convAIs (heldServerResult_rd 0 s.next (openS s) 1 _ (by omega) (by decide)) ⟨cvRes rfl (by rw [mkL_len]; exact hlo.symm), cvSame rfl, trivial⟩ rfl trivial ?_
  refine Goes ?_
  repeat' first | refine W2.m ?_ ?_ | refine W1.m fun h => ?_ | fail
  exact FinOk.pure rfl rfl rfl rfl
theorem lawOpen (s : ServD) (n : Nat) (hm : MemSv s) : Ret Try.prog 4 [servV s] [] n true (fun r _ _ => r = bv true) := by
  by_cases hc : openC s = 0
  · exact lawOpen_ok s n hm hc
  · exact lawOpen_bad s n hm hc
end Go.Proofs.Ythpboccokdhpnaa
