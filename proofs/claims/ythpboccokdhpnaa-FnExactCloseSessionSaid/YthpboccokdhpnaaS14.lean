/-
  CHAPTER 10: CloseSession, both sides; its law.
-/
import Derived.Test.YthpboccokdhpnaaS9
namespace Go.Proofs.Ythpboccokdhpnaa
open Go Go.Am Go.RowKit
set_option linter.unusedVariables false
set_option linter.unusedSimpArgs false
def delS (xs : List SessD) (k : Nat) : List SessD := xs.take k ++ xs.drop (k + 1)
theorem delS_len {xs : List SessD} {k : Nat} (h : k < xs.length) : (delS xs k).length = xs.length - 1 := by
  simp only [delS, List.length_append, List.length_take, List.length_drop]; omega
theorem slDelete_own (xs : List SessD) (k i n : Nat) (h : k < xs.length) (hl : xs.length ≤ 1048576) :
    Ret Try.prog 49 [.own i xs.length, iv k, iv ((k + 1 : Nat) : Int)] [sessO i xs] n true (Is (.own i (xs.length - 1)) [sessO i (delS xs k)] n) := by
  have hL : (xs.map sessR).length = xs.length := by simp
  refine Ret.of_run (tt := tt) ttOk Try.func49 rfl Try.call49 [i] [.list 54 4 (xs.map sessR)] [.own 0 xs.length, iv k, iv ((k + 1 : Nat) : Int)] true n _ rfl (nodup1 i) (by exact Nat.le_of_ble_eq_true rfl) rfl rfl ?_
  refine Goes ?_
  repeat' first | refine W2.m ?_ ?_ | refine W1.m fun h => ?_ | fail
  have e1 : ((k + 1 : Nat) : Int).toNat = k + 1 := rfl
  have e2 : (k : Int).toNat = k := rfl
  have e3 : ((k + (xs.length - (k + 1)) : Nat) : Int).toNat = xs.length - 1 := by show k + (xs.length - (k + 1)) = _; omega
  have hM : (List.take k (List.map sessR xs) ++ List.take (xs.length - (k + 1)) (List.drop (k + 1) (List.map sessR xs)) ++ List.drop (k + (xs.length - (k + 1))) (List.map sessR xs)).length = xs.length := by
    simp only [List.length_append, List.length_take, List.length_drop, List.length_map]; omega
  refine ⟨⟨by omega, by show ((k + (xs.length - (k + 1)) : Nat) : Int) ≤ _; omega, .inr (by show (xs.length : Int) ≤ ((_ : Nat) : Int); exact Int.ofNat_le.2 (Nat.le_of_eq hM.symm))⟩, ?_⟩
  refine Goes ?_
  repeat' first | refine W2.m ?_ ?_ | refine W1.m fun h => ?_ | fail
  refine ⟨⟨by show 0 < xs.length - (k + (xs.length - (k + 1))); omega, Nat.le_trans (by show (k + (xs.length - (k + 1))) + (xs.length - (k + (xs.length - (k + 1)))) ≤ xs.length; omega) (Nat.le_of_eq hM.symm)⟩, ?_⟩
  refine Goes ?_
  repeat' first | refine W2.m ?_ ?_ | refine W1.m fun h => ?_ | fail
  refine FinOk.weak (Weak.trunc 0 54 4 _ ((delS xs k).map sessR) (xs.length - 1) rfl ?_) ?_
  · have hB : List.take (xs.length - (k + 1)) (List.drop (k + 1) (List.map sessR xs)) = List.drop (k + 1) (List.map sessR xs) := List.take_of_length_le (by rw [List.length_drop, hL]; omega)
    have hAB : (List.take k (List.map sessR xs) ++ List.take (xs.length - (k + 1)) (List.drop (k + 1) (List.map sessR xs))).length = k + (xs.length - (k + 1)) := by
      simp only [List.length_append, List.length_take, List.length_drop, List.length_map]; omega
    have hpM : List.take (k + (xs.length - (k + 1))) (List.take k (List.map sessR xs) ++ List.take (xs.length - (k + 1)) (List.drop (k + 1) (List.map sessR xs)) ++ List.drop (k + (xs.length - (k + 1))) (List.map sessR xs)) = (delS xs k).map sessR := by
      rw [List.take_left' hAB, hB]
      simp [delS, List.map_take, List.map_drop]
    show _ = List.take (xs.length - 1) (List.take (k + (xs.length - (k + 1))) (List.take k (List.map sessR xs) ++ List.take (xs.length - (k + 1)) (List.drop (k + 1) (List.map sessR xs)) ++ List.drop (k + (xs.length - (k + 1))) (List.map sessR xs)) ++ _ ++ _)
    rw [hpM, List.append_assoc, List.take_left' (by rw [List.length_map, delS_len (by assumption)])]
  refine FinOk.mk' [] rfl rfl rfl rfl rfl rfl rfl ⟨?_, ?_, rfl⟩
  · show AV.own _ (k + (xs.length - (k + 1))) = _
    rw [show k + (xs.length - (k + 1)) = xs.length - 1 by omega]; rfl
  · rfl
def askC (s : ServD) (who : Int) : Int := if ¬ faultSv s = 0 then faultSv s else if 0 ≤ who ∧ who < s.sess.length then 0 else 4
theorem askC_bad {s : ServD} {who : Int} (h : ¬ faultSv s = 0) : askC s who = faultSv s := by unfold askC; rw [if_pos h]
theorem askC_none {s : ServD} {who : Int} (h : faultSv s = 0) (h2 : ¬ (0 ≤ who ∧ who < s.sess.length)) : askC s who = 4 := by unfold askC; rw [if_neg (fun k => k h), if_neg h2]
theorem askC_yes {s : ServD} {who : Int} (h : faultSv s = 0) (h2 : 0 ≤ who ∧ who < s.sess.length) : askC s who = 0 := by unfold askC; rw [if_neg (fun k => k h), if_pos h2]
theorem askC_ok {s : ServD} {who : Int} (h : askC s who = 0) : faultSv s = 0 ∧ 0 ≤ who ∧ who < s.sess.length := by
  unfold askC at h
  split at h
  · exact absurd h (by assumption)
  · split at h
    · exact ⟨Decidable.not_not.1 (by assumption), by assumption⟩
    · cases h
theorem sessionAt_ret (s : ServD) (who : Int) (n : Nat) (hf : FitsSv s) : Ret Try.prog 48 [servV s, iv who] [] n true (Is (iv (askC s who)) [] n) := by
  have hL : (s.sess.map sessR).length = s.sess.length := by simp
  refine Ret.fn ttOk Try.func48 rfl Try.call48 rfl rfl ?_
  refine Goes ?_
  repeat' first | refine W2.m ?_ ?_ | refine W1.m fun h => ?_ | fail
  first | refine CallP.is (implServerFault_ret s _ hf) rfl ?_ | refine CallQ.is (implServerFault_ret s _ hf) rfl rfl ?_
  refine Goes ?_
  repeat' first | refine W2.m ?_ ?_ | refine W1.m fun h => ?_ | fail
  · have h1 : ¬ faultSv s = 0 := h
    refine FinOk.pure rfl rfl rfl ⟨?_, rfl, rfl⟩
    rw [askC_bad h1]
  all_goals
    have h1 : faultSv s = 0 := Decidable.not_not.1 (by assumption)
    refine FinOk.pure rfl rfl rfl ⟨?_, rfl, rfl⟩
    first
      | rw [askC_none h1 (by omega)]
      | rw [askC_yes h1 (by omega)]
theorem l10Asked_rp (s : ServD) (who : Int) (n : Nat) (hf : FitsSv s) : Ret Try.prog 47 [.rp (servC s), iv who] [] n true (Is (iv (askC s who)) [] n) := by
  have hL : (s.sess.map sessR).length = s.sess.length := by simp
  have hll := hf.len
  refine Ret.fn ttOk Try.func47 rfl Try.call47 rfl rfl ?_
  refine Goes ?_
  repeat' first | refine W2.m ?_ ?_ | refine W1.m fun h => ?_ | fail
  first | refine CallP.is (l10Fault_rp s _ hf) rfl ?_ | refine CallQ.is (l10Fault_rp s _ hf) rfl rfl ?_
  refine Goes ?_
  repeat' first | refine W2.m ?_ ?_ | refine W1.m fun h => ?_ | fail
  · have h1 : ¬ faultSv s = 0 := h
    refine FinOk.pure rfl rfl rfl ⟨?_, rfl, rfl⟩
    rw [askC_bad h1]
  have h1 : faultSv s = 0 := Decidable.not_not.1 (by assumption)
  have hw : IntKind.i64.wrap (((s.sess.map sessR).length : Int) - 1) = (s.sess.length : Int) - 1 := by rw [hL]; exact IntWalk.i64_in _ (by omega)
  rw [hw]
  first | refine CallP.is (l1In_ret who 0 ((s.sess.length : Int) - 1) _) rfl ?_ | refine CallQ.is (l1In_ret who 0 ((s.sess.length : Int) - 1) _) rfl rfl ?_
  refine Goes ?_
  repeat' first | refine W2.m ?_ ?_ | refine W1.m fun h => ?_ | fail
  · have h2 : ¬ inR 0 ((s.sess.length : Int) - 1) who := by assumption
    unfold inR at h2
    refine FinOk.pure rfl rfl rfl ⟨?_, rfl, rfl⟩
    rw [askC_none h1 (by omega)]
  · have h2 : inR 0 ((s.sess.length : Int) - 1) who := by assumption
    unfold inR at h2
    refine FinOk.pure rfl rfl rfl ⟨?_, rfl, rfl⟩
    rw [askC_yes h1 (by omega)]
theorem implClose_bad (s : ServD) (who : Int) (n : Nat) (hf : FitsSv s) (hc : ¬ askC s who = 0) : Ret Try.prog 20 [servV s, iv who] [] n true (Is (svRes (askC s who) nl 0) [] n) := by
  refine Ret.fn ttOk Try.func20 rfl Try.call20 rfl rfl ?_
  refine Goes ?_
  repeat' first | refine W2.m ?_ ?_ | refine W1.m fun h => ?_ | fail
  first | refine CallP.is (sessionAt_ret s who _ hf) rfl ?_ | refine CallQ.is (sessionAt_ret s who _ hf) rfl rfl ?_
  refine Goes ?_
  repeat' first | refine W2.m ?_ ?_ | refine W1.m fun h => ?_ | fail
  · refine FinOk.pure rfl rfl rfl ⟨?_, rfl, rfl⟩
    rfl
theorem specClose_bad (s : ServD) (who : Int) (n : Nat) (hf : FitsSv s) (hc : ¬ askC s who = 0) : Ret Try.prog 19 [servV s, iv who] [] n true (Is (svRes (askC s who) nl 0) [] n) := by
  refine Ret.fn ttOk Try.func19 rfl Try.call19 rfl rfl ?_
  refine Goes ?_
  repeat' first | refine W2.m ?_ ?_ | refine W1.m fun h => ?_ | fail
  refine CallP.convAIs (l10Asked_rp s who _ hf) cvargsA rfl (by first | exact trivial | exact ⟨flat_ivs _, trivial⟩) ?_
  refine Goes ?_
  repeat' first | refine W2.m ?_ ?_ | refine W1.m fun h => ?_ | fail
  · first | refine CallP.is (l10Bad_ret _ _) rfl ?_ | refine CallQ.is (l10Bad_ret _ _) rfl rfl ?_
    refine Goes ?_
    repeat' first | refine W2.m ?_ ?_ | refine W1.m fun h => ?_ | fail
    refine FinOk.pure rfl rfl rfl ⟨?_, rfl, rfl⟩
    rfl
theorem implClose_ok (s : ServD) (k n : Nat) (hf : FitsSv s) (hc : askC s k = 0) : Ret Try.prog 20 [servV s, iv k] [] n true (Is (svRes 0 (.own n (s.sess.length - 1)) s.next) [sessO n (delS s.sess k)] (n + 1)) := by
  have hll := hf.len
  obtain ⟨h0, _, hk⟩ := askC_ok hc
  have hk' : k < s.sess.length := by omega
  have hA := fun n => sessionAt_ret s k n hf
  rw [hc] at hA
  have hw : IntKind.i64.wrap ((k : Int) + 1) = ((k + 1 : Nat) : Int) := by rw [IntWalk.i64_in _ (by omega)]; omega
  refine Ret.fn ttOk Try.func20 rfl Try.call20 rfl rfl ?_
  refine Goes ?_
  repeat' first | refine W2.m ?_ ?_ | refine W1.m fun h => ?_ | fail
  first | refine CallP.is (hA _) rfl ?_ | refine CallQ.is (hA _) rfl rfl ?_
  refine Goes ?_
  repeat' first | refine W2.m ?_ ?_ | refine W1.m fun h => ?_ | fail
  first | refine CallP.is (copyOfServer_own s _ hf.len) rfl ?_ | refine CallQ.is (copyOfServer_own s _ hf.len) rfl rfl ?_
  refine Goes ?_
  repeat' first | refine W2.m ?_ ?_ | refine W1.m fun h => ?_ | fail
  rw [hw]
  refine CallP.heapIs (slDelete_own s.sess k 2 _ hk' hll) rfl ktA rfl ?_
  refine Goes ?_
  repeat' first | refine W2.m ?_ ?_ | refine W1.m fun h => ?_ | fail
  refine FinOk.mk' [2] rfl rfl rfl rfl rfl rfl rfl ⟨?_, ?_, rfl⟩
  · rfl
  · rfl
theorem specClose_ok (s : ServD) (k n : Nat) (hf : FitsSv s) (hc : askC s k = 0) : Ret Try.prog 19 [servV s, iv k] [] n true (Is (svRes 0 (.own n (s.sess.length - 1)) s.next) [sessO n (delS s.sess k)] (n + 1)) := by
  have hL : (s.sess.map sessR).length = s.sess.length := by simp
  have hll := hf.len
  obtain ⟨h0, _, hk⟩ := askC_ok hc
  have hk' : k < s.sess.length := by omega
  have hA := fun n => l10Asked_rp s k n hf
  rw [hc] at hA
  have hw : IntKind.i64.wrap ((k : Int) + 1) = ((k + 1 : Nat) : Int) := by rw [IntWalk.i64_in _ (by omega)]; omega
  refine Ret.fn ttOk Try.func19 rfl Try.call19 rfl rfl ?_
  refine Goes ?_
  repeat' first | refine W2.m ?_ ?_ | refine W1.m fun h => ?_ | fail
  refine CallP.convAIs (hA _) cvargsA rfl (by first | exact trivial | exact ⟨flat_ivs _, trivial⟩) ?_
  refine Goes ?_
  repeat' first | refine W2.m ?_ ?_ | refine W1.m fun h => ?_ | fail
  have e1 : List.take ((k : Int).toNat - Int.toNat 0) (List.drop (Int.toNat 0) (List.map sessR s.sess)) = (s.sess.take k).map sessR := by simp [List.map_take]
  have hl1 : ((s.sess.take k).map sessR).length = k := by rw [List.length_map, List.length_take]; omega
  rw [e1, hl1]
  refine ⟨⟨Nat.le_refl _, by show (0 + k) * 48 ≤ _; omega, by unfold maxLen; omega, trivial, fun r hr => by obtain ⟨x, _, rfl⟩ := List.mem_map.1 hr; rfl⟩, ?_⟩
  refine Goes ?_
  repeat' first | refine W2.m ?_ ?_ | refine W1.m fun h => ?_ | fail
  rw [hw]
  refine ⟨⟨by omega, by rw [hL]; omega, .inr (by rw [rowN sessR s.sess 0 (by omega)]; rfl)⟩, ?_⟩
  refine Goes ?_
  repeat' first | refine W2.m ?_ ?_ | refine W1.m fun h => ?_ | fail
  have e2 : List.drop ((k + 1 : Nat) : Int).toNat (List.map sessR s.sess) = (s.sess.drop (k + 1)).map sessR := by
    show List.drop (k + 1) _ = _
    simp [List.map_drop]
  have hl2 : ((s.sess.drop (k + 1)).map sessR).length = s.sess.length - (k + 1) := by rw [List.length_map, List.length_drop]
  have hl3 : ∀ ys : List (List AV), (List.take 0 ys ++ (s.sess.take k).map sessR).length = k := fun ys => by rw [List.take_zero, List.nil_append]; exact hl1
  rw [e2, hl2]
  refine ⟨⟨by rw [hl3]; omega, by show (0 + k + (s.sess.length - (k + 1))) * 48 ≤ _; omega, by unfold maxLen; omega, trivial, fun r hr => by obtain ⟨x, _, rfl⟩ := List.mem_map.1 hr; rfl⟩, ?_⟩
  refine Goes ?_
  repeat' first | refine W2.m ?_ ?_ | refine W1.m fun h => ?_ | fail
  refine FinOk.mk' [2] rfl rfl rfl rfl rfl rfl rfl ⟨?_, ?_, rfl⟩
  · show AV.agg [iv 0, nl, nl, AV.own _ (0 + k + (s.sess.length - (k + 1))), iv s.next] = _
    rw [show 0 + k + (s.sess.length - (k + 1)) = s.sess.length - 1 by omega]; rfl
  · refine objI ?_
    rw [List.take_of_length_le (by rw [hl3]; omega), List.take_zero, List.nil_append]
    simp [delS]
theorem specClose_fr (s : ServD) (k n : Nat) (hf : FitsSv s) (hc : askC s k = 0) : Ret Try.prog 19 [servV s, iv k] [] n true (Is (svRes 0 (.lst ((delS s.sess k).map sessR)) s.next) [] n) :=
  Ret.freeze (by
    rintro _ _ _ ⟨rfl, rfl, rfl⟩
    have hk := (askC_ok hc).2.2
    exact ⟨_, .agg _ [iv 0, nl, nl, .lst ((delS s.sess k).map sessR), iv s.next] ⟨.refl _ rfl (fun _ e => by cases e), .refl _ rfl (fun _ e => by cases e), .refl _ rfl (fun _ e => by cases e), frOwn (look_cons_eq _ _ _) (by rw [List.length_map, delS_len (by omega)]), .refl _ rfl (fun _ e => by cases e), trivial⟩, rfl, rfl, rfl⟩) (specClose_ok s k n hf hc)
theorem lawClose_bad (s : ServD) (who : Int) (n : Nat) (hm : MemSv s) (hc : ¬ askC s who = 0) : Ret Try.prog 5 [servV s, iv who] [] n true (fun r _ _ => r = bv true) := by
  refine Ret.fn ttOk Try.func5 rfl Try.call5 rfl rfl ?_
  refine Goes ?_
  repeat' first | refine W2.m ?_ ?_ | refine W1.m fun h => ?_ | fail
  first | refine CallP.is (szServer_ret s 1048576 _ (by decide) (by decide) hm) rfl ?_ | refine CallQ.is (szServer_ret s 1048576 _ (by decide) (by decide) hm) rfl rfl ?_
  refine Goes ?_
  repeat' first | refine W2.m ?_ ?_ | refine W1.m fun h => ?_ | fail
  · exact FinOk.pure rfl rfl rfl rfl
  have hf : FitsSv s := fitsSv_of (by have := (leftI_pos h).2; omega)
  first | refine CallP.is (toServer_fr s _ hf) rfl ?_ | refine CallQ.is (toServer_fr s _ hf) rfl rfl ?_
  refine Goes ?_
  repeat' first | refine W2.m ?_ ?_ | refine W1.m fun h => ?_ | fail
  first | refine CallP.is (specClose_bad s who _ hf hc) rfl ?_ | refine CallQ.is (specClose_bad s who _ hf hc) rfl rfl ?_
  refine Goes ?_
  repeat' first | refine W2.m ?_ ?_ | refine W1.m fun h => ?_ | fail
  first | refine CallP.is (toServer_own s _ hf) rfl ?_ | refine CallQ.is (toServer_own s _ hf) rfl rfl ?_
  refine Goes ?_
  repeat' first | refine W2.m ?_ ?_ | refine W1.m fun h => ?_ | fail
  refine CallP.convAIs (implClose_bad s who _ hf hc) ⟨cvServ rfl rfl, cvSame rfl, trivial⟩ rfl trivial ?_
  refine Goes ?_
  repeat' first | refine W2.m ?_ ?_ | refine W1.m fun h => ?_ | fail
  refine CallP.convAIs (eqServerResult_yes (askC s who) 0 [] _ (fitsNo 0)) ⟨cvResN, cvResN, trivial⟩ rfl trivial ?_
  refine Goes ?_
  repeat' first | refine W2.m ?_ ?_ | refine W1.m fun h => ?_ | fail
  first | refine CallQ.is (toServer_fr s _ hf) rfl rfl ?_ | refine CallP.is (toServer_fr s _ hf) rfl ?_
  refine Goes ?_
  repeat' first | refine W2.m ?_ ?_ | refine W1.m fun h => ?_ | fail
  refine CallP.convAIs (eqServer_yes s _ hf) ⟨cvServ rfl rfl, cvServS, trivial⟩ rfl trivial ?_
  refine Goes ?_
  repeat' first | refine W2.m ?_ ?_ | refine W1.m fun h => ?_ | fail
  refine CallP.heapIs (markServer_own s.next s.sess 2 1 _ hf.len (by decide)) rfl ktA rfl ?_
  refine Goes ?_
  repeat' first | refine W2.m ?_ ?_ | refine W1.m fun h => ?_ | fail
  refine CallP.convAIs (eqServerResult_yes (askC s who) 0 [] _ (fitsNo 0)) ⟨cvResN, cvResN, trivial⟩ rfl trivial ?_
  refine Goes ?_
  repeat' first | refine W2.m ?_ ?_ | refine W1.m fun h => ?_ | fail
  first | refine CallP.is (markServerResult_nil (askC s who) 0 1 _) rfl ?_ | refine CallQ.is (markServerResult_nil (askC s who) 0 1 _) rfl rfl ?_
  refine Goes ?_
  repeat' first | refine W2.m ?_ ?_ | refine W1.m fun h => ?_ | fail
  refine CallP.convAIs (heldServerResult_rd (askC s who) 0 [] 1 _ (Nat.zero_le _) (by decide)) ⟨cvResN, cvSame rfl, trivial⟩ rfl trivial ?_
  refine Goes ?_
  repeat' first | refine W2.m ?_ ?_ | refine W1.m fun h => ?_ | fail
  first | refine CallP.is (toServer_fr s _ hf) rfl ?_ | refine CallQ.is (toServer_fr s _ hf) rfl rfl ?_
  refine Goes ?_
  repeat' first | refine W2.m ?_ ?_ | refine W1.m fun h => ?_ | fail
  first | refine CallP.is (implClose_bad s who _ hf hc) rfl ?_ | refine CallQ.is (implClose_bad s who _ hf hc) rfl rfl ?_
  refine Goes ?_
  repeat' first | refine W2.m ?_ ?_ | refine W1.m fun h => ?_ | fail
  refine CallP.convAIs (eqServerResult_yes (askC s who) 0 [] _ (fitsNo 0)) ⟨cvResN, cvResN, trivial⟩ rfl trivial ?_
  refine Goes ?_
  repeat' first | refine W2.m ?_ ?_ | refine W1.m fun h => ?_ | fail
  refine CallP.convAIs (heldServerResult_rd (askC s who) 0 [] 1 _ (Nat.zero_le _) (by decide)) ⟨cvResN, cvSame rfl, trivial⟩ rfl trivial ?_
  refine Goes ?_
  repeat' first | refine W2.m ?_ ?_ | refine W1.m fun h => ?_ | fail
  exact FinOk.pure rfl rfl rfl rfl
theorem lawClose_ok (s : ServD) (k n : Nat) (hm : MemSv s) (hc : askC s k = 0) : Ret Try.prog 5 [servV s, iv k] [] n true (fun r _ _ => r = bv true) := by
  have hk := (askC_ok hc).2.2
  have hlo : (delS s.sess k).length = s.sess.length - 1 := delS_len (by omega)
  have h4 := faultSv_len (askC_ok hc).1
  refine Ret.fn ttOk Try.func5 rfl Try.call5 rfl rfl ?_
  refine Goes ?_
  repeat' first | refine W2.m ?_ ?_ | refine W1.m fun h => ?_ | fail
  first | refine CallP.is (szServer_ret s 1048576 _ (by decide) (by decide) hm) rfl ?_ | refine CallQ.is (szServer_ret s 1048576 _ (by decide) (by decide) hm) rfl rfl ?_
  refine Goes ?_
  repeat' first | refine W2.m ?_ ?_ | refine W1.m fun h => ?_ | fail
  · exact FinOk.pure rfl rfl rfl rfl
  have hf : FitsSv s := fitsSv_of (by have := (leftI_pos h).2; omega)
  have hfo : FitsSv ⟨delS s.sess k, s.next⟩ := ⟨by show (delS s.sess k).length ≤ _; omega, fun x hx => by
    rcases List.mem_append.1 hx with hx | hx
    · exact hf.sess x (List.mem_of_mem_take hx)
    · exact hf.sess x (List.mem_of_mem_drop hx)⟩
  have hmk : ∀ i n, Ret Try.prog 17 [svRes 0 (.own i (s.sess.length - 1)) s.next, iv (1 : Nat)] [sessO i (delS s.sess k)] n true (Is (iv ((1 + 4 * (delS s.sess k).length : Nat) : Int)) [sessO i (mkSes 1 (delS s.sess k))] n) := fun i n => by
    have := markServerResult_own 0 s.next (delS s.sess k) i 1 n (by omega) (by decide)
    rw [hlo] at this
    rw [hlo]
    exact this
  first | refine CallP.is (toServer_fr s _ hf) rfl ?_ | refine CallQ.is (toServer_fr s _ hf) rfl rfl ?_
  refine Goes ?_
  repeat' first | refine W2.m ?_ ?_ | refine W1.m fun h => ?_ | fail
  first | refine CallP.is (specClose_fr s k _ hf hc) rfl ?_ | refine CallQ.is (specClose_fr s k _ hf hc) rfl rfl ?_
  refine Goes ?_
  repeat' first | refine W2.m ?_ ?_ | refine W1.m fun h => ?_ | fail
  first | refine CallP.is (toServer_own s _ hf) rfl ?_ | refine CallQ.is (toServer_own s _ hf) rfl rfl ?_
  refine Goes ?_
  repeat' first | refine W2.m ?_ ?_ | refine W1.m fun h => ?_ | fail
  refine CallP.convAIs (implClose_ok s k _ hf hc) ⟨cvServ rfl rfl, cvSame rfl, trivial⟩ rfl ⟨flSess _, trivial⟩ ?_
  refine Goes ?_
  repeat' first | refine W2.m ?_ ?_ | refine W1.m fun h => ?_ | fail
  refine CallP.convAIs (eqServerResult_yes 0 s.next (delS s.sess k) _ hfo) ⟨cvRes rfl hlo.symm, cvResS, trivial⟩ rfl trivial ?_
  refine Goes ?_
  repeat' first | refine W2.m ?_ ?_ | refine W1.m fun h => ?_ | fail
  first | refine CallQ.is (toServer_fr s _ hf) rfl rfl ?_ | refine CallP.is (toServer_fr s _ hf) rfl ?_
  refine Goes ?_
  repeat' first | refine W2.m ?_ ?_ | refine W1.m fun h => ?_ | fail
  refine CallP.convAIs (eqServer_yes s _ hf) ⟨cvServ rfl rfl, cvServS, trivial⟩ rfl trivial ?_
  refine Goes ?_
  repeat' first | refine W2.m ?_ ?_ | refine W1.m fun h => ?_ | fail
  refine CallP.heapIs (markServer_own s.next s.sess 2 1 _ hf.len (by decide)) rfl ktA rfl ?_
  refine Goes ?_
  repeat' first | refine W2.m ?_ ?_ | refine W1.m fun h => ?_ | fail
  refine CallP.convAIs (eqServerResult_yes 0 s.next (delS s.sess k) _ hfo) ⟨cvRes rfl hlo.symm, cvResS, trivial⟩ rfl trivial ?_
  refine Goes ?_
  repeat' first | refine W2.m ?_ ?_ | refine W1.m fun h => ?_ | fail
  refine CallP.heapIs (hmk 4 _) rfl ktA rfl ?_
  refine Goes ?_
  repeat' first | refine W2.m ?_ ?_ | refine W1.m fun h => ?_ | fail
  refine CallP.convAIs (heldServerResult_rd 0 s.next (delS s.sess k) 1 _ (by omega) (by decide)) ⟨cvRes rfl (by rw [mkL_len]; exact hlo.symm), cvSame rfl, trivial⟩ rfl trivial ?_
  refine Goes ?_
  repeat' first | refine W2.m ?_ ?_ | refine W1.m fun h => ?_ | fail
  first | refine CallP.is (toServer_fr s _ hf) rfl ?_ | refine CallQ.is (toServer_fr s _ hf) rfl rfl ?_
  refine Goes ?_
  repeat' first | refine W2.m ?_ ?_ | refine W1.m fun h => ?_ | fail
  first | refine CallP.is (implClose_ok s k _ hf hc) rfl ?_ | refine CallQ.is (implClose_ok s k _ hf hc) rfl rfl ?_
  refine Goes ?_
  repeat' first | refine W2.m ?_ ?_ | refine W1.m fun h => ?_ | fail
  refine CallP.convAIs (eqServerResult_yes 0 s.next (delS s.sess k) _ hfo) ⟨cvRes rfl hlo.symm, cvResS, trivial⟩ rfl trivial ?_
  refine Goes ?_
  repeat' first | refine W2.m ?_ ?_ | refine W1.m fun h => ?_ | fail
  refine CallP.convAIs (heldServerResult_rd 0 s.next (delS s.sess k) 1 _ (by omega) (by decide)) ⟨cvRes rfl (by rw [mkL_len]; exact hlo.symm), cvSame rfl, trivial⟩ rfl trivial ?_
  refine Goes ?_
  repeat' first | refine W2.m ?_ ?_ | refine W1.m fun h => ?_ | fail
  exact FinOk.pure rfl rfl rfl rfl
theorem lawClose (s : ServD) (who : Int) (n : Nat) (hm : MemSv s) (hw : isI64 who) : Ret Try.prog 5 [servV s, iv who] [] n true (fun r _ _ => r = bv true) := by
  by_cases hc : askC s who = 0
  · obtain ⟨k, rfl⟩ : ∃ k : Nat, who = k := ⟨who.toNat, by have := (askC_ok hc).2.1; omega⟩
    exact lawClose_ok s k n hm hc
  · exact lawClose_bad s who n hm hc
end Go.Proofs.Ythpboccokdhpnaa
