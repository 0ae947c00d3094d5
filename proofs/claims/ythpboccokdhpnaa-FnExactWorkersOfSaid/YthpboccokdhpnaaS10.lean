/-
  CHAPTER 10: WorkersOf, both sides.
-/
import Derived.Test.YthpboccokdhpnaaS9
namespace Go.Proofs.Ythpboccokdhpnaa
open Go Go.Am Go.RowKit
set_option linter.unusedVariables false
set_option linter.unusedSimpArgs false
abbrev strR (x : ByteArray) : List AV := [sv x]
def eqB (a w : ByteArray) : Bool := a.toList == w.toList
theorem eqB_comm (a w : ByteArray) : eqB a w = eqB w a := BEq.comm
def hasW (ws : List ByteArray) (w : ByteArray) : Bool := ws.any fun a => eqB w a
def idxW (w : ByteArray) : List ByteArray → Nat → Int
  | [], _ => -1
  | a :: r, k => if eqB w a = true then k else idxW w r (k + 1)
theorem idxW_ge (w : ByteArray) : ∀ (ws : List ByteArray) (k : Nat), decide (0 ≤ idxW w ws k) = hasW ws w
  | [], k => by simp [idxW, hasW]
  | c :: r, k => by
    have ih := idxW_ge w r (k + 1)
    unfold hasW at ih ⊢
    rw [idxW, List.any_cons]
    cases hb : eqB w c with
    | true => simp
    | false => simpa using ih
theorem slIndexStr_ret (ws : List ByteArray) (w : ByteArray) (n : Nat) (hl : ws.length ≤ 1048576) : Ret Try.prog 67 [.lst (ws.map strR), sv w] [] n true (Is (iv (idxW w ws 0)) [] n) := by
  have hL : (ws.map strR).length = ws.length := by simp
  refine Ret.fn ttOk Try.func67 rfl Try.call67 rfl rfl ?_
  refine Goes ?_
  repeat' first | refine W2.m ?_ ?_ | refine W1.m fun h => ?_ | fail
  refine LoopP.go (fun k : Nat => k ≤ ws.length ∧ idxW w ws 0 = idxW w (ws.drop k) k) (fun k => ⟨[(0, .lst (ws.map strR)), (1, sv w), (7, iv ws.length), (8, iv k)], [], 0⟩) (fun k => ws.length - k) 0 ⟨Nat.zero_le _, rfl⟩ ?_ ?_
  · rw [hL]
    exact (Weak.of rfl rfl ktA trivial)
  intro k ⟨hk, hp⟩
  refine Goes ?_
  repeat' first | refine W2.m ?_ ?_ | refine W1.m fun h => ?_ | fail
  · have hlt : k < ws.length := by omega
    rw [List.drop_eq_getElem_cons hlt, idxW] at hp
    rw [rowK strR ws k hlt]
    refine ⟨by rw [hL]; exact ⟨by omega, by omega, rfl⟩, ?_⟩
    refine Goes ?_
    repeat' first | refine W2.m ?_ ?_ | refine W1.m fun h => ?_ | fail
    refine ⟨fun hb => ?_, fun hb => ?_⟩
    · have hb' : eqB w ws[k] = true := hb
      rw [hb', if_pos rfl] at hp
      refine Goes ?_
      repeat' first | refine W2.m ?_ ?_ | refine W1.m fun h => ?_ | fail
      refine FinOk.pure rfl rfl rfl ⟨?_, rfl, rfl⟩
      rw [hp]
    · have hb' : eqB w ws[k] = false := hb
      rw [hb', if_neg (by simp)] at hp
      refine Goes ?_
      repeat' first | refine W2.m ?_ ?_ | refine W1.m fun h => ?_ | fail
      exact ⟨k + 1, ⟨by omega, hp⟩, by omega, (Weak.of rfl rfl ktA trivial)⟩
  · obtain rfl : k = ws.length := by omega
    rw [List.drop_length, idxW] at hp
    refine FinOk.pure rfl rfl rfl ⟨?_, rfl, rfl⟩
    rw [hp]
theorem slContainsStr_ret (ws : List ByteArray) (w : ByteArray) (n : Nat) (hl : ws.length ≤ 1048576) : Ret Try.prog 50 [.lst (ws.map strR), sv w] [] n true (Is (bv (hasW ws w)) [] n) := by
  refine Ret.fn ttOk Try.func50 rfl Try.call50 rfl rfl ?_
  refine Goes ?_
  repeat' first | refine W2.m ?_ ?_ | refine W1.m fun h => ?_ | fail
  first | refine CallP.is (slIndexStr_ret ws w _ hl) rfl ?_ | refine CallQ.is (slIndexStr_ret ws w _ hl) rfl rfl ?_
  refine Goes ?_
  repeat' first | refine W2.m ?_ ?_ | refine W1.m fun h => ?_ | fail
  refine FinOk.pure rfl rfl rfl ⟨?_, rfl, rfl⟩
  rw [← idxW_ge w ws 0]
def addW (ws : List ByteArray) (w : ByteArray) : List ByteArray := if w.size = 0 ∨ hasW ws w = true then ws else ws ++ [w]
def workF (xs : List SessD) : List ByteArray := xs.foldl (fun ws x => addW ws x.worker) []
theorem workF_take (xs : List SessD) (k : Nat) (h : k < xs.length) : workF (xs.take (k + 1)) = addW (workF (xs.take k)) xs[k].worker := by
  unfold workF
  rw [takeS xs k h, List.foldl_append]; rfl
theorem addW_len (ws : List ByteArray) (w : ByteArray) : (addW ws w).length ≤ ws.length + 1 := by
  unfold addW
  split <;> simp
theorem workF_len : ∀ (xs : List SessD) (k : Nat), k ≤ xs.length → (workF (xs.take k)).length ≤ k
  | xs, 0, _ => by simp [workF]
  | xs, k + 1, h => by
    rw [workF_take xs k h]
    have h1 := workF_len xs k (by omega)
    have h2 := addW_len (workF (xs.take k)) (xs[k]'h).worker
    omega
abbrev linesV (c : Int) (l : AV) : AV := .agg [iv c, l, sv ⟨#[]⟩]
abbrev strO (i : Nat) (ws : List ByteArray) : Nat × AObj := (i, .list 9 1 (ws.map strR))
theorem implWorkers_bad (s : ServD) (n : Nat) (hf : FitsSv s) (hc : ¬ faultSv s = 0) : Ret Try.prog 22 [servV s] [] n true (Is (linesV (faultSv s) nl) [] n) := by
  refine Ret.fn ttOk Try.func22 rfl Try.call22 rfl rfl ?_
  refine Goes ?_
  repeat' first | refine W2.m ?_ ?_ | refine W1.m fun h => ?_ | fail
  first | refine CallP.is (implServerFault_ret s _ hf) rfl ?_ | refine CallQ.is (implServerFault_ret s _ hf) rfl rfl ?_
  refine Goes ?_
  repeat' first | refine W2.m ?_ ?_ | refine W1.m fun h => ?_ | fail
  · refine FinOk.pure rfl rfl rfl ⟨?_, rfl, rfl⟩
    rfl
theorem implWorkers_ok (s : ServD) (n : Nat) (hf : FitsSv s) (hc : faultSv s = 0) : Ret Try.prog 22 [servV s] [] n true (Is (linesV 0 (.own n (workF s.sess).length)) [strO n (workF s.sess)] (n + 1)) := by
  have hL : (s.sess.map sessR).length = s.sess.length := by simp
  have h4 := faultSv_len hc
  have hS := fun n => implServerFault_ret s n hf
  rw [hc] at hS
  refine Ret.fn ttOk Try.func22 rfl Try.call22 rfl rfl ?_
  refine Goes ?_
  repeat' first | refine W2.m ?_ ?_ | refine W1.m fun h => ?_ | fail
  first | refine CallP.is (hS _) rfl ?_ | refine CallQ.is (hS _) rfl rfl ?_
  refine Goes ?_
  repeat' first | refine W2.m ?_ ?_ | refine W1.m fun h => ?_ | fail
  refine LoopP.go (fun k : Nat => k ≤ s.sess.length) (fun k => ⟨[(2, .pt 1 0 0), (4, .own 2 (workF (s.sess.take k)).length), (14, .lst (s.sess.map sessR)), (15, iv s.sess.length), (16, iv k)], [strO 2 (workF (s.sess.take k)), (1, .box [iv 0, nl, sv ⟨#[]⟩])], 3⟩) (fun k => s.sess.length - k) 0 (Nat.zero_le _) ?_ ?_
  · rw [hL]
    exact Weak.trans (Weak.nameT 4 9 1 (by decide) rfl) (Weak.of rfl rfl ktA ktA)
  intro k hk
  have hwl := workF_len s.sess k hk
  refine Goes ?_
  repeat' first | refine W2.m ?_ ?_ | refine W1.m fun h => ?_ | fail
  · have hlt : k < s.sess.length := by omega
    have hst := workF_take s.sess k hlt
    have hE := empS s.sess[k].worker
    generalize workF (s.sess.take k) = ws at *
    have hLw : (ws.map strR).length = ws.length := by simp
    rw [rowK sessR s.sess k hlt]
    refine ⟨by rw [hL]; exact ⟨by omega, by omega, rfl⟩, ?_⟩
    refine Goes ?_
    repeat' first | refine W2.m ?_ ?_ | refine W1.m fun h => ?_ | fail
    rw [hE]
    refine Goes ?_
    repeat' first | refine W2.m ?_ ?_ | refine W1.m fun h => ?_ | fail
    · have hw : ¬ s.sess[k].worker.size = 0 := by assumption
      have hC := fun n => slContainsStr_ret ws s.sess[k].worker n (by omega)
      cases hh : hasW ws s.sess[k].worker with
      | true =>
        rw [hh] at hC
        have hadd : addW ws s.sess[k].worker = ws := by unfold addW; rw [if_pos (.inr hh)]
        rw [hadd] at hst
        refine CallP.convAIs (hC _) cvargsA rfl (by first | exact trivial | exact ⟨flat_ivs _, trivial⟩) ?_
        refine Goes ?_
        repeat' first | refine W2.m ?_ ?_ | refine W1.m fun h => ?_ | fail
        exact ⟨k + 1, by omega, by omega, by rw [hst]; exact (Weak.of rfl rfl ktA ktA)⟩
      | false =>
        rw [hh] at hC
        have hadd : addW ws s.sess[k].worker = ws ++ [s.sess[k].worker] := by unfold addW; rw [if_neg (fun h => by rcases h with h | h; exact hw h; rw [hh] at h; cases h)]
        rw [hadd] at hst
        refine CallP.convAIs (hC _) cvargsA rfl (by first | exact trivial | exact ⟨flat_ivs _, trivial⟩) ?_
        refine Goes ?_
        repeat' first | refine W2.m ?_ ?_ | refine W1.m fun h => ?_ | fail
        refine ⟨⟨by omega, by show (ws.length + 1) * 16 ≤ _; omega, by show ws.length + 1 ≤ _; unfold maxLen; omega, Nat.le_refl _, fun r hr => ?_⟩, ?_⟩
        · simp only [List.take_succ_cons, List.take_zero, List.mem_singleton] at hr
          subst hr; rfl
        refine Goes ?_
        repeat' first | refine W2.m ?_ ?_ | refine W1.m fun h => ?_ | fail
        refine ⟨k + 1, by omega, by omega, ?_⟩
        rw [hst]
        refine Weak.of rfl rfl ⟨⟨rfl, rfl⟩, ⟨leafW (by simp), rfl⟩, ⟨rfl, rfl⟩, ⟨rfl, rfl⟩, ⟨leafI numA, rfl⟩, trivial⟩ ⟨⟨leafO ?_, rfl, rfl⟩, ⟨rfl, rfl, rfl⟩, trivial⟩
        rw [List.take_of_length_le (by omega)]; simp
    · have hw : s.sess[k].worker.size = 0 := by assumption
      have hadd : addW ws s.sess[k].worker = ws := by unfold addW; rw [if_pos (.inl hw)]
      rw [hadd] at hst
      exact ⟨k + 1, by omega, by omega, by rw [hst]; exact (Weak.of rfl rfl ktA ktA)⟩
  · obtain rfl : k = s.sess.length := by omega
    rw [List.take_length]
    refine FinOk.mk' [2] rfl rfl rfl rfl rfl rfl rfl ⟨?_, ?_, rfl⟩
    · rfl
    · rfl
def thr (w : ByteArray) (ws : List ByteArray) : Bool := decide (w.size = 0) || ws.any fun a => eqB a w
theorem thr_add (ws : List ByteArray) (w : ByteArray) : addW ws w = if thr w ws = true then ws else ws ++ [w] := by
  have e : (ws.any fun a => eqB a w) = hasW ws w := by
    unfold hasW
    congr 1
    exact funext fun a => eqB_comm a w
  unfold addW thr
  rw [e]
  by_cases h1 : w.size = 0 <;> cases h2 : hasW ws w <;> simp [h1]
theorem thr_take (w : ByteArray) (ws : List ByteArray) (j : Nat) (h : j < ws.length) : thr w (ws.take (j + 1)) = (thr w (ws.take j) || eqB ws[j] w) := by
  unfold thr
  rw [takeS ws j h, List.any_append, Bool.or_assoc]
  simp
theorem leafB {x y : Bool} (h : x = y) : some (bv x) = some (bv y) := by rw [h]
theorem specWorkers_bad (s : ServD) (n : Nat) (hf : FitsSv s) (hc : ¬ faultSv s = 0) : Ret Try.prog 21 [servV s] [] n true (Is (linesV (faultSv s) nl) [] n) := by
  refine Ret.fn ttOk Try.func21 rfl Try.call21 rfl rfl ?_
  refine Goes ?_
  repeat' first | refine W2.m ?_ ?_ | refine W1.m fun h => ?_ | fail
  refine CallP.convAIs (l10Fault_rp s _ hf) cvargsA rfl (by first | exact trivial | exact ⟨flat_ivs _, trivial⟩) ?_
  refine Goes ?_
  repeat' first | refine W2.m ?_ ?_ | refine W1.m fun h => ?_ | fail
  · refine FinOk.pure rfl rfl rfl ⟨?_, rfl, rfl⟩
    rfl
theorem specWorkers_ok (s : ServD) (n : Nat) (hf : FitsSv s) (hc : faultSv s = 0) : Ret Try.prog 21 [servV s] [] n true (Is (linesV 0 (.own n (workF s.sess).length)) [strO n (workF s.sess)] (n + 1)) := by
  have hL : (s.sess.map sessR).length = s.sess.length := by simp
  have h4 := faultSv_len hc
  have hS := fun n => l10Fault_rp s n hf
  rw [hc] at hS
  refine Ret.fn ttOk Try.func21 rfl Try.call21 rfl rfl ?_
  refine Goes ?_
  repeat' first | refine W2.m ?_ ?_ | refine W1.m fun h => ?_ | fail
  refine CallP.convAIs (hS _) cvargsA rfl (by first | exact trivial | exact ⟨flat_ivs _, trivial⟩) ?_
  refine Goes ?_
  repeat' first | refine W2.m ?_ ?_ | refine W1.m fun h => ?_ | fail
  refine LoopP.go (fun k : Nat => k ≤ s.sess.length) (fun k => ⟨[(1, .pt 0 0 0), (2, .pt 1 0 0), (4, .pt 2 0 0), (5, iv k)], [strO 3 (workF (s.sess.take k)), (2, .box [iv 0, .own 3 (workF (s.sess.take k)).length, sv ⟨#[]⟩]), (1, .box [iv 0, nl, sv ⟨#[]⟩]), (0, .box (servC s))], 4⟩) (fun k => s.sess.length - k) 0 (Nat.zero_le _) ?_ ?_
  · exact Weak.trans (Weak.name 2 1 9 1 _ (by decide) rfl rfl) (Weak.of rfl rfl ktA ktA)
  intro k hk
  have hwl := workF_len s.sess k hk
  refine Goes ?_
  repeat' first | refine W2.m ?_ ?_ | refine W1.m fun h => ?_ | fail
  · have hlt : k < s.sess.length := by omega
    have hst := workF_take s.sess k hlt
    have hE := empS s.sess[k].worker
    generalize workF (s.sess.take k) = ws at *
    have hLw : (ws.map strR).length = ws.length := by simp
    rw [rowK sessR s.sess k hlt]
    refine ⟨by rw [hL]; exact ⟨by omega, by omega, rfl⟩, ?_⟩
    refine Goes ?_
    repeat' first | refine W2.m ?_ ?_ | refine W1.m fun h => ?_ | fail
    obtain ⟨w, hw⟩ : ∃ w, w = s.sess[k].worker := ⟨_, rfl⟩
    rw [← hw] at hst hE
    refine LoopP.go (fun j : Nat => j ≤ ws.length) (fun j => ⟨[(1, .pt 0 0 0), (2, .pt 1 0 0), (4, .pt 2 0 0), (5, iv k), (6, sv w), (7, bv (thr w (ws.take j))), (8, iv j)], [strO 3 ws, (2, .box [iv 0, .own 3 ws.length, sv ⟨#[]⟩]), (1, .box [iv 0, nl, sv ⟨#[]⟩]), (0, .box (servC s))], 4⟩) (fun j => ws.length - j) 0 (Nat.zero_le _) ?_ ?_
    · refine Weak.of rfl rfl ⟨⟨rfl, rfl⟩, ⟨rfl, rfl⟩, ⟨rfl, rfl⟩, ⟨rfl, rfl⟩, ⟨by rw [hw]; rfl, rfl⟩, ⟨leafB ?_, rfl⟩, ⟨rfl, rfl⟩, trivial⟩ ktA
      rw [← hw, hE]; simp [thr]
    intro j hj
    refine Goes ?_
    repeat' first | refine W2.m ?_ ?_ | refine W1.m fun h => ?_ | fail
    · have hjl : j < ws.length := by omega
      have hta := thr_take w ws j hjl
      cases ht : thr w (ws.take j) with
      | true =>
        rw [ht] at hta
        refine Goes ?_
        repeat' first | refine W2.m ?_ ?_ | refine W1.m fun h => ?_ | fail
        exact ⟨j + 1, by omega, by omega, by rw [hta]; exact (Weak.of rfl rfl ktA ktA)⟩
      | false =>
        rw [ht] at hta
        refine Goes ?_
        repeat' first | refine W2.m ?_ ?_ | refine W1.m fun h => ?_ | fail
        rw [rowK strR ws j hjl]
        refine Goes ?_
        repeat' first | refine W2.m ?_ ?_ | refine W1.m fun h => ?_ | fail
        refine ⟨j + 1, by omega, by omega, ?_⟩
        rw [hta]
        exact Weak.of rfl rfl ⟨⟨rfl, rfl⟩, ⟨rfl, rfl⟩, ⟨rfl, rfl⟩, ⟨rfl, rfl⟩, ⟨rfl, rfl⟩, ⟨rfl, rfl⟩, ⟨leafI numA, rfl⟩, trivial⟩ ktA
    · obtain rfl : j = ws.length := by omega
      rw [List.take_length]
      have hta := thr_add ws w
      cases ht : thr w ws with
      | true =>
        rw [ht, if_pos rfl] at hta
        rw [hta] at hst
        refine Goes ?_
        repeat' first | refine W2.m ?_ ?_ | refine W1.m fun h => ?_ | fail
        exact ⟨k + 1, by omega, by omega, by rw [hst]; exact (Weak.of rfl rfl ktA ktA)⟩
      | false =>
        rw [ht, if_neg (by simp)] at hta
        rw [hta] at hst
        refine Goes ?_
        repeat' first | refine W2.m ?_ ?_ | refine W1.m fun h => ?_ | fail
        refine ⟨⟨by omega, by show (ws.length + 1) * 16 ≤ _; omega, by show ws.length + 1 ≤ _; unfold maxLen; omega, Nat.le_refl _, fun r hr => ?_⟩, ?_⟩
        · simp only [List.take_succ_cons, List.take_zero, List.mem_singleton] at hr
          subst hr; rfl
        refine Goes ?_
        repeat' first | refine W2.m ?_ ?_ | refine W1.m fun h => ?_ | fail
        refine ⟨k + 1, by omega, by omega, ?_⟩
        rw [hst]
        refine Weak.of rfl rfl ⟨⟨rfl, rfl⟩, ⟨rfl, rfl⟩, ⟨rfl, rfl⟩, ⟨leafI numA, rfl⟩, trivial⟩ ⟨⟨leafO ?_, rfl, rfl⟩, ⟨by rw [show (ws ++ [w]).length = ws.length + 1 from by simp]; rfl, rfl, rfl⟩, ⟨rfl, rfl, rfl⟩, ⟨rfl, rfl, rfl⟩, trivial⟩
        rw [List.take_of_length_le (by omega)]; simp
  · obtain rfl : k = s.sess.length := by omega
    rw [List.take_length]
    refine FinOk.mk' [3] rfl rfl rfl rfl rfl rfl rfl ⟨?_, ?_, rfl⟩
    · rfl
    · rfl
end Go.Proofs.Ythpboccokdhpnaa
