/-
  CHAPTER 10: ServerFault, both sides.
-/
import Derived.Test.YthpboccokdhpnaaS2
import Derived.Test.YthpboccokdhpnaaS3
namespace Go.Proofs.Ythpboccokdhpnaa
open Go Go.Am Go.RowKit
set_option linter.unusedVariables false
set_option linter.unusedSimpArgs false
/-- Where the first is. -/
def idxF (p : SessD → Bool) : List SessD → Nat → Int
  | [], _ => -1
  | c :: r, k => if p c = true then k else idxF p r (k + 1)
theorem idxF_ge (p : SessD → Bool) : ∀ (ms : List SessD) (k : Nat), decide (0 ≤ idxF p ms k) = ms.any p
  | [], k => by simp [idxF]
  | c :: r, k => by
    rw [idxF, List.any_cons]
    cases hb : p c with
    | true => simp
    | false => simpa using idxF_ge p r (k + 1)
def sameExtra (y x : SessD) : Bool := decide (x.extra = y.extra)
def laterExtra (y : ServD) (x : SessD) : Bool := decide (y.next ≤ x.extra)
theorem seClo_ret (x : SessD) (y : SessD) (i n : Nat) : Ret Try.prog 60 [.agg (sessR x), .pt i 0 0] [(i, .box (sessR y))] n true (Is (bv (sameExtra y x)) [(i, .box (sessR y))] n) := by
  refine Ret.of_run (tt := tt) ttOk Try.func60 rfl Try.call60 [i] [.box (sessR y)] [.agg (sessR x), .pt 0 0 0] true n _ rfl (nodup1 i) (by exact Nat.le_of_ble_eq_true rfl) rfl rfl ?_
  refine Goes ?_
  repeat' first | refine W2.m ?_ ?_ | refine W1.m fun h => ?_ | fail
  refine FinOk.mk' [] rfl rfl rfl rfl rfl rfl rfl ⟨?_, ?_, rfl⟩
  · rfl
  · rfl
theorem seIdx_ret (y : SessD) (ms : List SessD) (q i n : Nat) (hqi : q ≠ i) (hl : ms.length ≤ 1048576) : Ret Try.prog 61 [.lst (ms.map sessR), .clo q] [(q, .clo 60 [] [.pt i 0 0]), (i, .box (sessR y))] n true (Is (iv (idxF (sameExtra y) ms 0)) [(q, .clo 60 [] [.pt i 0 0]), (i, .box (sessR y))] n) := by
  have hL : (ms.map sessR).length = ms.length := by simp
  refine Ret.of_run (tt := tt) ttOk Try.func61 rfl Try.call61 [q, i] [.clo 60 [] [.pt 1 0 0], .box (sessR y)] [.lst (ms.map sessR), .clo 0] true n _ rfl (nodup2 hqi) (by exact Nat.le_of_ble_eq_true rfl) rfl rfl ?_
  refine Goes ?_
  repeat' first | refine W2.m ?_ ?_ | refine W1.m fun h => ?_ | fail
  refine LoopP.go (fun k : Nat => k ≤ ms.length ∧ idxF (sameExtra y) ms 0 = idxF (sameExtra y) (ms.drop k) k) (fun k => ⟨[(0, .lst (ms.map sessR)), (1, .clo 0), (6, .lst (ms.map sessR)), (7, iv ms.length), (8, iv k)], [(0, .clo 60 [] [.pt 1 0 0]), (1, .box (sessR y))], 2⟩) (fun k => ms.length - k) 0 ⟨Nat.zero_le _, rfl⟩ ?_ ?_
  · rw [hL]
    exact (Weak.of rfl rfl ktA ktA)
  intro k ⟨hk, hp⟩
  refine Goes ?_
  repeat' first | refine W2.m ?_ ?_ | refine W1.m fun h => ?_ | fail
  · have hlt : k < ms.length := by omega
    rw [List.drop_eq_getElem_cons hlt, idxF] at hp
    rw [rowK sessR ms k hlt]
    refine ⟨by rw [hL]; exact ⟨by omega, by omega, rfl⟩, ?_⟩
    refine Goes ?_
    repeat' first | refine W2.m ?_ ?_ | refine W1.m fun h => ?_ | fail
    refine CallP.heapIs (seClo_ret ms[k] y 1 _) rfl ktA rfl ?_
    refine Goes ?_
    repeat' first | refine W2.m ?_ ?_ | refine W1.m fun h => ?_ | fail
    · have hb : sameExtra y ms[k] = true := decide_eq_true h
      rw [hb, if_pos rfl] at hp
      rw [hp]
      refine FinOk.mk' [] rfl rfl rfl rfl rfl rfl rfl ⟨?_, ?_, rfl⟩
      · rfl
      · rfl
    · have hb : sameExtra y ms[k] = false := decide_eq_false h
      rw [hb, if_neg (by simp)] at hp
      exact ⟨k + 1, ⟨by omega, hp⟩, by omega, (Weak.of rfl rfl ktA ktA)⟩
  · obtain rfl : k = ms.length := by omega
    rw [List.drop_length, idxF] at hp
    rw [hp]
    refine FinOk.mk' [] rfl rfl rfl rfl rfl rfl rfl ⟨?_, ?_, rfl⟩
    · rfl
    · rfl
theorem seHas_ret (y : SessD) (ms : List SessD) (q i n : Nat) (hqi : q ≠ i) (hl : ms.length ≤ 1048576) : Ret Try.prog 34 [.lst (ms.map sessR), .clo q] [(q, .clo 60 [] [.pt i 0 0]), (i, .box (sessR y))] n true (Is (bv (ms.any (sameExtra y))) [(q, .clo 60 [] [.pt i 0 0]), (i, .box (sessR y))] n) := by
  refine Ret.of_run (tt := tt) ttOk Try.func34 rfl Try.call34 [q, i] [.clo 60 [] [.pt 1 0 0], .box (sessR y)] [.lst (ms.map sessR), .clo 0] true n _ rfl (nodup2 hqi) (by exact Nat.le_of_ble_eq_true rfl) rfl rfl ?_
  refine Goes ?_
  repeat' first | refine W2.m ?_ ?_ | refine W1.m fun h => ?_ | fail
  refine CallP.heapIs (seIdx_ret y ms 0 1 _ (by decide) hl) rfl ktA rfl ?_
  refine Goes ?_
  repeat' first | refine W2.m ?_ ?_ | refine W1.m fun h => ?_ | fail
  rw [← idxF_ge (sameExtra y) ms 0]
  refine FinOk.mk' [] rfl rfl rfl rfl rfl rfl rfl ⟨?_, ?_, rfl⟩
  · rfl
  · rfl
theorem leClo_ret (x : SessD) (y : ServD) (i n : Nat) : Ret Try.prog 32 [.agg (sessR x), .pt i 0 0] [(i, .box (servC y))] n true (Is (bv (laterExtra y x)) [(i, .box (servC y))] n) := by
  refine Ret.of_run (tt := tt) ttOk Try.func32 rfl Try.call32 [i] [.box (servC y)] [.agg (sessR x), .pt 0 0 0] true n _ rfl (nodup1 i) (by exact Nat.le_of_ble_eq_true rfl) rfl rfl ?_
  refine Goes ?_
  repeat' first | refine W2.m ?_ ?_ | refine W1.m fun h => ?_ | fail
  refine FinOk.mk' [] rfl rfl rfl rfl rfl rfl rfl ⟨?_, ?_, rfl⟩
  · rfl
  · rfl
theorem leIdx_ret (y : ServD) (ms : List SessD) (q i n : Nat) (hqi : q ≠ i) (hl : ms.length ≤ 1048576) : Ret Try.prog 61 [.lst (ms.map sessR), .clo q] [(q, .clo 32 [] [.pt i 0 0]), (i, .box (servC y))] n true (Is (iv (idxF (laterExtra y) ms 0)) [(q, .clo 32 [] [.pt i 0 0]), (i, .box (servC y))] n) := by
  have hL : (ms.map sessR).length = ms.length := by simp
  refine Ret.of_run (tt := tt) ttOk Try.func61 rfl Try.call61 [q, i] [.clo 32 [] [.pt 1 0 0], .box (servC y)] [.lst (ms.map sessR), .clo 0] true n _ rfl (nodup2 hqi) (by exact Nat.le_of_ble_eq_true rfl) rfl rfl ?_
  refine Goes ?_
  repeat' first | refine W2.m ?_ ?_ | refine W1.m fun h => ?_ | fail
  refine LoopP.go (fun k : Nat => k ≤ ms.length ∧ idxF (laterExtra y) ms 0 = idxF (laterExtra y) (ms.drop k) k) (fun k => ⟨[(0, .lst (ms.map sessR)), (1, .clo 0), (6, .lst (ms.map sessR)), (7, iv ms.length), (8, iv k)], [(0, .clo 32 [] [.pt 1 0 0]), (1, .box (servC y))], 2⟩) (fun k => ms.length - k) 0 ⟨Nat.zero_le _, rfl⟩ ?_ ?_
  · rw [hL]
    exact (Weak.of rfl rfl ktA ktA)
  intro k ⟨hk, hp⟩
  refine Goes ?_
  repeat' first | refine W2.m ?_ ?_ | refine W1.m fun h => ?_ | fail
  · have hlt : k < ms.length := by omega
    rw [List.drop_eq_getElem_cons hlt, idxF] at hp
    rw [rowK sessR ms k hlt]
    refine ⟨by rw [hL]; exact ⟨by omega, by omega, rfl⟩, ?_⟩
    refine Goes ?_
    repeat' first | refine W2.m ?_ ?_ | refine W1.m fun h => ?_ | fail
    refine CallP.heapIs (leClo_ret ms[k] y 1 _) rfl ktA rfl ?_
    refine Goes ?_
    repeat' first | refine W2.m ?_ ?_ | refine W1.m fun h => ?_ | fail
    · have hb : laterExtra y ms[k] = true := decide_eq_true h
      rw [hb, if_pos rfl] at hp
      rw [hp]
      refine FinOk.mk' [] rfl rfl rfl rfl rfl rfl rfl ⟨?_, ?_, rfl⟩
      · rfl
      · rfl
    · have hb : laterExtra y ms[k] = false := decide_eq_false h
      rw [hb, if_neg (by simp)] at hp
      exact ⟨k + 1, ⟨by omega, hp⟩, by omega, (Weak.of rfl rfl ktA ktA)⟩
  · obtain rfl : k = ms.length := by omega
    rw [List.drop_length, idxF] at hp
    rw [hp]
    refine FinOk.mk' [] rfl rfl rfl rfl rfl rfl rfl ⟨?_, ?_, rfl⟩
    · rfl
    · rfl
theorem leHas_ret (y : ServD) (ms : List SessD) (q i n : Nat) (hqi : q ≠ i) (hl : ms.length ≤ 1048576) : Ret Try.prog 34 [.lst (ms.map sessR), .clo q] [(q, .clo 32 [] [.pt i 0 0]), (i, .box (servC y))] n true (Is (bv (ms.any (laterExtra y))) [(q, .clo 32 [] [.pt i 0 0]), (i, .box (servC y))] n) := by
  refine Ret.of_run (tt := tt) ttOk Try.func34 rfl Try.call34 [q, i] [.clo 32 [] [.pt 1 0 0], .box (servC y)] [.lst (ms.map sessR), .clo 0] true n _ rfl (nodup2 hqi) (by exact Nat.le_of_ble_eq_true rfl) rfl rfl ?_
  refine Goes ?_
  repeat' first | refine W2.m ?_ ?_ | refine W1.m fun h => ?_ | fail
  refine CallP.heapIs (leIdx_ret y ms 0 1 _ (by decide) hl) rfl ktA rfl ?_
  refine Goes ?_
  repeat' first | refine W2.m ?_ ?_ | refine W1.m fun h => ?_ | fail
  rw [← idxF_ge (laterExtra y) ms 0]
  refine FinOk.mk' [] rfl rfl rfl rfl rfl rfl rfl ⟨?_, ?_, rfl⟩
  · rfl
  · rfl
theorem hasExtra_ret (x : SessD) (n : Nat) : Ret Try.prog 59 [.agg (sessR x)] [] n true (Is (bv (decide (¬ x.extra = -1))) [] n) := by
  refine Ret.fn ttOk Try.func59 rfl Try.call59 rfl rfl ?_
  refine Goes ?_
  repeat' first | refine W2.m ?_ ?_ | refine W1.m fun h => ?_ | fail
  refine FinOk.pure rfl rfl rfl ⟨?_, rfl, rfl⟩
  rfl
theorem isLevel_ret (z : Int) (n : Nat) : Ret Try.prog 58 [iv z] [] n true (Is (bv (decide (inR 1 9999 z))) [] n) := by
  refine Ret.fn ttOk Try.func58 rfl Try.call58 rfl rfl ?_
  refine Goes ?_
  repeat' first | refine W2.m ?_ ?_ | refine W1.m fun h => ?_ | fail
  all_goals (refine FinOk.pure rfl rfl rfl ⟨bvI ?_, rfl, rfl⟩; simp [inR, *])
theorem isExtra_ret (z : Int) (n : Nat) : Ret Try.prog 33 [iv z] [] n true (Is (bv (decide (inR 0 999 z))) [] n) := by
  refine Ret.fn ttOk Try.func33 rfl Try.call33 rfl rfl ?_
  refine Goes ?_
  repeat' first | refine W2.m ?_ ?_ | refine W1.m fun h => ?_ | fail
  all_goals (refine FinOk.pure rfl rfl rfl ⟨bvI ?_, rfl, rfl⟩; simp [inR, *])
def oneC (x : SessD) (es : List SessD) : Int :=
  if ¬ (restF x.rest = true ∧ argF x.worker = true) then 5
  else if ¬ (inR (-1) 998 x.extra ∧ inR 1 9999 x.level) then 3
  else if x.worker.size ≠ 0 ∧ x.extra = -1 then 1
  else if ¬ x.extra = -1 ∧ es.any (sameExtra x) = true then 6 else 0
def allC : List SessD → List SessD → Int
  | _, [] => 0
  | es, x :: r => if ¬ oneC x es = 0 then oneC x es else allC (es ++ [x]) r
def faultSv (s : ServD) : Int :=
  if 4 < s.sess.length then 2 else if ¬ allC [] s.sess = 0 then allC [] s.sess
  else if ¬ inR 0 999 s.next ∨ s.sess.any (laterExtra s) = true then 3 else 0
theorem allC_at (xs : List SessD) (k : Nat) (h : k < xs.length) : allC (xs.take k) (xs.drop k) = if ¬ oneC xs[k] (xs.take k) = 0 then oneC xs[k] (xs.take k) else allC (xs.take (k + 1)) (xs.drop (k + 1)) := by
  rw [List.drop_eq_getElem_cons h, allC, takeS xs k h]
theorem empS (b : ByteArray) : (b.toList == ByteArray.toList ⟨#[]⟩) = decide (b.size = 0) := by
  rw [ByteArray.toList_eq, ByteArray.toList_eq]
  by_cases h : b.size = 0
  · have h2 : b.data = #[] := Array.eq_empty_of_size_eq_zero h
    rw [decide_eq_true h, h2]; rfl
  · rw [decide_eq_false h]
    have h2 : ¬ b.data.toList = [] := fun e => h (by have := congrArg List.length e; simpa using this)
    simpa using h2
theorem sessionFault_ret (x : SessD) (es : List SessD) (n : Nat) (hx : FitsS x) (hl : es.length ≤ 1048576) : Ret Try.prog 31 [.agg (sessR x), .lst (es.map sessR)] [] n true (Is (iv (oneC x es)) [] n) := by
  have hR := fun n => isRest_ret x.rest n
  have hA := fun n => isArg_ret x.worker hx.worker n
  have hE := empS x.worker
  have hH := fun n => seHas_ret x es 1 0 n (by decide) hl
  cases hr : restF x.rest with
  | false =>
    rw [hr] at hR
    refine Ret.fn ttOk Try.func31 rfl Try.call31 rfl rfl ?_
    refine Goes ?_
    repeat' first | refine W2.m ?_ ?_ | refine W1.m fun h => ?_ | fail
    first | refine CallP.is (hR _) rfl ?_ | refine CallQ.is (hR _) rfl rfl ?_
    refine Goes ?_
    repeat' first | refine W2.m ?_ ?_ | refine W1.m fun h => ?_ | fail
    refine FinOk.pure rfl rfl rfl ⟨?_, rfl, rfl⟩
    unfold oneC; rw [hr, if_pos (by simp)]
  | true =>
    rw [hr] at hR
    cases ha : argF x.worker with
    | false =>
      rw [ha] at hA
      refine Ret.fn ttOk Try.func31 rfl Try.call31 rfl rfl ?_
      refine Goes ?_
      repeat' first | refine W2.m ?_ ?_ | refine W1.m fun h => ?_ | fail
      first | refine CallP.is (hR _) rfl ?_ | refine CallQ.is (hR _) rfl rfl ?_
      refine Goes ?_
      repeat' first | refine W2.m ?_ ?_ | refine W1.m fun h => ?_ | fail
      first | refine CallP.is (hA _) rfl ?_ | refine CallQ.is (hA _) rfl rfl ?_
      refine Goes ?_
      repeat' first | refine W2.m ?_ ?_ | refine W1.m fun h => ?_ | fail
      refine FinOk.pure rfl rfl rfl ⟨?_, rfl, rfl⟩
      unfold oneC; rw [ha, if_pos (by simp)]
    | true =>
      rw [ha] at hA
      have hC : oneC x es = if ¬ (inR (-1) 998 x.extra ∧ inR 1 9999 x.level) then 3 else if x.worker.size ≠ 0 ∧ x.extra = -1 then 1 else if ¬ x.extra = -1 ∧ es.any (sameExtra x) = true then 6 else 0 := by
        unfold oneC; rw [hr, ha, if_neg (by simp)]
      have h3 : ¬ inR (-1) 998 x.extra → oneC x es = 3 := fun h => by rw [hC, if_pos (fun h' => h h'.1)]
      unfold inR at h3
      refine Ret.fn ttOk Try.func31 rfl Try.call31 rfl rfl ?_
      refine Goes ?_
      repeat' first | refine W2.m ?_ ?_ | refine W1.m fun h => ?_ | fail
      first | refine CallP.is (hR _) rfl ?_ | refine CallQ.is (hR _) rfl rfl ?_
      refine Goes ?_
      repeat' first | refine W2.m ?_ ?_ | refine W1.m fun h => ?_ | fail
      first | refine CallP.is (hA _) rfl ?_ | refine CallQ.is (hA _) rfl rfl ?_
      refine Goes ?_
      repeat' first | refine W2.m ?_ ?_ | refine W1.m fun h => ?_ | fail
      · refine FinOk.pure rfl rfl rfl ⟨?_, rfl, rfl⟩
        rw [h3 (by omega)]
      · refine FinOk.pure rfl rfl rfl ⟨?_, rfl, rfl⟩
        rw [h3 (by omega)]
      first | refine CallP.is (isLevel_ret _ _) rfl ?_ | refine CallQ.is (isLevel_ret _ _) rfl rfl ?_
      refine Goes ?_
      repeat' first | refine W2.m ?_ ?_ | refine W1.m fun h => ?_ | fail
      · have hlv : ¬ inR 1 9999 x.level := by assumption
        refine FinOk.pure rfl rfl rfl ⟨?_, rfl, rfl⟩
        rw [hC, if_pos (fun h => hlv h.2)]
      · have hlv : inR 1 9999 x.level := by assumption
        have h4 : inR (-1) 998 x.extra := by unfold inR; omega
        rw [if_neg (fun h => h ⟨h4, hlv⟩)] at hC
        rw [hE]
        refine Goes ?_
        repeat' first | refine W2.m ?_ ?_ | refine W1.m fun h => ?_ | fail
        · have hw : ¬ x.worker.size = 0 := by assumption
          first | refine CallP.is (hasExtra_ret x _) rfl ?_ | refine CallQ.is (hasExtra_ret x _) rfl rfl ?_
          refine Goes ?_
          repeat' first | refine W2.m ?_ ?_ | refine W1.m fun h => ?_ | fail
          · have he : x.extra = -1 := Decidable.not_not.1 h
            refine FinOk.pure rfl rfl rfl ⟨?_, rfl, rfl⟩
            rw [hC, if_pos ⟨hw, he⟩]
          · have he : ¬ x.extra = -1 := h
            rw [if_neg (fun h => he h.2)] at hC
            first | refine CallP.is (hasExtra_ret x _) rfl ?_ | refine CallQ.is (hasExtra_ret x _) rfl rfl ?_
            refine Goes ?_
            repeat' first | refine W2.m ?_ ?_ | refine W1.m fun h => ?_ | fail
            cases hany : es.any (sameExtra x) with
            | true =>
              rw [hany] at hH
              rw [hany, if_pos ⟨he, rfl⟩] at hC
              refine CallP.heapIs (hH _) rfl ktA rfl ?_
              refine Goes ?_
              repeat' first | refine W2.m ?_ ?_ | refine W1.m fun h => ?_ | fail
              refine FinOk.pure rfl rfl rfl ⟨?_, rfl, rfl⟩
              rw [hC]
            | false =>
              rw [hany] at hH
              rw [hany, if_neg (fun h => by simp at h)] at hC
              refine CallP.heapIs (hH _) rfl ktA rfl ?_
              refine Goes ?_
              repeat' first | refine W2.m ?_ ?_ | refine W1.m fun h => ?_ | fail
              refine FinOk.pure rfl rfl rfl ⟨?_, rfl, rfl⟩
              rw [hC]
        · have hw : x.worker.size = 0 := by assumption
          rw [if_neg (fun h => h.1 hw)] at hC
          first | refine CallP.is (hasExtra_ret x _) rfl ?_ | refine CallQ.is (hasExtra_ret x _) rfl rfl ?_
          refine Goes ?_
          repeat' first | refine W2.m ?_ ?_ | refine W1.m fun h => ?_ | fail
          · have he : ¬ x.extra = -1 := h
            cases hany : es.any (sameExtra x) with
            | true =>
              rw [hany] at hH
              rw [hany, if_pos ⟨he, rfl⟩] at hC
              refine CallP.heapIs (hH _) rfl ktA rfl ?_
              refine Goes ?_
              repeat' first | refine W2.m ?_ ?_ | refine W1.m fun h => ?_ | fail
              refine FinOk.pure rfl rfl rfl ⟨?_, rfl, rfl⟩
              rw [hC]
            | false =>
              rw [hany] at hH
              rw [hany, if_neg (fun h => by simp at h)] at hC
              refine CallP.heapIs (hH _) rfl ktA rfl ?_
              refine Goes ?_
              repeat' first | refine W2.m ?_ ?_ | refine W1.m fun h => ?_ | fail
              refine FinOk.pure rfl rfl rfl ⟨?_, rfl, rfl⟩
              rw [hC]
          · have he : x.extra = -1 := Decidable.not_not.1 h
            refine FinOk.pure rfl rfl rfl ⟨?_, rfl, rfl⟩
            rw [hC, if_neg (fun h => h.1 he)]
theorem implServerFault_ret (s : ServD) (n : Nat) (hf : FitsSv s) : Ret Try.prog 11 [servV s] [] n true (Is (iv (faultSv s)) [] n) := by
  have hL : (s.sess.map sessR).length = s.sess.length := by simp
  have hH := fun n => leHas_ret s s.sess 1 0 n (by decide) hf.len
  refine Ret.fn ttOk Try.func11 rfl Try.call11 rfl rfl ?_
  refine Goes ?_
  repeat' first | refine W2.m ?_ ?_ | refine W1.m fun h => ?_ | fail
  · refine FinOk.pure rfl rfl rfl ⟨?_, rfl, rfl⟩
    unfold faultSv; rw [if_pos (by omega)]
  have h2 : ¬ 4 < s.sess.length := by omega
  have hC : faultSv s = if ¬ allC [] s.sess = 0 then allC [] s.sess else if ¬ inR 0 999 s.next ∨ s.sess.any (laterExtra s) = true then 3 else 0 := by
    unfold faultSv; rw [if_neg h2]
  refine LoopP.go (fun k : Nat => k ≤ s.sess.length ∧ allC [] s.sess = allC (s.sess.take k) (s.sess.drop k)) (fun k => ⟨[(1, .pt 0 0 0), (12, .lst (s.sess.map sessR)), (13, iv s.sess.length), (14, iv k)], [(0, .box (servC s))], 1⟩) (fun k => s.sess.length - k) 0 ⟨Nat.zero_le _, rfl⟩ ?_ ?_
  · rw [hL]; exact (Weak.of rfl rfl ktA ktA)
  intro k ⟨hk, hp⟩
  refine Goes ?_
  repeat' first | refine W2.m ?_ ?_ | refine W1.m fun h => ?_ | fail
  · have hlt : k < s.sess.length := by omega
    rw [allC_at _ k hlt] at hp
    rw [rowK sessR s.sess k hlt]
    refine ⟨by rw [hL]; exact ⟨by omega, by omega, rfl⟩, ?_⟩
    refine Goes ?_
    repeat' first | refine W2.m ?_ ?_ | refine W1.m fun h => ?_ | fail
    have e1 : List.take ((k : Int).toNat - Int.toNat 0) (List.drop (Int.toNat 0) (s.sess.map sessR)) = (s.sess.take k).map sessR := by simp [List.map_take]
    rw [e1]
    first | refine CallP.is (sessionFault_ret s.sess[k] (s.sess.take k) _ (hf.sess _ (List.getElem_mem hlt)) (by rw [List.length_take]; have := hf.len; omega)) rfl ?_ | refine CallQ.is (sessionFault_ret s.sess[k] (s.sess.take k) _ (hf.sess _ (List.getElem_mem hlt)) (by rw [List.length_take]; have := hf.len; omega)) rfl rfl ?_
    refine Goes ?_
    repeat' first | refine W2.m ?_ ?_ | refine W1.m fun h => ?_ | fail
    · have h' : ¬ oneC s.sess[k] (s.sess.take k) = 0 := h
      rw [if_pos h'] at hp
      refine FinOk.pure rfl rfl rfl ⟨?_, rfl, rfl⟩
      rw [hC, hp, if_pos h']
    · have h' : oneC s.sess[k] (s.sess.take k) = 0 := Decidable.not_not.1 h
      rw [if_neg (fun h => h h')] at hp
      exact ⟨k + 1, ⟨by omega, hp⟩, by omega, (Weak.of rfl rfl ktA ktA)⟩
  · obtain rfl : k = s.sess.length := by omega
    rw [List.drop_length, allC] at hp
    rw [hp, if_neg (by simp)] at hC
    first | refine CallP.is (isExtra_ret s.next _) rfl ?_ | refine CallQ.is (isExtra_ret s.next _) rfl rfl ?_
    refine Goes ?_
    repeat' first | refine W2.m ?_ ?_ | refine W1.m fun h => ?_ | fail
    · have h' : ¬ inR 0 999 s.next := by assumption
      refine FinOk.pure rfl rfl rfl ⟨?_, rfl, rfl⟩
      rw [hC, if_pos (.inl h')]
    · have h' : inR 0 999 s.next := by assumption
      cases hany : s.sess.any (laterExtra s) with
      | true =>
        rw [hany] at hH
        rw [if_pos (.inr hany)] at hC
        refine CallP.heapIs (hH _) rfl ktA rfl ?_
        refine Goes ?_
        repeat' first | refine W2.m ?_ ?_ | refine W1.m fun h => ?_ | fail
        refine FinOk.pure rfl rfl rfl ⟨?_, rfl, rfl⟩
        rw [hC]
      | false =>
        rw [hany] at hH
        rw [if_neg (fun h => by rcases h with h | h; exact h h'; rw [hany] at h; cases h)] at hC
        refine CallP.heapIs (hH _) rfl ktA rfl ?_
        refine Goes ?_
        repeat' first | refine W2.m ?_ ?_ | refine W1.m fun h => ?_ | fail
        refine FinOk.pure rfl rfl rfl ⟨?_, rfl, rfl⟩
        rw [hC]
theorem eExtra (y x : SessD) : sameExtra y x = decide (x.extra = y.extra) := rfl
end Go.Proofs.Ythpboccokdhpnaa
