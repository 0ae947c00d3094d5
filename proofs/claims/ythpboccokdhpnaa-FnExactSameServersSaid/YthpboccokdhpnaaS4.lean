/-
  CHAPTER 10: SameServers, both sides; its law.
-/
import Derived.Test.YthpboccokdhpnaaS3
import Derived.Test.YthpboccokdhpnaaP1
namespace Go.Proofs.Ythpboccokdhpnaa
open Go Go.Am Go.RowKit
set_option linter.unusedVariables false
set_option linter.unusedSimpArgs false
/-- A session's fields. -/
def keyS (x : SessD) : List KV := [.str x.rest.toList, .int x.extra, .str x.worker.toList, .int x.level]
def sameL (a b : List SessD) : Bool := decide (a.map keyS = b.map keyS)
theorem sameL_len {a b : List SessD} (h : a.length ≠ b.length) : sameL a b = false := decide_eq_false fun e => h (by simpa using congrArg List.length e)
theorem sameL_ne {a b : List SessD} {k : Nat} (hka : k < a.length) (hkb : k < b.length) (h : ¬ keyS a[k] = keyS b[k]) : sameL a b = false := decide_eq_false fun e => h (by
  have := congrArg (fun l => l[k]?) e
  simpa [hka, hkb] using this)
theorem sameL_take {a b : List SessD} {k : Nat} (hka : k < a.length) (hkb : k < b.length) (hp : (a.take k).map keyS = (b.take k).map keyS) (h : keyS a[k] = keyS b[k]) : (a.take (k + 1)).map keyS = (b.take (k + 1)).map keyS := by
  rw [takeS a k hka, takeS b k hkb, List.map_append, List.map_append, hp]
  simp [h]
theorem sameL_all {a b : List SessD} {k : Nat} (hk : k = a.length) (hk' : a.length = b.length) (hp : (a.take k).map keyS = (b.take k).map keyS) : sameL a b = true := by
  rw [List.take_of_length_le (by omega), List.take_of_length_le (by omega)] at hp
  exact decide_eq_true hp
theorem slEqualSess_ret (a b : List SessD) (n : Nat) (hl : a.length ≤ 1048576) : Ret Try.prog 51 [.lst (a.map sessR), .lst (b.map sessR)] [] n true (Is (bv (sameL a b)) [] n) := by
  have hLa : (a.map sessR).length = a.length := by simp
  have hLb : (b.map sessR).length = b.length := by simp
  refine Ret.fn ttOk Try.func51 rfl Try.call51 rfl rfl ?_
  refine Goes ?_
  repeat' first | refine W2.m ?_ ?_ | refine W1.m fun h => ?_ | fail
  · refine FinOk.pure rfl rfl rfl ⟨?_, rfl, rfl⟩
    rw [sameL_len (by omega)]
  have hab : a.length = b.length := by omega
  refine LoopP.go (fun k : Nat => k ≤ a.length ∧ (a.take k).map keyS = (b.take k).map keyS) (fun k => ⟨[(0, .lst (a.map sessR)), (1, .lst (b.map sessR)), (12, iv a.length), (13, iv k)], [], 0⟩) (fun k => a.length - k) 0 ⟨Nat.zero_le _, rfl⟩ ?_ ?_
  · rw [hLa]; exact (Weak.of rfl rfl ktA trivial)
  intro k ⟨hk, hp⟩
  refine Goes ?_
  repeat' first | refine W2.m ?_ ?_ | refine W1.m fun h => ?_ | fail
  · have hka : k < a.length := by omega
    have hkb : k < b.length := by omega
    rw [rowK sessR a k hka]
    refine ⟨by rw [hLa]; exact ⟨by omega, by omega, rfl⟩, ?_⟩
    refine Goes ?_
    repeat' first | refine W2.m ?_ ?_ | refine W1.m fun h => ?_ | fail
    rw [rowK sessR b k hkb]
    refine ⟨by rw [hLb]; exact ⟨by omega, by omega, rfl⟩, ?_⟩
    refine Goes ?_
    repeat' first | refine W2.m ?_ ?_ | refine W1.m fun h => ?_ | fail
    · have h' : ¬ keyS a[k] = keyS b[k] := h
      refine FinOk.pure rfl rfl rfl ⟨?_, rfl, rfl⟩
      rw [sameL_ne hka hkb h']
    · have h' : keyS a[k] = keyS b[k] := Decidable.not_not.1 h
      exact ⟨k + 1, ⟨by omega, sameL_take hka hkb hp h'⟩, by omega, (Weak.of rfl rfl ktA trivial)⟩
  · refine FinOk.pure rfl rfl rfl ⟨?_, rfl, rfl⟩
    rw [sameL_all (by omega) hab hp]
def sameSv (a b : ServD) : Bool := decide (a.next = b.next) && sameL a.sess b.sess
theorem implSameServers_ret (a b : ServD) (n : Nat) (hl : a.sess.length ≤ 1048576) : Ret Try.prog 27 [servV a, servV b] [] n true (Is (bv (sameSv a b)) [] n) := by
  refine Ret.fn ttOk Try.func27 rfl Try.call27 rfl rfl ?_
  refine Goes ?_
  repeat' first | refine W2.m ?_ ?_ | refine W1.m fun h => ?_ | fail
  · have hN : a.next = b.next := by assumption
    first | refine CallP.is (slEqualSess_ret a.sess b.sess _ hl) rfl ?_ | refine CallQ.is (slEqualSess_ret a.sess b.sess _ hl) rfl rfl ?_
    refine Goes ?_
    repeat' first | refine W2.m ?_ ?_ | refine W1.m fun h => ?_ | fail
    refine FinOk.pure rfl rfl rfl ⟨?_, rfl, rfl⟩
    unfold sameSv; rw [decide_eq_true hN]; rfl
  · have hN : ¬ a.next = b.next := by assumption
    refine FinOk.pure rfl rfl rfl ⟨?_, rfl, rfl⟩
    unfold sameSv; rw [decide_eq_false hN]; rfl
theorem specSameServers_ret (a b : ServD) (n : Nat) (hl : a.sess.length ≤ 1048576) : Ret Try.prog 26 [servV a, servV b] [] n true (Is (bv (sameSv a b)) [] n) := by
  have hLa : (a.sess.map sessR).length = a.sess.length := by simp
  have hLb : (b.sess.map sessR).length = b.sess.length := by simp
  refine Ret.fn ttOk Try.func26 rfl Try.call26 rfl rfl ?_
  refine Goes ?_
  repeat' first | refine W2.m ?_ ?_ | refine W1.m fun h => ?_ | fail
  · have hN : ¬ a.next = b.next := by assumption
    refine FinOk.pure rfl rfl rfl ⟨?_, rfl, rfl⟩
    unfold sameSv; rw [decide_eq_false hN]; rfl
  · refine FinOk.pure rfl rfl rfl ⟨?_, rfl, rfl⟩
    unfold sameSv; rw [sameL_len (by omega), Bool.and_false]
  have hN : a.next = b.next := Decidable.not_not.1 (by assumption)
  have hab : a.sess.length = b.sess.length := by omega
  refine LoopP.go (fun k : Nat => k ≤ a.sess.length ∧ (a.sess.take k).map keyS = (b.sess.take k).map keyS) (fun k => ⟨[(2, .pt 0 0 0), (3, .pt 1 0 0), (5, iv k)], [(1, .box (servC b)), (0, .box (servC a))], 2⟩) (fun k => a.sess.length - k) 0 ⟨Nat.zero_le _, rfl⟩ (Weak.of rfl rfl ktA ktA) ?_
  intro k ⟨hk, hp⟩
  refine Goes ?_
  repeat' first | refine W2.m ?_ ?_ | refine W1.m fun h => ?_ | fail
  · have hka : k < a.sess.length := by omega
    have hkb : k < b.sess.length := by omega
    rw [rowK sessR a.sess k hka]
    refine ⟨by rw [hLa]; exact ⟨by omega, by omega, rfl⟩, ?_⟩
    refine Goes ?_
    repeat' first | refine W2.m ?_ ?_ | refine W1.m fun h => ?_ | fail
    rw [rowK sessR b.sess k hkb]
    refine ⟨by rw [hLb]; exact ⟨by omega, by omega, rfl⟩, ?_⟩
    refine Goes ?_
    repeat' first | refine W2.m ?_ ?_ | refine W1.m fun h => ?_ | fail
    · have h' : ¬ keyS a.sess[k] = keyS b.sess[k] := h
      refine FinOk.pure rfl rfl rfl ⟨?_, rfl, rfl⟩
      unfold sameSv; rw [sameL_ne hka hkb h', Bool.and_false]
    · have h' : keyS a.sess[k] = keyS b.sess[k] := Decidable.not_not.1 h
      exact ⟨k + 1, ⟨by omega, sameL_take hka hkb hp h'⟩, by omega, (Weak.of rfl rfl ktA ktA)⟩
  · refine FinOk.pure rfl rfl rfl ⟨?_, rfl, rfl⟩
    unfold sameSv; rw [sameL_all (by omega) hab hp, decide_eq_true hN]; rfl
theorem lawSameServers (a b : ServD) (n : Nat) (ha : MemSv a) (hb : MemSv b) : Ret Try.prog 7 [servV a, servV b] [] n true (fun r _ _ => r = bv true) := by
  refine Ret.fn ttOk Try.func7 rfl Try.call7 rfl rfl ?_
  refine Goes ?_
  repeat' first | refine W2.m ?_ ?_ | refine W1.m fun h => ?_ | fail
  first | refine CallP.is (szServer_ret a 1048576 _ (by decide) (by decide) ha) rfl ?_ | refine CallQ.is (szServer_ret a 1048576 _ (by decide) (by decide) ha) rfl rfl ?_
  refine Goes ?_
  repeat' first | refine W2.m ?_ ?_ | refine W1.m fun h => ?_ | fail
  · exact FinOk.pure rfl rfl rfl rfl
  obtain ⟨g1, g2⟩ := leftI_pos h
  rw [g1]
  first | refine CallP.is (szServer_ret b _ _ (by omega) (by omega) hb) rfl ?_ | refine CallQ.is (szServer_ret b _ _ (by omega) (by omega) hb) rfl rfl ?_
  refine Goes ?_
  repeat' first | refine W2.m ?_ ?_ | refine W1.m fun h => ?_ | fail
  · exact FinOk.pure rfl rfl rfl rfl
  obtain ⟨g3, g4⟩ := leftI_pos h
  have fa : FitsSv a := fitsSv_of (by omega)
  have fb : FitsSv b := fitsSv_of (by omega)
  first | refine CallP.is (toServer_fr a _ fa) rfl ?_ | refine CallQ.is (toServer_fr a _ fa) rfl rfl ?_
  refine Goes ?_
  repeat' first | refine W2.m ?_ ?_ | refine W1.m fun h => ?_ | fail
  first | refine CallP.is (toServer_fr b _ fb) rfl ?_ | refine CallQ.is (toServer_fr b _ fb) rfl rfl ?_
  refine Goes ?_
  repeat' first | refine W2.m ?_ ?_ | refine W1.m fun h => ?_ | fail
  first | refine CallP.is (specSameServers_ret a b _ fa.len) rfl ?_ | refine CallQ.is (specSameServers_ret a b _ fa.len) rfl rfl ?_
  refine Goes ?_
  repeat' first | refine W2.m ?_ ?_ | refine W1.m fun h => ?_ | fail
  first | refine CallP.is (toServer_fr a _ fa) rfl ?_ | refine CallQ.is (toServer_fr a _ fa) rfl rfl ?_
  refine Goes ?_
  repeat' first | refine W2.m ?_ ?_ | refine W1.m fun h => ?_ | fail
  first | refine CallP.is (toServer_fr b _ fb) rfl ?_ | refine CallQ.is (toServer_fr b _ fb) rfl rfl ?_
  refine Goes ?_
  repeat' first | refine W2.m ?_ ?_ | refine W1.m fun h => ?_ | fail
  first | refine CallP.is (implSameServers_ret a b _ fa.len) rfl ?_ | refine CallQ.is (implSameServers_ret a b _ fa.len) rfl rfl ?_
  refine Goes ?_
  repeat' first | refine W2.m ?_ ?_ | refine W1.m fun h => ?_ | fail
  · exfalso; simp at h
  first | refine CallQ.is (toServer_fr a _ fa) rfl rfl ?_ | refine CallP.is (toServer_fr a _ fa) rfl ?_
  refine Goes ?_
  repeat' first | refine W2.m ?_ ?_ | refine W1.m fun h => ?_ | fail
  first | refine CallP.is (eqServer_yes a _ fa) rfl ?_ | refine CallQ.is (eqServer_yes a _ fa) rfl rfl ?_
  refine Goes ?_
  repeat' first | refine W2.m ?_ ?_ | refine W1.m fun h => ?_ | fail
  first | refine CallQ.is (toServer_fr b _ fb) rfl rfl ?_ | refine CallP.is (toServer_fr b _ fb) rfl ?_
  refine Goes ?_
  repeat' first | refine W2.m ?_ ?_ | refine W1.m fun h => ?_ | fail
  first | refine CallP.is (eqServer_yes b _ fb) rfl ?_ | refine CallQ.is (eqServer_yes b _ fb) rfl rfl ?_
  refine Goes ?_
  repeat' first | refine W2.m ?_ ?_ | refine W1.m fun h => ?_ | fail
  exact FinOk.pure rfl rfl rfl rfl
end Go.Proofs.Ythpboccokdhpnaa
