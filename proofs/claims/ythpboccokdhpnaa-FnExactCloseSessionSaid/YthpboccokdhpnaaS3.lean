/-
  CHAPTER 10: sessions and servers, how the laws copy, compare and measure them.
-/
import Derived.Test.YthpboccokdhpnaaP16
import Derived.Test.YthpboccokdhpnaaS1
namespace Go.Proofs.Ythpboccokdhpnaa
open Go Go.Am Go.RowKit
set_option linter.unusedVariables false
set_option linter.unusedSimpArgs false
structure SessD where
  rest : ByteArray
  extra : Int
  worker : ByteArray
  level : Int
abbrev sessR (x : SessD) : List AV := [sv x.rest, iv x.extra, sv x.worker, iv x.level]
structure ServD where
  sess : List SessD
  next : Int
abbrev servC (s : ServD) : List AV := [.lst (s.sess.map sessR), iv s.next]
abbrev servV (s : ServD) : AV := .agg (servC s)
def sizeS (x : SessD) : Nat := x.rest.size + x.worker.size
def sizeSv (s : ServD) : Nat := s.sess.length + psum sizeS s.sess
structure MemS (x : SessD) : Prop where
  rest : x.rest.size ≤ 9223372036854775807
  worker : x.worker.size ≤ 9223372036854775807
  extra : isI64 x.extra
  level : isI64 x.level
structure MemSv (s : ServD) : Prop where
  len : s.sess.length ≤ 9223372036854775807
  sess : ∀ x ∈ s.sess, MemS x
  next : isI64 s.next
structure FitsS (x : SessD) : Prop where
  rest : x.rest.size ≤ 1048576
  worker : x.worker.size ≤ 1048576
structure FitsSv (s : ServD) : Prop where
  len : s.sess.length ≤ 1048576
  sess : ∀ x ∈ s.sess, FitsS x
theorem fitsSv_of {s : ServD} (h : sizeSv s ≤ 1048576) : FitsSv s := by
  unfold sizeSv at h
  refine ⟨by omega, fun x hx => ?_⟩
  have := psum_mem sizeS s.sess x hx
  unfold sizeS at *
  exact ⟨by omega, by omega⟩
theorem toSession_fr (x : SessD) (n : Nat) : Ret Try.prog 55 [.agg (sessR x)] [] n true (Is (.agg (sessR x)) [] n) := by
  refine Ret.fn ttOk Try.func55 rfl Try.call55 rfl rfl ?_
  refine Goes ?_
  repeat' first | refine W2.m ?_ ?_ | refine W1.m fun h => ?_ | fail
  refine FinOk.pure rfl rfl rfl ⟨?_, rfl, rfl⟩
  rfl
theorem szSession_ret (x : SessD) (l : Int) (n : Nat) (h0 : 0 ≤ l) (h1 : l ≤ 1048576) (hm : MemS x) : Ret Try.prog 52 [.agg (sessR x), iv l] [] n true (Is (iv (leftI l (sizeS x))) [] n) := by
  obtain ⟨m1, m2, _, _⟩ := hm
  have e1 : IntKind.i64.wrap (l - (x.rest.size : Int)) = l - x.rest.size := IntWalk.i64_in _ (by omega)
  refine Ret.fn ttOk Try.func52 rfl Try.call52 rfl rfl ?_
  refine Goes ?_
  repeat' first | refine W2.m ?_ ?_ | refine W1.m fun h => ?_ | fail
  · rw [e1] at h
    refine FinOk.pure rfl rfl rfl ⟨?_, rfl, rfl⟩
    unfold leftI sizeS; rw [if_neg (by omega)]
  · rename_i h'
    rw [e1] at h'
    have e2 : IntKind.i64.wrap (l - (x.rest.size : Int) - (x.worker.size : Int)) = l - x.rest.size - x.worker.size := IntWalk.i64_in _ (by omega)
    rw [e1, e2] at h
    refine FinOk.pure rfl rfl rfl ⟨?_, rfl, rfl⟩
    unfold leftI sizeS; rw [if_neg (by omega)]
  · rename_i h'
    rw [e1] at h'
    have e2 : IntKind.i64.wrap (l - (x.rest.size : Int) - (x.worker.size : Int)) = l - x.rest.size - x.worker.size := IntWalk.i64_in _ (by omega)
    rw [e1, e2] at h
    refine FinOk.pure rfl rfl rfl ⟨?_, rfl, rfl⟩
    rw [e1, e2]
    unfold leftI sizeS; rw [if_pos (by omega)]
    refine ivI ?_
    omega
theorem eqSession_yes (x : SessD) (n : Nat) : Ret Try.prog 62 [.agg (sessR x), .agg (sessR x)] [] n true (Is (bv true) [] n) := by
  refine Ret.fn ttOk Try.func62 rfl Try.call62 rfl rfl ?_
  refine Goes ?_
  repeat' first | refine W2.m ?_ ?_ | refine W1.m fun h => ?_ | fail
  simp only [beq_self_eq_true, Bool.not_true]
  refine Goes ?_
  repeat' first | refine W2.m ?_ ?_ | refine W1.m fun h => ?_ | fail
  simp only [beq_self_eq_true, Bool.not_true]
  refine Goes ?_
  repeat' first | refine W2.m ?_ ?_ | refine W1.m fun h => ?_ | fail
  refine FinOk.pure rfl rfl rfl ⟨?_, rfl, rfl⟩
  rfl
theorem toSessionS_ret (xs : List SessD) (n : Nat) (hl : xs.length ≤ 1048576) (hx : ∀ x ∈ xs, ∀ n, Ret Try.prog 55 [.agg (sessR x)] [] n true (Is (.agg (sessR x)) [] n)) : Ret Try.prog 30 [.lst (xs.map sessR)] [] n true (Is (.own n xs.length) [(n, .list 54 4 (xs.map sessR))] (n + 1)) := by
  have hL : (xs.map sessR).length = xs.length := by simp
  refine Ret.fn ttOk Try.func30 rfl Try.call30 rfl rfl ?_
  refine Goes ?_
  repeat' first | refine W2.m ?_ ?_ | refine W1.m fun h => ?_ | fail
  rw [hL]
  refine ⟨⟨by omega, by omega, by omega, by show _ * 48 ≤ _; omega⟩, ?_⟩
  refine Goes ?_
  repeat' first | refine W2.m ?_ ?_ | refine W1.m fun h => ?_ | fail
  refine LoopP.go (fun k : Nat => k ≤ xs.length) (fun k => ⟨[(0, .lst (xs.map sessR)), (3, .own 0 xs.length), (4, iv k)], [(0, .list 54 4 (fillR sessR [sv ⟨#[]⟩, iv 0, sv ⟨#[]⟩, iv 0] xs k))], 1⟩) (fun k => xs.length - k) 0 (Nat.zero_le _) ?_ ?_
  · refine Weak.of rfl rfl ktA ⟨⟨leafO ?_, rfl, rfl⟩, trivial⟩
    unfold fillR; simp
  intro k hk
  have hfl := fillR_len sessR [sv ⟨#[]⟩, iv 0, sv ⟨#[]⟩, iv 0] xs k hk
  refine Goes ?_
  repeat' first | refine W2.m ?_ ?_ | refine W1.m fun h => ?_ | fail
  · have hlt : k < xs.length := by omega
    rw [rowK sessR xs k hlt]
    refine ⟨by rw [hL]; exact ⟨by omega, by omega, rfl⟩, ?_⟩
    refine Goes ?_
    repeat' first | refine W2.m ?_ ?_ | refine W1.m fun h => ?_ | fail
    first | refine CallP.is (hx xs[k] (List.getElem_mem hlt) _) rfl ?_ | refine CallQ.is (hx xs[k] (List.getElem_mem hlt) _) rfl rfl ?_
    refine Goes ?_
    repeat' first | refine W2.m ?_ ?_ | refine W1.m fun h => ?_ | fail
    refine ⟨k + 1, by omega, by omega, Weak.of rfl rfl ktA ⟨⟨leafO ?_, rfl, rfl⟩, trivial⟩⟩
    exact setRowR sessR [sv ⟨#[]⟩, iv 0, sv ⟨#[]⟩, iv 0] xs k hlt _ rfl _ rfl
  · obtain rfl : k = xs.length := by omega
    rw [fillR_all]
    refine FinOk.mk' [0] rfl rfl rfl rfl rfl rfl rfl ⟨?_, ?_, rfl⟩
    · rfl
    · rfl
theorem toSessionS_fr (xs : List SessD) (n : Nat) (hl : xs.length ≤ 1048576) (hx : ∀ x ∈ xs, ∀ n, Ret Try.prog 55 [.agg (sessR x)] [] n true (Is (.agg (sessR x)) [] n)) : Ret Try.prog 30 [.lst (xs.map sessR)] [] n true (Is (.lst (xs.map sessR)) [] n) :=
  Ret.freeze (by rintro _ _ _ ⟨rfl, rfl, rfl⟩; exact ⟨_, frCell (look_cons_eq _ _ _) (by simp), rfl, rfl, rfl⟩) (toSessionS_ret xs n hl hx)
theorem szSessionS_ret (xs : List SessD) (l : Int) (n : Nat) (h0 : 0 ≤ l) (h1 : l ≤ 1048576) (hl : xs.length ≤ 9223372036854775807) (hx : ∀ x ∈ xs, ∀ (l : Int) (n : Nat), 0 ≤ l → l ≤ 1048576 → Ret Try.prog 52 [.agg (sessR x), iv l] [] n true (Is (iv (leftI l (sizeS x))) [] n)) : Ret Try.prog 28 [.lst (xs.map sessR), iv l] [] n true (Is (iv (leftI l (xs.length + psum sizeS xs : Nat))) [] n) := by
  have hL : (xs.map sessR).length = xs.length := by simp
  have he : IntKind.i64.wrap (l - (xs.map sessR).length) = l - xs.length := by rw [hL, IntWalk.i64_in _ (by omega)]
  refine Ret.fn ttOk Try.func28 rfl Try.call28 rfl rfl ?_
  refine Goes ?_
  repeat' first | refine W2.m ?_ ?_ | refine W1.m fun h => ?_ | fail
  · rw [he] at h
    refine FinOk.pure rfl rfl rfl ⟨?_, rfl, rfl⟩
    unfold leftI; rw [if_neg (by omega)]
  rw [he] at h ⊢
  refine LoopP.go (fun k : Nat => k ≤ xs.length ∧ (xs.length + psum sizeS (xs.take k) : Nat) ≤ l) (fun k => ⟨[(0, .lst (xs.map sessR)), (1, iv (l - (xs.length + psum sizeS (xs.take k) : Nat))), (5, iv k)], [], 0⟩) (fun k => xs.length - k) 0 ⟨Nat.zero_le _, by simp [psum]; omega⟩ ?_ ?_
  · exact Weak.of rfl rfl ⟨⟨rfl, rfl⟩, ⟨leafI (by simp [psum]), rfl⟩, ⟨rfl, rfl⟩, trivial⟩ trivial
  intro k ⟨hk, hp⟩
  refine Goes ?_
  repeat' first | refine W2.m ?_ ?_ | refine W1.m fun h => ?_ | fail
  · have hlt : k < xs.length := by omega
    have hst : psum sizeS (xs.take (k + 1)) = psum sizeS (xs.take k) + sizeS xs[k] := psum_take sizeS xs k hlt
    have hle := psum_le sizeS xs (k + 1)
    rw [rowK sessR xs k hlt]
    refine ⟨by rw [hL]; exact ⟨by omega, by omega, rfl⟩, ?_⟩
    refine Goes ?_
    repeat' first | refine W2.m ?_ ?_ | refine W1.m fun h => ?_ | fail
    first | refine CallP.is (hx xs[k] (List.getElem_mem hlt) _ _ (by omega) (by omega)) rfl ?_ | refine CallQ.is (hx xs[k] (List.getElem_mem hlt) _ _ (by omega) (by omega)) rfl rfl ?_
    refine Goes ?_
    repeat' first | refine W2.m ?_ ?_ | refine W1.m fun h => ?_ | fail
    · obtain ⟨g1, g2⟩ := leftI_neg h (by omega)
      refine FinOk.pure rfl rfl rfl ⟨?_, rfl, rfl⟩
      unfold leftI; rw [if_neg (by omega)]
    · obtain ⟨g1, g2⟩ := leftI_pos h
      rw [g1]
      exact ⟨k + 1, ⟨by omega, by omega⟩, by omega, Weak.of rfl rfl ⟨⟨rfl, rfl⟩, ⟨leafI (by rw [hst]; omega), rfl⟩, ⟨leafI numA, rfl⟩, trivial⟩ trivial⟩
  · obtain rfl : k = xs.length := by omega
    rw [List.take_length] at hp ⊢
    refine FinOk.pure rfl rfl rfl ⟨?_, rfl, rfl⟩
    unfold leftI; rw [if_pos (by omega)]
theorem eqSessionS_yes (a : List SessD) (n : Nat) (hl : a.length ≤ 1048576) (hx : ∀ x ∈ a, ∀ n, Ret Try.prog 62 [.agg (sessR x), .agg (sessR x)] [] n true (Is (bv true) [] n)) : Ret Try.prog 35 [.lst (a.map sessR), .lst (a.map sessR)] [] n true (Is (bv true) [] n) := by
  have hL : (a.map sessR).length = a.length := by simp
  refine Ret.fn ttOk Try.func35 rfl Try.call35 rfl rfl ?_
  refine Goes ?_
  repeat' first | refine W2.m ?_ ?_ | refine W1.m fun h => ?_ | fail
  refine LoopP.go (fun k : Nat => k ≤ a.length) (fun k => ⟨[(0, .lst (a.map sessR)), (1, .lst (a.map sessR)), (5, iv k)], [], 0⟩) (fun k => a.length - k) 0 (Nat.zero_le _) (Weak.of rfl rfl ktA trivial) ?_
  intro k hk
  refine Goes ?_
  repeat' first | refine W2.m ?_ ?_ | refine W1.m fun h => ?_ | fail
  · have hka : k < a.length := by omega
    rw [rowK sessR a k hka]
    refine ⟨by rw [hL]; exact ⟨by omega, by omega, rfl⟩, ?_⟩
    refine Goes ?_
    repeat' first | refine W2.m ?_ ?_ | refine W1.m fun h => ?_ | fail
    rw [rowK sessR a k hka]
    refine ⟨by rw [hL]; exact ⟨by omega, by omega, rfl⟩, ?_⟩
    refine Goes ?_
    repeat' first | refine W2.m ?_ ?_ | refine W1.m fun h => ?_ | fail
    first | refine CallP.is (hx a[k] (List.getElem_mem hka) _) rfl ?_ | refine CallQ.is (hx a[k] (List.getElem_mem hka) _) rfl rfl ?_
    refine Goes ?_
    repeat' first | refine W2.m ?_ ?_ | refine W1.m fun h => ?_ | fail
    exact ⟨k + 1, by omega, by omega, (Weak.of rfl rfl ktA trivial)⟩
  · refine FinOk.pure rfl rfl rfl ⟨?_, rfl, rfl⟩
    rfl
theorem toServer_fr (s : ServD) (n : Nat) (h : FitsSv s) : Ret Try.prog 10 [servV s] [] n true (Is (servV s) [] n) := by
  refine Ret.fn ttOk Try.func10 rfl Try.call10 rfl rfl ?_
  refine Goes ?_
  repeat' first | refine W2.m ?_ ?_ | refine W1.m fun h => ?_ | fail
  first | refine CallP.is (toSessionS_fr s.sess _ h.len fun x hx n => toSession_fr x n) rfl ?_ | refine CallQ.is (toSessionS_fr s.sess _ h.len fun x hx n => toSession_fr x n) rfl rfl ?_
  refine Goes ?_
  repeat' first | refine W2.m ?_ ?_ | refine W1.m fun h => ?_ | fail
  refine FinOk.pure rfl rfl rfl ⟨?_, rfl, rfl⟩
  rfl
theorem szServer_ret (s : ServD) (l : Int) (n : Nat) (h0 : 0 ≤ l) (h1 : l ≤ 1048576) (hm : MemSv s) : Ret Try.prog 8 [servV s, iv l] [] n true (Is (iv (leftI l (sizeSv s))) [] n) := by
  refine Ret.fn ttOk Try.func8 rfl Try.call8 rfl rfl ?_
  refine Goes ?_
  repeat' first | refine W2.m ?_ ?_ | refine W1.m fun h => ?_ | fail
  first | refine CallP.is (szSessionS_ret s.sess l _ h0 h1 hm.len fun x hx l n a c => szSession_ret x l n a c (hm.sess x hx)) rfl ?_ | refine CallQ.is (szSessionS_ret s.sess l _ h0 h1 hm.len fun x hx l n a c => szSession_ret x l n a c (hm.sess x hx)) rfl rfl ?_
  refine Goes ?_
  repeat' first | refine W2.m ?_ ?_ | refine W1.m fun h => ?_ | fail
  · have h' : leftI l (s.sess.length + psum sizeS s.sess : Nat) < 0 := h
    refine FinOk.pure rfl rfl rfl ⟨?_, rfl, rfl⟩
    unfold sizeSv
    rw [(leftI_neg h' h0).1]
  · refine FinOk.pure rfl rfl rfl ⟨?_, rfl, rfl⟩
    rfl
theorem eqServer_yes (s : ServD) (n : Nat) (hf : FitsSv s) : Ret Try.prog 12 [servV s, servV s] [] n true (Is (bv true) [] n) := by
  refine Ret.fn ttOk Try.func12 rfl Try.call12 rfl rfl ?_
  refine Goes ?_
  repeat' first | refine W2.m ?_ ?_ | refine W1.m fun h => ?_ | fail
  first | refine CallP.is (eqSessionS_yes s.sess _ hf.len fun x hx n => eqSession_yes x n) rfl ?_ | refine CallQ.is (eqSessionS_yes s.sess _ hf.len fun x hx n => eqSession_yes x n) rfl rfl ?_
  refine Goes ?_
  repeat' first | refine W2.m ?_ ?_ | refine W1.m fun h => ?_ | fail
  refine FinOk.pure rfl rfl rfl ⟨?_, rfl, rfl⟩
  rfl
end Go.Proofs.Ythpboccokdhpnaa
