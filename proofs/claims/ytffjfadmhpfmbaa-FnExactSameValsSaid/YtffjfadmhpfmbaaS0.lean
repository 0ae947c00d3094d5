/-
  LISTS OF STRINGS, how the laws copy, compare and measure them.
-/
import Derived.Test.YtffjfadmhpfmbaaP16
import Derived.Test.YtffjfadmhpfmbaaS1
namespace Go.Proofs.Ytffjfadmhpfmbaa
open Go Go.Am Go.RowKit
set_option linter.unusedVariables false
set_option linter.unusedSimpArgs false
abbrev strR (x : ByteArray) : List AV := [sv x]
theorem eqStringS_yes (a : List ByteArray) (n : Nat) (hl : a.length ≤ 1048576) : Ret Try.prog 20 [.lst (a.map strR), .lst (a.map strR)] [] n true (Is (bv true) [] n) := by
  have hL : (a.map strR).length = a.length := by simp
  refine Ret.fn ttOk Try.func20 rfl Try.call20 rfl rfl ?_
  refine Goes ?_
  repeat' first | refine W2.m ?_ ?_ | refine W1.m fun h => ?_ | fail
  refine LoopP.go (fun k : Nat => k ≤ a.length) (fun k => ⟨[(0, .lst (a.map strR)), (1, .lst (a.map strR)), (5, iv k)], [], 0⟩) (fun k => a.length - k) 0 (Nat.zero_le _) (Weak.of rfl rfl ktA trivial) ?_
  intro k hk
  refine Goes ?_
  repeat' first | refine W2.m ?_ ?_ | refine W1.m fun h => ?_ | fail
  · have hka : k < a.length := by omega
    rw [rowK strR a k hka]
    refine ⟨by rw [hL]; exact ⟨by omega, by omega, rfl⟩, ?_⟩
    refine Goes ?_
    repeat' first | refine W2.m ?_ ?_ | refine W1.m fun h => ?_ | fail
    rw [rowK strR a k hka]
    refine ⟨by rw [hL]; exact ⟨by omega, by omega, rfl⟩, ?_⟩
    refine Goes ?_
    repeat' first | refine W2.m ?_ ?_ | refine W1.m fun h => ?_ | fail
    simp only [beq_self_eq_true, Bool.not_true]
    refine Goes ?_
    repeat' first | refine W2.m ?_ ?_ | refine W1.m fun h => ?_ | fail
    exact ⟨k + 1, by omega, by omega, (Weak.of rfl rfl ktA trivial)⟩
  · refine FinOk.pure rfl rfl rfl ⟨?_, rfl, rfl⟩
    rfl
theorem toStringS_ret (xs : List ByteArray) (n : Nat) (hl : xs.length ≤ 1048576) : Ret Try.prog 17 [.lst (xs.map strR)] [] n true (Is (.own n xs.length) [(n, .list 9 1 (xs.map strR))] (n + 1)) := by
  have hL : (xs.map strR).length = xs.length := by simp
  refine Ret.fn ttOk Try.func17 rfl Try.call17 rfl rfl ?_
  refine Goes ?_
  repeat' first | refine W2.m ?_ ?_ | refine W1.m fun h => ?_ | fail
  rw [hL]
  refine ⟨⟨by omega, by omega, by omega, by show _ * 16 ≤ _; omega⟩, ?_⟩
  refine Goes ?_
  repeat' first | refine W2.m ?_ ?_ | refine W1.m fun h => ?_ | fail
  refine LoopP.go (fun k : Nat => k ≤ xs.length) (fun k => ⟨[(0, .lst (xs.map strR)), (3, .own 0 xs.length), (4, iv k)], [(0, .list 9 1 (fillR strR [sv ⟨#[]⟩] xs k))], 1⟩) (fun k => xs.length - k) 0 (Nat.zero_le _) ?_ ?_
  · refine Weak.of rfl rfl ktA ⟨⟨leafO ?_, rfl, rfl⟩, trivial⟩
    unfold fillR; simp
  intro k hk
  have hfl := fillR_len strR [sv ⟨#[]⟩] xs k hk
  refine Goes ?_
  repeat' first | refine W2.m ?_ ?_ | refine W1.m fun h => ?_ | fail
  · have hlt : k < xs.length := by omega
    rw [rowK strR xs k hlt]
    refine ⟨by rw [hL]; exact ⟨by omega, by omega, rfl⟩, ?_⟩
    refine Goes ?_
    repeat' first | refine W2.m ?_ ?_ | refine W1.m fun h => ?_ | fail
    refine ⟨k + 1, by omega, by omega, Weak.of rfl rfl ktA ⟨⟨leafO ?_, rfl, rfl⟩, trivial⟩⟩
    exact setRowR strR [sv ⟨#[]⟩] xs k hlt _ rfl _ rfl
  · obtain rfl : k = xs.length := by omega
    rw [fillR_all]
    refine FinOk.mk' [0] rfl rfl rfl rfl rfl rfl rfl ⟨?_, ?_, rfl⟩
    · rfl
    · rfl
theorem toStringS_fr (xs : List ByteArray) (n : Nat) (hl : xs.length ≤ 1048576) : Ret Try.prog 17 [.lst (xs.map strR)] [] n true (Is (.lst (xs.map strR)) [] n) :=
  Ret.freeze (by rintro _ _ _ ⟨rfl, rfl, rfl⟩; exact ⟨_, frCell (look_cons_eq _ _ _) (by simp), rfl, rfl, rfl⟩) (toStringS_ret xs n hl)
theorem szStringS_ret (xs : List ByteArray) (l : Int) (n : Nat) (h0 : 0 ≤ l) (h1 : l ≤ 1048576) (hl : xs.length ≤ 9223372036854775807) (hx : ∀ x ∈ xs, x.size ≤ 9223372036854775807) : Ret Try.prog 15 [.lst (xs.map strR), iv l] [] n true (Is (iv (leftI l (xs.length + psum ByteArray.size xs : Nat))) [] n) := by
  have hL : (xs.map strR).length = xs.length := by simp
  have he : IntKind.i64.wrap (l - (xs.map strR).length) = l - xs.length := by rw [hL, IntWalk.i64_in _ (by omega)]
  refine Ret.fn ttOk Try.func15 rfl Try.call15 rfl rfl ?_
  refine Goes ?_
  repeat' first | refine W2.m ?_ ?_ | refine W1.m fun h => ?_ | fail
  · rw [he] at h
    refine FinOk.pure rfl rfl rfl ⟨?_, rfl, rfl⟩
    unfold leftI; rw [if_neg (by omega)]
  rw [he] at h ⊢
  refine LoopP.go (fun k : Nat => k ≤ xs.length ∧ (xs.length + psum ByteArray.size (xs.take k) : Nat) ≤ l) (fun k => ⟨[(0, .lst (xs.map strR)), (1, iv (l - (xs.length + psum ByteArray.size (xs.take k) : Nat))), (5, iv k)], [], 0⟩) (fun k => xs.length - k) 0 ⟨Nat.zero_le _, by simp [psum]; omega⟩ ?_ ?_
  · exact Weak.of rfl rfl ⟨⟨rfl, rfl⟩, ⟨leafI (by simp [psum]), rfl⟩, ⟨rfl, rfl⟩, trivial⟩ trivial
  intro k ⟨hk, hp⟩
  refine Goes ?_
  repeat' first | refine W2.m ?_ ?_ | refine W1.m fun h => ?_ | fail
  · have hlt : k < xs.length := by omega
    have hst : psum ByteArray.size (xs.take (k + 1)) = psum ByteArray.size (xs.take k) + xs[k].size := psum_take ByteArray.size xs k hlt
    have hle := psum_le ByteArray.size xs (k + 1)
    have hsz := hx xs[k] (List.getElem_mem hlt)
    rw [rowK strR xs k hlt]
    refine ⟨by rw [hL]; exact ⟨by omega, by omega, rfl⟩, ?_⟩
    have hw : IntKind.i64.wrap (l - (xs.length + psum ByteArray.size (xs.take k) : Nat) - xs[k].size) = l - (xs.length + psum ByteArray.size (xs.take (k + 1)) : Nat) := by rw [hst, IntWalk.i64_in _ (by omega)]; omega
    refine Goes ?_
    repeat' first | refine W2.m ?_ ?_ | refine W1.m fun h => ?_ | fail
    · rw [hw] at h
      refine FinOk.pure rfl rfl rfl ⟨?_, rfl, rfl⟩
      unfold leftI; rw [if_neg (by omega)]
    · rw [hw] at h
      exact ⟨k + 1, ⟨by omega, by omega⟩, by omega, Weak.of rfl rfl ⟨⟨rfl, rfl⟩, ⟨leafI hw, rfl⟩, ⟨leafI numA, rfl⟩, trivial⟩ trivial⟩
  · obtain rfl : k = xs.length := by omega
    rw [List.take_length] at hp ⊢
    refine FinOk.pure rfl rfl rfl ⟨?_, rfl, rfl⟩
    unfold leftI; rw [if_pos (by omega)]
end Go.Proofs.Ytffjfadmhpfmbaa
