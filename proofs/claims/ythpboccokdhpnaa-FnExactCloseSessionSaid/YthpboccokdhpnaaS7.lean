/-
  MARKS IN STRINGS; sessions whose memory is their own: how the laws make them, mark them, look for the marks.
-/
import Derived.Test.YthpboccokdhpnaaS3
import Derived.Test.YthpboccokdhpnaaMkL
import Derived.Test.YthpboccokdhpnaaAmP
import Derived.Test.YthpboccokdhpnaaP1
namespace Go.Proofs.Ythpboccokdhpnaa
open Go Go.Am Go.RowKit
set_option linter.unusedVariables false
set_option linter.unusedSimpArgs false
/-- A digit as a string. -/
def digS (k : Nat) : ByteArray := strOf [[uv (IntKind.u8.wrap (IntKind.i64.wrap (48 + (k : Int).tmod 10)))]]
def textF : Nat → Nat → ByteArray → ByteArray
  | 0, _, o => o
  | f + 1, k, o => if k = 0 then o else textF f (k / 10) (digS k ++ o)
theorem textF_zero (f : Nat) (o : ByteArray) : textF f 0 o = o := by cases f <;> simp [textF]
def mkX (k : Nat) : ByteArray := if k = 0 then ⟨#[109, 48]⟩ else ⟨#[109]⟩ ++ textF k k ⟨#[]⟩
theorem digS_size (k : Nat) : (digS k).size = 1 := rfl
theorem markText_ret (k n : Nat) (hk : k ≤ 1000000000000) : Ret Try.prog 65 [iv k] [] n true (Is (sv (mkX k)) [] n) := by
  refine Ret.fn ttOk Try.func65 rfl Try.call65 rfl rfl ?_
  refine Goes ?_
  repeat' first | refine W2.m ?_ ?_ | refine W1.m fun h => ?_ | fail
  · refine FinOk.pure rfl rfl rfl ⟨?_, rfl, rfl⟩
    unfold mkX; rw [if_pos (by omega)]
  have hk0 : ¬ k = 0 := by omega
  refine LoopP.go (fun p : Nat × Nat × ByteArray => textF k k ⟨#[]⟩ = textF p.1 p.2.1 p.2.2 ∧ p.2.1 ≤ p.1 ∧ p.2.1 + p.2.2.size ≤ k) (fun p => ⟨[(0, iv p.2.1), (3, sv p.2.2)], [], 0⟩) (fun p => p.2.1) (k, k, ⟨#[]⟩) ⟨rfl, Nat.le_refl _, Nat.le_refl _⟩ (Weak.of rfl rfl ktA trivial) ?_
  rintro ⟨f, j, o⟩ ⟨h1, h2, h3⟩
  dsimp only at h1 h2 h3 ⊢
  refine Goes ?_
  repeat' first | refine W2.m ?_ ?_ | refine W1.m fun h => ?_ | fail
  · have hj : 0 < j := by omega
    refine ⟨⟨Nat.le_refl _, fun r hr => ?_⟩, ?_⟩
    · simp only [List.take_succ_cons, List.take_zero, List.mem_singleton] at hr
      exact ⟨_, hr⟩
    refine Goes ?_
    repeat' first | refine W2.m ?_ ?_ | refine W1.m fun h => ?_ | fail
    have hsz : (digS j).size + o.size ≤ maxLen := by rw [digS_size]; unfold maxLen; omega
    refine ⟨hsz, ?_⟩
    refine Goes ?_
    repeat' first | refine W2.m ?_ ?_ | refine W1.m fun h => ?_ | fail
    obtain ⟨f', rfl⟩ : ∃ f', f = f' + 1 := ⟨f - 1, by omega⟩
    have hdiv : j / 10 < j := Nat.div_lt_self hj (by decide)
    have hq : IntKind.i64.wrap ((j : Int).tdiv 10) = ((j / 10 : Nat) : Int) := by
      rw [Int.tdiv_eq_ediv_of_nonneg (by omega), IntWalk.i64_in _ (by omega)]; omega
    refine ⟨(f', j / 10, digS j ++ o), ⟨?_, by dsimp only; omega, ?_⟩, hdiv, ?_⟩
    · rw [h1, textF, if_neg (by omega)]
    · dsimp only
      rw [ByteArray.size_append, digS_size]; omega
    · refine Weak.of rfl rfl ⟨⟨leafI hq, rfl⟩, ⟨rfl, rfl⟩, trivial⟩ trivial
  · have hj : j = 0 := by omega
    subst hj
    refine ⟨by show 1 + o.size ≤ maxLen; unfold maxLen; omega, ?_⟩
    refine Goes ?_
    repeat' first | refine W2.m ?_ ?_ | refine W1.m fun h => ?_ | fail
    refine FinOk.pure rfl rfl rfl ⟨?_, rfl, rfl⟩
    unfold mkX; rw [if_neg hk0, h1, textF_zero]
def mkSe (m : Nat) (x : SessD) : SessD := ⟨mkX m, ((m + 1 : Nat) : Int), mkX (m + 2), ((m + 3 : Nat) : Int)⟩
def nSe (m : Nat) (x : SessD) : Nat := m + 4
abbrev mkSes : Nat → List SessD → List SessD := mkL mkSe nSe
theorem nSes_eq : ∀ (xs : List SessD) (m : Nat), nL nSe m xs = m + 4 * xs.length
  | [], m => rfl
  | x :: r, m => by rw [nL, nSes_eq r (nSe m x), List.length_cons]; unfold nSe; omega
/-- One cell of a row is written. -/
theorem cellS {rows : List (List AV)} {k o : Nat} {r : List AV} {a : AV} (h : rows[k]? = some r) (s : Nat) :
    (rows.getD (Int.toNat (k : Int)) []).take o ++ [a] ++ (rows.getD (Int.toNat (k : Int)) []).drop (o + s) = r.take o ++ [a] ++ r.drop (o + s) := by
  have : rows.getD (Int.toNat (k : Int)) [] = r := by simp [List.getD_eq_getElem?_getD, h]
  rw [this]
theorem markSessionS_own (xs : List SessD) (i m n : Nat) (hl : xs.length ≤ 1048576) (hm : m ≤ 900000000000) :
    Ret Try.prog 41 [.own i xs.length, iv m] [(i, .list 54 4 (xs.map sessR))] n true (Is (iv ((m + 4 * xs.length : Nat) : Int)) [(i, .list 54 4 ((mkSes m xs).map sessR))] n) := by
  refine Ret.of_run (tt := tt) ttOk Try.func41 rfl Try.call41 [i] [.list 54 4 (xs.map sessR)] [.own 0 xs.length, iv m] true n _ rfl (nodup1 i) (by exact Nat.le_of_ble_eq_true rfl) rfl rfl ?_
  refine Goes ?_
  repeat' first | refine W2.m ?_ ?_ | refine W1.m fun h => ?_ | fail
  obtain ⟨R, hR⟩ : ∃ R : Nat → List (List AV), ∀ k, R k = (mkLP mkSe nSe m xs k).map sessR := ⟨_, fun _ => rfl⟩
  have hRl : ∀ k, k ≤ xs.length → (R k).length = xs.length := fun k hk => by rw [hR, List.length_map, mkLP_len m xs k hk]
  have hRa : ∀ k (h : k < xs.length), (R k)[k]? = some (sessR xs[k]) := fun k h => by rw [hR, List.getElem?_map, mkLP_at m xs k h]; rfl
  have hRs : ∀ k (h : k < xs.length), (R k).set k (sessR (mkSe (m + 4 * k) xs[k])) = R (k + 1) := fun k h => by
    have e := nSes_eq (xs.take k) m
    rw [List.length_take, show min k xs.length = k by omega] at e
    rw [hR, hR, ← e, ← mkLP_set m xs k h, List.map_set]
  have hR0 : xs.map sessR = R 0 := by rw [hR, mkLP_zero]
  rw [hR0]
  refine LoopP.go (fun k : Nat => k ≤ xs.length) (fun k => ⟨[(0, .own 0 xs.length), (1, iv ((m + 4 * k : Nat) : Int)), (5, iv k)], [(0, .list 54 4 (R k))], 1⟩) (fun k => xs.length - k) 0 (Nat.zero_le _) (Weak.of rfl rfl ktA ktA) ?_
  intro k hk
  have hml := hRl k hk
  by_cases hlt : k < xs.length
  · have hrow := hRa k hlt
    have hself : R k = (R k).set k (sessR xs[k]) := by
      refine List.ext_getElem? fun j => ?_
      by_cases hj : k = j
      · subst hj; rw [List.getElem?_set_self (by omega), hrow]
      · rw [List.getElem?_set_ne hj]
    have w1 : IntKind.i64.wrap (((m + 4 * k : Nat) : Int) + 1) = ((m + 4 * k + 1 : Nat) : Int) := by rw [IntWalk.i64_in _ (by omega)]; omega
    have w2 : IntKind.i64.wrap (((m + 4 * k + 1 : Nat) : Int) + 1) = ((m + 4 * k + 2 : Nat) : Int) := by rw [IntWalk.i64_in _ (by omega)]; omega
    have w3 : IntKind.i64.wrap (((m + 4 * k + 2 : Nat) : Int) + 1) = ((m + 4 * k + 3 : Nat) : Int) := by rw [IntWalk.i64_in _ (by omega)]; omega
    have w4 : IntKind.i64.wrap (((m + 4 * k + 3 : Nat) : Int) + 1) = ((m + 4 * (k + 1) : Nat) : Int) := by rw [IntWalk.i64_in _ (by omega)]; omega
    rw [hself]
    conv => whnf
    repeat' first
      | (refine AbsK.use (by assumption) ?_; conv => whnf)
      | (refine CondP.yes ?_; conv => whnf)
      | (refine CondP.not ?_; conv => whnf)
      | ((first | refine CondP.dec (fun h => ?_) (fun h => ?_) | refine CondP.ndec (fun h => ?_) (fun h => ?_)) <;> first | (exfalso; first | omega | exact h (by assumption) | exact absurd h (by assumption)) | (conv => whnf))
      | (refine Both.mk ?_ ?_ <;> (conv => whnf))
      | (refine Keep.mk (by repeat' first | exact trivial | rfl | refine And.intro ?_ ?_) ?_; conv => whnf)
      | (refine And.intro (by first | decide | omega) ?_; first | (refine runOps_abs (fun K hK => ?_); conv => whnf) | (conv => whnf))
      | fail
    first | refine CallP.is (markText_ret (m + 4 * k) _ (by omega)) rfl ?_ | refine CallQ.is (markText_ret (m + 4 * k) _ (by omega)) rfl rfl ?_
    try refine runOps_abs (fun K hK => ?_)
    conv => whnf
    repeat' first
      | (refine AbsK.use (by assumption) ?_; conv => whnf)
      | (refine CondP.yes ?_; conv => whnf)
      | (refine CondP.not ?_; conv => whnf)
      | ((first | refine CondP.dec (fun h => ?_) (fun h => ?_) | refine CondP.ndec (fun h => ?_) (fun h => ?_)) <;> first | (exfalso; first | omega | exact h (by assumption) | exact absurd h (by assumption)) | (conv => whnf))
      | (refine Both.mk ?_ ?_ <;> (conv => whnf))
      | (refine Keep.mk (by repeat' first | exact trivial | rfl | refine And.intro ?_ ?_) ?_; conv => whnf)
      | (refine And.intro (by first | decide | omega) ?_; first | (refine runOps_abs (fun K hK => ?_); conv => whnf) | (conv => whnf))
      | fail
    refine ⟨by rw [List.length_set]; omega, ?_⟩
    rw [setAt (by omega) (row' := [sv (mkX (m + 4 * k)), iv xs[k].extra, sv xs[k].worker, iv xs[k].level]) rfl]
    try refine runOps_abs (fun K hK => ?_)
    conv => whnf
    repeat' first
      | (refine AbsK.use (by assumption) ?_; conv => whnf)
      | (refine CondP.yes ?_; conv => whnf)
      | (refine CondP.not ?_; conv => whnf)
      | ((first | refine CondP.dec (fun h => ?_) (fun h => ?_) | refine CondP.ndec (fun h => ?_) (fun h => ?_)) <;> first | (exfalso; first | omega | exact h (by assumption) | exact absurd h (by assumption)) | (conv => whnf))
      | (refine Both.mk ?_ ?_ <;> (conv => whnf))
      | (refine Keep.mk (by repeat' first | exact trivial | rfl | refine And.intro ?_ ?_) ?_; conv => whnf)
      | (refine And.intro (by first | decide | omega) ?_; first | (refine runOps_abs (fun K hK => ?_); conv => whnf) | (conv => whnf))
      | fail
    rw [w1]
    refine ⟨by rw [List.length_set]; omega, ?_⟩
    rw [setAt (by omega) (row' := [sv (mkX (m + 4 * k)), iv ((m + 4 * k + 1 : Nat) : Int), sv xs[k].worker, iv xs[k].level]) rfl]
    try refine runOps_abs (fun K hK => ?_)
    conv => whnf
    repeat' first
      | (refine AbsK.use (by assumption) ?_; conv => whnf)
      | (refine CondP.yes ?_; conv => whnf)
      | (refine CondP.not ?_; conv => whnf)
      | ((first | refine CondP.dec (fun h => ?_) (fun h => ?_) | refine CondP.ndec (fun h => ?_) (fun h => ?_)) <;> first | (exfalso; first | omega | exact h (by assumption) | exact absurd h (by assumption)) | (conv => whnf))
      | (refine Both.mk ?_ ?_ <;> (conv => whnf))
      | (refine Keep.mk (by repeat' first | exact trivial | rfl | refine And.intro ?_ ?_) ?_; conv => whnf)
      | (refine And.intro (by first | decide | omega) ?_; first | (refine runOps_abs (fun K hK => ?_); conv => whnf) | (conv => whnf))
      | fail
    rw [w2]
    first | refine CallP.is (markText_ret (m + 4 * k + 2) _ (by omega)) rfl ?_ | refine CallQ.is (markText_ret (m + 4 * k + 2) _ (by omega)) rfl rfl ?_
    try refine runOps_abs (fun K hK => ?_)
    conv => whnf
    repeat' first
      | (refine AbsK.use (by assumption) ?_; conv => whnf)
      | (refine CondP.yes ?_; conv => whnf)
      | (refine CondP.not ?_; conv => whnf)
      | ((first | refine CondP.dec (fun h => ?_) (fun h => ?_) | refine CondP.ndec (fun h => ?_) (fun h => ?_)) <;> first | (exfalso; first | omega | exact h (by assumption) | exact absurd h (by assumption)) | (conv => whnf))
      | (refine Both.mk ?_ ?_ <;> (conv => whnf))
      | (refine Keep.mk (by repeat' first | exact trivial | rfl | refine And.intro ?_ ?_) ?_; conv => whnf)
      | (refine And.intro (by first | decide | omega) ?_; first | (refine runOps_abs (fun K hK => ?_); conv => whnf) | (conv => whnf))
      | fail
    refine ⟨by rw [List.length_set]; omega, ?_⟩
    rw [setAt (by omega) (row' := [sv (mkX (m + 4 * k)), iv ((m + 4 * k + 1 : Nat) : Int), sv (mkX (m + 4 * k + 2)), iv xs[k].level]) rfl]
    try refine runOps_abs (fun K hK => ?_)
    conv => whnf
    repeat' first
      | (refine AbsK.use (by assumption) ?_; conv => whnf)
      | (refine CondP.yes ?_; conv => whnf)
      | (refine CondP.not ?_; conv => whnf)
      | ((first | refine CondP.dec (fun h => ?_) (fun h => ?_) | refine CondP.ndec (fun h => ?_) (fun h => ?_)) <;> first | (exfalso; first | omega | exact h (by assumption) | exact absurd h (by assumption)) | (conv => whnf))
      | (refine Both.mk ?_ ?_ <;> (conv => whnf))
      | (refine Keep.mk (by repeat' first | exact trivial | rfl | refine And.intro ?_ ?_) ?_; conv => whnf)
      | (refine And.intro (by first | decide | omega) ?_; first | (refine runOps_abs (fun K hK => ?_); conv => whnf) | (conv => whnf))
      | fail
    rw [w3]
    refine ⟨by rw [List.length_set]; omega, ?_⟩
    rw [setAt (by omega) (row' := [sv (mkX (m + 4 * k)), iv ((m + 4 * k + 1 : Nat) : Int), sv (mkX (m + 4 * k + 2)), iv ((m + 4 * k + 3 : Nat) : Int)]) rfl]
    try refine runOps_abs (fun K hK => ?_)
    conv => whnf
    repeat' first
      | (refine AbsK.use (by assumption) ?_; conv => whnf)
      | (refine CondP.yes ?_; conv => whnf)
      | (refine CondP.not ?_; conv => whnf)
      | ((first | refine CondP.dec (fun h => ?_) (fun h => ?_) | refine CondP.ndec (fun h => ?_) (fun h => ?_)) <;> first | (exfalso; first | omega | exact h (by assumption) | exact absurd h (by assumption)) | (conv => whnf))
      | (refine Both.mk ?_ ?_ <;> (conv => whnf))
      | (refine Keep.mk (by repeat' first | exact trivial | rfl | refine And.intro ?_ ?_) ?_; conv => whnf)
      | (refine And.intro (by first | decide | omega) ?_; first | (refine runOps_abs (fun K hK => ?_); conv => whnf) | (conv => whnf))
      | fail
    rw [w4]
    refine ⟨k + 1, by omega, by omega, Weak.of rfl rfl ⟨⟨rfl, rfl⟩, ⟨rfl, rfl⟩, ⟨leafI numA, rfl⟩, trivial⟩ ⟨⟨leafO (hRs k hlt), rfl, rfl⟩, trivial⟩⟩
  · obtain rfl : k = xs.length := by omega
    refine Goes ?_
    repeat' first | refine W2.m ?_ ?_ | refine W1.m fun h => ?_ | fail
    refine FinOk.mk' [] rfl rfl rfl rfl rfl rfl rfl ⟨?_, ?_, rfl⟩
    · rfl
    · rw [hR, mkLP_all]; rfl
end Go.Proofs.Ythpboccokdhpnaa
