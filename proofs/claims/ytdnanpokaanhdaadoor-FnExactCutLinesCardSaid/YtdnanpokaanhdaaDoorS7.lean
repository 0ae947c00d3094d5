/-
  MARKS IN STRINGS; sessions whose memory is their own: how the laws make them, mark them, look for the marks.
-/
import Derived.Test.YtdnanpokaanhdaaDoorS3
import Derived.Test.YtdnanpokaanhdaaDoorMkL
import Derived.Test.YtdnanpokaanhdaaDoorAmP
import Derived.Test.YtdnanpokaanhdaaDoorP1
namespace Go.Proofs.YtdnanpokaanhdaaDoor
open Go Go.Am Go.RowKit
set_option linter.unusedVariables false
set_option linter.unusedSimpArgs false
/-- A digit as a string. -/
def digS (k : Nat) : ByteArray := strOf [[uv (IntKind.u8.wrap (IntKind.i64.wrap (48 + (k : Int).tmod 10)))]]
def textF : Nat → Nat → ByteArray → ByteArray
  | 0, _, o => o
  | f + 1, k, o => if k = 0 then o else textF f (k / 10) (digS k ++ o)
theorem textF_zero (f : Nat) (o : ByteArray) : textF f 0 o = o := by cases f <;> simp [textF]
def mkX (k : Nat) : ByteArray := if k = 0 then ⟨#[109, 48]⟩ else ⟨#[109]⟩ ++ textF k k ⟨#[]⟩
theorem digS_size (k : Nat) : (digS k).size = 1 := rfl
theorem markText_ret (k n : Nat) (hk : k ≤ 1000000000000) : Ret Tryd.prog 19 [iv k] [] n true (Is (sv (mkX k)) [] n) := by
  refine Ret.fn ttOk Tryd.func19 rfl Tryd.call19 rfl rfl ?_
  refine Goes ?_
  repeat' first | refine W2.m ?_ ?_ | refine W1.m fun h => ?_ | fail
  · refine FinOk.pure rfl rfl rfl ⟨?_, rfl, rfl⟩
    unfold mkX; rw [if_pos (by omega)]
  have hk0 : ¬ k = 0 := by omega
  refine LoopP.go (fun p : Nat × Nat × ByteArray => textF k k ⟨#[]⟩ = textF p.1 p.2.1 p.2.2 ∧ p.2.1 ≤ p.1 ∧ p.2.1 + p.2.2.size ≤ k) (fun p => ⟨[(0, iv p.2.1), (3, sv p.2.2)], [], 0⟩) (fun p => p.2.1) (k, k, ⟨#[]⟩) ⟨rfl, Nat.le_refl _, Nat.le_refl _⟩ (Weak.of rfl rfl ktA trivial) ?_
  rintro ⟨f, j, o⟩ ⟨h1, h2, h3⟩
  dsimp only at h1 h2 h3 ⊢
  refine Goes ?_
  repeat' first | refine W2.m ?_ ?_ | refine W1.m fun h => ?_ | fail
  · have hj : 0 < j := by omega
    refine ⟨⟨Nat.le_refl _, fun r hr => ?_⟩, ?_⟩
    · simp only [List.take_succ_cons, List.take_zero, List.mem_singleton] at hr
      exact ⟨_, hr⟩
    refine Goes ?_
    repeat' first | refine W2.m ?_ ?_ | refine W1.m fun h => ?_ | fail
    have hsz : (digS j).size + o.size ≤ maxLen := by rw [digS_size]; unfold maxLen; omega
    refine ⟨hsz, ?_⟩
    refine Goes ?_
    repeat' first | refine W2.m ?_ ?_ | refine W1.m fun h => ?_ | fail
    obtain ⟨f', rfl⟩ : ∃ f', f = f' + 1 := ⟨f - 1, by omega⟩
    have hdiv : j / 10 < j := Nat.div_lt_self hj (by decide)
    have hq : IntKind.i64.wrap ((j : Int).tdiv 10) = ((j / 10 : Nat) : Int) := by
      rw [Int.tdiv_eq_ediv_of_nonneg (by omega), IntWalk.i64_in _ (by omega)]; omega
    refine ⟨(f', j / 10, digS j ++ o), ⟨?_, by dsimp only; omega, ?_⟩, hdiv, ?_⟩
    · rw [h1, textF, if_neg (by omega)]
    · dsimp only
      rw [ByteArray.size_append, digS_size]; omega
    · refine Weak.of rfl rfl ⟨⟨leafI hq, rfl⟩, ⟨rfl, rfl⟩, trivial⟩ trivial
  · have hj : j = 0 := by omega
    subst hj
    refine ⟨by show 1 + o.size ≤ maxLen; unfold maxLen; omega, ?_⟩
    refine Goes ?_
    repeat' first | refine W2.m ?_ ?_ | refine W1.m fun h => ?_ | fail
    refine FinOk.pure rfl rfl rfl ⟨?_, rfl, rfl⟩
    unfold mkX; rw [if_neg hk0, h1, textF_zero]
def mkSe (m : Nat) (x : SessD) : SessD := ⟨mkX m, ((m + 1 : Nat) : Int), mkX (m + 2), ((m + 3 : Nat) : Int)⟩
def nSe (m : Nat) (x : SessD) : Nat := m + 4
abbrev mkSes : Nat → List SessD → List SessD := mkL mkSe nSe
theorem nSes_eq : ∀ (xs : List SessD) (m : Nat), nL nSe m xs = m + 4 * xs.length
  | [], m => rfl
  | x :: r, m => by rw [nL, nSes_eq r (nSe m x), List.length_cons]; unfold nSe; omega
/-- One cell of a row is written. -/
theorem cellS {rows : List (List AV)} {k o : Nat} {r : List AV} {a : AV} (h : rows[k]? = some r) (s : Nat) :
    (rows.getD (Int.toNat (k : Int)) []).take o ++ [a] ++ (rows.getD (Int.toNat (k : Int)) []).drop (o + s) = r.take o ++ [a] ++ r.drop (o + s) := by
  have : rows.getD (Int.toNat (k : Int)) [] = r := by simp [List.getD_eq_getElem?_getD, h]
  rw [this]
end Go.Proofs.YtdnanpokaanhdaaDoor
