/-
  CHAPTER 8: the law of CutLines.
-/
import Derived.Test.YtdnanpokaanhdaaDoorS22
namespace Go.Proofs.YtdnanpokaanhdaaDoor
open Go Go.Am Go.RowKit
set_option linter.unusedVariables false
set_option linter.unusedSimpArgs false
theorem specCut_fr (s : ByteArray) (d : List Int) (n : Nat) (hs : s.size ≤ 161) (hd : d.length ≤ 1000) : Ret Tryd.prog 4 [sv s, ul d] [] n true (Is (linesR 0 (cutLs (cutB s d)) (cutR (cutB s d))) [] n) :=
  Ret.freeze (by
    rintro _ _ _ ⟨rfl, rfl, rfl⟩
    exact ⟨_, .agg _ [iv 0, .lst ((cutLs (cutB s d)).map strR), sv (cutR (cutB s d))] ⟨.refl _ rfl (fun _ e => by cases e), frOwn (look_cons_eq _ _ _) (by simp), .refl _ rfl (fun _ e => by cases e), trivial⟩, rfl, rfl, rfl⟩) (specCut_yes s d n hs hd)
theorem lawCut_ok (s : ByteArray) (d : List Int) (n : Nat) (hs : s.size ≤ 161) (hd : d.length ≤ 1000) : Ret Tryd.prog 3 [sv s, ul d] [] n true (fun r _ _ => r = bv true) := by
  have hL : (uvs d).length = d.length := by simp
  have hl : d.length ≤ 1048576 := by omega
  have hw1 : (cutLs (cutB s d)).length ≤ 1048576 := by
    have h1 := cutLs_len (cutB s d)
    have h2 := cutB_size s d
    omega
  have hSp := fun n => specCut_fr s d n hs hd
  have hIm := fun n => implCut_yes s d n hs hd
  generalize cutR (cutB s d) = z at *
  generalize cutLs (cutB s d) = ws at *
  refine Ret.fn ttOk Tryd.func3 rfl Tryd.call3 rfl rfl ?_
  refine Goes ?_
  repeat' first | refine W2.m ?_ ?_ | refine W1.m fun h => ?_ | fail
  first | refine CallP.is (toByteS_fr d _ hl) rfl ?_ | refine CallQ.is (toByteS_fr d _ hl) rfl rfl ?_
  refine Goes ?_
  repeat' first | refine W2.m ?_ ?_ | refine W1.m fun h => ?_ | fail
  first | refine CallP.is (hSp _) rfl ?_ | refine CallQ.is (hSp _) rfl rfl ?_
  refine Goes ?_
  repeat' first | refine W2.m ?_ ?_ | refine W1.m fun h => ?_ | fail
  first | refine CallP.is (toByteS_ret d _ hl) rfl ?_ | refine CallQ.is (toByteS_ret d _ hl) rfl rfl ?_
  refine Goes ?_
  repeat' first | refine W2.m ?_ ?_ | refine W1.m fun h => ?_ | fail
  refine CallP.convAIs (hIm _) ⟨cvSame rfl, cvOwn rfl (by simp), trivial⟩ rfl ⟨flStr _, trivial⟩ ?_
  refine Goes ?_
  repeat' first | refine W2.m ?_ ?_ | refine W1.m fun h => ?_ | fail
  refine CallP.convAIs (eqLines_yes 0 ws z _ hw1) ⟨cvLines rfl rfl, cvLinesS, trivial⟩ rfl trivial ?_
  refine Goes ?_
  repeat' first | refine W2.m ?_ ?_ | refine W1.m fun h => ?_ | fail
  first | refine CallQ.is (toByteS_fr d _ hl) rfl rfl ?_ | refine CallP.is (toByteS_fr d _ hl) rfl ?_
  refine Goes ?_
  repeat' first | refine W2.m ?_ ?_ | refine W1.m fun h => ?_ | fail
  refine CallP.convAIs (eqByteS_yes d _ hl) cvargsA rfl (by first | exact trivial | exact ⟨flat_ivs _, trivial⟩) ?_
  refine Goes ?_
  repeat' first | refine W2.m ?_ ?_ | refine W1.m fun h => ?_ | fail
  refine CallP.heapIs (markByteS_ret d 1 1 _ hl (by decide)) rfl ktA rfl ?_
  refine Goes ?_
  repeat' first | refine W2.m ?_ ?_ | refine W1.m fun h => ?_ | fail
  refine CallP.convAIs (eqLines_yes 0 ws z _ hw1) ⟨cvLines rfl rfl, cvLinesS, trivial⟩ rfl trivial ?_
  refine Goes ?_
  repeat' first | refine W2.m ?_ ?_ | refine W1.m fun h => ?_ | fail
  refine CallP.heapIs (markLines_own 0 ws z 2 1 _ hw1 (by decide)) rfl ktA rfl ?_
  refine Goes ?_
  repeat' first | refine W2.m ?_ ?_ | refine W1.m fun h => ?_ | fail
  refine CallP.convAIs (heldLines_rd 0 ws z 1 _ hw1 (by decide)) ⟨cvLines rfl (by rw [mkL_len]), cvSame rfl, trivial⟩ rfl trivial ?_
  refine Goes ?_
  repeat' first | refine W2.m ?_ ?_ | refine W1.m fun h => ?_ | fail
  first | refine CallP.is (toByteS_fr d _ hl) rfl ?_ | refine CallQ.is (toByteS_fr d _ hl) rfl rfl ?_
  refine Goes ?_
  repeat' first | refine W2.m ?_ ?_ | refine W1.m fun h => ?_ | fail
  first | refine CallP.is (hIm _) rfl ?_ | refine CallQ.is (hIm _) rfl rfl ?_
  refine Goes ?_
  repeat' first | refine W2.m ?_ ?_ | refine W1.m fun h => ?_ | fail
  refine CallP.convAIs (eqLines_yes 0 ws z _ hw1) ⟨cvLines rfl rfl, cvLinesS, trivial⟩ rfl trivial ?_
  refine Goes ?_
  repeat' first | refine W2.m ?_ ?_ | refine W1.m fun h => ?_ | fail
  refine CallP.convAIs (heldLines_rd 0 ws z 1 _ hw1 (by decide)) ⟨cvLines rfl (by rw [mkL_len]), cvSame rfl, trivial⟩ rfl trivial ?_
  refine Goes ?_
  repeat' first | refine W2.m ?_ ?_ | refine W1.m fun h => ?_ | fail
  exact FinOk.pure rfl rfl rfl rfl
theorem lawCut_no (s : ByteArray) (d : List Int) (n : Nat) (hn : ¬ (s.size ≤ 161 ∧ d.length ≤ 1000)) (hs : s.size ≤ 1048576) (hl : d.length ≤ 1048576) : Ret Tryd.prog 3 [sv s, ul d] [] n true (fun r _ _ => r = bv true) := by
  have hL : (uvs d).length = d.length := by simp
  refine Ret.fn ttOk Tryd.func3 rfl Tryd.call3 rfl rfl ?_
  refine Goes ?_
  repeat' first | refine W2.m ?_ ?_ | refine W1.m fun h => ?_ | fail
  first | refine CallP.is (toByteS_fr d _ hl) rfl ?_ | refine CallQ.is (toByteS_fr d _ hl) rfl rfl ?_
  refine Goes ?_
  repeat' first | refine W2.m ?_ ?_ | refine W1.m fun h => ?_ | fail
  first | refine CallP.is (specCut_no s d _ hn) rfl ?_ | refine CallQ.is (specCut_no s d _ hn) rfl rfl ?_
  refine Goes ?_
  repeat' first | refine W2.m ?_ ?_ | refine W1.m fun h => ?_ | fail
  first | refine CallP.is (toByteS_ret d _ hl) rfl ?_ | refine CallQ.is (toByteS_ret d _ hl) rfl rfl ?_
  refine Goes ?_
  repeat' first | refine W2.m ?_ ?_ | refine W1.m fun h => ?_ | fail
  refine CallP.convAIs (implCut_no s d _ hn) ⟨cvSame rfl, cvOwn rfl (by simp), trivial⟩ rfl trivial ?_
  refine Goes ?_
  repeat' first | refine W2.m ?_ ?_ | refine W1.m fun h => ?_ | fail
  refine CallP.convAIs (eqLines_yes 2 [] ⟨#[]⟩ _ (Nat.zero_le _)) ⟨cvLinesN, cvLinesN, trivial⟩ rfl trivial ?_
  refine Goes ?_
  repeat' first | refine W2.m ?_ ?_ | refine W1.m fun h => ?_ | fail
  first | refine CallQ.is (toByteS_fr d _ hl) rfl rfl ?_ | refine CallP.is (toByteS_fr d _ hl) rfl ?_
  refine Goes ?_
  repeat' first | refine W2.m ?_ ?_ | refine W1.m fun h => ?_ | fail
  refine CallP.convAIs (eqByteS_yes d _ hl) cvargsA rfl (by first | exact trivial | exact ⟨flat_ivs _, trivial⟩) ?_
  refine Goes ?_
  repeat' first | refine W2.m ?_ ?_ | refine W1.m fun h => ?_ | fail
  refine CallP.heapIs (markByteS_ret d 1 1 _ hl (by decide)) rfl ktA rfl ?_
  refine Goes ?_
  repeat' first | refine W2.m ?_ ?_ | refine W1.m fun h => ?_ | fail
  refine CallP.convAIs (eqLines_yes 2 [] ⟨#[]⟩ _ (Nat.zero_le _)) ⟨cvLinesN, cvLinesN, trivial⟩ rfl trivial ?_
  refine Goes ?_
  repeat' first | refine W2.m ?_ ?_ | refine W1.m fun h => ?_ | fail
  first | refine CallP.is (markLines_nil 2 ⟨#[]⟩ 1 _) rfl ?_ | refine CallQ.is (markLines_nil 2 ⟨#[]⟩ 1 _) rfl rfl ?_
  refine Goes ?_
  repeat' first | refine W2.m ?_ ?_ | refine W1.m fun h => ?_ | fail
  refine CallP.convAIs (heldLines_rd 2 [] ⟨#[]⟩ 1 _ (Nat.zero_le _) (by decide)) ⟨cvLinesN, cvSame rfl, trivial⟩ rfl trivial ?_
  refine Goes ?_
  repeat' first | refine W2.m ?_ ?_ | refine W1.m fun h => ?_ | fail
  first | refine CallP.is (toByteS_fr d _ hl) rfl ?_ | refine CallQ.is (toByteS_fr d _ hl) rfl rfl ?_
  refine Goes ?_
  repeat' first | refine W2.m ?_ ?_ | refine W1.m fun h => ?_ | fail
  first | refine CallP.is (implCut_no s d _ hn) rfl ?_ | refine CallQ.is (implCut_no s d _ hn) rfl rfl ?_
  refine Goes ?_
  repeat' first | refine W2.m ?_ ?_ | refine W1.m fun h => ?_ | fail
  refine CallP.convAIs (eqLines_yes 2 [] ⟨#[]⟩ _ (Nat.zero_le _)) ⟨cvLinesN, cvLinesN, trivial⟩ rfl trivial ?_
  refine Goes ?_
  repeat' first | refine W2.m ?_ ?_ | refine W1.m fun h => ?_ | fail
  refine CallP.convAIs (heldLines_rd 2 [] ⟨#[]⟩ 1 _ (Nat.zero_le _) (by decide)) ⟨cvLinesN, cvSame rfl, trivial⟩ rfl trivial ?_
  refine Goes ?_
  repeat' first | refine W2.m ?_ ?_ | refine W1.m fun h => ?_ | fail
  exact FinOk.pure rfl rfl rfl rfl
theorem lawCutLines (s : ByteArray) (d : List Int) (n : Nat) (hs : s.size ≤ 9223372036854775807) (hd : ∀ z ∈ d, isU8 z) : Ret Tryd.prog 3 [sv s, ul d] [] n true (fun r _ _ => r = bv true) := by
  have hL : (uvs d).length = d.length := by simp
  by_cases h1 : s.size ≤ 1048576
  · by_cases h2 : d.length ≤ 1048576
    · by_cases h : s.size ≤ 161 ∧ d.length ≤ 1000
      · exact lawCut_ok s d n h.1 h.2
      · exact lawCut_no s d n h h1 h2
    · refine Ret.fn ttOk Tryd.func3 rfl Tryd.call3 rfl rfl ?_
      refine Goes ?_
      repeat' first | refine W2.m ?_ ?_ | refine W1.m fun h => ?_ | fail
      exact FinOk.pure rfl rfl rfl rfl
  · refine Ret.fn ttOk Tryd.func3 rfl Tryd.call3 rfl rfl ?_
    refine Goes ?_
    repeat' first | refine W2.m ?_ ?_ | refine W1.m fun h => ?_ | fail
    exact FinOk.pure rfl rfl rfl rfl
end Go.Proofs.YtdnanpokaanhdaaDoor
