/-
  Lists of strings: marks in a list that the run made; LinesResult.
-/
import Derived.Test.YtdnanpokaanhdaaDoorS7
import Derived.Test.YtdnanpokaanhdaaDoorS0
namespace Go.Proofs.YtdnanpokaanhdaaDoor
open Go Go.Am Go.RowKit
set_option linter.unusedVariables false
set_option linter.unusedSimpArgs false
abbrev strO (i : Nat) (ws : List ByteArray) : Nat × AObj := (i, .list 9 1 (ws.map strR))
theorem markStringS_nil (m : Int) (n : Nat) : Ret Tryd.prog 16 [nl, iv m] [] n true (Is (iv m) [] n) := by
  refine Ret.fn ttOk Tryd.func16 rfl Tryd.call16 rfl rfl ?_
  refine Goes ?_
  repeat' first | refine W2.m ?_ ?_ | refine W1.m fun h => ?_ | fail
  refine LoopP.go (fun _ : Unit => True) (fun _ => ⟨[(0, nl), (1, iv m), (5, iv 0)], [], 0⟩) (fun _ => 0) () trivial (Weak.of rfl rfl ktA trivial) ?_
  intro _ _
  refine Goes ?_
  repeat' first | refine W2.m ?_ ?_ | refine W1.m fun h => ?_ | fail
  refine FinOk.pure rfl rfl rfl ⟨?_, rfl, rfl⟩
  rfl
def mkW (m : Nat) (_ : ByteArray) : ByteArray := mkX m
def nW (m : Nat) (_ : ByteArray) : Nat := m + 1
abbrev mkWs : Nat → List ByteArray → List ByteArray := mkL mkW nW
theorem nWs_eq : ∀ (xs : List ByteArray) (m : Nat), nL nW m xs = m + xs.length
  | [], m => rfl
  | x :: r, m => by rw [nL, nWs_eq r (nW m x), List.length_cons]; unfold nW; omega
theorem markStringS_own (xs : List ByteArray) (i m n : Nat) (hl : xs.length ≤ 1048576) (hm : m ≤ 900000000000) :
    Ret Tryd.prog 16 [.own i xs.length, iv m] [strO i xs] n true (Is (iv ((m + xs.length : Nat) : Int)) [strO i (mkWs m xs)] n) := by
  refine Ret.of_run (tt := tt) ttOk Tryd.func16 rfl Tryd.call16 [i] [.list 9 1 (xs.map strR)] [.own 0 xs.length, iv m] true n _ rfl (nodup1 i) (by exact Nat.le_of_ble_eq_true rfl) rfl rfl ?_
  refine Goes ?_
  repeat' first | refine W2.m ?_ ?_ | refine W1.m fun h => ?_ | fail
  obtain ⟨R, hR⟩ : ∃ R : Nat → List (List AV), ∀ k, R k = (mkLP mkW nW m xs k).map strR := ⟨_, fun _ => rfl⟩
  have hRl : ∀ k, k ≤ xs.length → (R k).length = xs.length := fun k hk => by rw [hR, List.length_map, mkLP_len m xs k hk]
  have hRa : ∀ k (h : k < xs.length), (R k)[k]? = some (strR xs[k]) := fun k h => by rw [hR, List.getElem?_map, mkLP_at m xs k h]; rfl
  have hRs : ∀ k (h : k < xs.length), (R k).set k [sv (mkX (m + k))] = R (k + 1) := fun k h => by
    have e := nWs_eq (xs.take k) m
    rw [List.length_take, show min k xs.length = k by omega] at e
    rw [hR, hR, ← e, ← mkLP_set m xs k h, List.map_set]
    rfl
  have hR0 : xs.map strR = R 0 := by rw [hR, mkLP_zero]
  rw [hR0]
  refine LoopP.go (fun k : Nat => k ≤ xs.length) (fun k => ⟨[(0, .own 0 xs.length), (1, iv ((m + k : Nat) : Int)), (5, iv k)], [(0, .list 9 1 (R k))], 1⟩) (fun k => xs.length - k) 0 (Nat.zero_le _) (Weak.of rfl rfl ktA ktA) ?_
  intro k hk
  have hml := hRl k hk
  by_cases hlt : k < xs.length
  · have hrow := hRa k hlt
    have hgd : (R k).getD k [] = strR xs[k] := by rw [List.getD_eq_getElem?_getD, hrow]; rfl
    have w1 : IntKind.i64.wrap (((m + k : Nat) : Int) + 1) = ((m + (k + 1) : Nat) : Int) := by rw [IntWalk.i64_in _ (by omega)]; omega
    conv => whnf
    repeat' first
      | (refine AbsK.use (by assumption) ?_; conv => whnf)
      | (refine CondP.yes ?_; conv => whnf)
      | (refine CondP.not ?_; conv => whnf)
      | ((first | refine CondP.dec (fun h => ?_) (fun h => ?_) | refine CondP.ndec (fun h => ?_) (fun h => ?_)) <;> first | (exfalso; first | omega | exact h (by assumption) | exact absurd h (by assumption)) | (conv => whnf))
      | (refine Both.mk ?_ ?_ <;> (conv => whnf))
      | (refine Keep.mk (by repeat' first | exact trivial | rfl | refine And.intro ?_ ?_) ?_; conv => whnf)
      | (refine And.intro (by first | decide | omega) ?_; first | (refine runOps_abs (fun K hK => ?_); conv => whnf) | (conv => whnf))
      | fail
    first | refine CallP.is (markText_ret (m + k) _ (by omega)) rfl ?_ | refine CallQ.is (markText_ret (m + k) _ (by omega)) rfl rfl ?_
    try refine runOps_abs (fun K hK => ?_)
    conv => whnf
    repeat' first
      | (refine AbsK.use (by assumption) ?_; conv => whnf)
      | (refine CondP.yes ?_; conv => whnf)
      | (refine CondP.not ?_; conv => whnf)
      | ((first | refine CondP.dec (fun h => ?_) (fun h => ?_) | refine CondP.ndec (fun h => ?_) (fun h => ?_)) <;> first | (exfalso; first | omega | exact h (by assumption) | exact absurd h (by assumption)) | (conv => whnf))
      | (refine Both.mk ?_ ?_ <;> (conv => whnf))
      | (refine Keep.mk (by repeat' first | exact trivial | rfl | refine And.intro ?_ ?_) ?_; conv => whnf)
      | (refine And.intro (by first | decide | omega) ?_; first | (refine runOps_abs (fun K hK => ?_); conv => whnf) | (conv => whnf))
      | fail
    rw [storeRow (by omega) (by rw [hgd]; rfl)]
    try refine runOps_abs (fun K hK => ?_)
    conv => whnf
    repeat' first
      | (refine AbsK.use (by assumption) ?_; conv => whnf)
      | (refine CondP.yes ?_; conv => whnf)
      | (refine CondP.not ?_; conv => whnf)
      | ((first | refine CondP.dec (fun h => ?_) (fun h => ?_) | refine CondP.ndec (fun h => ?_) (fun h => ?_)) <;> first | (exfalso; first | omega | exact h (by assumption) | exact absurd h (by assumption)) | (conv => whnf))
      | (refine Both.mk ?_ ?_ <;> (conv => whnf))
      | (refine Keep.mk (by repeat' first | exact trivial | rfl | refine And.intro ?_ ?_) ?_; conv => whnf)
      | (refine And.intro (by first | decide | omega) ?_; first | (refine runOps_abs (fun K hK => ?_); conv => whnf) | (conv => whnf))
      | fail
    rw [w1]
    refine ⟨k + 1, by omega, by omega, Weak.of rfl rfl ⟨⟨rfl, rfl⟩, ⟨rfl, rfl⟩, ⟨leafI numA, rfl⟩, trivial⟩ ⟨⟨leafO (hRs k hlt), rfl, rfl⟩, trivial⟩⟩
  · obtain rfl : k = xs.length := by omega
    refine Goes ?_
    repeat' first | refine W2.m ?_ ?_ | refine W1.m fun h => ?_ | fail
    refine FinOk.mk' [] rfl rfl rfl rfl rfl rfl rfl ⟨?_, ?_, rfl⟩
    · rfl
    · rw [hR, mkLP_all]; rfl
theorem heldStringS_rd (xs : List ByteArray) (m n : Nat) (hl : xs.length ≤ 1048576) (hm : m ≤ 900000000000) : Ret Tryd.prog 17 [.lst ((mkWs m xs).map strR), iv m] [] n true (Is (iv ((m + xs.length : Nat) : Int)) [] n) := by
  obtain ⟨ys, hys⟩ : ∃ ys, ys = mkWs m xs := ⟨_, rfl⟩
  have hyl : ys.length = xs.length := by rw [hys, mkL_len]
  have hL : (ys.map strR).length = xs.length := by simp [hyl]
  have hrow : ∀ k (h : k < xs.length), (ys.map strR).getD (Int.toNat (k : Int)) [] = [sv (mkX (m + k))] := fun k h => by
    subst hys
    have e := nWs_eq (xs.take k) m
    rw [List.length_take, show min k xs.length = k by omega] at e
    rw [rowK strR _ k (by rw [mkL_len]; exact h), mkL_at xs m k h (by rw [mkL_len]; exact h), e]; rfl
  rw [← hys]
  refine Ret.fn ttOk Tryd.func17 rfl Tryd.call17 rfl rfl ?_
  refine Goes ?_
  repeat' first | refine W2.m ?_ ?_ | refine W1.m fun h => ?_ | fail
  refine LoopP.go (fun k : Nat => k ≤ xs.length) (fun k => ⟨[(0, .lst (ys.map strR)), (1, iv ((m + k : Nat) : Int)), (5, iv k)], [], 0⟩) (fun k => xs.length - k) 0 (Nat.zero_le _) (Weak.of rfl rfl ktA trivial) ?_
  intro k hk
  refine Goes ?_
  repeat' first | refine W2.m ?_ ?_ | refine W1.m fun h => ?_ | fail
  · have hlt : k < xs.length := by omega
    have hr := hrow k hlt
    have w1 : IntKind.i64.wrap (((m + k : Nat) : Int) + 1) = ((m + (k + 1) : Nat) : Int) := by rw [IntWalk.i64_in _ (by omega)]; omega
    rw [hr]
    refine ⟨by rw [hL]; exact ⟨by omega, by omega, rfl⟩, ?_⟩
    refine Goes ?_
    repeat' first | refine W2.m ?_ ?_ | refine W1.m fun h => ?_ | fail
    first | refine CallQ.is (markText_ret (m + k) _ (by omega)) rfl rfl ?_ | refine CallP.is (markText_ret (m + k) _ (by omega)) rfl ?_
    refine Goes ?_
    repeat' first | refine W2.m ?_ ?_ | refine W1.m fun h => ?_ | fail
    simp only [beq_self_eq_true, Bool.not_true]
    refine Goes ?_
    repeat' first | refine W2.m ?_ ?_ | refine W1.m fun h => ?_ | fail
    rw [w1]
    exact ⟨k + 1, by omega, by omega, (Weak.of rfl rfl ktA trivial)⟩
  · obtain rfl : k = xs.length := by omega
    refine FinOk.pure rfl rfl rfl ⟨?_, rfl, rfl⟩
    rfl
abbrev linesR (c : Int) (ws : List ByteArray) (z : ByteArray) : AV := .agg [iv c, .lst (ws.map strR), sv z]
theorem eqLines_yes (c : Int) (ws : List ByteArray) (z : ByteArray) (n : Nat) (hl : ws.length ≤ 1048576) : Ret Tryd.prog 7 [linesR c ws z, linesR c ws z] [] n true (Is (bv true) [] n) := by
  refine Ret.fn ttOk Tryd.func7 rfl Tryd.call7 rfl rfl ?_
  refine Goes ?_
  repeat' first | refine W2.m ?_ ?_ | refine W1.m fun h => ?_ | fail
  first | refine CallP.is (eqStringS_yes ws _ hl) rfl ?_ | refine CallQ.is (eqStringS_yes ws _ hl) rfl rfl ?_
  refine Goes ?_
  repeat' first | refine W2.m ?_ ?_ | refine W1.m fun h => ?_ | fail
  simp only [beq_self_eq_true, Bool.not_true]
  refine Goes ?_
  repeat' first | refine W2.m ?_ ?_ | refine W1.m fun h => ?_ | fail
  refine FinOk.pure rfl rfl rfl ⟨?_, rfl, rfl⟩
  rfl
theorem markLines_own (c : Int) (ws : List ByteArray) (z : ByteArray) (i m n : Nat) (hl : ws.length ≤ 1048576) (hm : m ≤ 900000000000) :
    Ret Tryd.prog 10 [.agg [iv c, .own i ws.length, sv z], iv m] [strO i ws] n true (Is (iv ((m + ws.length : Nat) : Int)) [strO i (mkWs m ws)] n) := by
  refine Ret.of_run (tt := tt) ttOk Tryd.func10 rfl Tryd.call10 [i] [.list 9 1 (ws.map strR)] [.agg [iv c, .own 0 ws.length, sv z], iv m] true n _ rfl (nodup1 i) (by exact Nat.le_of_ble_eq_true rfl) rfl rfl ?_
  refine Goes ?_
  repeat' first | refine W2.m ?_ ?_ | refine W1.m fun h => ?_ | fail
  refine CallP.heapIs (markStringS_own ws 0 m _ hl hm) rfl ktA rfl ?_
  refine Goes ?_
  repeat' first | refine W2.m ?_ ?_ | refine W1.m fun h => ?_ | fail
  refine FinOk.mk' [] rfl rfl rfl rfl rfl rfl rfl ⟨?_, ?_, rfl⟩
  · rfl
  · rfl
theorem markLines_nil (c : Int) (z : ByteArray) (m : Int) (n : Nat) : Ret Tryd.prog 10 [.agg [iv c, nl, sv z], iv m] [] n true (Is (iv m) [] n) := by
  refine Ret.fn ttOk Tryd.func10 rfl Tryd.call10 rfl rfl ?_
  refine Goes ?_
  repeat' first | refine W2.m ?_ ?_ | refine W1.m fun h => ?_ | fail
  first | refine CallP.is (markStringS_nil m _) rfl ?_ | refine CallQ.is (markStringS_nil m _) rfl rfl ?_
  refine Goes ?_
  repeat' first | refine W2.m ?_ ?_ | refine W1.m fun h => ?_ | fail
  refine FinOk.pure rfl rfl rfl ⟨?_, rfl, rfl⟩
  rfl
theorem heldLines_rd (c : Int) (ws : List ByteArray) (z : ByteArray) (m n : Nat) (hl : ws.length ≤ 1048576) (hm : m ≤ 900000000000) : Ret Tryd.prog 11 [linesR c (mkWs m ws) z, iv m] [] n true (Is (iv ((m + ws.length : Nat) : Int)) [] n) := by
  refine Ret.fn ttOk Tryd.func11 rfl Tryd.call11 rfl rfl ?_
  refine Goes ?_
  repeat' first | refine W2.m ?_ ?_ | refine W1.m fun h => ?_ | fail
  first | refine CallP.is (heldStringS_rd ws m _ hl hm) rfl ?_ | refine CallQ.is (heldStringS_rd ws m _ hl hm) rfl rfl ?_
  refine Goes ?_
  repeat' first | refine W2.m ?_ ?_ | refine W1.m fun h => ?_ | fail
  all_goals first
    | (exfalso; omega)
    | (refine FinOk.pure rfl rfl rfl ⟨?_, rfl, rfl⟩
       rfl)
theorem cvLines {hp : Hp} {i k : Nat} {c : Int} {z : ByteArray} {ws : List ByteArray} (h : Go.Am.look hp i = some (AObj.list 9 1 (ws.map strR))) (hk : k = ws.length) : Cv hp [] false (.agg [iv c, .own i k, sv z]) (linesR c ws z) :=
  cvAgg ⟨cvcSame rfl, cvcOwn h (by simpa using hk), cvcSame rfl, trivial⟩
theorem cvLinesS {hp : Hp} {c : Int} {z : ByteArray} {ws : List ByteArray} : Cv hp [] false (linesR c ws z) (linesR c ws z) := cvAgg ⟨cvcSame rfl, cvcSame rfl, cvcSame rfl, trivial⟩
theorem cvLinesN {hp : Hp} {c : Int} {z : ByteArray} : Cv hp [] false (.agg [iv c, nl, sv z]) (linesR c [] z) := cvAgg ⟨cvcSame rfl, cvcNil, cvcSame rfl, trivial⟩
theorem flStr (xs : List ByteArray) : ∀ r ∈ xs.map strR, ∀ c ∈ r, ∃ v, c = AV.val v := flat_vals Value.string xs
end Go.Proofs.YtdnanpokaanhdaaDoor
