/-
  CHAPTER 3: the law of ReadTx, by the reading.
-/
import Derived.Test.YtdafmioegaelgaaP47
namespace Go.Proofs.Ytdafmioegaelgaa
open Go Go.Am Go.RowKit
set_option linter.unusedVariables false
set_option linter.unusedSimpArgs false
theorem psum_bd {α : Type} (g : α → Nat) (c : Nat) : ∀ (xs : List α), (∀ x ∈ xs, g x ≤ c) → psum g xs ≤ xs.length * c
  | [], _ => by simp [psum]
  | x :: r, h => by
    have h1 := psum_bd g c r fun y hy => h y (List.mem_cons_of_mem _ hy)
    have h2 := h x (List.mem_cons_self ..)
    have h3 : psum g (x :: r) = g x + psum g r := by simp [psum]
    rw [h3, List.length_cons, Nat.add_mul]; omega
theorem size_ok {t : TxD} (h : okT t) : sizeX t ≤ 1048576 := by
  obtain ⟨_, h1, h2, h3, h4⟩ := h
  have a := psum_bd pIn 8 t.2.1 fun x hx => (h3 x hx).2.2.1
  have b := psum_bd pOut 12 t.2.2 fun y hy => (h4 y hy).2.1
  unfold sizeX
  omega
theorem flatMap' {α : Type} {b : Bool} {e k : Nat} {f : α → List AV} (h : ∀ x, ∀ c ∈ f x, FlatT c) (xs : List α) : flatO (.nest (c := b) e k (xs.map f)) := fun c hc => by
  obtain ⟨r, hr, hcr⟩ := List.mem_flatten.1 hc
  obtain ⟨x, _, rfl⟩ := List.mem_map.1 hr
  exact .inr (h x c hcr)
theorem flTl (zs : List Int) : FlatT (tl zs) := .tree _ _ _ fun c hc => by
  obtain ⟨r, hr, hcr⟩ := List.mem_flatten.1 hc
  obtain ⟨x, _, rfl⟩ := List.mem_map.1 hr
  simp at hcr; subst hcr; exact .val _
theorem flIn (xs : List InD) : flatO (.nest (c := true) 125 3 (xs.map inT)) := flatMap' (fun x c hc => by
  simp only [List.mem_cons, List.not_mem_nil, or_false] at hc
  rcases hc with rfl | rfl | rfl
  · exact .val _
  · exact .val _
  · exact flTl _) xs
theorem flOut (ys : List OutD) : flatO (.nest (c := true) 127 2 (ys.map outT)) := flatMap' (fun y c hc => by
  simp only [List.mem_cons, List.not_mem_nil, or_false] at hc
  rcases hc with rfl | rfl
  · exact .val _
  · exact flTl _) ys
theorem readF_fault {d : List Int} {t : TxD} {u : Nat} (h : readF d = some (t, u)) : faultC t = 0 := by
  unfold readF at h
  split at h
  · rename_i hh; cases h; exact hh.2
  · cases h
/-- An answer's own memory, lent. -/
theorem cvTxR {hp : Hp} {b b' : Bool} {i j : Nat} {z u : Int} {t : TxD} (h1 : Go.Am.look hp i = some (AObj.nest (c := b) 125 3 (t.2.1.map inT))) (h2 : Go.Am.look hp j = some (AObj.nest (c := b') 127 2 (t.2.2.map outT))) : Cv hp [] false (.agg [iv z, iv t.1, .own i t.2.1.length, .own j t.2.2.length, iv u]) (.agg [iv z, iv t.1, insV t.2.1, outsV t.2.2, iv u]) :=
  cvAgg ⟨cvcSame rfl, cvcSame rfl, cvcNest h1 rfl (fzIn _) (by simp), cvcNest h2 rfl (fzOut _) (by simp), cvcSame rfl, trivial⟩
theorem cvTxM {hp : Hp} {b b' : Bool} {i j : Nat} {z c u : Int} {xs : List InD} {ys : List OutD} {l k : Nat} (h1 : Go.Am.look hp i = some (AObj.nest (c := b) 125 3 (xs.map inT))) (h2 : Go.Am.look hp j = some (AObj.nest (c := b') 127 2 (ys.map outT))) (hl : l = xs.length) (hk : k = ys.length) : Cv hp [] false (.agg [iv z, iv c, .own i l, .own j k, iv u]) (.agg [iv z, iv c, insV xs, outsV ys, iv u]) :=
  cvAgg ⟨cvcSame rfl, cvcSame rfl, cvcNest h1 rfl (fzIn _) (by simpa using hl), cvcNest h2 rfl (fzOut _) (by simpa using hk), cvcSame rfl, trivial⟩
theorem lawReadTx_yes (d : List Int) (t : TxD) (u n : Nat) (hd : ∀ z ∈ d, isU8 z) (hl : d.length ≤ 1048576) (h0 : readF d = some (t, u)) : Ret Try.prog 4 [ul d] [] n true (fun r _ _ => r = bv true) := by
  have hL : (uvs d).length = d.length := by simp
  have hs := fun n => specReadTx_ret d n hd hl
  have hi := fun n => implReadTx_ret d n hd hl
  have ho := fun n => implReadTx_yes d t u n hd hl h0
  unfold readR at hs hi
  rw [h0] at hs hi
  dsimp only at hs hi
  refine Ret.fn ttOk Try.func4 rfl Try.call4 rfl rfl ?_
  conv => whnf
  repeat' first
    | (refine CondP.yes ?_; conv => whnf)
    | (refine CondP.not ?_; conv => whnf)
    | ((first | refine CondP.dec (fun h => ?_) (fun h => ?_) | refine CondP.ndec (fun h => ?_) (fun h => ?_)) <;> first | (exfalso; first | omega | exact h (by assumption) | exact absurd h (by assumption)) | (conv => whnf))
    | (refine Both.mk ?_ ?_ <;> (conv => whnf))
    | (refine Keep.mk (by repeat' first | exact trivial | rfl | refine And.intro ?_ ?_) ?_; conv => whnf)
    | (refine And.intro (by first | decide | omega) ?_; conv => whnf)
    | fail
  first | refine CallP.is (toByteS_fr d _ hl) rfl ?_ | refine CallQ.is (toByteS_fr d _ hl) rfl rfl ?_
  conv => whnf
  repeat' first
    | (refine CondP.yes ?_; conv => whnf)
    | (refine CondP.not ?_; conv => whnf)
    | ((first | refine CondP.dec (fun h => ?_) (fun h => ?_) | refine CondP.ndec (fun h => ?_) (fun h => ?_)) <;> first | (exfalso; first | omega | exact h (by assumption) | exact absurd h (by assumption)) | (conv => whnf))
    | (refine Both.mk ?_ ?_ <;> (conv => whnf))
    | (refine Keep.mk (by repeat' first | exact trivial | rfl | refine And.intro ?_ ?_) ?_; conv => whnf)
    | (refine And.intro (by first | decide | omega) ?_; conv => whnf)
    | fail
  first | refine CallP.is (hs _) rfl ?_ | refine CallQ.is (hs _) rfl rfl ?_
  conv => whnf
  repeat' first
    | (refine CondP.yes ?_; conv => whnf)
    | (refine CondP.not ?_; conv => whnf)
    | ((first | refine CondP.dec (fun h => ?_) (fun h => ?_) | refine CondP.ndec (fun h => ?_) (fun h => ?_)) <;> first | (exfalso; first | omega | exact h (by assumption) | exact absurd h (by assumption)) | (conv => whnf))
    | (refine Both.mk ?_ ?_ <;> (conv => whnf))
    | (refine Keep.mk (by repeat' first | exact trivial | rfl | refine And.intro ?_ ?_) ?_; conv => whnf)
    | (refine And.intro (by first | decide | omega) ?_; conv => whnf)
    | fail
  first | refine CallP.is (toByteS_ret d _ hl) rfl ?_ | refine CallQ.is (toByteS_ret d _ hl) rfl rfl ?_
  conv => whnf
  repeat' first
    | (refine CondP.yes ?_; conv => whnf)
    | (refine CondP.not ?_; conv => whnf)
    | ((first | refine CondP.dec (fun h => ?_) (fun h => ?_) | refine CondP.ndec (fun h => ?_) (fun h => ?_)) <;> first | (exfalso; first | omega | exact h (by assumption) | exact absurd h (by assumption)) | (conv => whnf))
    | (refine Both.mk ?_ ?_ <;> (conv => whnf))
    | (refine Keep.mk (by repeat' first | exact trivial | rfl | refine And.intro ?_ ?_) ?_; conv => whnf)
    | (refine And.intro (by first | decide | omega) ?_; conv => whnf)
    | fail
  have hok : okT t := fault_ok (readF_fault h0)
  have hz := size_ok hok
  have hf := fits_of hz
  refine CallP.convAIs (ho _) ⟨cvOwn rfl (by simp), trivial⟩ rfl ⟨flIn _, flOut _, trivial⟩ ?_
  conv => whnf
  repeat' first
    | (refine CondP.yes ?_; conv => whnf)
    | (refine CondP.not ?_; conv => whnf)
    | ((first | refine CondP.dec (fun h => ?_) (fun h => ?_) | refine CondP.ndec (fun h => ?_) (fun h => ?_)) <;> first | (exfalso; first | omega | exact h (by assumption) | exact absurd h (by assumption)) | (conv => whnf))
    | (refine Both.mk ?_ ?_ <;> (conv => whnf))
    | (refine Keep.mk (by repeat' first | exact trivial | rfl | refine And.intro ?_ ?_) ?_; conv => whnf)
    | (refine And.intro (by first | decide | omega) ?_; conv => whnf)
    | fail
  refine CallP.convAIs (eqTxResult_yes 0 u t _ hf) ⟨cvTxR rfl rfl, cvAgg ⟨cvcSame rfl, cvcSame rfl, cvcSame rfl, cvcSame rfl, cvcSame rfl, trivial⟩, trivial⟩ rfl trivial ?_
  conv => whnf
  repeat' first
    | (refine CondP.yes ?_; conv => whnf)
    | (refine CondP.not ?_; conv => whnf)
    | ((first | refine CondP.dec (fun h => ?_) (fun h => ?_) | refine CondP.ndec (fun h => ?_) (fun h => ?_)) <;> first | (exfalso; first | omega | exact h (by assumption) | exact absurd h (by assumption)) | (conv => whnf))
    | (refine Both.mk ?_ ?_ <;> (conv => whnf))
    | (refine Keep.mk (by repeat' first | exact trivial | rfl | refine And.intro ?_ ?_) ?_; conv => whnf)
    | (refine And.intro (by first | decide | omega) ?_; conv => whnf)
    | fail
  first | refine CallP.is (toByteS_fr d _ hl) rfl ?_ | refine CallQ.is (toByteS_fr d _ hl) rfl rfl ?_
  conv => whnf
  repeat' first
    | (refine CondP.yes ?_; conv => whnf)
    | (refine CondP.not ?_; conv => whnf)
    | ((first | refine CondP.dec (fun h => ?_) (fun h => ?_) | refine CondP.ndec (fun h => ?_) (fun h => ?_)) <;> first | (exfalso; first | omega | exact h (by assumption) | exact absurd h (by assumption)) | (conv => whnf))
    | (refine Both.mk ?_ ?_ <;> (conv => whnf))
    | (refine Keep.mk (by repeat' first | exact trivial | rfl | refine And.intro ?_ ?_) ?_; conv => whnf)
    | (refine And.intro (by first | decide | omega) ?_; conv => whnf)
    | fail
  refine CallP.convAIs (eqByteS_yes d _ hl) (by repeat' first | exact trivial | exact cvSame rfl | exact cvNil | exact cvOwn rfl (by (first | rfl | (simp only [List.length_map]; done) | (simp only [List.length_map]; first | rfl | assumption | omega))) | exact cvcSame rfl | exact cvcNil | exact cvcOwn rfl (by (first | rfl | (simp only [List.length_map]; done) | (simp only [List.length_map]; first | rfl | assumption | omega))) | refine cvBox rfl ?_ rfl | refine cvAgg ?_ | refine And.intro ?_ ?_) rfl (by first | exact trivial | exact ⟨flat_ivs _, trivial⟩) ?_
  conv => whnf
  repeat' first
    | (refine CondP.yes ?_; conv => whnf)
    | (refine CondP.not ?_; conv => whnf)
    | ((first | refine CondP.dec (fun h => ?_) (fun h => ?_) | refine CondP.ndec (fun h => ?_) (fun h => ?_)) <;> first | (exfalso; first | omega | exact h (by assumption) | exact absurd h (by assumption)) | (conv => whnf))
    | (refine Both.mk ?_ ?_ <;> (conv => whnf))
    | (refine Keep.mk (by repeat' first | exact trivial | rfl | refine And.intro ?_ ?_) ?_; conv => whnf)
    | (refine And.intro (by first | decide | omega) ?_; conv => whnf)
    | fail
  refine CallP.heapIs (markByteS_ret d 1 1 _ hl (Nat.le_of_ble_eq_true rfl)) rfl (by repeat' first | exact trivial | rfl | exact leafI (by first | rfl | omega | (simp (disch := omega) only [Int.reduceToNat, IntKind.bits, Nat.min_eq_left, Int.reducePow, IntWalk.i64_in, IntWalk.rem_in, IntWalk.i64_quo, IntWalk.u8_in, IntWalk.u32_in, IntWalk.u64_in]; done) | (simp (disch := omega) only [Int.reduceToNat, IntKind.bits, Nat.min_eq_left, Int.reducePow, IntWalk.i64_in, IntWalk.rem_in, IntWalk.i64_quo, IntWalk.u8_in, IntWalk.u32_in, IntWalk.u64_in]; omega)) | refine And.intro ?_ ?_) rfl ?_
  conv => whnf
  repeat' first
    | (refine CondP.yes ?_; conv => whnf)
    | (refine CondP.not ?_; conv => whnf)
    | ((first | refine CondP.dec (fun h => ?_) (fun h => ?_) | refine CondP.ndec (fun h => ?_) (fun h => ?_)) <;> first | (exfalso; first | omega | exact h (by assumption) | exact absurd h (by assumption)) | (conv => whnf))
    | (refine Both.mk ?_ ?_ <;> (conv => whnf))
    | (refine Keep.mk (by repeat' first | exact trivial | rfl | refine And.intro ?_ ?_) ?_; conv => whnf)
    | (refine And.intro (by first | decide | omega) ?_; conv => whnf)
    | fail
  refine CallP.convAIs (eqTxResult_yes 0 u t _ hf) ⟨cvTxR rfl rfl, cvAgg ⟨cvcSame rfl, cvcSame rfl, cvcSame rfl, cvcSame rfl, cvcSame rfl, trivial⟩, trivial⟩ rfl trivial ?_
  conv => whnf
  repeat' first
    | (refine CondP.yes ?_; conv => whnf)
    | (refine CondP.not ?_; conv => whnf)
    | ((first | refine CondP.dec (fun h => ?_) (fun h => ?_) | refine CondP.ndec (fun h => ?_) (fun h => ?_)) <;> first | (exfalso; first | omega | exact h (by assumption) | exact absurd h (by assumption)) | (conv => whnf))
    | (refine Both.mk ?_ ?_ <;> (conv => whnf))
    | (refine Keep.mk (by repeat' first | exact trivial | rfl | refine And.intro ?_ ?_) ?_; conv => whnf)
    | (refine And.intro (by first | decide | omega) ?_; conv => whnf)
    | fail
  refine CallP.heapIs (markTxResult_own 0 u t 2 3 1 _ (by decide) hz (by decide)) rfl (by repeat' first | exact trivial | rfl | exact leafI (by first | rfl | omega | (simp (disch := omega) only [Int.reduceToNat, IntKind.bits, Nat.min_eq_left, Int.reducePow, IntWalk.i64_in, IntWalk.rem_in, IntWalk.i64_quo, IntWalk.u8_in, IntWalk.u32_in, IntWalk.u64_in]; done) | (simp (disch := omega) only [Int.reduceToNat, IntKind.bits, Nat.min_eq_left, Int.reducePow, IntWalk.i64_in, IntWalk.rem_in, IntWalk.i64_quo, IntWalk.u8_in, IntWalk.u32_in, IntWalk.u64_in]; omega)) | refine And.intro ?_ ?_) rfl ?_
  conv => whnf
  repeat' first
    | (refine CondP.yes ?_; conv => whnf)
    | (refine CondP.not ?_; conv => whnf)
    | ((first | refine CondP.dec (fun h => ?_) (fun h => ?_) | refine CondP.ndec (fun h => ?_) (fun h => ?_)) <;> first | (exfalso; first | omega | exact h (by assumption) | exact absurd h (by assumption)) | (conv => whnf))
    | (refine Both.mk ?_ ?_ <;> (conv => whnf))
    | (refine Keep.mk (by repeat' first | exact trivial | rfl | refine And.intro ?_ ?_) ?_; conv => whnf)
    | (refine And.intro (by first | decide | omega) ?_; conv => whnf)
    | fail
  refine CallP.convAIs (heldTxResult_rd 0 t.1 u t.2.1 t.2.2 1 _ hz (by decide)) ⟨cvTxM rfl rfl (mkIns_len _ _).symm (mkOuts_len _ _).symm, cvSame rfl, trivial⟩ rfl trivial ?_
  conv => whnf
  repeat' first
    | (refine CondP.yes ?_; conv => whnf)
    | (refine CondP.not ?_; conv => whnf)
    | ((first | refine CondP.dec (fun h => ?_) (fun h => ?_) | refine CondP.ndec (fun h => ?_) (fun h => ?_)) <;> first | (exfalso; first | omega | exact h (by assumption) | exact absurd h (by assumption)) | (conv => whnf))
    | (refine Both.mk ?_ ?_ <;> (conv => whnf))
    | (refine Keep.mk (by repeat' first | exact trivial | rfl | refine And.intro ?_ ?_) ?_; conv => whnf)
    | (refine And.intro (by first | decide | omega) ?_; conv => whnf)
    | fail
  first | refine CallP.is (toByteS_fr d _ hl) rfl ?_ | refine CallQ.is (toByteS_fr d _ hl) rfl rfl ?_
  conv => whnf
  repeat' first
    | (refine CondP.yes ?_; conv => whnf)
    | (refine CondP.not ?_; conv => whnf)
    | ((first | refine CondP.dec (fun h => ?_) (fun h => ?_) | refine CondP.ndec (fun h => ?_) (fun h => ?_)) <;> first | (exfalso; first | omega | exact h (by assumption) | exact absurd h (by assumption)) | (conv => whnf))
    | (refine Both.mk ?_ ?_ <;> (conv => whnf))
    | (refine Keep.mk (by repeat' first | exact trivial | rfl | refine And.intro ?_ ?_) ?_; conv => whnf)
    | (refine And.intro (by first | decide | omega) ?_; conv => whnf)
    | fail
  first | refine CallP.is (hi _) rfl ?_ | refine CallQ.is (hi _) rfl rfl ?_
  conv => whnf
  repeat' first
    | (refine CondP.yes ?_; conv => whnf)
    | (refine CondP.not ?_; conv => whnf)
    | ((first | refine CondP.dec (fun h => ?_) (fun h => ?_) | refine CondP.ndec (fun h => ?_) (fun h => ?_)) <;> first | (exfalso; first | omega | exact h (by assumption) | exact absurd h (by assumption)) | (conv => whnf))
    | (refine Both.mk ?_ ?_ <;> (conv => whnf))
    | (refine Keep.mk (by repeat' first | exact trivial | rfl | refine And.intro ?_ ?_) ?_; conv => whnf)
    | (refine And.intro (by first | decide | omega) ?_; conv => whnf)
    | fail
  first | refine CallP.is (eqTxResult_yes 0 u t _ hf) rfl ?_ | refine CallQ.is (eqTxResult_yes 0 u t _ hf) rfl rfl ?_
  conv => whnf
  repeat' first
    | (refine CondP.yes ?_; conv => whnf)
    | (refine CondP.not ?_; conv => whnf)
    | ((first | refine CondP.dec (fun h => ?_) (fun h => ?_) | refine CondP.ndec (fun h => ?_) (fun h => ?_)) <;> first | (exfalso; first | omega | exact h (by assumption) | exact absurd h (by assumption)) | (conv => whnf))
    | (refine Both.mk ?_ ?_ <;> (conv => whnf))
    | (refine Keep.mk (by repeat' first | exact trivial | rfl | refine And.intro ?_ ?_) ?_; conv => whnf)
    | (refine And.intro (by first | decide | omega) ?_; conv => whnf)
    | fail
  refine CallP.convAIs (heldTxResult_rd 0 t.1 u t.2.1 t.2.2 1 _ hz (by decide)) ⟨cvTxM rfl rfl (mkIns_len _ _).symm (mkOuts_len _ _).symm, cvSame rfl, trivial⟩ rfl trivial ?_
  conv => whnf
  repeat' first
    | (refine CondP.yes ?_; conv => whnf)
    | (refine CondP.not ?_; conv => whnf)
    | ((first | refine CondP.dec (fun h => ?_) (fun h => ?_) | refine CondP.ndec (fun h => ?_) (fun h => ?_)) <;> first | (exfalso; first | omega | exact h (by assumption) | exact absurd h (by assumption)) | (conv => whnf))
    | (refine Both.mk ?_ ?_ <;> (conv => whnf))
    | (refine Keep.mk (by repeat' first | exact trivial | rfl | refine And.intro ?_ ?_) ?_; conv => whnf)
    | (refine And.intro (by first | decide | omega) ?_; conv => whnf)
    | fail
  exact FinOk.pure rfl rfl rfl rfl
theorem lawReadTx_no (d : List Int) (n : Nat) (hd : ∀ z ∈ d, isU8 z) (hl : d.length ≤ 1048576) (h0 : readF d = none) : Ret Try.prog 4 [ul d] [] n true (fun r _ _ => r = bv true) := by
  have hL : (uvs d).length = d.length := by simp
  have hs := fun n => specReadTx_ret d n hd hl
  have ho := fun n => implReadTx_no d n hd hl h0
  unfold readR at hs
  rw [h0] at hs
  dsimp only at hs
  have hf : Fits (0, [], []) := fits_of (by decide)
  have hz : sizeX (0, [], []) ≤ 1048576 := by decide
  refine Ret.fn ttOk Try.func4 rfl Try.call4 rfl rfl ?_
  conv => whnf
  repeat' first
    | (refine CondP.yes ?_; conv => whnf)
    | (refine CondP.not ?_; conv => whnf)
    | ((first | refine CondP.dec (fun h => ?_) (fun h => ?_) | refine CondP.ndec (fun h => ?_) (fun h => ?_)) <;> first | (exfalso; first | omega | exact h (by assumption) | exact absurd h (by assumption)) | (conv => whnf))
    | (refine Both.mk ?_ ?_ <;> (conv => whnf))
    | (refine Keep.mk (by repeat' first | exact trivial | rfl | refine And.intro ?_ ?_) ?_; conv => whnf)
    | (refine And.intro (by first | decide | omega) ?_; conv => whnf)
    | fail
  first | refine CallP.is (toByteS_fr d _ hl) rfl ?_ | refine CallQ.is (toByteS_fr d _ hl) rfl rfl ?_
  conv => whnf
  repeat' first
    | (refine CondP.yes ?_; conv => whnf)
    | (refine CondP.not ?_; conv => whnf)
    | ((first | refine CondP.dec (fun h => ?_) (fun h => ?_) | refine CondP.ndec (fun h => ?_) (fun h => ?_)) <;> first | (exfalso; first | omega | exact h (by assumption) | exact absurd h (by assumption)) | (conv => whnf))
    | (refine Both.mk ?_ ?_ <;> (conv => whnf))
    | (refine Keep.mk (by repeat' first | exact trivial | rfl | refine And.intro ?_ ?_) ?_; conv => whnf)
    | (refine And.intro (by first | decide | omega) ?_; conv => whnf)
    | fail
  first | refine CallP.is (hs _) rfl ?_ | refine CallQ.is (hs _) rfl rfl ?_
  conv => whnf
  repeat' first
    | (refine CondP.yes ?_; conv => whnf)
    | (refine CondP.not ?_; conv => whnf)
    | ((first | refine CondP.dec (fun h => ?_) (fun h => ?_) | refine CondP.ndec (fun h => ?_) (fun h => ?_)) <;> first | (exfalso; first | omega | exact h (by assumption) | exact absurd h (by assumption)) | (conv => whnf))
    | (refine Both.mk ?_ ?_ <;> (conv => whnf))
    | (refine Keep.mk (by repeat' first | exact trivial | rfl | refine And.intro ?_ ?_) ?_; conv => whnf)
    | (refine And.intro (by first | decide | omega) ?_; conv => whnf)
    | fail
  first | refine CallP.is (toByteS_ret d _ hl) rfl ?_ | refine CallQ.is (toByteS_ret d _ hl) rfl rfl ?_
  conv => whnf
  repeat' first
    | (refine CondP.yes ?_; conv => whnf)
    | (refine CondP.not ?_; conv => whnf)
    | ((first | refine CondP.dec (fun h => ?_) (fun h => ?_) | refine CondP.ndec (fun h => ?_) (fun h => ?_)) <;> first | (exfalso; first | omega | exact h (by assumption) | exact absurd h (by assumption)) | (conv => whnf))
    | (refine Both.mk ?_ ?_ <;> (conv => whnf))
    | (refine Keep.mk (by repeat' first | exact trivial | rfl | refine And.intro ?_ ?_) ?_; conv => whnf)
    | (refine And.intro (by first | decide | omega) ?_; conv => whnf)
    | fail
  refine CallP.convAIs (ho _) ⟨cvOwn rfl (by simp), trivial⟩ rfl trivial ?_
  conv => whnf
  repeat' first
    | (refine CondP.yes ?_; conv => whnf)
    | (refine CondP.not ?_; conv => whnf)
    | ((first | refine CondP.dec (fun h => ?_) (fun h => ?_) | refine CondP.ndec (fun h => ?_) (fun h => ?_)) <;> first | (exfalso; first | omega | exact h (by assumption) | exact absurd h (by assumption)) | (conv => whnf))
    | (refine Both.mk ?_ ?_ <;> (conv => whnf))
    | (refine Keep.mk (by repeat' first | exact trivial | rfl | refine And.intro ?_ ?_) ?_; conv => whnf)
    | (refine And.intro (by first | decide | omega) ?_; conv => whnf)
    | fail
  refine CallP.convAIs (eqTxResult_yes 5 0 (0, [], []) _ hf) ⟨cvAgg ⟨cvcSame rfl, cvcSame rfl, cvcNil, cvcNil, cvcSame rfl, trivial⟩, cvAgg ⟨cvcSame rfl, cvcSame rfl, cvcNil, cvcNil, cvcSame rfl, trivial⟩, trivial⟩ rfl trivial ?_
  conv => whnf
  repeat' first
    | (refine CondP.yes ?_; conv => whnf)
    | (refine CondP.not ?_; conv => whnf)
    | ((first | refine CondP.dec (fun h => ?_) (fun h => ?_) | refine CondP.ndec (fun h => ?_) (fun h => ?_)) <;> first | (exfalso; first | omega | exact h (by assumption) | exact absurd h (by assumption)) | (conv => whnf))
    | (refine Both.mk ?_ ?_ <;> (conv => whnf))
    | (refine Keep.mk (by repeat' first | exact trivial | rfl | refine And.intro ?_ ?_) ?_; conv => whnf)
    | (refine And.intro (by first | decide | omega) ?_; conv => whnf)
    | fail
  first | refine CallP.is (toByteS_fr d _ hl) rfl ?_ | refine CallQ.is (toByteS_fr d _ hl) rfl rfl ?_
  conv => whnf
  repeat' first
    | (refine CondP.yes ?_; conv => whnf)
    | (refine CondP.not ?_; conv => whnf)
    | ((first | refine CondP.dec (fun h => ?_) (fun h => ?_) | refine CondP.ndec (fun h => ?_) (fun h => ?_)) <;> first | (exfalso; first | omega | exact h (by assumption) | exact absurd h (by assumption)) | (conv => whnf))
    | (refine Both.mk ?_ ?_ <;> (conv => whnf))
    | (refine Keep.mk (by repeat' first | exact trivial | rfl | refine And.intro ?_ ?_) ?_; conv => whnf)
    | (refine And.intro (by first | decide | omega) ?_; conv => whnf)
    | fail
  refine CallP.convAIs (eqByteS_yes d _ hl) (by repeat' first | exact trivial | exact cvSame rfl | exact cvNil | exact cvOwn rfl (by (first | rfl | (simp only [List.length_map]; done) | (simp only [List.length_map]; first | rfl | assumption | omega))) | exact cvcSame rfl | exact cvcNil | exact cvcOwn rfl (by (first | rfl | (simp only [List.length_map]; done) | (simp only [List.length_map]; first | rfl | assumption | omega))) | refine cvBox rfl ?_ rfl | refine cvAgg ?_ | refine And.intro ?_ ?_) rfl (by first | exact trivial | exact ⟨flat_ivs _, trivial⟩) ?_
  conv => whnf
  repeat' first
    | (refine CondP.yes ?_; conv => whnf)
    | (refine CondP.not ?_; conv => whnf)
    | ((first | refine CondP.dec (fun h => ?_) (fun h => ?_) | refine CondP.ndec (fun h => ?_) (fun h => ?_)) <;> first | (exfalso; first | omega | exact h (by assumption) | exact absurd h (by assumption)) | (conv => whnf))
    | (refine Both.mk ?_ ?_ <;> (conv => whnf))
    | (refine Keep.mk (by repeat' first | exact trivial | rfl | refine And.intro ?_ ?_) ?_; conv => whnf)
    | (refine And.intro (by first | decide | omega) ?_; conv => whnf)
    | fail
  refine CallP.heapIs (markByteS_ret d 1 1 _ hl (Nat.le_of_ble_eq_true rfl)) rfl (by repeat' first | exact trivial | rfl | exact leafI (by first | rfl | omega | (simp (disch := omega) only [Int.reduceToNat, IntKind.bits, Nat.min_eq_left, Int.reducePow, IntWalk.i64_in, IntWalk.rem_in, IntWalk.i64_quo, IntWalk.u8_in, IntWalk.u32_in, IntWalk.u64_in]; done) | (simp (disch := omega) only [Int.reduceToNat, IntKind.bits, Nat.min_eq_left, Int.reducePow, IntWalk.i64_in, IntWalk.rem_in, IntWalk.i64_quo, IntWalk.u8_in, IntWalk.u32_in, IntWalk.u64_in]; omega)) | refine And.intro ?_ ?_) rfl ?_
  conv => whnf
  repeat' first
    | (refine CondP.yes ?_; conv => whnf)
    | (refine CondP.not ?_; conv => whnf)
    | ((first | refine CondP.dec (fun h => ?_) (fun h => ?_) | refine CondP.ndec (fun h => ?_) (fun h => ?_)) <;> first | (exfalso; first | omega | exact h (by assumption) | exact absurd h (by assumption)) | (conv => whnf))
    | (refine Both.mk ?_ ?_ <;> (conv => whnf))
    | (refine Keep.mk (by repeat' first | exact trivial | rfl | refine And.intro ?_ ?_) ?_; conv => whnf)
    | (refine And.intro (by first | decide | omega) ?_; conv => whnf)
    | fail
  refine CallP.convAIs (eqTxResult_yes 5 0 (0, [], []) _ hf) ⟨cvAgg ⟨cvcSame rfl, cvcSame rfl, cvcNil, cvcNil, cvcSame rfl, trivial⟩, cvAgg ⟨cvcSame rfl, cvcSame rfl, cvcNil, cvcNil, cvcSame rfl, trivial⟩, trivial⟩ rfl trivial ?_
  conv => whnf
  repeat' first
    | (refine CondP.yes ?_; conv => whnf)
    | (refine CondP.not ?_; conv => whnf)
    | ((first | refine CondP.dec (fun h => ?_) (fun h => ?_) | refine CondP.ndec (fun h => ?_) (fun h => ?_)) <;> first | (exfalso; first | omega | exact h (by assumption) | exact absurd h (by assumption)) | (conv => whnf))
    | (refine Both.mk ?_ ?_ <;> (conv => whnf))
    | (refine Keep.mk (by repeat' first | exact trivial | rfl | refine And.intro ?_ ?_) ?_; conv => whnf)
    | (refine And.intro (by first | decide | omega) ?_; conv => whnf)
    | fail
  first | refine CallP.is (markTxResult_nil 5 0 0 1 _) rfl ?_ | refine CallQ.is (markTxResult_nil 5 0 0 1 _) rfl rfl ?_
  conv => whnf
  repeat' first
    | (refine CondP.yes ?_; conv => whnf)
    | (refine CondP.not ?_; conv => whnf)
    | ((first | refine CondP.dec (fun h => ?_) (fun h => ?_) | refine CondP.ndec (fun h => ?_) (fun h => ?_)) <;> first | (exfalso; first | omega | exact h (by assumption) | exact absurd h (by assumption)) | (conv => whnf))
    | (refine Both.mk ?_ ?_ <;> (conv => whnf))
    | (refine Keep.mk (by repeat' first | exact trivial | rfl | refine And.intro ?_ ?_) ?_; conv => whnf)
    | (refine And.intro (by first | decide | omega) ?_; conv => whnf)
    | fail
  refine CallP.convAIs (heldTxResult_rd 5 0 0 [] [] 1 _ hz (by decide)) ⟨cvAgg ⟨cvcSame rfl, cvcSame rfl, cvcNil, cvcNil, cvcSame rfl, trivial⟩, cvSame rfl, trivial⟩ rfl trivial ?_
  conv => whnf
  repeat' first
    | (refine CondP.yes ?_; conv => whnf)
    | (refine CondP.not ?_; conv => whnf)
    | ((first | refine CondP.dec (fun h => ?_) (fun h => ?_) | refine CondP.ndec (fun h => ?_) (fun h => ?_)) <;> first | (exfalso; first | omega | exact h (by assumption) | exact absurd h (by assumption)) | (conv => whnf))
    | (refine Both.mk ?_ ?_ <;> (conv => whnf))
    | (refine Keep.mk (by repeat' first | exact trivial | rfl | refine And.intro ?_ ?_) ?_; conv => whnf)
    | (refine And.intro (by first | decide | omega) ?_; conv => whnf)
    | fail
  first | refine CallP.is (toByteS_fr d _ hl) rfl ?_ | refine CallQ.is (toByteS_fr d _ hl) rfl rfl ?_
  conv => whnf
  repeat' first
    | (refine CondP.yes ?_; conv => whnf)
    | (refine CondP.not ?_; conv => whnf)
    | ((first | refine CondP.dec (fun h => ?_) (fun h => ?_) | refine CondP.ndec (fun h => ?_) (fun h => ?_)) <;> first | (exfalso; first | omega | exact h (by assumption) | exact absurd h (by assumption)) | (conv => whnf))
    | (refine Both.mk ?_ ?_ <;> (conv => whnf))
    | (refine Keep.mk (by repeat' first | exact trivial | rfl | refine And.intro ?_ ?_) ?_; conv => whnf)
    | (refine And.intro (by first | decide | omega) ?_; conv => whnf)
    | fail
  first | refine CallP.is (ho _) rfl ?_ | refine CallQ.is (ho _) rfl rfl ?_
  conv => whnf
  repeat' first
    | (refine CondP.yes ?_; conv => whnf)
    | (refine CondP.not ?_; conv => whnf)
    | ((first | refine CondP.dec (fun h => ?_) (fun h => ?_) | refine CondP.ndec (fun h => ?_) (fun h => ?_)) <;> first | (exfalso; first | omega | exact h (by assumption) | exact absurd h (by assumption)) | (conv => whnf))
    | (refine Both.mk ?_ ?_ <;> (conv => whnf))
    | (refine Keep.mk (by repeat' first | exact trivial | rfl | refine And.intro ?_ ?_) ?_; conv => whnf)
    | (refine And.intro (by first | decide | omega) ?_; conv => whnf)
    | fail
  refine CallP.convAIs (eqTxResult_yes 5 0 (0, [], []) _ hf) ⟨cvAgg ⟨cvcSame rfl, cvcSame rfl, cvcNil, cvcNil, cvcSame rfl, trivial⟩, cvAgg ⟨cvcSame rfl, cvcSame rfl, cvcNil, cvcNil, cvcSame rfl, trivial⟩, trivial⟩ rfl trivial ?_
  conv => whnf
  repeat' first
    | (refine CondP.yes ?_; conv => whnf)
    | (refine CondP.not ?_; conv => whnf)
    | ((first | refine CondP.dec (fun h => ?_) (fun h => ?_) | refine CondP.ndec (fun h => ?_) (fun h => ?_)) <;> first | (exfalso; first | omega | exact h (by assumption) | exact absurd h (by assumption)) | (conv => whnf))
    | (refine Both.mk ?_ ?_ <;> (conv => whnf))
    | (refine Keep.mk (by repeat' first | exact trivial | rfl | refine And.intro ?_ ?_) ?_; conv => whnf)
    | (refine And.intro (by first | decide | omega) ?_; conv => whnf)
    | fail
  refine CallP.convAIs (heldTxResult_rd 5 0 0 [] [] 1 _ hz (by decide)) ⟨cvAgg ⟨cvcSame rfl, cvcSame rfl, cvcNil, cvcNil, cvcSame rfl, trivial⟩, cvSame rfl, trivial⟩ rfl trivial ?_
  conv => whnf
  repeat' first
    | (refine CondP.yes ?_; conv => whnf)
    | (refine CondP.not ?_; conv => whnf)
    | ((first | refine CondP.dec (fun h => ?_) (fun h => ?_) | refine CondP.ndec (fun h => ?_) (fun h => ?_)) <;> first | (exfalso; first | omega | exact h (by assumption) | exact absurd h (by assumption)) | (conv => whnf))
    | (refine Both.mk ?_ ?_ <;> (conv => whnf))
    | (refine Keep.mk (by repeat' first | exact trivial | rfl | refine And.intro ?_ ?_) ?_; conv => whnf)
    | (refine And.intro (by first | decide | omega) ?_; conv => whnf)
    | fail
  exact FinOk.pure rfl rfl rfl rfl
theorem lawReadTx (d : List Int) (n : Nat) (hd : ∀ z ∈ d, isU8 z) : Ret Try.prog 4 [ul d] [] n true (fun r _ _ => r = bv true) := by
  by_cases hl : d.length ≤ 1048576
  · cases h0 : readF d with
    | none => exact lawReadTx_no d n hd hl h0
    | some x => exact lawReadTx_yes d x.1 x.2 n hd hl h0
  · have hL : (uvs d).length = d.length := by simp
    refine Ret.fn ttOk Try.func4 rfl Try.call4 rfl rfl ?_
    conv => whnf
    repeat' first
      | (refine CondP.yes ?_; conv => whnf)
      | (refine CondP.not ?_; conv => whnf)
      | ((first | refine CondP.dec (fun h => ?_) (fun h => ?_) | refine CondP.ndec (fun h => ?_) (fun h => ?_)) <;> first | (exfalso; first | omega | exact h (by assumption) | exact absurd h (by assumption)) | (conv => whnf))
      | (refine Both.mk ?_ ?_ <;> (conv => whnf))
      | (refine Keep.mk (by repeat' first | exact trivial | rfl | refine And.intro ?_ ?_) ?_; conv => whnf)
      | (refine And.intro (by first | decide | omega) ?_; conv => whnf)
      | fail
    exact FinOk.pure rfl rfl rfl rfl
end Go.Proofs.Ytdafmioegaelgaa
