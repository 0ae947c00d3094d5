/-
  CONTRACTS OF CHAPTER 1, integers alone: targets, bits and work.
-/
import Derived.Test.YtechmmppdciidaaRows
import Derived.Test.YtechmmppdciidaaPlainA
import Derived.WalkKit
import Derived.ProofKit
import Derived.Lib.Hide
import Derived.BigQuiet
import Derived.Deep.QuietTactic
namespace Go.Proofs.Ytechmmppdciidaa
open Go.ChangeShapes Go.WideShapes Go.ChangeAt Go.RowKit

set_option linter.unusedSimpArgs false
set_option linter.unusedVariables false

theorem ret_int {k : IntKind} {a b : Int} (h : a = b) : Ending.returned (.int k a) = .returned (.int k b) := by rw [h]
theorem ret_bool {a b : Bool} (h : a = b) : Ending.returned (.bool a) = .returned (.bool b) := by rw [h]
theorem ret_ir {a b c d : Int} (h : a = c) (h' : b = d) : Ending.returned (.agg #[.int .i64 a, .int .i64 b]) = .returned (.agg #[.int .i64 c, .int .i64 d]) := by rw [h, h']
/-- An IntResult. -/
abbrev ir (a b : Int) : Value := .agg #[.int .i64 a, .int .i64 b]
theorem i64_wf {v : Int} (h : (Lit.int .i64 v).wf = true) : -9223372036854775808 ≤ v ∧ v ≤ 9223372036854775807 := by
  simpa [Lit.wf, IntKind.min, IntKind.max, IntKind.signed, IntKind.bits] using h

/-- Behind a callee that made memory: old cells and marks read as before; more blocks. -/
theorem bcell {W w1 : World} (hb : Below W.heap.size W w1) : (∀ b o, b < W.heap.size → w1.cell? ⟨b, o, none⟩ = W.cell? ⟨b, o, none⟩) ∧ (∀ b o, b < W.heap.size → w1.frozen? ⟨b, o, none⟩ = W.frozen? ⟨b, o, none⟩) ∧ W.heap.size ≤ w1.heap.size :=
  ⟨fun b o h => hb.cell (p := ⟨b, o, none⟩) h, fun b o h => hb.frozen (p := ⟨b, o, none⟩) h, hb.size⟩

theorem Below_drewN {B : Nat} {a w : World} (h : Below B a w) (n : Nat) : Below B a (w.drewN n) := ⟨h.os, h.tape, h.output, h.size, h.block⟩

theorem l1In_yes (v a b : Int) (w : World) (h : a ≤ v) (h' : v ≤ b) :
    Calls Try.prog 44 #[.int .i64 v, .int .i64 a, .int .i64 b] w fun e w' => e = .returned (.bool true) ∧ w = w' := by
  go_enter Try.func44, Try.ntmps44
  go_wp2
  go_ret
  exact ⟨rfl, rfl⟩
theorem l1In_no (v a b : Int) (w : World) (h : v < a ∨ b < v) :
    Calls Try.prog 44 #[.int .i64 v, .int .i64 a, .int .i64 b] w fun e w' => e = .returned (.bool false) ∧ w = w' := by
  by_cases h1 : a ≤ v
  · have h2 : ¬ v ≤ b := by omega
    clear h
    go_enter Try.func44, Try.ntmps44
    go_wp2
    go_ret
    exact ⟨rfl, rfl⟩
  · clear h
    go_enter Try.func44, Try.ntmps44
    go_wp2
    go_ret
    exact ⟨rfl, rfl⟩

theorem isSum_yes (v : Int) (w : World) (h : 0 ≤ v) (h' : v ≤ 2147483646) : Calls Try.prog 43 #[.int .i64 v] w fun e w' => e = .returned (.bool true) ∧ w = w' := by
  go_enter Try.func43, Try.ntmps43
  go_wp2
  go_ret
  exact ⟨rfl, rfl⟩
theorem isSum_no (v : Int) (w : World) (h : v < 0 ∨ 2147483646 < v) : Calls Try.prog 43 #[.int .i64 v] w fun e w' => e = .returned (.bool false) ∧ w = w' := by
  by_cases h1 : 0 ≤ v
  · have h2 : ¬ v ≤ 2147483646 := by omega
    clear h
    go_enter Try.func43, Try.ntmps43
    go_wp2
    go_ret
    exact ⟨rfl, rfl⟩
  · clear h
    go_enter Try.func43, Try.ntmps43
    go_wp2
    go_ret
    exact ⟨rfl, rfl⟩

theorem l1Bits_any (v : Int) (w : World) (h0 : -9223372036854775808 ≤ v) (h1 : v ≤ 9223372036854775807) :
    Calls Try.prog 45 #[.int .i64 v] w fun e w' => e = .returned (.bool (Pl.okB v)) ∧ w = w' := by
  by_cases a : 1 ≤ v
  · by_cases b : v ≤ 1023
    · go_enter Try.func45, Try.ntmps45
      go_wp2
      go_ret
      exact ⟨ret_bool (by simp [Pl.okB, a, b]), rfl⟩
    · have g : Pl.okB v = false := by rw [Pl.okB_false]; unfold Pl.okP; omega
      have G := Lib.hid g; clear g
      go_enter Try.func45, Try.ntmps45
      go_wp2
      go_ret
      exact ⟨ret_bool G.out.symm, rfl⟩
  · have g : Pl.okB v = false := by rw [Pl.okB_false]; unfold Pl.okP; omega
    have G := Lib.hid g; clear g
    go_enter Try.func45, Try.ntmps45
    go_wp2
    all_goals first
      | (exfalso; omega)
      | (go_ret; exact ⟨ret_bool G.out.symm, rfl⟩)

theorem l1Target_any (v : Int) (w : World) (h0 : 0 ≤ v) (h1 : v ≤ 1023) :
    Calls Try.prog 46 #[.int .i64 v] w fun e w' => e = .returned (.int .i64 (Pl.tg v)) ∧ w = w' := by
  have e := Lib.hid (Pl.tg_wrapB v h0 h1)
  go_enter Try.func46, Try.ntmps46
  go_wp2
  go_ret
  exact ⟨ret_int e.out, rfl⟩

theorem implTargetOf_any (v : Int) (w : World) (h0 : -9223372036854775808 ≤ v) (h1 : v ≤ 9223372036854775807) :
    Calls Try.prog 14 #[.int .i64 v] w fun e w' => e = .returned (ir (Pl.targetC v) (Pl.targetV v)) ∧ Below w.heap.size w w' := by
  by_cases a : v < 0
  · have g : Pl.okB v = false := by rw [Pl.okB_false]; unfold Pl.okP; omega
    have G := Lib.hid g; clear g
    go_enter Try.func14, Try.ntmps14
    go_wp2
    exact bodyPost_ret (v := ir 3 0) (by simp [results, Try.results14, go_sem]) rfl ⟨ret_ir (by simp [Pl.targetC, G.out]) (by simp [Pl.targetV, G.out]), (Below.refl _ _).alloc (Nat.le_refl _) _⟩
  by_cases b : v ≤ 1023
  · by_cases c : v % 256 = 0
    · have g : Pl.okB v = false := by rw [Pl.okB_false]; unfold Pl.okP; omega
      have G := Lib.hid g; clear g
      have c' : (v % 256 == 0) = true := by simp [c]
      have d : 0 ≤ v := by omega
      have d' : v / 256 ≤ 3 := by omega
      clear c
      go_enter Try.func14, Try.ntmps14
      go_wp2
      exact bodyPost_ret (v := ir 3 0) (by simp [results, Try.results14, go_sem]) rfl ⟨ret_ir (by simp [Pl.targetC, G.out]) (by simp [Pl.targetV, G.out]), (Below.refl _ _).alloc (Nat.le_refl _) _⟩
    · have g : Pl.okB v = true := by rw [Pl.okB_true]; unfold Pl.okP; omega
      have G := Lib.hid g; clear g
      have c' : (v % 256 == 0) = false := by simp [c]
      have d : 0 ≤ v := by omega
      have d' : v / 256 ≤ 3 := by omega
      have e := Lib.hid (Pl.tg_wrapA v d b)
      clear c
      go_enter Try.func14, Try.ntmps14
      go_wp2
      exact bodyPost_ret (v := ir 0 (Pl.tg v)) (by simp [results, Try.results14, go_sem, e.out]) rfl ⟨ret_ir (by simp [Pl.targetC, G.out]) (by simp [Pl.targetV, G.out]), (Below.refl _ _).alloc (Nat.le_refl _) _⟩
  · have g : Pl.okB v = false := by rw [Pl.okB_false]; unfold Pl.okP; omega
    have G := Lib.hid g; clear g
    have d : 0 ≤ v := by omega
    have d' : 3 < v / 256 := by omega
    go_enter Try.func14, Try.ntmps14
    go_wp2
    exact bodyPost_ret (v := ir 3 0) (by simp [results, Try.results14, go_sem]) rfl ⟨ret_ir (by simp [Pl.targetC, G.out]) (by simp [Pl.targetV, G.out]), (Below.refl _ _).alloc (Nat.le_refl _) _⟩

theorem l1Bits_yes (v : Int) (w : World) (h : Pl.okP v) : Calls Try.prog 45 #[.int .i64 v] w fun e w' => e = .returned (.bool true) ∧ w = w' := by
  have k := l1Bits_any v w (by unfold Pl.okP at h; omega) (by unfold Pl.okP at h; omega)
  rw [Pl.okB_true.2 h] at k; exact k
theorem l1Bits_no (v : Int) (w : World) (h : ¬ Pl.okP v) (h0 : -9223372036854775808 ≤ v) (h1 : v ≤ 9223372036854775807) : Calls Try.prog 45 #[.int .i64 v] w fun e w' => e = .returned (.bool false) ∧ w = w' := by
  have k := l1Bits_any v w h0 h1
  rw [Pl.okB_false.2 h] at k; exact k

theorem specTargetOf_any (v : Int) (w : World) (h0 : -9223372036854775808 ≤ v) (h1 : v ≤ 9223372036854775807) :
    Calls Try.prog 19 #[.int .i64 v] w fun e w' => e = .returned (ir (Pl.targetC v) (Pl.targetV v)) ∧ Below w.heap.size w w' := by
  by_cases h : Pl.okP v
  · have G := Lib.hid (Pl.okB_true.2 h)
    have H := Lib.hid h
    clear h
    go_enter Try.func19, Try.ntmps19
    go_wp2_with (first | (go_at_call 45; refine (l1Bits_yes _ _ H.out).mono ?_; rintro e w' ⟨rfl, rfl⟩) | (go_at_call 46; refine (l1Target_any _ _ (by have := H.out; unfold Pl.okP at this; omega) (by have := H.out; unfold Pl.okP at this; omega)).mono ?_; rintro e w' ⟨rfl, rfl⟩))
    exact bodyPost_ret (v := ir 0 (Pl.tg v)) (by simp [results, Try.results19, go_sem]) rfl ⟨ret_ir (by simp [Pl.targetC, G.out]) (by simp [Pl.targetV, G.out]), (Below.refl _ _).alloc (Nat.le_refl _) _⟩
  · have G := Lib.hid (Pl.okB_false.2 h)
    have H := Lib.hid h
    clear h
    go_enter Try.func19, Try.ntmps19
    go_wp2_with ((go_at_call 45; refine (l1Bits_no _ _ H.out (by omega) (by omega)).mono ?_; rintro e w' ⟨rfl, rfl⟩))
    exact bodyPost_ret (v := ir 3 0) (by simp [results, Try.results19, go_sem]) rfl ⟨ret_ir (by simp [Pl.targetC, G.out]) (by simp [Pl.targetV, G.out]), (Below.refl _ _).alloc (Nat.le_refl _) _⟩

theorem eqIntResult_yes (a b : Int) (w : World) :
    Calls Try.prog 34 #[ir a b, ir a b] w fun e w' => e = .returned (.bool true) ∧ Below w.heap.size w w' := by
  go_enter Try.func34, Try.ntmps34
  go_wp2
  all_goals first
    | (exfalso; simp at *; done)
    | (go_ret; exact ⟨rfl, ((Below.refl _ _).alloc (Nat.le_refl _) _).alloc (by simp) _⟩)
    | go_outline

theorem implWorkOf_any (v : Int) (w : World) (h0 : -9223372036854775808 ≤ v) (h1 : v ≤ 9223372036854775807) :
    Calls Try.prog 15 #[.int .i64 v] w fun e w' => e = .returned (ir (Pl.targetC v) (Pl.workV v)) ∧ Below w.heap.size w w' := by
  by_cases h : Pl.okP v
  · have G := Lib.hid (Pl.okB_true.2 h)
    have b := Pl.tg_bd v (by unfold Pl.okP at h; omega) (by unfold Pl.okP at h; omega)
    have T1 : Pl.targetC v = 0 := by simp [Pl.targetC, G.out]
    have T2 : Pl.targetV v = Pl.tg v := by simp [Pl.targetV, G.out]
    have c : ∀ w, Calls Try.prog 14 #[.int .i64 v] w fun e w' => e = .returned (ir 0 (Pl.tg v)) ∧ Below w.heap.size w w' := fun w => by have := implTargetOf_any v w h0 h1; rw [T1, T2] at this; exact this
    have C := Lib.hid c
    have E : Hid (Pl.workV v = max 1 (2147483647 / (Pl.tg v + 1))) := by unfold Hid; simp [Pl.workV, G.out]
    have E1 := Lib.hid T1
    clear h T1 T2 c
    go_enter Try.func15, Try.ntmps15
    go_wp2_with ((go_at_call 14; refine (C.out _).mono ?_; rintro e w1 ⟨rfl, hb⟩; obtain ⟨hc_hb, hf_hb, hz_hb⟩ := bcell hb; (try simp only [World.size_alloc, World.size_setCell, World.size_drew] at hz_hb); have hz' : w.heap.size < w1.heap.size := by omega))
    · exact bodyPost_ret (v := ir 0 (2147483647 / (Pl.tg v + 1))) (by simp [results, Try.results15, go_sem, hc_hb, hz']) rfl ⟨ret_ir E1.out.symm (by rw [E.out]; omega), (by repeat (first | exact Below.refl _ _ | assumption | refine Below.drew ?_ | refine Below_drewN ?_ _ | refine Below.alloc ?_ (by first | omega | (simp; done) | (simp; omega)) _ | refine Below.setCell ?_ (by first | omega | (simp; done) | (simp; omega)) _ | (refine Below.trans ?_ (Below.mono (by assumption) (by first | omega | (simp; done) | (simp; omega))))))⟩
    · exact bodyPost_ret (v := ir 0 1) (by simp [results, Try.results15, go_sem, hc_hb, hz']) rfl ⟨ret_ir E1.out.symm (by rw [E.out]; omega), (by repeat (first | exact Below.refl _ _ | assumption | refine Below.drew ?_ | refine Below_drewN ?_ _ | refine Below.alloc ?_ (by first | omega | (simp; done) | (simp; omega)) _ | refine Below.setCell ?_ (by first | omega | (simp; done) | (simp; omega)) _ | (refine Below.trans ?_ (Below.mono (by assumption) (by first | omega | (simp; done) | (simp; omega))))))⟩
  · have G := Lib.hid (Pl.okB_false.2 h)
    have T1 : Pl.targetC v = 3 := by simp [Pl.targetC, G.out]
    have T2 : Pl.targetV v = 0 := by simp [Pl.targetV, G.out]
    have c : ∀ w, Calls Try.prog 14 #[.int .i64 v] w fun e w' => e = .returned (ir 3 0) ∧ Below w.heap.size w w' := fun w => by have := implTargetOf_any v w h0 h1; rw [T1, T2] at this; exact this
    have C := Lib.hid c
    have E : Hid (Pl.workV v = 0) := by unfold Hid; simp [Pl.workV, G.out]
    have E1 := Lib.hid T1
    clear h T1 T2 c
    go_enter Try.func15, Try.ntmps15
    go_wp2_with ((go_at_call 14; refine (C.out _).mono ?_; rintro e w1 ⟨rfl, hb⟩; obtain ⟨hc_hb, hf_hb, hz_hb⟩ := bcell hb; (try simp only [World.size_alloc, World.size_setCell, World.size_drew] at hz_hb); have hz' : w.heap.size < w1.heap.size := by omega))
    exact bodyPost_ret (v := ir 3 0) (by simp [results, Try.results15, go_sem, hc_hb, hz']) rfl ⟨ret_ir E1.out.symm E.out.symm, (by repeat (first | exact Below.refl _ _ | assumption | refine Below.drew ?_ | refine Below_drewN ?_ _ | refine Below.alloc ?_ (by first | omega | (simp; done) | (simp; omega)) _ | refine Below.setCell ?_ (by first | omega | (simp; done) | (simp; omega)) _ | (refine Below.trans ?_ (Below.mono (by assumption) (by first | omega | (simp; done) | (simp; omega))))))⟩

theorem l1Max_any (a b : Int) (w : World) : Calls Try.prog 58 #[.int .i64 a, .int .i64 b] w fun e w' => e = .returned (.int .i64 (max a b)) ∧ w = w' := by
  by_cases h : b < a
  · go_enter Try.func58, Try.ntmps58
    go_wp2
    go_ret
    exact ⟨ret_int (by omega), rfl⟩
  · go_enter Try.func58, Try.ntmps58
    go_wp2
    go_ret
    exact ⟨ret_int (by omega), rfl⟩

theorem l1Work_any (v : Int) (w : World) (h : Pl.okP v) : Calls Try.prog 56 #[.int .i64 v] w fun e w' => e = .returned (.int .i64 (Pl.workV v)) ∧ w = w' := by
  have G := Lib.hid (Pl.okB_true.2 h)
  have h0 : 0 ≤ v := by unfold Pl.okP at h; omega
  have h1 : v ≤ 1023 := by unfold Pl.okP at h; omega
  have b := Pl.tg_bd v h0 h1
  have E : Hid (Pl.workV v = max 1 (2147483647 / (Pl.tg v + 1))) := by unfold Hid; simp [Pl.workV, G.out]
  clear h
  go_enter Try.func56, Try.ntmps56
  go_wp2_with (first | (go_at_call 46; refine (l1Target_any _ _ (by omega) (by omega)).mono ?_; rintro e w' ⟨rfl, rfl⟩) | (go_at_call 58; refine (l1Max_any _ _ _).mono ?_; rintro e w' ⟨rfl, rfl⟩))
  go_ret
  exact ⟨ret_int E.out.symm, rfl⟩

theorem specWorkOf_any (v : Int) (w : World) (h0 : -9223372036854775808 ≤ v) (h1 : v ≤ 9223372036854775807) :
    Calls Try.prog 38 #[.int .i64 v] w fun e w' => e = .returned (ir (Pl.targetC v) (Pl.workV v)) ∧ Below w.heap.size w w' := by
  by_cases h : Pl.okP v
  · have G := Lib.hid (Pl.okB_true.2 h)
    have H := Lib.hid h
    have b := Pl.tg_bd v (by unfold Pl.okP at h; omega) (by unfold Pl.okP at h; omega)
    have E : Hid (Pl.workV v = max 1 (2147483647 / (Pl.tg v + 1))) := by unfold Hid; simp [Pl.workV, G.out]
    clear h
    go_enter Try.func38, Try.ntmps38
    go_wp2_with (first | (go_at_call 45; refine (l1Bits_yes _ _ H.out).mono ?_; rintro e w' ⟨rfl, rfl⟩) | (go_at_call 56; refine (l1Work_any _ _ H.out).mono ?_; rintro e w' ⟨rfl, rfl⟩))
    exact bodyPost_ret (v := ir 0 (Pl.workV v)) (by simp [results, Try.results38, go_sem]) rfl ⟨ret_ir (by simp [Pl.targetC, G.out]) rfl, (by repeat (first | exact Below.refl _ _ | assumption | refine Below.drew ?_ | refine Below_drewN ?_ _ | refine Below.alloc ?_ (by first | omega | (simp; done) | (simp; omega)) _ | refine Below.setCell ?_ (by first | omega | (simp; done) | (simp; omega)) _ | (refine Below.trans ?_ (Below.mono (by assumption) (by first | omega | (simp; done) | (simp; omega))))))⟩
  · have G := Lib.hid (Pl.okB_false.2 h)
    have H := Lib.hid h
    clear h
    go_enter Try.func38, Try.ntmps38
    go_wp2_with ((go_at_call 45; refine (l1Bits_no _ _ H.out (by omega) (by omega)).mono ?_; rintro e w' ⟨rfl, rfl⟩))
    exact bodyPost_ret (v := ir 3 0) (by simp [results, Try.results38, go_sem]) rfl ⟨ret_ir (by simp [Pl.targetC, G.out]) (by simp [Pl.workV, G.out]), (by repeat (first | exact Below.refl _ _ | assumption | refine Below.drew ?_ | refine Below_drewN ?_ _ | refine Below.alloc ?_ (by first | omega | (simp; done) | (simp; omega)) _ | refine Below.setCell ?_ (by first | omega | (simp; done) | (simp; omega)) _ | (refine Below.trans ?_ (Below.mono (by assumption) (by first | omega | (simp; done) | (simp; omega))))))⟩

end Go.Proofs.Ytechmmppdciidaa
