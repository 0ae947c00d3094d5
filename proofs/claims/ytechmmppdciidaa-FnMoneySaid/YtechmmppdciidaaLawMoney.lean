/-
  The statement FnMoney: at every byte slice, amounts and sums keep together as the law says; no condition.
-/
import Derived.Test.YtechmmppdciidaaRows
import Derived.Test.YtechmmppdciidaaDrawA
import Derived.Test.YtechmmppdciidaaRegion
import Derived.WalkKit
import Derived.ProofKit
import Derived.OpenShut
import Derived.ShutString
import Derived.ChangeOld
import Derived.Below
namespace Go.Proofs.Ytechmmppdciidaa.fnMoney
open Go.ChangeShapes Go.WideShapes Go.ChangeAt Go.RowKit
open Go.ChangeMaps (open_string shut_string)
set_option linter.unusedVariables false
set_option linter.unusedSimpArgs false

theorem own : ownKnob Try.prog.godebug = none := by kernel_rfl
theorem laidOut : laidOutB Try.prog = true := by kernel_rfl

theorem lwBig_no (v : Value) (zs : List Int) (w : World) (h : Sl .u8 w v zs) (hl : zs.length ≤ 1048576) : Calls Try.prog 12 #[v] w fun e w' => e = .returned (.bool false) ∧ w = w' := by
  obtain ⟨a, cap, rfl, hll, hm, hne, hw⟩ := h
  unfold maxLen at hm
  clear hne hw
  go_enter Try.func12, Try.ntmps12
  go_wp2
  go_ret
  exact ⟨ret_bool (by simp; omega), rfl⟩
theorem lwBig_yes (v : Value) (zs : List Int) (w : World) (h : Sl .u8 w v zs) (hl : ¬ zs.length ≤ 1048576) : Calls Try.prog 12 #[v] w fun e w' => e = .returned (.bool true) ∧ w = w' := by
  obtain ⟨a, cap, rfl, hll, hm, hne, hw⟩ := h
  unfold maxLen at hm
  clear hne hw
  go_enter Try.func12, Try.ntmps12
  go_wp2
  go_ret
  exact ⟨ret_bool (by simp; omega), rfl⟩

@[local go_sem] theorem field_ir0 (a b : Int) (w : World) : (Instr.field 26 (.agg #[.int .i64 a, .int .i64 b]) 0).run Try.prog w = .ok (.int .i64 a) w := by kernel_rfl
@[local go_sem] theorem field_ir1 (a b : Int) (w : World) : (Instr.field 26 (.agg #[.int .i64 a, .int .i64 b]) 1).run Try.prog w = .ok (.int .i64 b) w := by kernel_rfl

/-- A contract of a function of one slice. -/
abbrev One (f : FuncId) (k : IntKind) (zs : List Int) (a b : Int) : Prop := ∀ w v, Sl k w v zs → Calls Try.prog f #[v] w fun e w' => e = .returned (.agg #[.int .i64 a, .int .i64 b]) ∧ Below w.heap.size w w'

theorem foldl_shift (l : List Int) : ∀ a : Int, l.foldl (· + ·) a = a + sumL l := by
  induction l with
  | nil => intro a; simp [sumL]
  | cons x r ih => intro a; rw [show sumL (x :: r) = (x :: r).foldl (· + ·) 0 from rfl, List.foldl_cons, List.foldl_cons, ih, ih (0 + x)]; omega
theorem sumL_cons (x : Int) (r : List Int) : sumL (x :: r) = x + sumL r := by rw [sumL, List.foldl_cons, foldl_shift]; omega
theorem sumL_nonneg : ∀ {l : List Int}, AllIn l 0 1000000 → 0 ≤ sumL l
  | [], _ => by simp [sumL]
  | x :: r, h => by
    have := sumL_nonneg (l := r) (fun n hn => h n (List.mem_cons_of_mem _ hn))
    have := h x (List.mem_cons_self ..)
    rw [sumL_cons]; omega
theorem sumL_drop {l : List Int} {j : Nat} (h : j < l.length) : sumL (l.drop j) = l[j] + sumL (l.drop (j + 1)) := by
  rw [List.drop_eq_getElem_cons h, sumL_cons]
theorem sumL_drop_le {l : List Int} (h : AllIn l 0 1000000) : ∀ j, 0 ≤ sumL (l.drop j) ∧ sumL (l.drop j) ≤ sumL l
  | 0 => ⟨sumL_nonneg h, by simp⟩
  | j + 1 => by
    have ih := sumL_drop_le h j
    by_cases hj : j < l.length
    · have e := sumL_drop hj
      have := h.at hj
      have := sumL_nonneg (l := l.drop (j + 1)) (fun n hn => h n (List.mem_of_mem_drop hn))
      omega
    · rw [List.drop_eq_nil_of_le (by omega)]
      exact ⟨by simp [sumL], by have := sumL_nonneg h; simpa [sumL] using this⟩

theorem add_ok (x y : Int) (w : World) (h0 : 0 ≤ x) (h1 : 0 ≤ y) (h2 : x + y ≤ 1000000) : Calls Try.prog 22 #[.int .i64 x, .int .i64 y] w fun e w' => e = .returned (.agg #[.int .i64 0, .int .i64 (x + y)]) ∧ Below w.heap.size w w' := by
  have hs : sumL [x, y] = x + y := by simp [sumL]
  have := implAddMoney_any x y w (by omega) (by omega) 0 (sumL [x, y]) (.sum (by simp) (by intro n hn; simp at hn; omega) (by rw [hs]; exact h2))
  rw [hs] at this; exact this

theorem sumOf_both (zs : List Int) : ∃ a b : Int, One 31 .u8 zs a b ∧ One 30 .u8 zs a b ∧ 0 ≤ b ∧ b ≤ 2147483646 := by
  by_cases h4 : zs.length ≤ 4000
  · exact ⟨0, sumF zs, fun w v h => specSumOf_in v zs w h h4, fun w v h => implSumOf_in v zs w h h4, (sumF_bd zs).1, (sumF_bd zs).2⟩
  · exact ⟨2, 0, fun w v h => specSumOf_many v zs w h h4, fun w v h => implSumOf_many v zs w h h4, by omega, by omega⟩

theorem total_swap {x y a b : Int} (h : TotalAns [x, y] a b) : TotalAns [y, x] a b := by
  have e : sumL [y, x] = sumL [x, y] := by simp [sumL]; omega
  have i : AllIn [y, x] 0 1000000 ↔ AllIn [x, y] 0 1000000 := by simp [AllIn]; omega
  cases h with
  | many h => exact .many h
  | range h h' => exact .range h (fun k => h' (i.1 k))
  | money h h' h'' => exact .money h (i.2 h') (by rw [e]; exact h'')
  | sum h h' h'' => rw [← e]; exact .sum h (i.2 h') (by rw [e]; exact h'')

set_option maxHeartbeats 8000000 in
theorem walk (a0 : Option Addr) (len0 cap0 : Nat) (z0 : List Int) (w : World) (w0 : IsRow .u8 w a0 len0 cap0 z0) :
    Calls Try.prog 4 #[.slice a0 len0 cap0] w fun e w' => e = .returned (.bool true) ∧ Below w.heap.size w w' := by
  have hS := Sl.of_row w0
  generalize hzs : z0.take len0 = zs at hS
  obtain ⟨a, cap, hv, hl, hm, hne, hw⟩ := hS
  simp only [Value.slice.injEq] at hv
  obtain ⟨rfl, hlen, rfl⟩ := hv
  have hS : Sl .u8 w (.slice a0 zs.length cap0) zs := ⟨a0, cap0, rfl, hl, hm, hne, hw⟩
  clear hne hzs w0 hw
  subst hlen
  unfold maxLen at hm
  have HS := Lib.hid hS
  clear hS
  by_cases h5 : zs.length ≤ 1048576
  · go_enter Try.func4, Try.ntmps4
    go_wp2_with fail
    refine (lwBig_no _ zs _ HS.out h5).mono ?_
    rintro e w' ⟨rfl, rfl⟩
    go_wp2_with fail
    refine (DrawAddMoney_any _ zs _ HS.out (by omega)).mono ?_
    rintro e w1 ⟨⟨x, y, rfl, hx, hy⟩, hB1⟩
    have HB1 := Lib.hid hB1
    clear hB1
    obtain ⟨ac, av, hA⟩ := TotalAns.some [x, y]
    have HA := Lib.hid hA
    clear hA
    go_wp2_with fail
    refine (implAddMoney_any x y _ (by omega) (by omega) ac av HA.out).mono ?_
    rintro e w2 ⟨rfl, hb2⟩
    have HB2 := Lib.hid ((HB1.out.trans (hb2.mono HB1.out.size)).alloc (by have := HB1.out.size; have := hb2.size; omega) (.cells #[.int .i64 ac, .int .i64 av] 26))
    have hL : Held w2 [] := trivial
    have HL2 := Lib.hid (hL.box2 rfl (.int .i64 ac) (.int .i64 av) 26)
    clear hL hb2
    go_wp2_with fail
    generalize w2.heap.size = S at *
    generalize w2.alloc (.cells #[.int .i64 ac, .int .i64 av] 26) = W2 at *
    refine (DrawTotalOf_any _ zs _ (HS.out.same HB2.out) (by omega)).mono ?_
    rintro e w3 ⟨⟨u, l, rfl, hSl, hlr, hln, _⟩, hb3⟩
    have HB3 := Lib.hid (HB2.out.trans (hb3.mono HB2.out.size))
    have HL3 := Lib.hid (HL2.out.same hb3)
    have HSL := Lib.hid hSl
    clear hb3 hSl hlr HL2
    obtain ⟨tc, tv, hT⟩ := TotalAns.some l
    have HT := Lib.hid hT
    clear hT
    go_wp2_with fail
    refine (implTotalOf_any _ l _ HSL.out tc tv HT.out).mono ?_
    rintro e w4 ⟨rfl, hb4⟩
    have HB4 := Lib.hid ((HB3.out.trans (hb4.mono HB3.out.size)).alloc (by have := HB3.out.size; have := hb4.size; omega) (.cells #[.int .i64 tc, .int .i64 tv] 26))
    have HL4 := Lib.hid ((HL3.out.same hb4).box2 rfl (.int .i64 tc) (.int .i64 tv) 26)
    have HSL4 := Lib.hid ((HSL.out.same hb4).same ((Below.refl _ _).alloc (Nat.le_refl _) (.cells #[.int .i64 tc, .int .i64 tv] 26)))
    clear hb4 HL3 HSL
    go_wp2_with fail
    generalize w4.heap.size = T at *
    generalize w4.alloc (.cells #[.int .i64 tc, .int .i64 tv] 26) = W4 at *
    refine (DrawSumInts_any _ zs _ (HS.out.same HB4.out) (by omega)).mono ?_
    rintro e w5 ⟨⟨u2, l2, rfl, hSl2, hlr2, hln2, _⟩, hb5⟩
    have HB5 := Lib.hid (HB4.out.trans (hb5.mono HB4.out.size))
    have HQ5 := Lib.hid (show Held w5 _ ∧ Sl .i64 w5 u l ∧ Sl .i64 w5 u2 l2 from ⟨HL4.out.same hb5, HSL4.out.same hb5, hSl2⟩)
    clear hb5 hSl2 hlr2 HL4 HSL4
    obtain ⟨sc, sv, hC⟩ := sumIntsC.some l2
    have I2 : Hid (One 26 .i64 l2 sc sv) := fun w v h => implSumInts_any v l2 w h sc sv hC
    have P2 : Hid (One 27 .i64 l2 sc sv) := fun w v h => specSumInts_any v l2 w h sc sv hC
    have P3 : Hid (One 28 .i64 l tc tv) := fun w v h => specTotalOf_any v l w h tc tv HT.out
    clear hC
    go_wp2_with fail
    refine wp_region_noPanic ?_
    refine wp_region_held_drew (S := fun w' => Held w' [(⟨T, 0, none⟩, .int .i64 tc), (⟨T, 1, none⟩, .int .i64 tv), (⟨S, 0, none⟩, .int .i64 ac), (⟨S, 1, none⟩, .int .i64 av)] ∧ Sl .i64 w' u l ∧ Sl .i64 w' u2 l2) (by kernel_rfl) ⟨HQ5.out.1.drew, HQ5.out.2.1.same ((Below.refl _ _).drew), HQ5.out.2.2.same ((Below.refl _ _).drew)⟩ (fun hHeld => ?_)
    have HHeld := Lib.hid hHeld
    refine takeH 0 rfl (by kernel_rfl) rfl (by intro w k; simp only [Held] at k; go_simp; try with_reducible rfl) hHeld ?_
    try simp only [lay]
    refine takeH 3 rfl (by kernel_rfl) rfl (by intro w k; simp only [Held] at k; go_simp; try with_reducible rfl) hHeld ?_
    try simp only [lay]
    refine callH 1 rfl (by kernel_rfl) rfl ?_
    intro K' hK
    go_simp
    refine (I2.out _ _ hHeld.2.2).mono ?_
    rintro e wa ⟨rfl, hba⟩
    refine hK.out _ _ (by exact ⟨Held.same hba hHeld.1, hHeld.2.1.same hba, hHeld.2.2.same hba⟩) (fun hHeld => ?_)
    clear hK K'
    try simp only [lay]
    refine takeH 2 rfl (by kernel_rfl) rfl (by intro w k; simp only [Held] at k; go_simp; try with_reducible rfl) hHeld ?_
    try simp only [lay]
    refine callH 4 rfl (by kernel_rfl) rfl ?_
    intro K' hK
    go_simp
    refine (P2.out _ _ hHeld.2.2).mono ?_
    rintro e wb ⟨rfl, hbb⟩
    refine hK.out _ _ (by exact ⟨Held.same hbb hHeld.1, hHeld.2.1.same hbb, hHeld.2.2.same hbb⟩) (fun hHeld => ?_)
    clear hK K'
    try simp only [lay]
    refine takeH 5 rfl (by kernel_rfl) rfl (by intro w k; simp only [Held] at k; go_simp; try with_reducible rfl) hHeld ?_
    try simp only [lay]
    refine takeH 6 rfl (by kernel_rfl) rfl (by intro w k; simp only [Held] at k; go_simp; try with_reducible rfl) hHeld ?_
    try simp only [lay]
    refine takeH 7 rfl (by kernel_rfl) rfl (by intro w k; simp only [Held] at k; go_simp; try with_reducible rfl) hHeld ?_
    try simp only [lay]
    refine takeH 8 rfl (by kernel_rfl) rfl (by intro w k; simp only [Held] at k; go_simp; try with_reducible rfl) hHeld ?_
    try simp only [lay]
    refine takeH 11 rfl (by kernel_rfl) rfl (by intro w k; simp only [Held] at k; go_simp; try with_reducible rfl) hHeld ?_
    try simp only [lay]
    refine callH 9 rfl (by kernel_rfl) rfl ?_
    intro K' hK
    go_simp
    refine (I2.out _ _ hHeld.2.2).mono ?_
    rintro e wc ⟨rfl, hbc⟩
    refine hK.out _ _ (by exact ⟨Held.same hbc hHeld.1, hHeld.2.1.same hbc, hHeld.2.2.same hbc⟩) (fun hHeld => ?_)
    clear hK K'
    try simp only [lay]
    refine takeH 10 rfl (by kernel_rfl) rfl (by intro w k; simp only [Held] at k; go_simp; try with_reducible rfl) hHeld ?_
    try simp only [lay]
    refine callH 12 rfl (by kernel_rfl) rfl ?_
    intro K' hK
    go_simp
    refine (P2.out _ _ hHeld.2.2).mono ?_
    rintro e wd ⟨rfl, hbd⟩
    refine hK.out _ _ (by exact ⟨Held.same hbd hHeld.1, hHeld.2.1.same hbd, hHeld.2.2.same hbd⟩) (fun hHeld => ?_)
    clear hK K'
    try simp only [lay]
    refine takeH 13 rfl (by kernel_rfl) rfl (by intro w k; simp only [Held] at k; go_simp; try with_reducible rfl) hHeld ?_
    try simp only [lay]
    refine takeH 14 rfl (by kernel_rfl) rfl (by intro w k; simp only [Held] at k; go_simp; try with_reducible rfl) hHeld ?_
    try simp only [lay]
    refine takeH 15 rfl (by kernel_rfl) rfl (by intro w k; simp only [Held] at k; go_simp; try with_reducible rfl) hHeld ?_
    try simp only [lay]
    refine takeH 16 rfl (by kernel_rfl) rfl (by intro w k; simp only [Held] at k; go_simp; try with_reducible rfl) hHeld ?_
    try simp only [lay]
    refine takeH 17 rfl (by kernel_rfl) rfl (by intro w k; simp only [Held] at k; go_simp; try with_reducible rfl) hHeld ?_
    try simp only [lay]
    refine takeH 18 rfl (by kernel_rfl) rfl (by intro w k; simp only [Held] at k; go_simp; try with_reducible rfl) hHeld ?_
    try simp only [lay]
    refine takeH 19 rfl (by kernel_rfl) rfl (by intro w k; simp only [Held] at k; go_simp; try with_reducible rfl) hHeld ?_
    try simp only [lay]
    refine callH 20 rfl (by kernel_rfl) rfl ?_
    intro K' hK
    go_simp
    refine (P3.out _ _ hHeld.2.1).mono ?_
    rintro e we ⟨rfl, hbe⟩
    refine hK.out _ _ (by exact ⟨Held.same hbe hHeld.1, hHeld.2.1.same hbe, hHeld.2.2.same hbe⟩) (fun hHeld => ?_)
    clear hK K'
    try simp only [lay]
    refine takeH 21 rfl (by kernel_rfl) rfl (by intro w k; simp only [Held] at k; go_simp; try with_reducible rfl) hHeld ?_
    try simp only [lay]
    refine takeH 22 rfl (by kernel_rfl) rfl (by intro w k; simp only [Held] at k; go_simp; try with_reducible rfl) hHeld ?_
    try simp only [lay]
    refine takeH 23 rfl (by kernel_rfl) rfl (by intro w k; simp only [Held] at k; go_simp; try with_reducible rfl) hHeld ?_
    try simp only [lay]
    refine wpAnyH_done (by kernel_rfl) ?_ _
    refine NoPanic.normal ?_
    have HB6 := Lib.hid ((HB5.out.drew).trans ((hba.trans ((hbb.trans ((hbc.trans ((hbd.trans (hbe.mono hbd.size)).mono hbc.size)).mono hbb.size)).mono hba.size)).mono (by exact HB5.out.size)))
    have HQ6 := Lib.hid hHeld
    clear hba hbb hbc hbd hbe HQ5
    have hq := HQ6.out.1
    simp only [Held] at hq
    generalize we = WX at *
    have hTC : (tc ≠ 0 ∧ True) ∨ (tc = 0 ∧ AllIn l 0 1000000 ∧ tv = sumL l ∧ sumL l ≤ 1000000) := by
      cases HT.out with
      | many h => exact Or.inl ⟨by omega, trivial⟩
      | range h h' => exact Or.inl ⟨by omega, trivial⟩
      | money h h' h'' => exact Or.inl ⟨by omega, trivial⟩
      | sum h h' h'' => exact Or.inr ⟨rfl, h', rfl, h''⟩
    rcases hTC with ⟨h0, _⟩ | ⟨rfl, hall, rfl, hle⟩
    · have h0' : (tc == 0) = false := by simp [h0]
      have H0 := Lib.hid h0
      clear h0
      have HQ7 := Lib.hid HQ6.out.1
      go_wp2_with fail
      refine (DrawSumOf_any _ zs _ (HS.out.same HB6.out) (by omega)).mono ?_
      rintro e wm1 ⟨⟨u3, l3, rfl, hSl3, _, hln3, _⟩, hbm1⟩
      have HBm1 := Lib.hid (HB6.out.trans (hbm1.mono HB6.out.size))
      have HLm1 := Lib.hid (Held.same hbm1 HQ7.out)
      have HS3 := Lib.hid hSl3
      clear hbm1 hSl3 HQ7 HB6
      obtain ⟨hc, hv, hsp, him, hv0, hv1⟩ := sumOf_both l3
      have SP := Lib.hid hsp
      have IM := Lib.hid him
      clear hsp him
      go_wp2_with fail
      refine (IM.out _ _ HS3.out).mono ?_
      rintro e wm2 ⟨rfl, hbm2⟩
      have HBm2 := Lib.hid ((HBm1.out.trans (hbm2.mono HBm1.out.size)).alloc (by have := HBm1.out.size; have := hbm2.size; omega) (.cells #[.int .i64 hc, .int .i64 hv] 26))
      have HLm2 := Lib.hid ((HLm1.out.same hbm2).box2 rfl (.int .i64 hc) (.int .i64 hv) 26)
      have HSm2 := Lib.hid ((HS3.out.same hbm2).same ((Below.refl _ _).alloc (Nat.le_refl _) (.cells #[.int .i64 hc, .int .i64 hv] 26)))
      clear hbm2 HLm1 HS3
      go_wp2_with fail
      generalize wm2.heap.size = Hk at *
      generalize wm2.alloc (.cells #[.int .i64 hc, .int .i64 hv] 26) = WM at *
      refine wp_region_noPanic ?_
      have hvn : ¬ hv < 0 := by omega
      have hvm : ¬ 2147483646 < hv := by omega
      refine wp_region_held_drew (S := fun w' => Held w' _ ∧ Sl .u8 w' u3 l3) (by kernel_rfl) ⟨HLm2.out.drew, HSm2.out.same ((Below.refl _ _).drew)⟩ (fun hHeld => ?_)
      refine takeH 0 rfl (by kernel_rfl) rfl (by intro w k; simp only [Held] at k; go_simp; try with_reducible rfl) hHeld ?_
      try simp only [lay]
      refine takeH 1 rfl (by kernel_rfl) rfl (by intro w k; simp only [Held] at k; go_simp; try with_reducible rfl) hHeld ?_
      try simp only [lay]
      refine takeH 2 rfl (by kernel_rfl) rfl (by intro w k; simp only [Held] at k; go_simp; try with_reducible rfl) hHeld ?_
      try simp only [lay]
      refine callH 3 rfl (by kernel_rfl) rfl ?_
      intro K' hK
      go_simp
      refine (SP.out _ _ hHeld.2).mono ?_
      rintro e wn1 ⟨rfl, hbn1⟩
      refine hK.out _ _ (by exact ⟨Held.same hbn1 hHeld.1, hHeld.2.same hbn1⟩) (fun hHeld => ?_)
      clear hK K'
      try simp only [lay]
      refine takeH 4 rfl (by kernel_rfl) rfl (by intro w k; simp only [Held] at k; go_simp; try with_reducible rfl) hHeld ?_
      try simp only [lay]
      refine takeH 5 rfl (by kernel_rfl) rfl (by intro w k; simp only [Held] at k; go_simp; try with_reducible rfl) hHeld ?_
      try simp only [lay]
      refine takeH 6 rfl (by kernel_rfl) rfl (by intro w k; simp only [Held] at k; go_simp; try with_reducible rfl) hHeld ?_
      try simp only [lay]
      refine takeH 7 rfl (by kernel_rfl) rfl (by intro w k; simp only [Held] at k; go_simp; try with_reducible rfl) hHeld ?_
      try simp only [lay]
      refine takeH 8 rfl (by kernel_rfl) rfl (by intro w k; simp only [Held] at k; go_simp; try with_reducible rfl) hHeld ?_
      try simp only [lay]
      refine takeH 9 rfl (by kernel_rfl) rfl (by intro w k; simp only [Held] at k; go_simp; try with_reducible rfl) hHeld ?_
      try simp only [lay]
      refine callH 10 rfl (by kernel_rfl) rfl ?_
      intro K' hK
      go_simp
      refine (SP.out _ _ hHeld.2).mono ?_
      rintro e wn2 ⟨rfl, hbn2⟩
      refine hK.out _ _ (by exact ⟨Held.same hbn2 hHeld.1, hHeld.2.same hbn2⟩) (fun hHeld => ?_)
      clear hK K'
      try simp only [lay]
      refine takeH 11 rfl (by kernel_rfl) rfl (by intro w k; simp only [Held] at k; go_simp; try with_reducible rfl) hHeld ?_
      try simp only [lay]
      refine takeH 12 rfl (by kernel_rfl) rfl (by intro w k; simp only [Held] at k; go_simp; try with_reducible rfl) hHeld ?_
      try simp only [lay]
      refine takeH 13 rfl (by kernel_rfl) rfl (by intro w k; simp only [Held] at k; go_simp; try with_reducible rfl) hHeld ?_
      try simp only [lay]
      refine takeH 14 rfl (by kernel_rfl) rfl (by intro w k; simp only [Held] at k; go_simp; try with_reducible rfl) hHeld ?_
      try simp only [lay]
      refine takeH 15 rfl (by kernel_rfl) rfl (by intro w k; simp only [Held] at k; go_simp; try with_reducible rfl) hHeld ?_
      try simp only [lay]
      refine takeH 16 rfl (by kernel_rfl) rfl (by intro w k; simp only [Held] at k; go_simp; try with_reducible rfl) hHeld ?_
      try simp only [lay]
      refine takeH 17 rfl (by kernel_rfl) rfl (by intro w k; simp only [Held] at k; go_simp; try with_reducible rfl) hHeld ?_
      try simp only [lay]
      refine takeH 18 rfl (by kernel_rfl) rfl (by intro w k; simp only [Held] at k; go_simp; try with_reducible rfl) hHeld ?_
      try simp only [lay]
      refine takeH 19 rfl (by kernel_rfl) rfl (by intro w k; simp only [Held] at k; go_simp; try with_reducible rfl) hHeld ?_
      try simp only [lay]
      refine takeH 20 rfl (by kernel_rfl) rfl (by intro w k; simp only [Held] at k; go_simp; try with_reducible rfl) hHeld ?_
      try simp only [lay]
      refine takeH 21 rfl (by kernel_rfl) rfl (by intro w k; simp only [Held] at k; go_simp; try with_reducible rfl) hHeld ?_
      try simp only [lay]
      refine takeH 22 rfl (by kernel_rfl) rfl (by intro w k; simp only [Held] at k; go_simp; try with_reducible rfl) hHeld ?_
      try simp only [lay]
      refine takeH 23 rfl (by kernel_rfl) rfl (by intro w k; simp only [Held] at k; go_simp; try with_reducible rfl) hHeld ?_
      try simp only [lay]
      refine wpAnyH_done (by kernel_rfl) ?_ _
      refine NoPanic.normal ?_
      have HBn := Lib.hid ((HBm2.out.drew).trans ((hbn1.trans (hbn2.mono hbn1.size)).mono (by exact HBm2.out.size)))
      have HLn := Lib.hid hHeld.1
      have hqn := hHeld.1
      simp only [Held] at hqn
      clear hbn1 hbn2 hHeld
      generalize wn2 = WN at *
      have hAC : ac ≠ 0 ∨ (ac = 0 ∧ AllIn [x, y] 0 1000000 ∧ av = x + y ∧ x + y ≤ 1000000) := by
        have es : sumL [x, y] = x + y := by simp [sumL]
        cases HA.out with
        | many h => exact Or.inl (by omega)
        | range h h' => exact Or.inl (by omega)
        | money h h' h'' => exact Or.inl (by omega)
        | sum h h' h'' => exact Or.inr ⟨rfl, h', es, by rw [← es]; exact h''⟩
      rcases hAC with hne | ⟨rfl, hall2, rfl, hle2⟩
      · have hne' : (ac == 0) = false := by simp [hne]
        have HNE := Lib.hid hne
        clear hne
        go_wp2_with fail
        have hsa : ∀ w, Calls Try.prog 32 #[.int .i64 x, .int .i64 y] w fun e w' => e = .returned (.agg #[.int .i64 ac, .int .i64 av]) ∧ Below w.heap.size w w' := fun w => specAddMoney_any x y w (by omega) (by omega) ac av HA.out
        have HSA := Lib.hid hsa
        clear hsa
        refine wp_region_noPanic ?_
        refine wp_region_held_drew (S := fun w' => Held w' _) (by kernel_rfl) HLn.out.drew (fun hHeld => ?_)
        refine takeH 0 rfl (by kernel_rfl) rfl (by intro w k; simp only [Held] at k; go_simp; try with_reducible rfl) hHeld ?_
        try simp only [lay]
        refine takeH 1 rfl (by kernel_rfl) rfl (by intro w k; simp only [Held] at k; go_simp; try with_reducible rfl) hHeld ?_
        try simp only [lay]
        refine takeH 4 rfl (by kernel_rfl) rfl (by intro w k; simp only [Held] at k; go_simp; try with_reducible rfl) hHeld ?_
        try simp only [lay]
        refine takeH 5 rfl (by kernel_rfl) rfl (by intro w k; simp only [Held] at k; go_simp; try with_reducible rfl) hHeld ?_
        try simp only [lay]
        refine callH 2 rfl (by kernel_rfl) rfl ?_
        intro K' hK
        go_simp
        refine (HSA.out _).mono ?_
        rintro e wz ⟨rfl, hbz⟩
        refine hK.out _ _ (by exact Held.same hbz (by assumption)) (fun hHeld => ?_)
        clear hK K'
        try simp only [lay]
        refine takeH 3 rfl (by kernel_rfl) rfl (by intro w k; simp only [Held] at k; go_simp; try with_reducible rfl) hHeld ?_
        try simp only [lay]
        refine takeH 6 rfl (by kernel_rfl) rfl (by intro w k; simp only [Held] at k; go_simp; try with_reducible rfl) hHeld ?_
        try simp only [lay]
        refine takeH 7 rfl (by kernel_rfl) rfl (by intro w k; simp only [Held] at k; go_simp; try with_reducible rfl) hHeld ?_
        try simp only [lay]
        refine wpAnyH_done (by kernel_rfl) ?_ _
        refine NoPanic.normal ?_
        have HBz := Lib.hid (HBn.out.drew.trans (hbz.mono (by exact HBn.out.size)))
        clear hbz hHeld
        go_wp2
        go_ret
        exact ⟨rfl, HBz.out⟩
      · have hx0 := hall2 x (by simp)
        have hy0 := hall2 y (by simp)
        have hsa : ∀ w, Calls Try.prog 22 #[.int .i64 y, .int .i64 x] w fun e w' => e = .returned (.agg #[.int .i64 0, .int .i64 (x + y)]) ∧ Below w.heap.size w w' := fun w => implAddMoney_any y x w (by omega) (by omega) 0 (x + y) (total_swap HA.out)
        have HSA := Lib.hid hsa
        clear hsa hall2
        go_wp2_with fail
        have lxy : IntKind.i64.wrap (x + y) = x + y := IntWalk.i64_in _ (by omega)
        refine wp_region_noPanic ?_
        refine wp_region_held_drew (S := fun w' => Held w' _) (by kernel_rfl) HLn.out.drew (fun hHeld => ?_)
        refine takeH 0 rfl (by kernel_rfl) rfl (by intro w k; simp only [Held] at k; go_simp; try with_reducible rfl) hHeld ?_
        try simp only [lay]
        refine takeH 1 rfl (by kernel_rfl) rfl (by intro w k; simp only [Held] at k; go_simp; try with_reducible rfl) hHeld ?_
        try simp only [lay]
        refine takeH 2 rfl (by kernel_rfl) rfl (by intro w k; simp only [Held] at k; go_simp; try with_reducible rfl) hHeld ?_
        try simp only [lay]
        refine takeH 3 rfl (by kernel_rfl) rfl (by intro w k; simp only [Held] at k; go_simp; try with_reducible rfl) hHeld ?_
        try simp only [lay]
        refine takeH 4 rfl (by kernel_rfl) rfl (by intro w k; simp only [Held] at k; go_simp; try with_reducible rfl) hHeld ?_
        try simp only [lay]
        refine takeH 5 rfl (by kernel_rfl) rfl (by intro w k; simp only [Held] at k; go_simp; try with_reducible rfl) hHeld ?_
        try simp only [lay]
        refine takeH 6 rfl (by kernel_rfl) rfl (by intro w k; simp only [Held] at k; go_simp; try with_reducible rfl) hHeld ?_
        try simp only [lay]
        refine takeH 7 rfl (by kernel_rfl) rfl (by intro w k; simp only [Held] at k; go_simp; try with_reducible rfl) hHeld ?_
        try simp only [lay]
        refine takeH 8 rfl (by kernel_rfl) rfl (by intro w k; simp only [Held] at k; go_simp; try with_reducible rfl) hHeld ?_
        try simp only [lay]
        refine takeH 11 rfl (by kernel_rfl) rfl (by intro w k; simp only [Held] at k; go_simp; try with_reducible rfl) hHeld ?_
        try simp only [lay]
        refine takeH 12 rfl (by kernel_rfl) rfl (by intro w k; simp only [Held] at k; go_simp; try with_reducible rfl) hHeld ?_
        try simp only [lay]
        refine callH 9 rfl (by kernel_rfl) rfl ?_
        intro K' hK
        go_simp
        refine (HSA.out _).mono ?_
        rintro e wz ⟨rfl, hbz⟩
        refine hK.out _ _ (by exact Held.same hbz (by assumption)) (fun hHeld => ?_)
        clear hK K'
        try simp only [lay]
        refine takeH 10 rfl (by kernel_rfl) rfl (by intro w k; simp only [Held] at k; go_simp; try with_reducible rfl) hHeld ?_
        try simp only [lay]
        refine takeH 13 rfl (by kernel_rfl) rfl (by intro w k; simp only [Held] at k; go_simp; try with_reducible rfl) hHeld ?_
        try simp only [lay]
        refine takeH 14 rfl (by kernel_rfl) rfl (by intro w k; simp only [Held] at k; go_simp; try with_reducible rfl) hHeld ?_
        try simp only [lay]
        refine takeH 15 rfl (by kernel_rfl) rfl (by intro w k; simp only [Held] at k; go_simp; try with_reducible rfl) hHeld ?_
        try simp only [lay]
        refine takeH 16 rfl (by kernel_rfl) rfl (by intro w k; simp only [Held] at k; go_simp; try with_reducible rfl) hHeld ?_
        try simp only [lay]
        refine takeH 17 rfl (by kernel_rfl) rfl (by intro w k; simp only [Held] at k; go_simp; try with_reducible rfl) hHeld ?_
        try simp only [lay]
        refine takeH 18 rfl (by kernel_rfl) rfl (by intro w k; simp only [Held] at k; go_simp; try with_reducible rfl) hHeld ?_
        try simp only [lay]
        refine takeH 19 rfl (by kernel_rfl) rfl (by intro w k; simp only [Held] at k; go_simp; try with_reducible rfl) hHeld ?_
        try simp only [lay]
        refine takeH 20 rfl (by kernel_rfl) rfl (by intro w k; simp only [Held] at k; go_simp; try with_reducible rfl) hHeld ?_
        try simp only [lay]
        refine wpAnyH_done (by kernel_rfl) ?_ _
        refine NoPanic.normal ?_
        have HBz := Lib.hid (HBn.out.drew.trans (hbz.mono (by exact HBn.out.size)))
        clear hbz hHeld lxy
        go_wp2
        go_ret
        exact ⟨rfl, HBz.out⟩
    · have HALL := Lib.hid hall
      obtain ⟨ua, ucap, hu, hul, hum, hune, huw⟩ := HQ6.out.2.1
      subst hu
      have HUNE := Lib.hid hune
      unfold maxLen at hum
      clear hall hune huw
      go_wp2
      go_loopw [9, 10] (fun n i wr => ∃ k : Nat, k ≤ l.length ∧ i = .int .i64 ((k : Int) - 1) ∧ n = .int .i64 (sumL (l.drop k)) ∧ Below WX.heap.size WX wr) (fun _ i _ => (intOf i + 1).toNat)
      case atStart => exact ⟨l.length, Nat.le_refl _, rfl, by simp [sumL], Below.refl _ _⟩
      obtain ⟨k, hk, rfl, rfl, hbw⟩ := hrel
      cases k with
      | zero =>
        have hqr := Held.same hbw HQ6.out.1
        simp only [Held] at hqr
        have HB7 := Lib.hid (HB6.out.trans (hbw.mono HB6.out.size))
        have HQ7 := Lib.hid (Held.same hbw HQ6.out.1)
        clear hq HQ6 HB6 hbw
        go_wp2_with fail
        refine (DrawSumOf_any _ zs _ (HS.out.same HB7.out) (by omega)).mono ?_
        rintro e wm1 ⟨⟨u3, l3, rfl, hSl3, _, hln3, _⟩, hbm1⟩
        have HBm1 := Lib.hid (HB7.out.trans (hbm1.mono HB7.out.size))
        have HLm1 := Lib.hid (Held.same hbm1 HQ7.out)
        have HS3 := Lib.hid hSl3
        clear hbm1 hSl3 HQ7 HB7
        obtain ⟨hc, hv, hsp, him, hv0, hv1⟩ := sumOf_both l3
        have SP := Lib.hid hsp
        have IM := Lib.hid him
        clear hsp him
        go_wp2_with fail
        refine (IM.out _ _ HS3.out).mono ?_
        rintro e wm2 ⟨rfl, hbm2⟩
        have HBm2 := Lib.hid ((HBm1.out.trans (hbm2.mono HBm1.out.size)).alloc (by have := HBm1.out.size; have := hbm2.size; omega) (.cells #[.int .i64 hc, .int .i64 hv] 26))
        have HLm2 := Lib.hid ((HLm1.out.same hbm2).box2 rfl (.int .i64 hc) (.int .i64 hv) 26)
        have HSm2 := Lib.hid ((HS3.out.same hbm2).same ((Below.refl _ _).alloc (Nat.le_refl _) (.cells #[.int .i64 hc, .int .i64 hv] 26)))
        clear hbm2 HLm1 HS3
        go_wp2_with fail
        generalize wm2.heap.size = Hk at *
        generalize wm2.alloc (.cells #[.int .i64 hc, .int .i64 hv] 26) = WM at *
        refine wp_region_noPanic ?_
        have hvn : ¬ hv < 0 := by omega
        have hvm : ¬ 2147483646 < hv := by omega
        refine wp_region_held_drew (S := fun w' => Held w' _ ∧ Sl .u8 w' u3 l3) (by kernel_rfl) ⟨HLm2.out.drew, HSm2.out.same ((Below.refl _ _).drew)⟩ (fun hHeld => ?_)
        refine takeH 0 rfl (by kernel_rfl) rfl (by intro w k; simp only [Held] at k; go_simp; try with_reducible rfl) hHeld ?_
        try simp only [lay]
        refine takeH 1 rfl (by kernel_rfl) rfl (by intro w k; simp only [Held] at k; go_simp; try with_reducible rfl) hHeld ?_
        try simp only [lay]
        refine takeH 2 rfl (by kernel_rfl) rfl (by intro w k; simp only [Held] at k; go_simp; try with_reducible rfl) hHeld ?_
        try simp only [lay]
        refine callH 3 rfl (by kernel_rfl) rfl ?_
        intro K' hK
        go_simp
        refine (SP.out _ _ hHeld.2).mono ?_
        rintro e wn1 ⟨rfl, hbn1⟩
        refine hK.out _ _ (by exact ⟨Held.same hbn1 hHeld.1, hHeld.2.same hbn1⟩) (fun hHeld => ?_)
        clear hK K'
        try simp only [lay]
        refine takeH 4 rfl (by kernel_rfl) rfl (by intro w k; simp only [Held] at k; go_simp; try with_reducible rfl) hHeld ?_
        try simp only [lay]
        refine takeH 5 rfl (by kernel_rfl) rfl (by intro w k; simp only [Held] at k; go_simp; try with_reducible rfl) hHeld ?_
        try simp only [lay]
        refine takeH 6 rfl (by kernel_rfl) rfl (by intro w k; simp only [Held] at k; go_simp; try with_reducible rfl) hHeld ?_
        try simp only [lay]
        refine takeH 7 rfl (by kernel_rfl) rfl (by intro w k; simp only [Held] at k; go_simp; try with_reducible rfl) hHeld ?_
        try simp only [lay]
        refine takeH 8 rfl (by kernel_rfl) rfl (by intro w k; simp only [Held] at k; go_simp; try with_reducible rfl) hHeld ?_
        try simp only [lay]
        refine takeH 9 rfl (by kernel_rfl) rfl (by intro w k; simp only [Held] at k; go_simp; try with_reducible rfl) hHeld ?_
        try simp only [lay]
        refine callH 10 rfl (by kernel_rfl) rfl ?_
        intro K' hK
        go_simp
        refine (SP.out _ _ hHeld.2).mono ?_
        rintro e wn2 ⟨rfl, hbn2⟩
        refine hK.out _ _ (by exact ⟨Held.same hbn2 hHeld.1, hHeld.2.same hbn2⟩) (fun hHeld => ?_)
        clear hK K'
        try simp only [lay]
        refine takeH 11 rfl (by kernel_rfl) rfl (by intro w k; simp only [Held] at k; go_simp; try with_reducible rfl) hHeld ?_
        try simp only [lay]
        refine takeH 12 rfl (by kernel_rfl) rfl (by intro w k; simp only [Held] at k; go_simp; try with_reducible rfl) hHeld ?_
        try simp only [lay]
        refine takeH 13 rfl (by kernel_rfl) rfl (by intro w k; simp only [Held] at k; go_simp; try with_reducible rfl) hHeld ?_
        try simp only [lay]
        refine takeH 14 rfl (by kernel_rfl) rfl (by intro w k; simp only [Held] at k; go_simp; try with_reducible rfl) hHeld ?_
        try simp only [lay]
        refine takeH 15 rfl (by kernel_rfl) rfl (by intro w k; simp only [Held] at k; go_simp; try with_reducible rfl) hHeld ?_
        try simp only [lay]
        refine takeH 16 rfl (by kernel_rfl) rfl (by intro w k; simp only [Held] at k; go_simp; try with_reducible rfl) hHeld ?_
        try simp only [lay]
        refine takeH 17 rfl (by kernel_rfl) rfl (by intro w k; simp only [Held] at k; go_simp; try with_reducible rfl) hHeld ?_
        try simp only [lay]
        refine takeH 18 rfl (by kernel_rfl) rfl (by intro w k; simp only [Held] at k; go_simp; try with_reducible rfl) hHeld ?_
        try simp only [lay]
        refine takeH 19 rfl (by kernel_rfl) rfl (by intro w k; simp only [Held] at k; go_simp; try with_reducible rfl) hHeld ?_
        try simp only [lay]
        refine takeH 20 rfl (by kernel_rfl) rfl (by intro w k; simp only [Held] at k; go_simp; try with_reducible rfl) hHeld ?_
        try simp only [lay]
        refine takeH 21 rfl (by kernel_rfl) rfl (by intro w k; simp only [Held] at k; go_simp; try with_reducible rfl) hHeld ?_
        try simp only [lay]
        refine takeH 22 rfl (by kernel_rfl) rfl (by intro w k; simp only [Held] at k; go_simp; try with_reducible rfl) hHeld ?_
        try simp only [lay]
        refine takeH 23 rfl (by kernel_rfl) rfl (by intro w k; simp only [Held] at k; go_simp; try with_reducible rfl) hHeld ?_
        try simp only [lay]
        refine wpAnyH_done (by kernel_rfl) ?_ _
        refine NoPanic.normal ?_
        have HBn := Lib.hid ((HBm2.out.drew).trans ((hbn1.trans (hbn2.mono hbn1.size)).mono (by exact HBm2.out.size)))
        have HLn := Lib.hid hHeld.1
        have hqn := hHeld.1
        simp only [Held] at hqn
        clear hbn1 hbn2 hHeld
        generalize wn2 = WN at *
        have hAC : ac ≠ 0 ∨ (ac = 0 ∧ AllIn [x, y] 0 1000000 ∧ av = x + y ∧ x + y ≤ 1000000) := by
          have es : sumL [x, y] = x + y := by simp [sumL]
          cases HA.out with
          | many h => exact Or.inl (by omega)
          | range h h' => exact Or.inl (by omega)
          | money h h' h'' => exact Or.inl (by omega)
          | sum h h' h'' => exact Or.inr ⟨rfl, h', es, by rw [← es]; exact h''⟩
        rcases hAC with hne | ⟨rfl, hall2, rfl, hle2⟩
        · have hne' : (ac == 0) = false := by simp [hne]
          have HNE := Lib.hid hne
          clear hne
          go_wp2_with fail
          have hsa : ∀ w, Calls Try.prog 32 #[.int .i64 x, .int .i64 y] w fun e w' => e = .returned (.agg #[.int .i64 ac, .int .i64 av]) ∧ Below w.heap.size w w' := fun w => specAddMoney_any x y w (by omega) (by omega) ac av HA.out
          have HSA := Lib.hid hsa
          clear hsa
          refine wp_region_noPanic ?_
          refine wp_region_held_drew (S := fun w' => Held w' _) (by kernel_rfl) HLn.out.drew (fun hHeld => ?_)
          refine takeH 0 rfl (by kernel_rfl) rfl (by intro w k; simp only [Held] at k; go_simp; try with_reducible rfl) hHeld ?_
          try simp only [lay]
          refine takeH 1 rfl (by kernel_rfl) rfl (by intro w k; simp only [Held] at k; go_simp; try with_reducible rfl) hHeld ?_
          try simp only [lay]
          refine takeH 4 rfl (by kernel_rfl) rfl (by intro w k; simp only [Held] at k; go_simp; try with_reducible rfl) hHeld ?_
          try simp only [lay]
          refine takeH 5 rfl (by kernel_rfl) rfl (by intro w k; simp only [Held] at k; go_simp; try with_reducible rfl) hHeld ?_
          try simp only [lay]
          refine callH 2 rfl (by kernel_rfl) rfl ?_
          intro K' hK
          go_simp
          refine (HSA.out _).mono ?_
          rintro e wz ⟨rfl, hbz⟩
          refine hK.out _ _ (by exact Held.same hbz (by assumption)) (fun hHeld => ?_)
          clear hK K'
          try simp only [lay]
          refine takeH 3 rfl (by kernel_rfl) rfl (by intro w k; simp only [Held] at k; go_simp; try with_reducible rfl) hHeld ?_
          try simp only [lay]
          refine takeH 6 rfl (by kernel_rfl) rfl (by intro w k; simp only [Held] at k; go_simp; try with_reducible rfl) hHeld ?_
          try simp only [lay]
          refine takeH 7 rfl (by kernel_rfl) rfl (by intro w k; simp only [Held] at k; go_simp; try with_reducible rfl) hHeld ?_
          try simp only [lay]
          refine wpAnyH_done (by kernel_rfl) ?_ _
          refine NoPanic.normal ?_
          have HBz := Lib.hid (HBn.out.drew.trans (hbz.mono (by exact HBn.out.size)))
          clear hbz hHeld
          go_wp2
          go_ret
          exact ⟨rfl, HBz.out⟩
        · have hx0 := hall2 x (by simp)
          have hy0 := hall2 y (by simp)
          have hsa : ∀ w, Calls Try.prog 22 #[.int .i64 y, .int .i64 x] w fun e w' => e = .returned (.agg #[.int .i64 0, .int .i64 (x + y)]) ∧ Below w.heap.size w w' := fun w => implAddMoney_any y x w (by omega) (by omega) 0 (x + y) (total_swap HA.out)
          have HSA := Lib.hid hsa
          clear hsa hall2
          go_wp2_with fail
          have lxy : IntKind.i64.wrap (x + y) = x + y := IntWalk.i64_in _ (by omega)
          refine wp_region_noPanic ?_
          refine wp_region_held_drew (S := fun w' => Held w' _) (by kernel_rfl) HLn.out.drew (fun hHeld => ?_)
          refine takeH 0 rfl (by kernel_rfl) rfl (by intro w k; simp only [Held] at k; go_simp; try with_reducible rfl) hHeld ?_
          try simp only [lay]
          refine takeH 1 rfl (by kernel_rfl) rfl (by intro w k; simp only [Held] at k; go_simp; try with_reducible rfl) hHeld ?_
          try simp only [lay]
          refine takeH 2 rfl (by kernel_rfl) rfl (by intro w k; simp only [Held] at k; go_simp; try with_reducible rfl) hHeld ?_
          try simp only [lay]
          refine takeH 3 rfl (by kernel_rfl) rfl (by intro w k; simp only [Held] at k; go_simp; try with_reducible rfl) hHeld ?_
          try simp only [lay]
          refine takeH 4 rfl (by kernel_rfl) rfl (by intro w k; simp only [Held] at k; go_simp; try with_reducible rfl) hHeld ?_
          try simp only [lay]
          refine takeH 5 rfl (by kernel_rfl) rfl (by intro w k; simp only [Held] at k; go_simp; try with_reducible rfl) hHeld ?_
          try simp only [lay]
          refine takeH 6 rfl (by kernel_rfl) rfl (by intro w k; simp only [Held] at k; go_simp; try with_reducible rfl) hHeld ?_
          try simp only [lay]
          refine takeH 7 rfl (by kernel_rfl) rfl (by intro w k; simp only [Held] at k; go_simp; try with_reducible rfl) hHeld ?_
          try simp only [lay]
          refine takeH 8 rfl (by kernel_rfl) rfl (by intro w k; simp only [Held] at k; go_simp; try with_reducible rfl) hHeld ?_
          try simp only [lay]
          refine takeH 11 rfl (by kernel_rfl) rfl (by intro w k; simp only [Held] at k; go_simp; try with_reducible rfl) hHeld ?_
          try simp only [lay]
          refine takeH 12 rfl (by kernel_rfl) rfl (by intro w k; simp only [Held] at k; go_simp; try with_reducible rfl) hHeld ?_
          try simp only [lay]
          refine callH 9 rfl (by kernel_rfl) rfl ?_
          intro K' hK
          go_simp
          refine (HSA.out _).mono ?_
          rintro e wz ⟨rfl, hbz⟩
          refine hK.out _ _ (by exact Held.same hbz (by assumption)) (fun hHeld => ?_)
          clear hK K'
          try simp only [lay]
          refine takeH 10 rfl (by kernel_rfl) rfl (by intro w k; simp only [Held] at k; go_simp; try with_reducible rfl) hHeld ?_
          try simp only [lay]
          refine takeH 13 rfl (by kernel_rfl) rfl (by intro w k; simp only [Held] at k; go_simp; try with_reducible rfl) hHeld ?_
          try simp only [lay]
          refine takeH 14 rfl (by kernel_rfl) rfl (by intro w k; simp only [Held] at k; go_simp; try with_reducible rfl) hHeld ?_
          try simp only [lay]
          refine takeH 15 rfl (by kernel_rfl) rfl (by intro w k; simp only [Held] at k; go_simp; try with_reducible rfl) hHeld ?_
          try simp only [lay]
          refine takeH 16 rfl (by kernel_rfl) rfl (by intro w k; simp only [Held] at k; go_simp; try with_reducible rfl) hHeld ?_
          try simp only [lay]
          refine takeH 17 rfl (by kernel_rfl) rfl (by intro w k; simp only [Held] at k; go_simp; try with_reducible rfl) hHeld ?_
          try simp only [lay]
          refine takeH 18 rfl (by kernel_rfl) rfl (by intro w k; simp only [Held] at k; go_simp; try with_reducible rfl) hHeld ?_
          try simp only [lay]
          refine takeH 19 rfl (by kernel_rfl) rfl (by intro w k; simp only [Held] at k; go_simp; try with_reducible rfl) hHeld ?_
          try simp only [lay]
          refine takeH 20 rfl (by kernel_rfl) rfl (by intro w k; simp only [Held] at k; go_simp; try with_reducible rfl) hHeld ?_
          try simp only [lay]
          refine wpAnyH_done (by kernel_rfl) ?_ _
          refine NoPanic.normal ?_
          have HBz := Lib.hid (HBn.out.drew.trans (hbz.mono (by exact HBn.out.size)))
          clear hbz hHeld lxy
          go_wp2
          go_ret
          exact ⟨rfl, HBz.out⟩
      | succ j =>
        have e : (((j + 1 : Nat) : Int) - 1) = (j : Int) := by omega
        rw [e]
        have hlt : j < l.length := by omega
        obtain ⟨b, off, rfl, hc⟩ := HUNE.out (by omega)
        have hcj := (hbw.cell (p := ⟨b, off + j, none⟩) (World.block_lt_of_cell? _ _ (hc j hlt))).trans (hc j hlt)
        have hxj := HALL.out.at hlt
        have hd0 := sumL_drop_le HALL.out j
        have hd1 := sumL_drop_le HALL.out (j + 1)
        have hds := Lib.hid (sumL_drop hlt)
        have hsum : sumL (l.drop (j + 1)) + l[j] ≤ 1000000 := by have := hds.out; omega
        clear hc
        go_wp2_with fail
        refine (add_ok _ _ _ hd1.1 hxj.1 hsum).mono ?_
        rintro e w7 ⟨rfl, hb7⟩
        have HB7 := Lib.hid (hbw.trans (hb7.mono hbw.size))
        clear hb7 hbw
        go_wp2
        go_roundw
        case rel => exact ⟨j, by omega, rfl, by first | (rw [hds.out]; done) | (rw [hds.out, Int.add_comm]; done), HB7.out⟩
        case measure => simp [intOf] <;> omega
  · go_enter Try.func4, Try.ntmps4
    go_wp2_with fail
    refine (lwBig_yes _ zs _ HS.out h5).mono ?_
    rintro e w' ⟨rfl, rfl⟩
    go_wp2
    go_ret
    exact ⟨rfl, (by repeat (first | exact Below.refl _ _ | assumption | refine Below.drew ?_ | refine Below_drewN ?_ _ | refine Below.alloc ?_ (by first | omega | (simp; done) | (simp; omega)) _ | refine Below.setCell ?_ (by first | omega | (simp; done) | (simp; omega)) _ | (refine Below.trans ?_ (Below.mono (by assumption) (by first | omega | (simp; done) | (simp; omega))))))⟩

set_option maxRecDepth 100000 in
theorem lifted (os : Os) (started : os.Started) (H : Type) (enc : TypeId × Value → H) :
    ReturnsInHanded {} Try.checked os 4 .any (Rows.fnMoneySpec.pre6 enc Try.prog Try.f4 Rows.fnMoneyRow.domain false) (Rows.fnMoneySpec.post enc Try.prog Try.f4 false true false false) := by
  refine returnsInHanded_of_change (C := Try.checked) own started (by kernel_rfl) Try.func4
    (ChangeSpec.witness6 (enc := enc) (C := Try.checked) false ⟨#[], #[.slice none 0 0], []⟩ 8 (by kernel_rfl) (by kernel_rfl) (by kernel_rfl) (by kernel_rfl)) ?_
  intro W base args ds gs before hval0 hW hcnd _
  have hval : ∀ (j : Nat) t v, Try.f4.params[j]? = some t → args[j]? = some v → Value.okWide Try.prog W .any base t v := hval0
  have hW' := hW
  obtain ⟨p, q, hA0, hV, rfl, hfz, hnd⟩ := hW
  have hA : DataW.TrodAll enc Try.prog W 0 (fun _ => true) true Try.f4.params.toList args.toList ds p := hA0
  rw [Try.params4] at hA hval
  obtain ⟨v0, vs0, d0, ds0, p0, q0, hargs, rfl, rfl, h0, r0⟩ := trodAll_cons hA
  obtain ⟨rfl, rfl, rfl⟩ := trodAll_nil r0
  obtain rfl : args = #[v0] := by cases args; simp_all
  obtain ⟨rfl, rfl⟩ := trodVars_none hV
  obtain ⟨a0, len0, cap0, rfl⟩ := okWide_slice Try.underlying22 (hval 0 22 v0 rfl rfl)
  have k0 := h0
  have lt0 : ∀ x ∈ p0, x.block < W.heap.size := by obtain ⟨m, hm⟩ := k0; exact DataW.trod_lt m _ _ _ hm
  obtain ⟨z0, w0⟩ : ∃ zs, IsRow .u8 W a0 len0 cap0 zs := by
    obtain ⟨fuel, hf⟩ := h0
    rcases open_ints Try.underlying22 Try.underlying5 (by kernel_rfl) hf with ⟨hcs, _⟩ | ⟨x, l, c, zs, hcs, _, hl, hm, hz, _, hcell, hwz⟩
    · simp [Value.cells] at hcs
      obtain ⟨rfl, rfl, rfl⟩ := hcs
      exact ⟨[], .inl ⟨rfl, rfl, rfl, rfl⟩⟩
    · simp [Value.cells] at hcs
      obtain ⟨rfl, rfl, rfl⟩ := hcs
      exact ⟨zs, .inr ⟨_, rfl, hl, hm, by simpa using hz, hcell, hwz⟩⟩
  clear hA0 hval0
  refine (walk a0 len0 cap0 z0 W w0).mono fun e W' ⟨he, bel⟩ => ?_
  subst he
  exact ⟨_, rfl, _, _, _, [], _, [], hW', trodAll_mk1 (shut_bool Try.underlying4 _), (trodAll_cons_mk (Below.trod laidOut (by kernel_rfl) (of_decide_eq_true (by kernel_rfl)) k0 bel lt0) trodAll_mk0), rfl, bel.frame _, fun h => by cases h⟩

theorem over : Rows.fnMoneyRow.holds Try.pinned (OpenSpec.ofChange Rows.fnMoneySpec) :=
  OpenClaim.holds_of_wide 4 Try.f4 rfl rfl rfl rfl rfl rfl rfl ⟨rfl, rfl, rfl, rfl, rfl⟩ rfl rfl rfl rfl rfl (by kernel_rfl) Try.func4 (by kernel_rfl)
    (of_decide_eq_true (by kernel_rfl)) (by unfold Func.isWrapper; first | (rw [if_pos (by decide +kernel)]; kernel_rfl) | (rw [if_neg (by decide +kernel)]; exact ⟨rfl, rfl⟩))
    (fun os started H enc _ => lifted os started H enc)

theorem proved : Rows.FnMoneySaid := over
#print axioms proved
end Go.Proofs.Ytechmmppdciidaa.fnMoney
