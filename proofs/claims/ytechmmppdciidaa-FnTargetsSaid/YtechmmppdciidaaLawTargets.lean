/-
  The statement FnTargets: at every byte slice, bits, targets and work keep together as the law says; no condition.
-/
import Derived.Test.YtechmmppdciidaaRows
import Derived.Test.YtechmmppdciidaaDrawA
import Derived.Test.YtechmmppdciidaaBits
import Derived.Test.YtechmmppdciidaaRegion
import Derived.Laws.AppendOwnNone
import Derived.WalkKit
import Derived.ProofKit
import Derived.OpenShut
import Derived.ShutString
import Derived.ChangeOld
import Derived.Below
namespace Go.Proofs.Ytechmmppdciidaa.fnTargets
open Go.ChangeShapes Go.WideShapes Go.ChangeAt Go.RowKit
open Go.ChangeMaps (open_string shut_string)
set_option linter.unusedVariables false
set_option linter.unusedSimpArgs false

theorem own : ownKnob Try.prog.godebug = none := by kernel_rfl
theorem laidOut : laidOutB Try.prog = true := by kernel_rfl

theorem lwBig_no (v : Value) (zs : List Int) (w : World) (h : Sl .u8 w v zs) (hl : zs.length ≤ 1048576) : Calls Try.prog 12 #[v] w fun e w' => e = .returned (.bool false) ∧ w = w' := by
  obtain ⟨a, cap, rfl, hll, hm, hne, hw⟩ := h
  unfold maxLen at hm
  clear hne hw
  go_enter Try.func12, Try.ntmps12
  go_wp2
  go_ret
  exact ⟨ret_bool (by simp; omega), rfl⟩
theorem lwBig_yes (v : Value) (zs : List Int) (w : World) (h : Sl .u8 w v zs) (hl : ¬ zs.length ≤ 1048576) : Calls Try.prog 12 #[v] w fun e w' => e = .returned (.bool true) ∧ w = w' := by
  obtain ⟨a, cap, rfl, hll, hm, hne, hw⟩ := h
  unfold maxLen at hm
  clear hne hw
  go_enter Try.func12, Try.ntmps12
  go_wp2
  go_ret
  exact ⟨ret_bool (by simp; omega), rfl⟩

/-- BitsOf, both sides, at any target: one answer, and what it means. -/
theorem bits_both (t : Int) (ht : -1 ≤ t ∧ t ≤ 2147483647) : ∃ c b : Int, (∀ w, Calls Try.prog 18 #[.int .i64 t] w fun e w' => e = .returned (ir c b) ∧ Below w.heap.size w w') ∧ (∀ w, Calls Try.prog 17 #[.int .i64 t] w fun e w' => e = .returned (ir c b) ∧ Below w.heap.size w w') ∧ ((c = 0 ∧ Pl.okP b ∧ Pl.Best t 1024 b) ∨ (c ≠ 0 ∧ ((1 ≤ t ∧ t ≤ 2147483646) → Pl.Best t 1024 0))) := by
  by_cases h : 1 ≤ t ∧ t ≤ 2147483646
  · have hex : ∃ b, Pl.Best t 1024 b := Pl.Best.exists t 1023
    obtain ⟨b, hB⟩ := hex
    by_cases hz : b = 0
    · refine ⟨4, 0, fun w => (specBitsOf_in t w h.1 h.2).mono ?_, fun w => (implBitsOf_in t w h.1 h.2).mono ?_, Or.inr ⟨by omega, fun _ => hz ▸ hB⟩⟩
      · rintro e w' ⟨⟨b', hB', ha⟩, hb⟩
        rcases bitsAns_same hB' hB ha with ⟨_, rfl⟩ | ⟨h', _⟩
        · exact ⟨rfl, hb⟩
        · exact absurd hz h'
      · rintro e w' ⟨⟨b', hB', ha⟩, hb⟩
        rcases bitsAns_same hB' hB ha with ⟨_, rfl⟩ | ⟨h', _⟩
        · exact ⟨rfl, hb⟩
        · exact absurd hz h'
    · refine ⟨0, b, fun w => (specBitsOf_in t w h.1 h.2).mono ?_, fun w => (implBitsOf_in t w h.1 h.2).mono ?_, Or.inl ⟨rfl, by rcases hB.zero_or with h0 | h0; exact absurd h0 hz; exact h0, hB⟩⟩
      · rintro e w' ⟨⟨b', hB', ha⟩, hb⟩
        rcases bitsAns_same hB' hB ha with ⟨h', _⟩ | ⟨_, rfl⟩
        · exact absurd h' hz
        · exact ⟨rfl, hb⟩
      · rintro e w' ⟨⟨b', hB', ha⟩, hb⟩
        rcases bitsAns_same hB' hB ha with ⟨h', _⟩ | ⟨_, rfl⟩
        · exact absurd h' hz
        · exact ⟨rfl, hb⟩
  · exact ⟨3, 0, fun w => specBitsOf_out t w h, fun w => implBitsOf_out t w h, Or.inr ⟨by omega, fun h' => absurd h' h⟩⟩

@[local go_sem] theorem field_ir0 (a b : Int) (w : World) : (Instr.field 26 (.agg #[.int .i64 a, .int .i64 b]) 0).run Try.prog w = .ok (.int .i64 a) w := by kernel_rfl
@[local go_sem] theorem field_ir1 (a b : Int) (w : World) : (Instr.field 26 (.agg #[.int .i64 a, .int .i64 b]) 1).run Try.prog w = .ok (.int .i64 b) w := by kernel_rfl

set_option maxHeartbeats 8000000 in
theorem walk (a0 : Option Addr) (len0 cap0 : Nat) (z0 : List Int) (w : World) (w0 : IsRow .u8 w a0 len0 cap0 z0) :
    Calls Try.prog 3 #[.slice a0 len0 cap0] w fun e w' => e = .returned (.bool true) ∧ Below w.heap.size w w' := by
  have hS := Sl.of_row w0
  have hnil : a0 = none → cap0 = 0 := by
    intro e
    rcases w0 with ⟨_, _, h, _⟩ | ⟨x, h, _⟩
    · exact h
    · rw [e] at h; cases h
  have HNIL := Lib.hid hnil
  clear hnil
  generalize hzs : z0.take len0 = zs at hS
  obtain ⟨a, cap, hv, hl, hm, hne, hw⟩ := hS
  simp only [Value.slice.injEq] at hv
  obtain ⟨rfl, hlen, rfl⟩ := hv
  have hS : Sl .u8 w (.slice a0 zs.length cap0) zs := ⟨a0, cap0, rfl, hl, hm, hne, hw⟩
  clear hne hzs w0 hw
  subst hlen
  unfold maxLen at hm
  have HS := Lib.hid hS
  clear hS
  by_cases h5 : zs.length ≤ 1048576
  · go_enter Try.func3, Try.ntmps3
    go_wp2_with fail
    refine (lwBig_no _ zs _ HS.out h5).mono ?_
    rintro e w' ⟨rfl, rfl⟩
    go_wp2_with fail
    refine (DrawTargetOf_any _ zs _ HS.out (by omega)).mono ?_
    rintro e w1 ⟨⟨bits, rfl, hb0, hb1⟩, hB1⟩
    have HB1 := Lib.hid hB1
    clear hB1
    go_wp2_with fail
    refine (implTargetOf_any bits _ (by omega) (by omega)).mono ?_
    rintro e w2 ⟨rfl, hb2⟩
    have HB2 := Lib.hid (HB1.out.trans (hb2.mono HB1.out.size))
    clear hb2
    have hL : Held w2 [] := trivial
    have HL2 := Lib.hid (hL.box2 rfl (.int .i64 (Pl.targetC bits)) (.int .i64 (Pl.targetV bits)) 26)
    clear hL
    go_wp2_with fail
    refine (implWorkOf_any bits _ (by omega) (by omega)).mono ?_
    rintro e w3 ⟨rfl, hb3⟩
    have HB3 := Lib.hid ((HB2.out.alloc HB2.out.size _).trans (hb3.mono (by have := HB2.out.size; simp; omega)))
    have HL3 := Lib.hid ((HL2.out.same hb3).box2 rfl (.int .i64 (Pl.targetC bits)) (.int .i64 (Pl.workV bits)) 26)
    clear hb3 HL2
    go_wp2_with fail
    refine (DrawBitsOf_any _ zs _ ((HS.out.same HB3.out).same ((Below.refl _ _).alloc (Nat.le_refl _) _)) (by omega)).mono ?_
    rintro e w4 ⟨⟨target, rfl, ht0, ht1⟩, hb4⟩
    have HB4 := Lib.hid ((HB3.out.alloc HB3.out.size _).trans (hb4.mono (by have := HB3.out.size; simp; omega)))
    have HL4 := Lib.hid (HL3.out.same hb4)
    clear hb4 HL3
    obtain ⟨bc, bv, hs, hi, hmean⟩ := bits_both target ⟨ht0, ht1⟩
    have SPEC := Lib.hid (show ∀ w, Calls Try.prog 18 #[.int .i64 target] w fun e w' => e = .returned (.agg #[.int .i64 bc, .int .i64 bv]) ∧ Below w.heap.size w w' from hs)
    have IMPL := Lib.hid hi
    have MEAN := Lib.hid hmean
    clear hs hi hmean
    go_wp2_with fail
    refine (IMPL.out _).mono ?_
    rintro e w5 ⟨rfl, hb5⟩
    have HB5 := Lib.hid (HB4.out.trans (hb5.mono (by have := HB4.out.size; omega)))
    have HB5' := Lib.hid (HB5.out.alloc HB5.out.size (.cells #[.int .i64 bc, .int .i64 bv] 26))
    have HL5 := Lib.hid ((HL4.out.same hb5).box2 rfl (.int .i64 bc) (.int .i64 bv) 26)
    clear hb5 HL4
    go_wp2_with fail
    generalize w2.heap.size = T at *
    generalize w3.heap.size = Kb at *
    generalize w5.heap.size = G at *
    generalize w5.alloc (.cells #[.int .i64 bc, .int .i64 bv] 26) = W at *
    have hL5 := HL5.out
    by_cases hbits : Pl.okP bits
    · have e1 : Pl.targetC bits = 0 := by simp [Pl.targetC, Pl.okB_true.2 hbits]
      have e2 : Pl.targetV bits = Pl.tg bits := by simp [Pl.targetV, Pl.okB_true.2 hbits]
      have hT : ∀ w, Calls Try.prog 19 #[.int .i64 bits] w fun e w' => e = .returned (.agg #[.int .i64 0, .int .i64 (Pl.tg bits)]) ∧ Below w.heap.size w w' := fun w => by have := specTargetOf_any bits w (by omega) (by omega); rw [e1, e2] at this; exact this
      have HT := Lib.hid hT
      rw [e1, e2] at hL5 ⊢
      have HL6 := Lib.hid hL5
      have hwp := Pl.work_pos hbits
      have htp := Pl.tg_pos hbits
      have HBITS := Lib.hid hbits
      clear hT e1 e2 hL5 HL5 hbits
      rcases MEAN.out with ⟨rfl, hok, hbest⟩ | ⟨hbc, hno⟩
      · refine wp_region_noPanic ?_
        refine wp_region_held_drew (S := fun w' => Held w' _) (by kernel_rfl) HL6.out.drew (fun hHeld => ?_)
        have hle : Pl.tg bv ≤ target := by
          rcases hbest with ⟨h0, _⟩ | ⟨_, _, h, _⟩
          · unfold Pl.okP at hok; omega
          · exact h
        have hbv : ∀ w, Calls Try.prog 14 #[.int .i64 bv] w fun e w' => e = .returned (.agg #[.int .i64 0, .int .i64 (Pl.tg bv)]) ∧ Below w.heap.size w w' := fun w => by
          have := implTargetOf_any bv w (by unfold Pl.okP at hok; omega) (by unfold Pl.okP at hok; omega)
          simp only [Pl.targetC, Pl.targetV, Pl.okB_true.2 hok, if_true] at this
          exact this
        have HBV := Lib.hid hbv
        clear hbv hok hbest
        refine takeH 0 rfl (by kernel_rfl) rfl (by intro w k; simp only [Held] at k; go_simp; try with_reducible rfl) hHeld ?_
        try simp only [lay]
        refine takeH 1 rfl (by kernel_rfl) rfl (by intro w k; simp only [Held] at k; go_simp; try with_reducible rfl) hHeld ?_
        try simp only [lay]
        refine takeH 2 rfl (by kernel_rfl) rfl (by intro w k; simp only [Held] at k; go_simp; try with_reducible rfl) hHeld ?_
        try simp only [lay]
        refine callH 3 rfl (by kernel_rfl) rfl ?_
        intro K' hK
        go_simp
        refine (SPEC.out _).mono ?_
        rintro e wa ⟨rfl, hba⟩
        refine hK.out _ _ (by exact Held.same hba (by assumption)) (fun hHeld => ?_)
        clear hK K'
        try simp only [lay]
        refine takeH 4 rfl (by kernel_rfl) rfl (by intro w k; simp only [Held] at k; go_simp; try with_reducible rfl) hHeld ?_
        try simp only [lay]
        refine takeH 5 rfl (by kernel_rfl) rfl (by intro w k; simp only [Held] at k; go_simp; try with_reducible rfl) hHeld ?_
        try simp only [lay]
        refine takeH 6 rfl (by kernel_rfl) rfl (by intro w k; simp only [Held] at k; go_simp; try with_reducible rfl) hHeld ?_
        try simp only [lay]
        refine takeH 7 rfl (by kernel_rfl) rfl (by intro w k; simp only [Held] at k; go_simp; try with_reducible rfl) hHeld ?_
        try simp only [lay]
        refine takeH 8 rfl (by kernel_rfl) rfl (by intro w k; simp only [Held] at k; go_simp; try with_reducible rfl) hHeld ?_
        try simp only [lay]
        refine takeH 9 rfl (by kernel_rfl) rfl (by intro w k; simp only [Held] at k; go_simp; try with_reducible rfl) hHeld ?_
        try simp only [lay]
        refine callH 10 rfl (by kernel_rfl) rfl ?_
        intro K' hK
        go_simp
        refine (SPEC.out _).mono ?_
        rintro e wb ⟨rfl, hbb⟩
        refine hK.out _ _ (by exact Held.same hbb (by assumption)) (fun hHeld => ?_)
        clear hK K'
        try simp only [lay]
        refine takeH 11 rfl (by kernel_rfl) rfl (by intro w k; simp only [Held] at k; go_simp; try with_reducible rfl) hHeld ?_
        try simp only [lay]
        refine takeH 12 rfl (by kernel_rfl) rfl (by intro w k; simp only [Held] at k; go_simp; try with_reducible rfl) hHeld ?_
        try simp only [lay]
        refine takeH 13 rfl (by kernel_rfl) rfl (by intro w k; simp only [Held] at k; go_simp; try with_reducible rfl) hHeld ?_
        try simp only [lay]
        refine takeH 14 rfl (by kernel_rfl) rfl (by intro w k; simp only [Held] at k; go_simp; try with_reducible rfl) hHeld ?_
        try simp only [lay]
        refine takeH 15 rfl (by kernel_rfl) rfl (by intro w k; simp only [Held] at k; go_simp; try with_reducible rfl) hHeld ?_
        try simp only [lay]
        refine takeH 16 rfl (by kernel_rfl) rfl (by intro w k; simp only [Held] at k; go_simp; try with_reducible rfl) hHeld ?_
        try simp only [lay]
        refine takeH 17 rfl (by kernel_rfl) rfl (by intro w k; simp only [Held] at k; go_simp; try with_reducible rfl) hHeld ?_
        try simp only [lay]
        refine takeH 18 rfl (by kernel_rfl) rfl (by intro w k; simp only [Held] at k; go_simp; try with_reducible rfl) hHeld ?_
        try simp only [lay]
        refine takeH 19 rfl (by kernel_rfl) rfl (by intro w k; simp only [Held] at k; go_simp; try with_reducible rfl) hHeld ?_
        try simp only [lay]
        refine takeH 20 rfl (by kernel_rfl) rfl (by intro w k; simp only [Held] at k; go_simp; try with_reducible rfl) hHeld ?_
        try simp only [lay]
        refine takeH 23 rfl (by kernel_rfl) rfl (by intro w k; simp only [Held] at k; go_simp; try with_reducible rfl) hHeld ?_
        try simp only [lay]
        refine callH 21 rfl (by kernel_rfl) rfl ?_
        intro K' hK
        go_simp
        refine (HBV.out _).mono ?_
        rintro e wc ⟨rfl, hbc⟩
        refine hK.out _ _ (by exact Held.same hbc (by assumption)) (fun hHeld => ?_)
        clear hK K'
        try simp only [lay]
        refine takeH 22 rfl (by kernel_rfl) rfl (by intro w k; simp only [Held] at k; go_simp; try with_reducible rfl) hHeld ?_
        try simp only [lay]
        refine takeH 24 rfl (by kernel_rfl) rfl (by intro w k; simp only [Held] at k; go_simp; try with_reducible rfl) hHeld ?_
        try simp only [lay]
        refine takeH 25 rfl (by kernel_rfl) rfl (by intro w k; simp only [Held] at k; go_simp; try with_reducible rfl) hHeld ?_
        try simp only [lay]
        refine takeH 26 rfl (by kernel_rfl) rfl (by intro w k; simp only [Held] at k; go_simp; try with_reducible rfl) hHeld ?_
        try simp only [lay]
        have HBX := Lib.hid ((HB5'.out.drew).trans ((hba.trans ((hbb.trans (hbc.mono hbb.size)).mono hba.size)).mono (by exact HB5'.out.size)))
        clear hba hbb hbc
        have HLX := Lib.hid hHeld
        simp only [Held] at hHeld
        generalize wc = WX at *
        refine wpAnyH_done (by kernel_rfl) ?_ _
        refine NoPanic.normal ?_
        have hzX : T < WX.heap.size := World.block_lt_of_cell? _ _ hHeld.2.2.2.2.1
        obtain ⟨bc', bv', _, hi', hmean'⟩ := bits_both (Pl.tg bits) (by omega)
        have IMPL' := Lib.hid hi'
        have HBK : Hid (bc' = 0 ∧ Pl.okP bv' ∧ Pl.tg bv' = Pl.tg bits) := by
          rcases hmean' with ⟨h0, _, hb⟩ | ⟨_, hb⟩
          · exact ⟨h0, Pl.Best.back HBITS.out hb⟩
          · have := (Pl.Best.back HBITS.out (hb (by omega))).1
            unfold Pl.okP at this; omega
        clear hi' hmean'
        go_wp2_with fail
        refine (IMPL'.out _).mono ?_
        rintro e w6 ⟨rfl, hb6⟩
        have HB6 := Lib.hid (HBX.out.trans (hb6.mono HBX.out.size))
        have HL7 := Lib.hid ((HLX.out.same hb6).box2 rfl (.int .i64 bc') (.int .i64 bv') 26)
        obtain rfl : bc' = 0 := HBK.out.1
        clear hb6 hHeld
        obtain ⟨i0, hi, hz0, hz1, hz2⟩ := info_parts Tryinfo_u8
        have hsz6 : w.heap.size ≤ w6.heap.size := HB6.out.size
        have hown0 : ((w6.alloc (.cells #[.int .i64 0, .int .i64 bv'] 26)).alloc (.cells #[.int .u8 7] 5)).ownsRow (w6.heap.size + 1) 5 1 (.slice (some ⟨w6.heap.size + 1, 0, none⟩) 1 1) 1 [.int .u8 7] := by
          have := World.ownsRow_lit (base := w6.heap.size + 1) (e := 5) (size := 1) (w6.alloc (.cells #[.int .i64 0, .int .i64 bv'] 26)) #[.int .u8 7] 1 (by simp) (by simp [maxLen]) rfl
          simpa using this
        have HOWN0 := Lib.hid hown0
        have HS6 := Lib.hid (((HS.out.same HB6.out).same ((Below.refl _ _).alloc (Nat.le_refl _) (.cells #[.int .i64 0, .int .i64 bv'] 26))).same ((Below.refl _ _).alloc (Nat.le_refl _) (.cells #[.int .u8 7] 5)))
        have HB7 := Lib.hid ((HB6.out.alloc hsz6 (.cells #[.int .i64 0, .int .i64 bv'] 26)).alloc (by simp; omega) (.cells #[.int .u8 7] 5))
        have HL8 := Lib.hid (HL7.out.alloc (.cells #[.int .u8 7] 5))
        clear hown0
        cases a0 with
        | none =>
          obtain rfl : cap0 = 0 := HNIL.out rfl
          have h00 : zs.length = 0 := by omega
          have hzs0 : zs = [] := List.eq_nil_of_length_eq_zero h00
          subst hzs0
          go_wp2_with (at_builtin; refine wpList_append_own_none rfl _ _ 22 rfl (w6.heap.size + 1) 5 i0 1 Try.underlying22 hi _ _ _ rfl HOWN0.out rfl ?_)
          have HD : Hid (Sl .u8 ((w6.alloc (.cells #[.int .i64 0, .int .i64 bv'] 26)).alloc (.cells #[.int .u8 7] 5)) (.slice (some ⟨w6.heap.size + 1, 0, none⟩) 1 1) [7]) := Sl.of_owns HOWN0.out (by simp [Lit.wf, IntKind.min, IntKind.max, IntKind.signed, IntKind.bits])
          refine (DrawWorkOf_any _ [7] _ HD.out (by simp)).mono ?_
          rintro e w8 ⟨⟨other, rfl, ho0, ho1⟩, hb8⟩
          have HB8 := Lib.hid (HB7.out.trans (hb8.mono HB7.out.size))
          have HL9 := Lib.hid (HL8.out.same hb8)
          clear hb8
          go_wp2_with fail
          refine (implTargetOf_any other _ (by omega) (by omega)).mono ?_
          rintro e w9 ⟨rfl, hb9⟩
          have HB9 := Lib.hid (HB8.out.trans (hb9.mono HB8.out.size))
          have HL10 := Lib.hid ((HL9.out.same hb9).box2 rfl (.int .i64 (Pl.targetC other)) (.int .i64 (Pl.targetV other)) 26)
          have HB10 := Lib.hid (HB9.out.alloc HB9.out.size (.cells #[.int .i64 (Pl.targetC other), .int .i64 (Pl.targetV other)] 26))
          clear hb9
          go_wp2_with fail
          generalize w6.heap.size = Bk at *
          generalize w9.heap.size = Xk at *
          generalize w9.alloc (.cells #[.int .i64 (Pl.targetC other), .int .i64 (Pl.targetV other)] 26) = WY at *
          have hpos : 0 < Pl.tg bits := by omega
          have c1 : ∀ w, Calls Try.prog 14 #[.int .i64 bv'] w fun e w' => e = .returned (.agg #[.int .i64 0, .int .i64 (Pl.tg bits)]) ∧ Below w.heap.size w w' := fun w => by
            have hk := HBK.out.2.1
            have := implTargetOf_any bv' w (by unfold Pl.okP at hk; omega) (by unfold Pl.okP at hk; omega)
            simp only [Pl.targetC, Pl.targetV, Pl.okB_true.2 hk, if_true, HBK.out.2.2] at this
            exact this
          have C1 := Lib.hid c1
          have hl := HL10.out
          have HBY := HB10
          clear c1 htp
          by_cases hoth : Pl.okP other
          · have e4 : Pl.targetC other = 0 := by simp [Pl.targetC, Pl.okB_true.2 hoth]
            have e5 : Pl.targetV other = Pl.tg other := by simp [Pl.targetV, Pl.okB_true.2 hoth]
            rw [e4, e5] at hl ⊢
            have hwo : ∀ w, Calls Try.prog 15 #[.int .i64 other] w fun e w' => e = .returned (.agg #[.int .i64 0, .int .i64 (Pl.workV other)]) ∧ Below w.heap.size w w' := fun w => by
              have := implWorkOf_any other w (by omega) (by omega); rw [e4] at this; exact this
            have HWO := Lib.hid hwo
            have hwle : Pl.tg bits ≤ Pl.tg other → Pl.workV other ≤ Pl.workV bits := Pl.work_le HBITS.out hoth
            have HWLE := Lib.hid hwle
            have HLF := Lib.hid hl
            clear e4 e5 hwo hwle hl hoth HL10
            by_cases hlt : Pl.tg other < Pl.tg bits
            · refine wp_region_noPanic ?_
              refine wp_region_held_drew (S := fun w' => Held w' _) (by kernel_rfl) HLF.out.drew (fun hHeld => ?_)
              refine takeH 0 rfl (by kernel_rfl) rfl (by intro w k; simp only [Held] at k; go_simp; try with_reducible rfl) hHeld ?_
              try simp only [lay]
              refine takeH 1 rfl (by kernel_rfl) rfl (by intro w k; simp only [Held] at k; go_simp; try with_reducible rfl) hHeld ?_
              try simp only [lay]
              refine takeH 2 rfl (by kernel_rfl) rfl (by intro w k; simp only [Held] at k; go_simp; try with_reducible rfl) hHeld ?_
              try simp only [lay]
              refine takeH 3 rfl (by kernel_rfl) rfl (by intro w k; simp only [Held] at k; go_simp; try with_reducible rfl) hHeld ?_
              try simp only [lay]
              refine takeH 4 rfl (by kernel_rfl) rfl (by intro w k; simp only [Held] at k; go_simp; try with_reducible rfl) hHeld ?_
              try simp only [lay]
              refine takeH 5 rfl (by kernel_rfl) rfl (by intro w k; simp only [Held] at k; go_simp; try with_reducible rfl) hHeld ?_
              try simp only [lay]
              refine takeH 6 rfl (by kernel_rfl) rfl (by intro w k; simp only [Held] at k; go_simp; try with_reducible rfl) hHeld ?_
              try simp only [lay]
              refine takeH 7 rfl (by kernel_rfl) rfl (by intro w k; simp only [Held] at k; go_simp; try with_reducible rfl) hHeld ?_
              try simp only [lay]
              refine takeH 8 rfl (by kernel_rfl) rfl (by intro w k; simp only [Held] at k; go_simp; try with_reducible rfl) hHeld ?_
              try simp only [lay]
              refine takeH 9 rfl (by kernel_rfl) rfl (by intro w k; simp only [Held] at k; go_simp; try with_reducible rfl) hHeld ?_
              try simp only [lay]
              refine takeH 10 rfl (by kernel_rfl) rfl (by intro w k; simp only [Held] at k; go_simp; try with_reducible rfl) hHeld ?_
              try simp only [lay]
              refine takeH 13 rfl (by kernel_rfl) rfl (by intro w k; simp only [Held] at k; go_simp; try with_reducible rfl) hHeld ?_
              try simp only [lay]
              refine takeH 14 rfl (by kernel_rfl) rfl (by intro w k; simp only [Held] at k; go_simp; try with_reducible rfl) hHeld ?_
              try simp only [lay]
              refine callH 11 rfl (by kernel_rfl) rfl ?_
              intro K' hK
              go_simp
              refine (C1.out _).mono ?_
              rintro e wp ⟨rfl, hbp⟩
              refine hK.out _ _ (by exact Held.same hbp (by assumption)) (fun hHeld => ?_)
              clear hK K'
              try simp only [lay]
              refine takeH 12 rfl (by kernel_rfl) rfl (by intro w k; simp only [Held] at k; go_simp; try with_reducible rfl) hHeld ?_
              try simp only [lay]
              refine takeH 15 rfl (by kernel_rfl) rfl (by intro w k; simp only [Held] at k; go_simp; try with_reducible rfl) hHeld ?_
              try simp only [lay]
              refine takeH 16 rfl (by kernel_rfl) rfl (by intro w k; simp only [Held] at k; go_simp; try with_reducible rfl) hHeld ?_
              try simp only [lay]
              refine takeH 17 rfl (by kernel_rfl) rfl (by intro w k; simp only [Held] at k; go_simp; try with_reducible rfl) hHeld ?_
              try simp only [lay]
              refine takeH 18 rfl (by kernel_rfl) rfl (by intro w k; simp only [Held] at k; go_simp; try with_reducible rfl) hHeld ?_
              try simp only [lay]
              refine takeH 19 rfl (by kernel_rfl) rfl (by intro w k; simp only [Held] at k; go_simp; try with_reducible rfl) hHeld ?_
              try simp only [lay]
              refine takeH 20 rfl (by kernel_rfl) rfl (by intro w k; simp only [Held] at k; go_simp; try with_reducible rfl) hHeld ?_
              try simp only [lay]
              refine takeH 21 rfl (by kernel_rfl) rfl (by intro w k; simp only [Held] at k; go_simp; try with_reducible rfl) hHeld ?_
              try simp only [lay]
              refine takeH 22 rfl (by kernel_rfl) rfl (by intro w k; simp only [Held] at k; go_simp; try with_reducible rfl) hHeld ?_
              try simp only [lay]
              refine takeH 23 rfl (by kernel_rfl) rfl (by intro w k; simp only [Held] at k; go_simp; try with_reducible rfl) hHeld ?_
              try simp only [lay]
              refine takeH 24 rfl (by kernel_rfl) rfl (by intro w k; simp only [Held] at k; go_simp; try with_reducible rfl) hHeld ?_
              try simp only [lay]
              refine takeH 25 rfl (by kernel_rfl) rfl (by intro w k; simp only [Held] at k; go_simp; try with_reducible rfl) hHeld ?_
              try simp only [lay]
              refine takeH 26 rfl (by kernel_rfl) rfl (by intro w k; simp only [Held] at k; go_simp; try with_reducible rfl) hHeld ?_
              try simp only [lay]
              refine takeH 27 rfl (by kernel_rfl) rfl (by intro w k; simp only [Held] at k; go_simp; try with_reducible rfl) hHeld ?_
              try simp only [lay]
              refine takeH 28 rfl (by kernel_rfl) rfl (by intro w k; simp only [Held] at k; go_simp; try with_reducible rfl) hHeld ?_
              try simp only [lay]
              refine takeH 29 rfl (by kernel_rfl) rfl (by intro w k; simp only [Held] at k; go_simp; try with_reducible rfl) hHeld ?_
              try simp only [lay]
              refine takeH 30 rfl (by kernel_rfl) rfl (by intro w k; simp only [Held] at k; go_simp; try with_reducible rfl) hHeld ?_
              try simp only [lay]
              refine takeH 31 rfl (by kernel_rfl) rfl (by intro w k; simp only [Held] at k; go_simp; try with_reducible rfl) hHeld ?_
              try simp only [lay]
              refine takeH 32 rfl (by kernel_rfl) rfl (by intro w k; simp only [Held] at k; go_simp; try with_reducible rfl) hHeld ?_
              try simp only [lay]
              refine takeH 33 rfl (by kernel_rfl) rfl (by intro w k; simp only [Held] at k; go_simp; try with_reducible rfl) hHeld ?_
              try simp only [lay]
              refine takeH 34 rfl (by kernel_rfl) rfl (by intro w k; simp only [Held] at k; go_simp; try with_reducible rfl) hHeld ?_
              try simp only [lay]
              refine takeH 35 rfl (by kernel_rfl) rfl (by intro w k; simp only [Held] at k; go_simp; try with_reducible rfl) hHeld ?_
              try simp only [lay]
              refine takeH 36 rfl (by kernel_rfl) rfl (by intro w k; simp only [Held] at k; go_simp; try with_reducible rfl) hHeld ?_
              try simp only [lay]
              refine takeH 37 rfl (by kernel_rfl) rfl (by intro w k; simp only [Held] at k; go_simp; try with_reducible rfl) hHeld ?_
              try simp only [lay]
              refine takeH 38 rfl (by kernel_rfl) rfl (by intro w k; simp only [Held] at k; go_simp; try with_reducible rfl) hHeld ?_
              try simp only [lay]
              refine skipH 39 rfl (by kernel_rfl) rfl hHeld ?_
              try simp only [lay]
              refine skipH 40 rfl (by kernel_rfl) rfl hHeld ?_
              try simp only [lay]
              refine skipH 41 rfl (by kernel_rfl) rfl hHeld ?_
              try simp only [lay]
              refine skipH 42 rfl (by kernel_rfl) rfl hHeld ?_
              try simp only [lay]
              refine skipH 43 rfl (by kernel_rfl) rfl hHeld ?_
              try simp only [lay]
              refine skipH 44 rfl (by kernel_rfl) rfl hHeld ?_
              try simp only [lay]
              refine takeH 45 rfl (by kernel_rfl) rfl (by intro w k; simp only [Held] at k; go_simp; try with_reducible rfl) hHeld ?_
              try simp only [lay]
              refine takeH 46 rfl (by kernel_rfl) rfl (by intro w k; simp only [Held] at k; go_simp; try with_reducible rfl) hHeld ?_
              try simp only [lay]
              refine takeH 47 rfl (by kernel_rfl) rfl (by intro w k; simp only [Held] at k; go_simp; try with_reducible rfl) hHeld ?_
              try simp only [lay]
              refine takeH 48 rfl (by kernel_rfl) rfl (by intro w k; simp only [Held] at k; go_simp; try with_reducible rfl) hHeld ?_
              try simp only [lay]
              refine takeH 49 rfl (by kernel_rfl) rfl (by intro w k; simp only [Held] at k; go_simp; try with_reducible rfl) hHeld ?_
              try simp only [lay]
              refine takeH 50 rfl (by kernel_rfl) rfl (by intro w k; simp only [Held] at k; go_simp; try with_reducible rfl) hHeld ?_
              try simp only [lay]
              refine callH 51 rfl (by kernel_rfl) rfl ?_
              intro K' hK
              go_simp
              refine (HT.out _).mono ?_
              rintro e wq ⟨rfl, hbq⟩
              refine hK.out _ _ (by exact Held.same hbq (by assumption)) (fun hHeld => ?_)
              clear hK K'
              try simp only [lay]
              refine takeH 52 rfl (by kernel_rfl) rfl (by intro w k; simp only [Held] at k; go_simp; try with_reducible rfl) hHeld ?_
              try simp only [lay]
              refine takeH 53 rfl (by kernel_rfl) rfl (by intro w k; simp only [Held] at k; go_simp; try with_reducible rfl) hHeld ?_
              try simp only [lay]
              refine takeH 54 rfl (by kernel_rfl) rfl (by intro w k; simp only [Held] at k; go_simp; try with_reducible rfl) hHeld ?_
              try simp only [lay]
              refine takeH 55 rfl (by kernel_rfl) rfl (by intro w k; simp only [Held] at k; go_simp; try with_reducible rfl) hHeld ?_
              try simp only [lay]
              refine wpAnyH_done (by kernel_rfl) ?_ _
              refine NoPanic.normal ?_
              have HBZ := Lib.hid ((HBY.out.drew).trans ((hbp.trans (hbq.mono hbp.size)).mono (by exact HBY.out.size)))
              clear hbp hbq hHeld
              go_wp2
              go_ret
              exact ⟨rfl, HBZ.out⟩
            · have hwl : Pl.workV other ≤ Pl.workV bits := HWLE.out (by omega)
              refine wp_region_noPanic ?_
              refine wp_region_held_drew (S := fun w' => Held w' _) (by kernel_rfl) HLF.out.drew (fun hHeld => ?_)
              refine takeH 0 rfl (by kernel_rfl) rfl (by intro w k; simp only [Held] at k; go_simp; try with_reducible rfl) hHeld ?_
              try simp only [lay]
              refine takeH 1 rfl (by kernel_rfl) rfl (by intro w k; simp only [Held] at k; go_simp; try with_reducible rfl) hHeld ?_
              try simp only [lay]
              refine takeH 2 rfl (by kernel_rfl) rfl (by intro w k; simp only [Held] at k; go_simp; try with_reducible rfl) hHeld ?_
              try simp only [lay]
              refine takeH 3 rfl (by kernel_rfl) rfl (by intro w k; simp only [Held] at k; go_simp; try with_reducible rfl) hHeld ?_
              try simp only [lay]
              refine takeH 4 rfl (by kernel_rfl) rfl (by intro w k; simp only [Held] at k; go_simp; try with_reducible rfl) hHeld ?_
              try simp only [lay]
              refine takeH 5 rfl (by kernel_rfl) rfl (by intro w k; simp only [Held] at k; go_simp; try with_reducible rfl) hHeld ?_
              try simp only [lay]
              refine takeH 6 rfl (by kernel_rfl) rfl (by intro w k; simp only [Held] at k; go_simp; try with_reducible rfl) hHeld ?_
              try simp only [lay]
              refine takeH 7 rfl (by kernel_rfl) rfl (by intro w k; simp only [Held] at k; go_simp; try with_reducible rfl) hHeld ?_
              try simp only [lay]
              refine takeH 8 rfl (by kernel_rfl) rfl (by intro w k; simp only [Held] at k; go_simp; try with_reducible rfl) hHeld ?_
              try simp only [lay]
              refine takeH 9 rfl (by kernel_rfl) rfl (by intro w k; simp only [Held] at k; go_simp; try with_reducible rfl) hHeld ?_
              try simp only [lay]
              refine takeH 10 rfl (by kernel_rfl) rfl (by intro w k; simp only [Held] at k; go_simp; try with_reducible rfl) hHeld ?_
              try simp only [lay]
              refine takeH 13 rfl (by kernel_rfl) rfl (by intro w k; simp only [Held] at k; go_simp; try with_reducible rfl) hHeld ?_
              try simp only [lay]
              refine takeH 14 rfl (by kernel_rfl) rfl (by intro w k; simp only [Held] at k; go_simp; try with_reducible rfl) hHeld ?_
              try simp only [lay]
              refine callH 11 rfl (by kernel_rfl) rfl ?_
              intro K' hK
              go_simp
              refine (C1.out _).mono ?_
              rintro e wp ⟨rfl, hbp⟩
              refine hK.out _ _ (by exact Held.same hbp (by assumption)) (fun hHeld => ?_)
              clear hK K'
              try simp only [lay]
              refine takeH 12 rfl (by kernel_rfl) rfl (by intro w k; simp only [Held] at k; go_simp; try with_reducible rfl) hHeld ?_
              try simp only [lay]
              refine takeH 15 rfl (by kernel_rfl) rfl (by intro w k; simp only [Held] at k; go_simp; try with_reducible rfl) hHeld ?_
              try simp only [lay]
              refine takeH 16 rfl (by kernel_rfl) rfl (by intro w k; simp only [Held] at k; go_simp; try with_reducible rfl) hHeld ?_
              try simp only [lay]
              refine takeH 17 rfl (by kernel_rfl) rfl (by intro w k; simp only [Held] at k; go_simp; try with_reducible rfl) hHeld ?_
              try simp only [lay]
              refine takeH 18 rfl (by kernel_rfl) rfl (by intro w k; simp only [Held] at k; go_simp; try with_reducible rfl) hHeld ?_
              try simp only [lay]
              refine takeH 19 rfl (by kernel_rfl) rfl (by intro w k; simp only [Held] at k; go_simp; try with_reducible rfl) hHeld ?_
              try simp only [lay]
              refine takeH 20 rfl (by kernel_rfl) rfl (by intro w k; simp only [Held] at k; go_simp; try with_reducible rfl) hHeld ?_
              try simp only [lay]
              refine takeH 21 rfl (by kernel_rfl) rfl (by intro w k; simp only [Held] at k; go_simp; try with_reducible rfl) hHeld ?_
              try simp only [lay]
              refine takeH 22 rfl (by kernel_rfl) rfl (by intro w k; simp only [Held] at k; go_simp; try with_reducible rfl) hHeld ?_
              try simp only [lay]
              refine takeH 23 rfl (by kernel_rfl) rfl (by intro w k; simp only [Held] at k; go_simp; try with_reducible rfl) hHeld ?_
              try simp only [lay]
              refine takeH 24 rfl (by kernel_rfl) rfl (by intro w k; simp only [Held] at k; go_simp; try with_reducible rfl) hHeld ?_
              try simp only [lay]
              refine takeH 25 rfl (by kernel_rfl) rfl (by intro w k; simp only [Held] at k; go_simp; try with_reducible rfl) hHeld ?_
              try simp only [lay]
              refine takeH 26 rfl (by kernel_rfl) rfl (by intro w k; simp only [Held] at k; go_simp; try with_reducible rfl) hHeld ?_
              try simp only [lay]
              refine takeH 27 rfl (by kernel_rfl) rfl (by intro w k; simp only [Held] at k; go_simp; try with_reducible rfl) hHeld ?_
              try simp only [lay]
              refine takeH 28 rfl (by kernel_rfl) rfl (by intro w k; simp only [Held] at k; go_simp; try with_reducible rfl) hHeld ?_
              try simp only [lay]
              refine takeH 29 rfl (by kernel_rfl) rfl (by intro w k; simp only [Held] at k; go_simp; try with_reducible rfl) hHeld ?_
              try simp only [lay]
              refine takeH 30 rfl (by kernel_rfl) rfl (by intro w k; simp only [Held] at k; go_simp; try with_reducible rfl) hHeld ?_
              try simp only [lay]
              refine takeH 31 rfl (by kernel_rfl) rfl (by intro w k; simp only [Held] at k; go_simp; try with_reducible rfl) hHeld ?_
              try simp only [lay]
              refine takeH 32 rfl (by kernel_rfl) rfl (by intro w k; simp only [Held] at k; go_simp; try with_reducible rfl) hHeld ?_
              try simp only [lay]
              refine takeH 33 rfl (by kernel_rfl) rfl (by intro w k; simp only [Held] at k; go_simp; try with_reducible rfl) hHeld ?_
              try simp only [lay]
              refine takeH 34 rfl (by kernel_rfl) rfl (by intro w k; simp only [Held] at k; go_simp; try with_reducible rfl) hHeld ?_
              try simp only [lay]
              refine takeH 35 rfl (by kernel_rfl) rfl (by intro w k; simp only [Held] at k; go_simp; try with_reducible rfl) hHeld ?_
              try simp only [lay]
              refine takeH 36 rfl (by kernel_rfl) rfl (by intro w k; simp only [Held] at k; go_simp; try with_reducible rfl) hHeld ?_
              try simp only [lay]
              refine takeH 37 rfl (by kernel_rfl) rfl (by intro w k; simp only [Held] at k; go_simp; try with_reducible rfl) hHeld ?_
              try simp only [lay]
              refine takeH 38 rfl (by kernel_rfl) rfl (by intro w k; simp only [Held] at k; go_simp; try with_reducible rfl) hHeld ?_
              try simp only [lay]
              refine takeH 39 rfl (by kernel_rfl) rfl (by intro w k; simp only [Held] at k; go_simp; try with_reducible rfl) hHeld ?_
              try simp only [lay]
              refine takeH 42 rfl (by kernel_rfl) rfl (by intro w k; simp only [Held] at k; go_simp; try with_reducible rfl) hHeld ?_
              try simp only [lay]
              refine takeH 43 rfl (by kernel_rfl) rfl (by intro w k; simp only [Held] at k; go_simp; try with_reducible rfl) hHeld ?_
              try simp only [lay]
              refine callH 40 rfl (by kernel_rfl) rfl ?_
              intro K' hK
              go_simp
              refine (HWO.out _).mono ?_
              rintro e wr ⟨rfl, hbr⟩
              refine hK.out _ _ (by exact Held.same hbr (by assumption)) (fun hHeld => ?_)
              clear hK K'
              try simp only [lay]
              refine takeH 41 rfl (by kernel_rfl) rfl (by intro w k; simp only [Held] at k; go_simp; try with_reducible rfl) hHeld ?_
              try simp only [lay]
              refine takeH 44 rfl (by kernel_rfl) rfl (by intro w k; simp only [Held] at k; go_simp; try with_reducible rfl) hHeld ?_
              try simp only [lay]
              refine takeH 45 rfl (by kernel_rfl) rfl (by intro w k; simp only [Held] at k; go_simp; try with_reducible rfl) hHeld ?_
              try simp only [lay]
              refine takeH 46 rfl (by kernel_rfl) rfl (by intro w k; simp only [Held] at k; go_simp; try with_reducible rfl) hHeld ?_
              try simp only [lay]
              refine takeH 47 rfl (by kernel_rfl) rfl (by intro w k; simp only [Held] at k; go_simp; try with_reducible rfl) hHeld ?_
              try simp only [lay]
              refine takeH 48 rfl (by kernel_rfl) rfl (by intro w k; simp only [Held] at k; go_simp; try with_reducible rfl) hHeld ?_
              try simp only [lay]
              refine takeH 49 rfl (by kernel_rfl) rfl (by intro w k; simp only [Held] at k; go_simp; try with_reducible rfl) hHeld ?_
              try simp only [lay]
              refine takeH 50 rfl (by kernel_rfl) rfl (by intro w k; simp only [Held] at k; go_simp; try with_reducible rfl) hHeld ?_
              try simp only [lay]
              refine callH 51 rfl (by kernel_rfl) rfl ?_
              intro K' hK
              go_simp
              refine (HT.out _).mono ?_
              rintro e wq ⟨rfl, hbq⟩
              refine hK.out _ _ (by exact Held.same hbq (by assumption)) (fun hHeld => ?_)
              clear hK K'
              try simp only [lay]
              refine takeH 52 rfl (by kernel_rfl) rfl (by intro w k; simp only [Held] at k; go_simp; try with_reducible rfl) hHeld ?_
              try simp only [lay]
              refine takeH 53 rfl (by kernel_rfl) rfl (by intro w k; simp only [Held] at k; go_simp; try with_reducible rfl) hHeld ?_
              try simp only [lay]
              refine takeH 54 rfl (by kernel_rfl) rfl (by intro w k; simp only [Held] at k; go_simp; try with_reducible rfl) hHeld ?_
              try simp only [lay]
              refine takeH 55 rfl (by kernel_rfl) rfl (by intro w k; simp only [Held] at k; go_simp; try with_reducible rfl) hHeld ?_
              try simp only [lay]
              refine wpAnyH_done (by kernel_rfl) ?_ _
              refine NoPanic.normal ?_
              have HBZ := Lib.hid ((HBY.out.drew).trans ((hbp.trans ((hbr.trans (hbq.mono hbr.size)).mono hbp.size)).mono (by exact HBY.out.size)))
              clear hbp hbq hbr hHeld
              go_wp2
              go_ret
              exact ⟨rfl, HBZ.out⟩
          · have e4 : Pl.targetC other = 3 := by simp [Pl.targetC, Pl.okB_false.2 hoth]
            have e5 : Pl.targetV other = 0 := by simp [Pl.targetV, Pl.okB_false.2 hoth]
            rw [e4, e5] at hl ⊢
            have HLF := Lib.hid hl
            clear e4 e5 hl hoth HL10
            refine wp_region_noPanic ?_
            refine wp_region_held_drew (S := fun w' => Held w' _) (by kernel_rfl) HLF.out.drew (fun hHeld => ?_)
            refine takeH 0 rfl (by kernel_rfl) rfl (by intro w k; simp only [Held] at k; go_simp; try with_reducible rfl) hHeld ?_
            try simp only [lay]
            refine takeH 1 rfl (by kernel_rfl) rfl (by intro w k; simp only [Held] at k; go_simp; try with_reducible rfl) hHeld ?_
            try simp only [lay]
            refine takeH 2 rfl (by kernel_rfl) rfl (by intro w k; simp only [Held] at k; go_simp; try with_reducible rfl) hHeld ?_
            try simp only [lay]
            refine takeH 3 rfl (by kernel_rfl) rfl (by intro w k; simp only [Held] at k; go_simp; try with_reducible rfl) hHeld ?_
            try simp only [lay]
            refine takeH 4 rfl (by kernel_rfl) rfl (by intro w k; simp only [Held] at k; go_simp; try with_reducible rfl) hHeld ?_
            try simp only [lay]
            refine takeH 5 rfl (by kernel_rfl) rfl (by intro w k; simp only [Held] at k; go_simp; try with_reducible rfl) hHeld ?_
            try simp only [lay]
            refine takeH 6 rfl (by kernel_rfl) rfl (by intro w k; simp only [Held] at k; go_simp; try with_reducible rfl) hHeld ?_
            try simp only [lay]
            refine takeH 7 rfl (by kernel_rfl) rfl (by intro w k; simp only [Held] at k; go_simp; try with_reducible rfl) hHeld ?_
            try simp only [lay]
            refine takeH 8 rfl (by kernel_rfl) rfl (by intro w k; simp only [Held] at k; go_simp; try with_reducible rfl) hHeld ?_
            try simp only [lay]
            refine takeH 9 rfl (by kernel_rfl) rfl (by intro w k; simp only [Held] at k; go_simp; try with_reducible rfl) hHeld ?_
            try simp only [lay]
            refine takeH 10 rfl (by kernel_rfl) rfl (by intro w k; simp only [Held] at k; go_simp; try with_reducible rfl) hHeld ?_
            try simp only [lay]
            refine takeH 13 rfl (by kernel_rfl) rfl (by intro w k; simp only [Held] at k; go_simp; try with_reducible rfl) hHeld ?_
            try simp only [lay]
            refine takeH 14 rfl (by kernel_rfl) rfl (by intro w k; simp only [Held] at k; go_simp; try with_reducible rfl) hHeld ?_
            try simp only [lay]
            refine callH 11 rfl (by kernel_rfl) rfl ?_
            intro K' hK
            go_simp
            refine (C1.out _).mono ?_
            rintro e wp ⟨rfl, hbp⟩
            refine hK.out _ _ (by exact Held.same hbp (by assumption)) (fun hHeld => ?_)
            clear hK K'
            try simp only [lay]
            refine takeH 12 rfl (by kernel_rfl) rfl (by intro w k; simp only [Held] at k; go_simp; try with_reducible rfl) hHeld ?_
            try simp only [lay]
            refine takeH 15 rfl (by kernel_rfl) rfl (by intro w k; simp only [Held] at k; go_simp; try with_reducible rfl) hHeld ?_
            try simp only [lay]
            refine takeH 16 rfl (by kernel_rfl) rfl (by intro w k; simp only [Held] at k; go_simp; try with_reducible rfl) hHeld ?_
            try simp only [lay]
            refine takeH 17 rfl (by kernel_rfl) rfl (by intro w k; simp only [Held] at k; go_simp; try with_reducible rfl) hHeld ?_
            try simp only [lay]
            refine takeH 18 rfl (by kernel_rfl) rfl (by intro w k; simp only [Held] at k; go_simp; try with_reducible rfl) hHeld ?_
            try simp only [lay]
            refine takeH 19 rfl (by kernel_rfl) rfl (by intro w k; simp only [Held] at k; go_simp; try with_reducible rfl) hHeld ?_
            try simp only [lay]
            refine takeH 20 rfl (by kernel_rfl) rfl (by intro w k; simp only [Held] at k; go_simp; try with_reducible rfl) hHeld ?_
            try simp only [lay]
            refine takeH 21 rfl (by kernel_rfl) rfl (by intro w k; simp only [Held] at k; go_simp; try with_reducible rfl) hHeld ?_
            try simp only [lay]
            refine takeH 22 rfl (by kernel_rfl) rfl (by intro w k; simp only [Held] at k; go_simp; try with_reducible rfl) hHeld ?_
            try simp only [lay]
            refine takeH 23 rfl (by kernel_rfl) rfl (by intro w k; simp only [Held] at k; go_simp; try with_reducible rfl) hHeld ?_
            try simp only [lay]
            refine takeH 24 rfl (by kernel_rfl) rfl (by intro w k; simp only [Held] at k; go_simp; try with_reducible rfl) hHeld ?_
            try simp only [lay]
            refine takeH 25 rfl (by kernel_rfl) rfl (by intro w k; simp only [Held] at k; go_simp; try with_reducible rfl) hHeld ?_
            try simp only [lay]
            refine takeH 26 rfl (by kernel_rfl) rfl (by intro w k; simp only [Held] at k; go_simp; try with_reducible rfl) hHeld ?_
            try simp only [lay]
            refine takeH 27 rfl (by kernel_rfl) rfl (by intro w k; simp only [Held] at k; go_simp; try with_reducible rfl) hHeld ?_
            try simp only [lay]
            refine takeH 28 rfl (by kernel_rfl) rfl (by intro w k; simp only [Held] at k; go_simp; try with_reducible rfl) hHeld ?_
            try simp only [lay]
            refine takeH 29 rfl (by kernel_rfl) rfl (by intro w k; simp only [Held] at k; go_simp; try with_reducible rfl) hHeld ?_
            try simp only [lay]
            refine takeH 30 rfl (by kernel_rfl) rfl (by intro w k; simp only [Held] at k; go_simp; try with_reducible rfl) hHeld ?_
            try simp only [lay]
            refine takeH 31 rfl (by kernel_rfl) rfl (by intro w k; simp only [Held] at k; go_simp; try with_reducible rfl) hHeld ?_
            try simp only [lay]
            refine skipH 32 rfl (by kernel_rfl) rfl hHeld ?_
            try simp only [lay]
            refine skipH 33 rfl (by kernel_rfl) rfl hHeld ?_
            try simp only [lay]
            refine skipH 34 rfl (by kernel_rfl) rfl hHeld ?_
            try simp only [lay]
            refine skipH 35 rfl (by kernel_rfl) rfl hHeld ?_
            try simp only [lay]
            refine skipH 36 rfl (by kernel_rfl) rfl hHeld ?_
            try simp only [lay]
            refine takeH 37 rfl (by kernel_rfl) rfl (by intro w k; simp only [Held] at k; go_simp; try with_reducible rfl) hHeld ?_
            try simp only [lay]
            refine takeH 38 rfl (by kernel_rfl) rfl (by intro w k; simp only [Held] at k; go_simp; try with_reducible rfl) hHeld ?_
            try simp only [lay]
            refine skipH 39 rfl (by kernel_rfl) rfl hHeld ?_
            try simp only [lay]
            refine skipH 40 rfl (by kernel_rfl) rfl hHeld ?_
            try simp only [lay]
            refine skipH 41 rfl (by kernel_rfl) rfl hHeld ?_
            try simp only [lay]
            refine skipH 42 rfl (by kernel_rfl) rfl hHeld ?_
            try simp only [lay]
            refine skipH 43 rfl (by kernel_rfl) rfl hHeld ?_
            try simp only [lay]
            refine skipH 44 rfl (by kernel_rfl) rfl hHeld ?_
            try simp only [lay]
            refine takeH 45 rfl (by kernel_rfl) rfl (by intro w k; simp only [Held] at k; go_simp; try with_reducible rfl) hHeld ?_
            try simp only [lay]
            refine takeH 46 rfl (by kernel_rfl) rfl (by intro w k; simp only [Held] at k; go_simp; try with_reducible rfl) hHeld ?_
            try simp only [lay]
            refine takeH 47 rfl (by kernel_rfl) rfl (by intro w k; simp only [Held] at k; go_simp; try with_reducible rfl) hHeld ?_
            try simp only [lay]
            refine takeH 48 rfl (by kernel_rfl) rfl (by intro w k; simp only [Held] at k; go_simp; try with_reducible rfl) hHeld ?_
            try simp only [lay]
            refine takeH 49 rfl (by kernel_rfl) rfl (by intro w k; simp only [Held] at k; go_simp; try with_reducible rfl) hHeld ?_
            try simp only [lay]
            refine takeH 50 rfl (by kernel_rfl) rfl (by intro w k; simp only [Held] at k; go_simp; try with_reducible rfl) hHeld ?_
            try simp only [lay]
            refine callH 51 rfl (by kernel_rfl) rfl ?_
            intro K' hK
            go_simp
            refine (HT.out _).mono ?_
            rintro e wq ⟨rfl, hbq⟩
            refine hK.out _ _ (by exact Held.same hbq (by assumption)) (fun hHeld => ?_)
            clear hK K'
            try simp only [lay]
            refine takeH 52 rfl (by kernel_rfl) rfl (by intro w k; simp only [Held] at k; go_simp; try with_reducible rfl) hHeld ?_
            try simp only [lay]
            refine takeH 53 rfl (by kernel_rfl) rfl (by intro w k; simp only [Held] at k; go_simp; try with_reducible rfl) hHeld ?_
            try simp only [lay]
            refine takeH 54 rfl (by kernel_rfl) rfl (by intro w k; simp only [Held] at k; go_simp; try with_reducible rfl) hHeld ?_
            try simp only [lay]
            refine takeH 55 rfl (by kernel_rfl) rfl (by intro w k; simp only [Held] at k; go_simp; try with_reducible rfl) hHeld ?_
            try simp only [lay]
            refine wpAnyH_done (by kernel_rfl) ?_ _
            refine NoPanic.normal ?_
            have HBZ := Lib.hid ((HBY.out.drew).trans ((hbp.trans (hbq.mono hbp.size)).mono (by exact HBY.out.size)))
            clear hbp hbq hHeld
            go_wp2
            go_ret
            exact ⟨rfl, HBZ.out⟩
        | some ad =>
          obtain ⟨a_, cap_, hv_, _, _, hne_, hw_⟩ := HS6.out
          simp only [Value.slice.injEq] at hv_
          obtain ⟨rfl, _, _⟩ := hv_
          have hnews : ∀ j u, (zs.map (Value.int .u8))[j]? = some u → ((w6.alloc (.cells #[.int .i64 0, .int .i64 bv'] 26)).alloc (.cells #[.int .u8 7] 5)).cell? (ad.add j) = some u := by
            intro j u hj
            have hjl : j < zs.length := by
              have := List.getElem?_eq_some_iff.1 hj
              obtain ⟨h, _⟩ := this; simpa using h
            obtain ⟨b_, off_, e_, hc_⟩ := hne_ (by omega)
            simp only [Option.some.injEq] at e_
            subst e_
            have e2 : (⟨b_, off_, none⟩ : Addr).add j = ⟨b_, off_ + j, none⟩ := by simp only [Addr.add]; split <;> simp_all
            rw [e2, hc_ j hjl]
            rw [List.getElem?_map, List.getElem?_eq_getElem hjl] at hj
            simp only [Option.map_some, Option.some.injEq] at hj
            rw [← hj]; simp [List.getD_eq_getElem?_getD, hjl]
          have HNEWS := Lib.hid hnews
          have HWF := Lib.hid hw_
          clear hnews hne_ hw_
          go_wp2_with (at_builtin; refine wpList_append_own _ rfl _ _ 22 rfl (w6.heap.size + 1) 5 i0 (.int .u8 0) 1 1 Try.underlying22 hi hz0 hz1 hz2 rfl (by decide) _ _ _ rfl HOWN0.out ad zs.length _ (zs.map (Value.int .u8)) rfl (by simp) HNEWS.out (ints_one _ _) (by unfold maxLen; omega) (by omega) (by rw [World.size_alloc, World.size_alloc]; omega) ?_; intro v7 WA hown7 hgrow7 _)
          have HD : Hid (Sl .u8 WA v7 (7 :: zs)) := by
            refine Sl.of_owns (zs := 7 :: zs) (by simpa [Nat.add_comm] using hown7) ?_
            intro n hn
            rcases List.mem_cons.1 hn with rfl | hn
            · simp [Lit.wf, IntKind.min, IntKind.max, IntKind.signed, IntKind.bits]
            · exact HWF.out n hn
          have hbw : Below (w6.heap.size + 1) ((w6.alloc (.cells #[.int .i64 0, .int .i64 bv'] 26)).alloc (.cells #[.int .u8 7] 5)) WA := (Below.refl _ _).grown hgrow7 (by simp) (fun g hg => (HOWN0.out.lt g hg).1)
          have HB7' := Lib.hid (HB7.out.trans (hbw.mono (by omega)))
          have hk : Below (w6.alloc (.cells #[.int .i64 0, .int .i64 bv'] 26)).heap.size (w6.alloc (.cells #[.int .i64 0, .int .i64 bv'] 26)) WA := by
            rw [World.size_alloc]; exact ((Below.refl _ _).alloc (by rw [World.size_alloc]; exact Nat.le_refl _) _).trans hbw
          have HL8' := Lib.hid (HL7.out.same hk)
          clear HB7 HL8 hbw hown7 hgrow7 hk
          refine (DrawWorkOf_any _ (7 :: zs) _ HD.out (by simp; omega)).mono ?_
          have HB7 := HB7'
          have HL8 := HL8'
          rintro e w8 ⟨⟨other, rfl, ho0, ho1⟩, hb8⟩
          have HB8 := Lib.hid (HB7.out.trans (hb8.mono HB7.out.size))
          have HL9 := Lib.hid (HL8.out.same hb8)
          clear hb8
          go_wp2_with fail
          refine (implTargetOf_any other _ (by omega) (by omega)).mono ?_
          rintro e w9 ⟨rfl, hb9⟩
          have HB9 := Lib.hid (HB8.out.trans (hb9.mono HB8.out.size))
          have HL10 := Lib.hid ((HL9.out.same hb9).box2 rfl (.int .i64 (Pl.targetC other)) (.int .i64 (Pl.targetV other)) 26)
          have HB10 := Lib.hid (HB9.out.alloc HB9.out.size (.cells #[.int .i64 (Pl.targetC other), .int .i64 (Pl.targetV other)] 26))
          clear hb9
          go_wp2_with fail
          generalize w6.heap.size = Bk at *
          generalize w9.heap.size = Xk at *
          generalize w9.alloc (.cells #[.int .i64 (Pl.targetC other), .int .i64 (Pl.targetV other)] 26) = WY at *
          have hpos : 0 < Pl.tg bits := by omega
          have c1 : ∀ w, Calls Try.prog 14 #[.int .i64 bv'] w fun e w' => e = .returned (.agg #[.int .i64 0, .int .i64 (Pl.tg bits)]) ∧ Below w.heap.size w w' := fun w => by
            have hk := HBK.out.2.1
            have := implTargetOf_any bv' w (by unfold Pl.okP at hk; omega) (by unfold Pl.okP at hk; omega)
            simp only [Pl.targetC, Pl.targetV, Pl.okB_true.2 hk, if_true, HBK.out.2.2] at this
            exact this
          have C1 := Lib.hid c1
          have hl := HL10.out
          have HBY := HB10
          clear c1 htp
          by_cases hoth : Pl.okP other
          · have e4 : Pl.targetC other = 0 := by simp [Pl.targetC, Pl.okB_true.2 hoth]
            have e5 : Pl.targetV other = Pl.tg other := by simp [Pl.targetV, Pl.okB_true.2 hoth]
            rw [e4, e5] at hl ⊢
            have hwo : ∀ w, Calls Try.prog 15 #[.int .i64 other] w fun e w' => e = .returned (.agg #[.int .i64 0, .int .i64 (Pl.workV other)]) ∧ Below w.heap.size w w' := fun w => by
              have := implWorkOf_any other w (by omega) (by omega); rw [e4] at this; exact this
            have HWO := Lib.hid hwo
            have hwle : Pl.tg bits ≤ Pl.tg other → Pl.workV other ≤ Pl.workV bits := Pl.work_le HBITS.out hoth
            have HWLE := Lib.hid hwle
            have HLF := Lib.hid hl
            clear e4 e5 hwo hwle hl hoth HL10
            by_cases hlt : Pl.tg other < Pl.tg bits
            · refine wp_region_noPanic ?_
              refine wp_region_held_drew (S := fun w' => Held w' _) (by kernel_rfl) HLF.out.drew (fun hHeld => ?_)
              refine takeH 0 rfl (by kernel_rfl) rfl (by intro w k; simp only [Held] at k; go_simp; try with_reducible rfl) hHeld ?_
              try simp only [lay]
              refine takeH 1 rfl (by kernel_rfl) rfl (by intro w k; simp only [Held] at k; go_simp; try with_reducible rfl) hHeld ?_
              try simp only [lay]
              refine takeH 2 rfl (by kernel_rfl) rfl (by intro w k; simp only [Held] at k; go_simp; try with_reducible rfl) hHeld ?_
              try simp only [lay]
              refine takeH 3 rfl (by kernel_rfl) rfl (by intro w k; simp only [Held] at k; go_simp; try with_reducible rfl) hHeld ?_
              try simp only [lay]
              refine takeH 4 rfl (by kernel_rfl) rfl (by intro w k; simp only [Held] at k; go_simp; try with_reducible rfl) hHeld ?_
              try simp only [lay]
              refine takeH 5 rfl (by kernel_rfl) rfl (by intro w k; simp only [Held] at k; go_simp; try with_reducible rfl) hHeld ?_
              try simp only [lay]
              refine takeH 6 rfl (by kernel_rfl) rfl (by intro w k; simp only [Held] at k; go_simp; try with_reducible rfl) hHeld ?_
              try simp only [lay]
              refine takeH 7 rfl (by kernel_rfl) rfl (by intro w k; simp only [Held] at k; go_simp; try with_reducible rfl) hHeld ?_
              try simp only [lay]
              refine takeH 8 rfl (by kernel_rfl) rfl (by intro w k; simp only [Held] at k; go_simp; try with_reducible rfl) hHeld ?_
              try simp only [lay]
              refine takeH 9 rfl (by kernel_rfl) rfl (by intro w k; simp only [Held] at k; go_simp; try with_reducible rfl) hHeld ?_
              try simp only [lay]
              refine takeH 10 rfl (by kernel_rfl) rfl (by intro w k; simp only [Held] at k; go_simp; try with_reducible rfl) hHeld ?_
              try simp only [lay]
              refine takeH 13 rfl (by kernel_rfl) rfl (by intro w k; simp only [Held] at k; go_simp; try with_reducible rfl) hHeld ?_
              try simp only [lay]
              refine takeH 14 rfl (by kernel_rfl) rfl (by intro w k; simp only [Held] at k; go_simp; try with_reducible rfl) hHeld ?_
              try simp only [lay]
              refine callH 11 rfl (by kernel_rfl) rfl ?_
              intro K' hK
              go_simp
              refine (C1.out _).mono ?_
              rintro e wp ⟨rfl, hbp⟩
              refine hK.out _ _ (by exact Held.same hbp (by assumption)) (fun hHeld => ?_)
              clear hK K'
              try simp only [lay]
              refine takeH 12 rfl (by kernel_rfl) rfl (by intro w k; simp only [Held] at k; go_simp; try with_reducible rfl) hHeld ?_
              try simp only [lay]
              refine takeH 15 rfl (by kernel_rfl) rfl (by intro w k; simp only [Held] at k; go_simp; try with_reducible rfl) hHeld ?_
              try simp only [lay]
              refine takeH 16 rfl (by kernel_rfl) rfl (by intro w k; simp only [Held] at k; go_simp; try with_reducible rfl) hHeld ?_
              try simp only [lay]
              refine takeH 17 rfl (by kernel_rfl) rfl (by intro w k; simp only [Held] at k; go_simp; try with_reducible rfl) hHeld ?_
              try simp only [lay]
              refine takeH 18 rfl (by kernel_rfl) rfl (by intro w k; simp only [Held] at k; go_simp; try with_reducible rfl) hHeld ?_
              try simp only [lay]
              refine takeH 19 rfl (by kernel_rfl) rfl (by intro w k; simp only [Held] at k; go_simp; try with_reducible rfl) hHeld ?_
              try simp only [lay]
              refine takeH 20 rfl (by kernel_rfl) rfl (by intro w k; simp only [Held] at k; go_simp; try with_reducible rfl) hHeld ?_
              try simp only [lay]
              refine takeH 21 rfl (by kernel_rfl) rfl (by intro w k; simp only [Held] at k; go_simp; try with_reducible rfl) hHeld ?_
              try simp only [lay]
              refine takeH 22 rfl (by kernel_rfl) rfl (by intro w k; simp only [Held] at k; go_simp; try with_reducible rfl) hHeld ?_
              try simp only [lay]
              refine takeH 23 rfl (by kernel_rfl) rfl (by intro w k; simp only [Held] at k; go_simp; try with_reducible rfl) hHeld ?_
              try simp only [lay]
              refine takeH 24 rfl (by kernel_rfl) rfl (by intro w k; simp only [Held] at k; go_simp; try with_reducible rfl) hHeld ?_
              try simp only [lay]
              refine takeH 25 rfl (by kernel_rfl) rfl (by intro w k; simp only [Held] at k; go_simp; try with_reducible rfl) hHeld ?_
              try simp only [lay]
              refine takeH 26 rfl (by kernel_rfl) rfl (by intro w k; simp only [Held] at k; go_simp; try with_reducible rfl) hHeld ?_
              try simp only [lay]
              refine takeH 27 rfl (by kernel_rfl) rfl (by intro w k; simp only [Held] at k; go_simp; try with_reducible rfl) hHeld ?_
              try simp only [lay]
              refine takeH 28 rfl (by kernel_rfl) rfl (by intro w k; simp only [Held] at k; go_simp; try with_reducible rfl) hHeld ?_
              try simp only [lay]
              refine takeH 29 rfl (by kernel_rfl) rfl (by intro w k; simp only [Held] at k; go_simp; try with_reducible rfl) hHeld ?_
              try simp only [lay]
              refine takeH 30 rfl (by kernel_rfl) rfl (by intro w k; simp only [Held] at k; go_simp; try with_reducible rfl) hHeld ?_
              try simp only [lay]
              refine takeH 31 rfl (by kernel_rfl) rfl (by intro w k; simp only [Held] at k; go_simp; try with_reducible rfl) hHeld ?_
              try simp only [lay]
              refine takeH 32 rfl (by kernel_rfl) rfl (by intro w k; simp only [Held] at k; go_simp; try with_reducible rfl) hHeld ?_
              try simp only [lay]
              refine takeH 33 rfl (by kernel_rfl) rfl (by intro w k; simp only [Held] at k; go_simp; try with_reducible rfl) hHeld ?_
              try simp only [lay]
              refine takeH 34 rfl (by kernel_rfl) rfl (by intro w k; simp only [Held] at k; go_simp; try with_reducible rfl) hHeld ?_
              try simp only [lay]
              refine takeH 35 rfl (by kernel_rfl) rfl (by intro w k; simp only [Held] at k; go_simp; try with_reducible rfl) hHeld ?_
              try simp only [lay]
              refine takeH 36 rfl (by kernel_rfl) rfl (by intro w k; simp only [Held] at k; go_simp; try with_reducible rfl) hHeld ?_
              try simp only [lay]
              refine takeH 37 rfl (by kernel_rfl) rfl (by intro w k; simp only [Held] at k; go_simp; try with_reducible rfl) hHeld ?_
              try simp only [lay]
              refine takeH 38 rfl (by kernel_rfl) rfl (by intro w k; simp only [Held] at k; go_simp; try with_reducible rfl) hHeld ?_
              try simp only [lay]
              refine skipH 39 rfl (by kernel_rfl) rfl hHeld ?_
              try simp only [lay]
              refine skipH 40 rfl (by kernel_rfl) rfl hHeld ?_
              try simp only [lay]
              refine skipH 41 rfl (by kernel_rfl) rfl hHeld ?_
              try simp only [lay]
              refine skipH 42 rfl (by kernel_rfl) rfl hHeld ?_
              try simp only [lay]
              refine skipH 43 rfl (by kernel_rfl) rfl hHeld ?_
              try simp only [lay]
              refine skipH 44 rfl (by kernel_rfl) rfl hHeld ?_
              try simp only [lay]
              refine takeH 45 rfl (by kernel_rfl) rfl (by intro w k; simp only [Held] at k; go_simp; try with_reducible rfl) hHeld ?_
              try simp only [lay]
              refine takeH 46 rfl (by kernel_rfl) rfl (by intro w k; simp only [Held] at k; go_simp; try with_reducible rfl) hHeld ?_
              try simp only [lay]
              refine takeH 47 rfl (by kernel_rfl) rfl (by intro w k; simp only [Held] at k; go_simp; try with_reducible rfl) hHeld ?_
              try simp only [lay]
              refine takeH 48 rfl (by kernel_rfl) rfl (by intro w k; simp only [Held] at k; go_simp; try with_reducible rfl) hHeld ?_
              try simp only [lay]
              refine takeH 49 rfl (by kernel_rfl) rfl (by intro w k; simp only [Held] at k; go_simp; try with_reducible rfl) hHeld ?_
              try simp only [lay]
              refine takeH 50 rfl (by kernel_rfl) rfl (by intro w k; simp only [Held] at k; go_simp; try with_reducible rfl) hHeld ?_
              try simp only [lay]
              refine callH 51 rfl (by kernel_rfl) rfl ?_
              intro K' hK
              go_simp
              refine (HT.out _).mono ?_
              rintro e wq ⟨rfl, hbq⟩
              refine hK.out _ _ (by exact Held.same hbq (by assumption)) (fun hHeld => ?_)
              clear hK K'
              try simp only [lay]
              refine takeH 52 rfl (by kernel_rfl) rfl (by intro w k; simp only [Held] at k; go_simp; try with_reducible rfl) hHeld ?_
              try simp only [lay]
              refine takeH 53 rfl (by kernel_rfl) rfl (by intro w k; simp only [Held] at k; go_simp; try with_reducible rfl) hHeld ?_
              try simp only [lay]
              refine takeH 54 rfl (by kernel_rfl) rfl (by intro w k; simp only [Held] at k; go_simp; try with_reducible rfl) hHeld ?_
              try simp only [lay]
              refine takeH 55 rfl (by kernel_rfl) rfl (by intro w k; simp only [Held] at k; go_simp; try with_reducible rfl) hHeld ?_
              try simp only [lay]
              refine wpAnyH_done (by kernel_rfl) ?_ _
              refine NoPanic.normal ?_
              have HBZ := Lib.hid ((HBY.out.drew).trans ((hbp.trans (hbq.mono hbp.size)).mono (by exact HBY.out.size)))
              clear hbp hbq hHeld
              go_wp2
              go_ret
              exact ⟨rfl, HBZ.out⟩
            · have hwl : Pl.workV other ≤ Pl.workV bits := HWLE.out (by omega)
              refine wp_region_noPanic ?_
              refine wp_region_held_drew (S := fun w' => Held w' _) (by kernel_rfl) HLF.out.drew (fun hHeld => ?_)
              refine takeH 0 rfl (by kernel_rfl) rfl (by intro w k; simp only [Held] at k; go_simp; try with_reducible rfl) hHeld ?_
              try simp only [lay]
              refine takeH 1 rfl (by kernel_rfl) rfl (by intro w k; simp only [Held] at k; go_simp; try with_reducible rfl) hHeld ?_
              try simp only [lay]
              refine takeH 2 rfl (by kernel_rfl) rfl (by intro w k; simp only [Held] at k; go_simp; try with_reducible rfl) hHeld ?_
              try simp only [lay]
              refine takeH 3 rfl (by kernel_rfl) rfl (by intro w k; simp only [Held] at k; go_simp; try with_reducible rfl) hHeld ?_
              try simp only [lay]
              refine takeH 4 rfl (by kernel_rfl) rfl (by intro w k; simp only [Held] at k; go_simp; try with_reducible rfl) hHeld ?_
              try simp only [lay]
              refine takeH 5 rfl (by kernel_rfl) rfl (by intro w k; simp only [Held] at k; go_simp; try with_reducible rfl) hHeld ?_
              try simp only [lay]
              refine takeH 6 rfl (by kernel_rfl) rfl (by intro w k; simp only [Held] at k; go_simp; try with_reducible rfl) hHeld ?_
              try simp only [lay]
              refine takeH 7 rfl (by kernel_rfl) rfl (by intro w k; simp only [Held] at k; go_simp; try with_reducible rfl) hHeld ?_
              try simp only [lay]
              refine takeH 8 rfl (by kernel_rfl) rfl (by intro w k; simp only [Held] at k; go_simp; try with_reducible rfl) hHeld ?_
              try simp only [lay]
              refine takeH 9 rfl (by kernel_rfl) rfl (by intro w k; simp only [Held] at k; go_simp; try with_reducible rfl) hHeld ?_
              try simp only [lay]
              refine takeH 10 rfl (by kernel_rfl) rfl (by intro w k; simp only [Held] at k; go_simp; try with_reducible rfl) hHeld ?_
              try simp only [lay]
              refine takeH 13 rfl (by kernel_rfl) rfl (by intro w k; simp only [Held] at k; go_simp; try with_reducible rfl) hHeld ?_
              try simp only [lay]
              refine takeH 14 rfl (by kernel_rfl) rfl (by intro w k; simp only [Held] at k; go_simp; try with_reducible rfl) hHeld ?_
              try simp only [lay]
              refine callH 11 rfl (by kernel_rfl) rfl ?_
              intro K' hK
              go_simp
              refine (C1.out _).mono ?_
              rintro e wp ⟨rfl, hbp⟩
              refine hK.out _ _ (by exact Held.same hbp (by assumption)) (fun hHeld => ?_)
              clear hK K'
              try simp only [lay]
              refine takeH 12 rfl (by kernel_rfl) rfl (by intro w k; simp only [Held] at k; go_simp; try with_reducible rfl) hHeld ?_
              try simp only [lay]
              refine takeH 15 rfl (by kernel_rfl) rfl (by intro w k; simp only [Held] at k; go_simp; try with_reducible rfl) hHeld ?_
              try simp only [lay]
              refine takeH 16 rfl (by kernel_rfl) rfl (by intro w k; simp only [Held] at k; go_simp; try with_reducible rfl) hHeld ?_
              try simp only [lay]
              refine takeH 17 rfl (by kernel_rfl) rfl (by intro w k; simp only [Held] at k; go_simp; try with_reducible rfl) hHeld ?_
              try simp only [lay]
              refine takeH 18 rfl (by kernel_rfl) rfl (by intro w k; simp only [Held] at k; go_simp; try with_reducible rfl) hHeld ?_
              try simp only [lay]
              refine takeH 19 rfl (by kernel_rfl) rfl (by intro w k; simp only [Held] at k; go_simp; try with_reducible rfl) hHeld ?_
              try simp only [lay]
              refine takeH 20 rfl (by kernel_rfl) rfl (by intro w k; simp only [Held] at k; go_simp; try with_reducible rfl) hHeld ?_
              try simp only [lay]
              refine takeH 21 rfl (by kernel_rfl) rfl (by intro w k; simp only [Held] at k; go_simp; try with_reducible rfl) hHeld ?_
              try simp only [lay]
              refine takeH 22 rfl (by kernel_rfl) rfl (by intro w k; simp only [Held] at k; go_simp; try with_reducible rfl) hHeld ?_
              try simp only [lay]
              refine takeH 23 rfl (by kernel_rfl) rfl (by intro w k; simp only [Held] at k; go_simp; try with_reducible rfl) hHeld ?_
              try simp only [lay]
              refine takeH 24 rfl (by kernel_rfl) rfl (by intro w k; simp only [Held] at k; go_simp; try with_reducible rfl) hHeld ?_
              try simp only [lay]
              refine takeH 25 rfl (by kernel_rfl) rfl (by intro w k; simp only [Held] at k; go_simp; try with_reducible rfl) hHeld ?_
              try simp only [lay]
              refine takeH 26 rfl (by kernel_rfl) rfl (by intro w k; simp only [Held] at k; go_simp; try with_reducible rfl) hHeld ?_
              try simp only [lay]
              refine takeH 27 rfl (by kernel_rfl) rfl (by intro w k; simp only [Held] at k; go_simp; try with_reducible rfl) hHeld ?_
              try simp only [lay]
              refine takeH 28 rfl (by kernel_rfl) rfl (by intro w k; simp only [Held] at k; go_simp; try with_reducible rfl) hHeld ?_
              try simp only [lay]
              refine takeH 29 rfl (by kernel_rfl) rfl (by intro w k; simp only [Held] at k; go_simp; try with_reducible rfl) hHeld ?_
              try simp only [lay]
              refine takeH 30 rfl (by kernel_rfl) rfl (by intro w k; simp only [Held] at k; go_simp; try with_reducible rfl) hHeld ?_
              try simp only [lay]
              refine takeH 31 rfl (by kernel_rfl) rfl (by intro w k; simp only [Held] at k; go_simp; try with_reducible rfl) hHeld ?_
              try simp only [lay]
              refine takeH 32 rfl (by kernel_rfl) rfl (by intro w k; simp only [Held] at k; go_simp; try with_reducible rfl) hHeld ?_
              try simp only [lay]
              refine takeH 33 rfl (by kernel_rfl) rfl (by intro w k; simp only [Held] at k; go_simp; try with_reducible rfl) hHeld ?_
              try simp only [lay]
              refine takeH 34 rfl (by kernel_rfl) rfl (by intro w k; simp only [Held] at k; go_simp; try with_reducible rfl) hHeld ?_
              try simp only [lay]
              refine takeH 35 rfl (by kernel_rfl) rfl (by intro w k; simp only [Held] at k; go_simp; try with_reducible rfl) hHeld ?_
              try simp only [lay]
              refine takeH 36 rfl (by kernel_rfl) rfl (by intro w k; simp only [Held] at k; go_simp; try with_reducible rfl) hHeld ?_
              try simp only [lay]
              refine takeH 37 rfl (by kernel_rfl) rfl (by intro w k; simp only [Held] at k; go_simp; try with_reducible rfl) hHeld ?_
              try simp only [lay]
              refine takeH 38 rfl (by kernel_rfl) rfl (by intro w k; simp only [Held] at k; go_simp; try with_reducible rfl) hHeld ?_
              try simp only [lay]
              refine takeH 39 rfl (by kernel_rfl) rfl (by intro w k; simp only [Held] at k; go_simp; try with_reducible rfl) hHeld ?_
              try simp only [lay]
              refine takeH 42 rfl (by kernel_rfl) rfl (by intro w k; simp only [Held] at k; go_simp; try with_reducible rfl) hHeld ?_
              try simp only [lay]
              refine takeH 43 rfl (by kernel_rfl) rfl (by intro w k; simp only [Held] at k; go_simp; try with_reducible rfl) hHeld ?_
              try simp only [lay]
              refine callH 40 rfl (by kernel_rfl) rfl ?_
              intro K' hK
              go_simp
              refine (HWO.out _).mono ?_
              rintro e wr ⟨rfl, hbr⟩
              refine hK.out _ _ (by exact Held.same hbr (by assumption)) (fun hHeld => ?_)
              clear hK K'
              try simp only [lay]
              refine takeH 41 rfl (by kernel_rfl) rfl (by intro w k; simp only [Held] at k; go_simp; try with_reducible rfl) hHeld ?_
              try simp only [lay]
              refine takeH 44 rfl (by kernel_rfl) rfl (by intro w k; simp only [Held] at k; go_simp; try with_reducible rfl) hHeld ?_
              try simp only [lay]
              refine takeH 45 rfl (by kernel_rfl) rfl (by intro w k; simp only [Held] at k; go_simp; try with_reducible rfl) hHeld ?_
              try simp only [lay]
              refine takeH 46 rfl (by kernel_rfl) rfl (by intro w k; simp only [Held] at k; go_simp; try with_reducible rfl) hHeld ?_
              try simp only [lay]
              refine takeH 47 rfl (by kernel_rfl) rfl (by intro w k; simp only [Held] at k; go_simp; try with_reducible rfl) hHeld ?_
              try simp only [lay]
              refine takeH 48 rfl (by kernel_rfl) rfl (by intro w k; simp only [Held] at k; go_simp; try with_reducible rfl) hHeld ?_
              try simp only [lay]
              refine takeH 49 rfl (by kernel_rfl) rfl (by intro w k; simp only [Held] at k; go_simp; try with_reducible rfl) hHeld ?_
              try simp only [lay]
              refine takeH 50 rfl (by kernel_rfl) rfl (by intro w k; simp only [Held] at k; go_simp; try with_reducible rfl) hHeld ?_
              try simp only [lay]
              refine callH 51 rfl (by kernel_rfl) rfl ?_
              intro K' hK
              go_simp
              refine (HT.out _).mono ?_
              rintro e wq ⟨rfl, hbq⟩
              refine hK.out _ _ (by exact Held.same hbq (by assumption)) (fun hHeld => ?_)
              clear hK K'
              try simp only [lay]
              refine takeH 52 rfl (by kernel_rfl) rfl (by intro w k; simp only [Held] at k; go_simp; try with_reducible rfl) hHeld ?_
              try simp only [lay]
              refine takeH 53 rfl (by kernel_rfl) rfl (by intro w k; simp only [Held] at k; go_simp; try with_reducible rfl) hHeld ?_
              try simp only [lay]
              refine takeH 54 rfl (by kernel_rfl) rfl (by intro w k; simp only [Held] at k; go_simp; try with_reducible rfl) hHeld ?_
              try simp only [lay]
              refine takeH 55 rfl (by kernel_rfl) rfl (by intro w k; simp only [Held] at k; go_simp; try with_reducible rfl) hHeld ?_
              try simp only [lay]
              refine wpAnyH_done (by kernel_rfl) ?_ _
              refine NoPanic.normal ?_
              have HBZ := Lib.hid ((HBY.out.drew).trans ((hbp.trans ((hbr.trans (hbq.mono hbr.size)).mono hbp.size)).mono (by exact HBY.out.size)))
              clear hbp hbq hbr hHeld
              go_wp2
              go_ret
              exact ⟨rfl, HBZ.out⟩
          · have e4 : Pl.targetC other = 3 := by simp [Pl.targetC, Pl.okB_false.2 hoth]
            have e5 : Pl.targetV other = 0 := by simp [Pl.targetV, Pl.okB_false.2 hoth]
            rw [e4, e5] at hl ⊢
            have HLF := Lib.hid hl
            clear e4 e5 hl hoth HL10
            refine wp_region_noPanic ?_
            refine wp_region_held_drew (S := fun w' => Held w' _) (by kernel_rfl) HLF.out.drew (fun hHeld => ?_)
            refine takeH 0 rfl (by kernel_rfl) rfl (by intro w k; simp only [Held] at k; go_simp; try with_reducible rfl) hHeld ?_
            try simp only [lay]
            refine takeH 1 rfl (by kernel_rfl) rfl (by intro w k; simp only [Held] at k; go_simp; try with_reducible rfl) hHeld ?_
            try simp only [lay]
            refine takeH 2 rfl (by kernel_rfl) rfl (by intro w k; simp only [Held] at k; go_simp; try with_reducible rfl) hHeld ?_
            try simp only [lay]
            refine takeH 3 rfl (by kernel_rfl) rfl (by intro w k; simp only [Held] at k; go_simp; try with_reducible rfl) hHeld ?_
            try simp only [lay]
            refine takeH 4 rfl (by kernel_rfl) rfl (by intro w k; simp only [Held] at k; go_simp; try with_reducible rfl) hHeld ?_
            try simp only [lay]
            refine takeH 5 rfl (by kernel_rfl) rfl (by intro w k; simp only [Held] at k; go_simp; try with_reducible rfl) hHeld ?_
            try simp only [lay]
            refine takeH 6 rfl (by kernel_rfl) rfl (by intro w k; simp only [Held] at k; go_simp; try with_reducible rfl) hHeld ?_
            try simp only [lay]
            refine takeH 7 rfl (by kernel_rfl) rfl (by intro w k; simp only [Held] at k; go_simp; try with_reducible rfl) hHeld ?_
            try simp only [lay]
            refine takeH 8 rfl (by kernel_rfl) rfl (by intro w k; simp only [Held] at k; go_simp; try with_reducible rfl) hHeld ?_
            try simp only [lay]
            refine takeH 9 rfl (by kernel_rfl) rfl (by intro w k; simp only [Held] at k; go_simp; try with_reducible rfl) hHeld ?_
            try simp only [lay]
            refine takeH 10 rfl (by kernel_rfl) rfl (by intro w k; simp only [Held] at k; go_simp; try with_reducible rfl) hHeld ?_
            try simp only [lay]
            refine takeH 13 rfl (by kernel_rfl) rfl (by intro w k; simp only [Held] at k; go_simp; try with_reducible rfl) hHeld ?_
            try simp only [lay]
            refine takeH 14 rfl (by kernel_rfl) rfl (by intro w k; simp only [Held] at k; go_simp; try with_reducible rfl) hHeld ?_
            try simp only [lay]
            refine callH 11 rfl (by kernel_rfl) rfl ?_
            intro K' hK
            go_simp
            refine (C1.out _).mono ?_
            rintro e wp ⟨rfl, hbp⟩
            refine hK.out _ _ (by exact Held.same hbp (by assumption)) (fun hHeld => ?_)
            clear hK K'
            try simp only [lay]
            refine takeH 12 rfl (by kernel_rfl) rfl (by intro w k; simp only [Held] at k; go_simp; try with_reducible rfl) hHeld ?_
            try simp only [lay]
            refine takeH 15 rfl (by kernel_rfl) rfl (by intro w k; simp only [Held] at k; go_simp; try with_reducible rfl) hHeld ?_
            try simp only [lay]
            refine takeH 16 rfl (by kernel_rfl) rfl (by intro w k; simp only [Held] at k; go_simp; try with_reducible rfl) hHeld ?_
            try simp only [lay]
            refine takeH 17 rfl (by kernel_rfl) rfl (by intro w k; simp only [Held] at k; go_simp; try with_reducible rfl) hHeld ?_
            try simp only [lay]
            refine takeH 18 rfl (by kernel_rfl) rfl (by intro w k; simp only [Held] at k; go_simp; try with_reducible rfl) hHeld ?_
            try simp only [lay]
            refine takeH 19 rfl (by kernel_rfl) rfl (by intro w k; simp only [Held] at k; go_simp; try with_reducible rfl) hHeld ?_
            try simp only [lay]
            refine takeH 20 rfl (by kernel_rfl) rfl (by intro w k; simp only [Held] at k; go_simp; try with_reducible rfl) hHeld ?_
            try simp only [lay]
            refine takeH 21 rfl (by kernel_rfl) rfl (by intro w k; simp only [Held] at k; go_simp; try with_reducible rfl) hHeld ?_
            try simp only [lay]
            refine takeH 22 rfl (by kernel_rfl) rfl (by intro w k; simp only [Held] at k; go_simp; try with_reducible rfl) hHeld ?_
            try simp only [lay]
            refine takeH 23 rfl (by kernel_rfl) rfl (by intro w k; simp only [Held] at k; go_simp; try with_reducible rfl) hHeld ?_
            try simp only [lay]
            refine takeH 24 rfl (by kernel_rfl) rfl (by intro w k; simp only [Held] at k; go_simp; try with_reducible rfl) hHeld ?_
            try simp only [lay]
            refine takeH 25 rfl (by kernel_rfl) rfl (by intro w k; simp only [Held] at k; go_simp; try with_reducible rfl) hHeld ?_
            try simp only [lay]
            refine takeH 26 rfl (by kernel_rfl) rfl (by intro w k; simp only [Held] at k; go_simp; try with_reducible rfl) hHeld ?_
            try simp only [lay]
            refine takeH 27 rfl (by kernel_rfl) rfl (by intro w k; simp only [Held] at k; go_simp; try with_reducible rfl) hHeld ?_
            try simp only [lay]
            refine takeH 28 rfl (by kernel_rfl) rfl (by intro w k; simp only [Held] at k; go_simp; try with_reducible rfl) hHeld ?_
            try simp only [lay]
            refine takeH 29 rfl (by kernel_rfl) rfl (by intro w k; simp only [Held] at k; go_simp; try with_reducible rfl) hHeld ?_
            try simp only [lay]
            refine takeH 30 rfl (by kernel_rfl) rfl (by intro w k; simp only [Held] at k; go_simp; try with_reducible rfl) hHeld ?_
            try simp only [lay]
            refine takeH 31 rfl (by kernel_rfl) rfl (by intro w k; simp only [Held] at k; go_simp; try with_reducible rfl) hHeld ?_
            try simp only [lay]
            refine skipH 32 rfl (by kernel_rfl) rfl hHeld ?_
            try simp only [lay]
            refine skipH 33 rfl (by kernel_rfl) rfl hHeld ?_
            try simp only [lay]
            refine skipH 34 rfl (by kernel_rfl) rfl hHeld ?_
            try simp only [lay]
            refine skipH 35 rfl (by kernel_rfl) rfl hHeld ?_
            try simp only [lay]
            refine skipH 36 rfl (by kernel_rfl) rfl hHeld ?_
            try simp only [lay]
            refine takeH 37 rfl (by kernel_rfl) rfl (by intro w k; simp only [Held] at k; go_simp; try with_reducible rfl) hHeld ?_
            try simp only [lay]
            refine takeH 38 rfl (by kernel_rfl) rfl (by intro w k; simp only [Held] at k; go_simp; try with_reducible rfl) hHeld ?_
            try simp only [lay]
            refine skipH 39 rfl (by kernel_rfl) rfl hHeld ?_
            try simp only [lay]
            refine skipH 40 rfl (by kernel_rfl) rfl hHeld ?_
            try simp only [lay]
            refine skipH 41 rfl (by kernel_rfl) rfl hHeld ?_
            try simp only [lay]
            refine skipH 42 rfl (by kernel_rfl) rfl hHeld ?_
            try simp only [lay]
            refine skipH 43 rfl (by kernel_rfl) rfl hHeld ?_
            try simp only [lay]
            refine skipH 44 rfl (by kernel_rfl) rfl hHeld ?_
            try simp only [lay]
            refine takeH 45 rfl (by kernel_rfl) rfl (by intro w k; simp only [Held] at k; go_simp; try with_reducible rfl) hHeld ?_
            try simp only [lay]
            refine takeH 46 rfl (by kernel_rfl) rfl (by intro w k; simp only [Held] at k; go_simp; try with_reducible rfl) hHeld ?_
            try simp only [lay]
            refine takeH 47 rfl (by kernel_rfl) rfl (by intro w k; simp only [Held] at k; go_simp; try with_reducible rfl) hHeld ?_
            try simp only [lay]
            refine takeH 48 rfl (by kernel_rfl) rfl (by intro w k; simp only [Held] at k; go_simp; try with_reducible rfl) hHeld ?_
            try simp only [lay]
            refine takeH 49 rfl (by kernel_rfl) rfl (by intro w k; simp only [Held] at k; go_simp; try with_reducible rfl) hHeld ?_
            try simp only [lay]
            refine takeH 50 rfl (by kernel_rfl) rfl (by intro w k; simp only [Held] at k; go_simp; try with_reducible rfl) hHeld ?_
            try simp only [lay]
            refine callH 51 rfl (by kernel_rfl) rfl ?_
            intro K' hK
            go_simp
            refine (HT.out _).mono ?_
            rintro e wq ⟨rfl, hbq⟩
            refine hK.out _ _ (by exact Held.same hbq (by assumption)) (fun hHeld => ?_)
            clear hK K'
            try simp only [lay]
            refine takeH 52 rfl (by kernel_rfl) rfl (by intro w k; simp only [Held] at k; go_simp; try with_reducible rfl) hHeld ?_
            try simp only [lay]
            refine takeH 53 rfl (by kernel_rfl) rfl (by intro w k; simp only [Held] at k; go_simp; try with_reducible rfl) hHeld ?_
            try simp only [lay]
            refine takeH 54 rfl (by kernel_rfl) rfl (by intro w k; simp only [Held] at k; go_simp; try with_reducible rfl) hHeld ?_
            try simp only [lay]
            refine takeH 55 rfl (by kernel_rfl) rfl (by intro w k; simp only [Held] at k; go_simp; try with_reducible rfl) hHeld ?_
            try simp only [lay]
            refine wpAnyH_done (by kernel_rfl) ?_ _
            refine NoPanic.normal ?_
            have HBZ := Lib.hid ((HBY.out.drew).trans ((hbp.trans (hbq.mono hbp.size)).mono (by exact HBY.out.size)))
            clear hbp hbq hHeld
            go_wp2
            go_ret
            exact ⟨rfl, HBZ.out⟩
      · have hbc' : (bc == 0) = false := by simp [hbc]
        clear hno
        have HBC := Lib.hid hbc
        clear hbc
        refine wp_region_noPanic ?_
        refine wp_region_held_drew (S := fun w' => Held w' _) (by kernel_rfl) HL6.out.drew (fun hHeld => ?_)
        refine takeH 0 rfl (by kernel_rfl) rfl (by intro w k; simp only [Held] at k; go_simp; try with_reducible rfl) hHeld ?_
        try simp only [lay]
        refine takeH 1 rfl (by kernel_rfl) rfl (by intro w k; simp only [Held] at k; go_simp; try with_reducible rfl) hHeld ?_
        try simp only [lay]
        refine takeH 2 rfl (by kernel_rfl) rfl (by intro w k; simp only [Held] at k; go_simp; try with_reducible rfl) hHeld ?_
        try simp only [lay]
        refine callH 3 rfl (by kernel_rfl) rfl ?_
        intro K' hK
        go_simp
        refine (SPEC.out _).mono ?_
        rintro e wa ⟨rfl, hba⟩
        refine hK.out _ _ (by exact Held.same hba (by assumption)) (fun hHeld => ?_)
        clear hK K'
        try simp only [lay]
        refine takeH 4 rfl (by kernel_rfl) rfl (by intro w k; simp only [Held] at k; go_simp; try with_reducible rfl) hHeld ?_
        try simp only [lay]
        refine takeH 5 rfl (by kernel_rfl) rfl (by intro w k; simp only [Held] at k; go_simp; try with_reducible rfl) hHeld ?_
        try simp only [lay]
        refine takeH 6 rfl (by kernel_rfl) rfl (by intro w k; simp only [Held] at k; go_simp; try with_reducible rfl) hHeld ?_
        try simp only [lay]
        refine takeH 7 rfl (by kernel_rfl) rfl (by intro w k; simp only [Held] at k; go_simp; try with_reducible rfl) hHeld ?_
        try simp only [lay]
        refine takeH 8 rfl (by kernel_rfl) rfl (by intro w k; simp only [Held] at k; go_simp; try with_reducible rfl) hHeld ?_
        try simp only [lay]
        refine takeH 9 rfl (by kernel_rfl) rfl (by intro w k; simp only [Held] at k; go_simp; try with_reducible rfl) hHeld ?_
        try simp only [lay]
        refine callH 10 rfl (by kernel_rfl) rfl ?_
        intro K' hK
        go_simp
        refine (SPEC.out _).mono ?_
        rintro e wb ⟨rfl, hbb⟩
        refine hK.out _ _ (by exact Held.same hbb (by assumption)) (fun hHeld => ?_)
        clear hK K'
        try simp only [lay]
        refine takeH 11 rfl (by kernel_rfl) rfl (by intro w k; simp only [Held] at k; go_simp; try with_reducible rfl) hHeld ?_
        try simp only [lay]
        refine takeH 12 rfl (by kernel_rfl) rfl (by intro w k; simp only [Held] at k; go_simp; try with_reducible rfl) hHeld ?_
        try simp only [lay]
        refine takeH 13 rfl (by kernel_rfl) rfl (by intro w k; simp only [Held] at k; go_simp; try with_reducible rfl) hHeld ?_
        try simp only [lay]
        refine takeH 14 rfl (by kernel_rfl) rfl (by intro w k; simp only [Held] at k; go_simp; try with_reducible rfl) hHeld ?_
        try simp only [lay]
        refine takeH 15 rfl (by kernel_rfl) rfl (by intro w k; simp only [Held] at k; go_simp; try with_reducible rfl) hHeld ?_
        try simp only [lay]
        refine takeH 16 rfl (by kernel_rfl) rfl (by intro w k; simp only [Held] at k; go_simp; try with_reducible rfl) hHeld ?_
        try simp only [lay]
        refine takeH 17 rfl (by kernel_rfl) rfl (by intro w k; simp only [Held] at k; go_simp; try with_reducible rfl) hHeld ?_
        try simp only [lay]
        refine takeH 18 rfl (by kernel_rfl) rfl (by intro w k; simp only [Held] at k; go_simp; try with_reducible rfl) hHeld ?_
        try simp only [lay]
        refine skipH 19 rfl (by kernel_rfl) rfl hHeld ?_
        try simp only [lay]
        refine skipH 20 rfl (by kernel_rfl) rfl hHeld ?_
        try simp only [lay]
        refine skipH 21 rfl (by kernel_rfl) rfl hHeld ?_
        try simp only [lay]
        refine skipH 22 rfl (by kernel_rfl) rfl hHeld ?_
        try simp only [lay]
        refine skipH 23 rfl (by kernel_rfl) rfl hHeld ?_
        try simp only [lay]
        refine skipH 24 rfl (by kernel_rfl) rfl hHeld ?_
        try simp only [lay]
        refine takeH 25 rfl (by kernel_rfl) rfl (by intro w k; simp only [Held] at k; go_simp; try with_reducible rfl) hHeld ?_
        try simp only [lay]
        refine takeH 26 rfl (by kernel_rfl) rfl (by intro w k; simp only [Held] at k; go_simp; try with_reducible rfl) hHeld ?_
        try simp only [lay]
        have HBX := Lib.hid ((HB5'.out.drew).trans ((hba.trans (hbb.mono hba.size)).mono (by exact HB5'.out.size)))
        clear hba hbb
        have HLX := Lib.hid hHeld
        simp only [Held] at hHeld
        generalize wb = WX at *
        refine wpAnyH_done (by kernel_rfl) ?_ _
        refine NoPanic.normal ?_
        have hzX : T < WX.heap.size := World.block_lt_of_cell? _ _ hHeld.2.2.2.2.1
        obtain ⟨bc', bv', _, hi', hmean'⟩ := bits_both (Pl.tg bits) (by omega)
        have IMPL' := Lib.hid hi'
        have HBK : Hid (bc' = 0 ∧ Pl.okP bv' ∧ Pl.tg bv' = Pl.tg bits) := by
          rcases hmean' with ⟨h0, _, hb⟩ | ⟨_, hb⟩
          · exact ⟨h0, Pl.Best.back HBITS.out hb⟩
          · have := (Pl.Best.back HBITS.out (hb (by omega))).1
            unfold Pl.okP at this; omega
        clear hi' hmean'
        go_wp2_with fail
        refine (IMPL'.out _).mono ?_
        rintro e w6 ⟨rfl, hb6⟩
        have HB6 := Lib.hid (HBX.out.trans (hb6.mono HBX.out.size))
        have HL7 := Lib.hid ((HLX.out.same hb6).box2 rfl (.int .i64 bc') (.int .i64 bv') 26)
        obtain rfl : bc' = 0 := HBK.out.1
        clear hb6 hHeld
        obtain ⟨i0, hi, hz0, hz1, hz2⟩ := info_parts Tryinfo_u8
        have hsz6 : w.heap.size ≤ w6.heap.size := HB6.out.size
        have hown0 : ((w6.alloc (.cells #[.int .i64 0, .int .i64 bv'] 26)).alloc (.cells #[.int .u8 7] 5)).ownsRow (w6.heap.size + 1) 5 1 (.slice (some ⟨w6.heap.size + 1, 0, none⟩) 1 1) 1 [.int .u8 7] := by
          have := World.ownsRow_lit (base := w6.heap.size + 1) (e := 5) (size := 1) (w6.alloc (.cells #[.int .i64 0, .int .i64 bv'] 26)) #[.int .u8 7] 1 (by simp) (by simp [maxLen]) rfl
          simpa using this
        have HOWN0 := Lib.hid hown0
        have HS6 := Lib.hid (((HS.out.same HB6.out).same ((Below.refl _ _).alloc (Nat.le_refl _) (.cells #[.int .i64 0, .int .i64 bv'] 26))).same ((Below.refl _ _).alloc (Nat.le_refl _) (.cells #[.int .u8 7] 5)))
        have HB7 := Lib.hid ((HB6.out.alloc hsz6 (.cells #[.int .i64 0, .int .i64 bv'] 26)).alloc (by simp; omega) (.cells #[.int .u8 7] 5))
        have HL8 := Lib.hid (HL7.out.alloc (.cells #[.int .u8 7] 5))
        clear hown0
        cases a0 with
        | none =>
          obtain rfl : cap0 = 0 := HNIL.out rfl
          have h00 : zs.length = 0 := by omega
          have hzs0 : zs = [] := List.eq_nil_of_length_eq_zero h00
          subst hzs0
          go_wp2_with (at_builtin; refine wpList_append_own_none rfl _ _ 22 rfl (w6.heap.size + 1) 5 i0 1 Try.underlying22 hi _ _ _ rfl HOWN0.out rfl ?_)
          have HD : Hid (Sl .u8 ((w6.alloc (.cells #[.int .i64 0, .int .i64 bv'] 26)).alloc (.cells #[.int .u8 7] 5)) (.slice (some ⟨w6.heap.size + 1, 0, none⟩) 1 1) [7]) := Sl.of_owns HOWN0.out (by simp [Lit.wf, IntKind.min, IntKind.max, IntKind.signed, IntKind.bits])
          refine (DrawWorkOf_any _ [7] _ HD.out (by simp)).mono ?_
          rintro e w8 ⟨⟨other, rfl, ho0, ho1⟩, hb8⟩
          have HB8 := Lib.hid (HB7.out.trans (hb8.mono HB7.out.size))
          have HL9 := Lib.hid (HL8.out.same hb8)
          clear hb8
          go_wp2_with fail
          refine (implTargetOf_any other _ (by omega) (by omega)).mono ?_
          rintro e w9 ⟨rfl, hb9⟩
          have HB9 := Lib.hid (HB8.out.trans (hb9.mono HB8.out.size))
          have HL10 := Lib.hid ((HL9.out.same hb9).box2 rfl (.int .i64 (Pl.targetC other)) (.int .i64 (Pl.targetV other)) 26)
          have HB10 := Lib.hid (HB9.out.alloc HB9.out.size (.cells #[.int .i64 (Pl.targetC other), .int .i64 (Pl.targetV other)] 26))
          clear hb9
          go_wp2_with fail
          generalize w6.heap.size = Bk at *
          generalize w9.heap.size = Xk at *
          generalize w9.alloc (.cells #[.int .i64 (Pl.targetC other), .int .i64 (Pl.targetV other)] 26) = WY at *
          have hpos : 0 < Pl.tg bits := by omega
          have c1 : ∀ w, Calls Try.prog 14 #[.int .i64 bv'] w fun e w' => e = .returned (.agg #[.int .i64 0, .int .i64 (Pl.tg bits)]) ∧ Below w.heap.size w w' := fun w => by
            have hk := HBK.out.2.1
            have := implTargetOf_any bv' w (by unfold Pl.okP at hk; omega) (by unfold Pl.okP at hk; omega)
            simp only [Pl.targetC, Pl.targetV, Pl.okB_true.2 hk, if_true, HBK.out.2.2] at this
            exact this
          have C1 := Lib.hid c1
          have hl := HL10.out
          have HBY := HB10
          clear c1 htp
          by_cases hoth : Pl.okP other
          · have e4 : Pl.targetC other = 0 := by simp [Pl.targetC, Pl.okB_true.2 hoth]
            have e5 : Pl.targetV other = Pl.tg other := by simp [Pl.targetV, Pl.okB_true.2 hoth]
            rw [e4, e5] at hl ⊢
            have hwo : ∀ w, Calls Try.prog 15 #[.int .i64 other] w fun e w' => e = .returned (.agg #[.int .i64 0, .int .i64 (Pl.workV other)]) ∧ Below w.heap.size w w' := fun w => by
              have := implWorkOf_any other w (by omega) (by omega); rw [e4] at this; exact this
            have HWO := Lib.hid hwo
            have hwle : Pl.tg bits ≤ Pl.tg other → Pl.workV other ≤ Pl.workV bits := Pl.work_le HBITS.out hoth
            have HWLE := Lib.hid hwle
            have HLF := Lib.hid hl
            clear e4 e5 hwo hwle hl hoth HL10
            by_cases hlt : Pl.tg other < Pl.tg bits
            · refine wp_region_noPanic ?_
              refine wp_region_held_drew (S := fun w' => Held w' _) (by kernel_rfl) HLF.out.drew (fun hHeld => ?_)
              refine takeH 0 rfl (by kernel_rfl) rfl (by intro w k; simp only [Held] at k; go_simp; try with_reducible rfl) hHeld ?_
              try simp only [lay]
              refine takeH 1 rfl (by kernel_rfl) rfl (by intro w k; simp only [Held] at k; go_simp; try with_reducible rfl) hHeld ?_
              try simp only [lay]
              refine takeH 2 rfl (by kernel_rfl) rfl (by intro w k; simp only [Held] at k; go_simp; try with_reducible rfl) hHeld ?_
              try simp only [lay]
              refine takeH 3 rfl (by kernel_rfl) rfl (by intro w k; simp only [Held] at k; go_simp; try with_reducible rfl) hHeld ?_
              try simp only [lay]
              refine takeH 4 rfl (by kernel_rfl) rfl (by intro w k; simp only [Held] at k; go_simp; try with_reducible rfl) hHeld ?_
              try simp only [lay]
              refine takeH 5 rfl (by kernel_rfl) rfl (by intro w k; simp only [Held] at k; go_simp; try with_reducible rfl) hHeld ?_
              try simp only [lay]
              refine takeH 6 rfl (by kernel_rfl) rfl (by intro w k; simp only [Held] at k; go_simp; try with_reducible rfl) hHeld ?_
              try simp only [lay]
              refine takeH 7 rfl (by kernel_rfl) rfl (by intro w k; simp only [Held] at k; go_simp; try with_reducible rfl) hHeld ?_
              try simp only [lay]
              refine takeH 8 rfl (by kernel_rfl) rfl (by intro w k; simp only [Held] at k; go_simp; try with_reducible rfl) hHeld ?_
              try simp only [lay]
              refine takeH 9 rfl (by kernel_rfl) rfl (by intro w k; simp only [Held] at k; go_simp; try with_reducible rfl) hHeld ?_
              try simp only [lay]
              refine takeH 10 rfl (by kernel_rfl) rfl (by intro w k; simp only [Held] at k; go_simp; try with_reducible rfl) hHeld ?_
              try simp only [lay]
              refine takeH 13 rfl (by kernel_rfl) rfl (by intro w k; simp only [Held] at k; go_simp; try with_reducible rfl) hHeld ?_
              try simp only [lay]
              refine takeH 14 rfl (by kernel_rfl) rfl (by intro w k; simp only [Held] at k; go_simp; try with_reducible rfl) hHeld ?_
              try simp only [lay]
              refine callH 11 rfl (by kernel_rfl) rfl ?_
              intro K' hK
              go_simp
              refine (C1.out _).mono ?_
              rintro e wp ⟨rfl, hbp⟩
              refine hK.out _ _ (by exact Held.same hbp (by assumption)) (fun hHeld => ?_)
              clear hK K'
              try simp only [lay]
              refine takeH 12 rfl (by kernel_rfl) rfl (by intro w k; simp only [Held] at k; go_simp; try with_reducible rfl) hHeld ?_
              try simp only [lay]
              refine takeH 15 rfl (by kernel_rfl) rfl (by intro w k; simp only [Held] at k; go_simp; try with_reducible rfl) hHeld ?_
              try simp only [lay]
              refine takeH 16 rfl (by kernel_rfl) rfl (by intro w k; simp only [Held] at k; go_simp; try with_reducible rfl) hHeld ?_
              try simp only [lay]
              refine takeH 17 rfl (by kernel_rfl) rfl (by intro w k; simp only [Held] at k; go_simp; try with_reducible rfl) hHeld ?_
              try simp only [lay]
              refine takeH 18 rfl (by kernel_rfl) rfl (by intro w k; simp only [Held] at k; go_simp; try with_reducible rfl) hHeld ?_
              try simp only [lay]
              refine takeH 19 rfl (by kernel_rfl) rfl (by intro w k; simp only [Held] at k; go_simp; try with_reducible rfl) hHeld ?_
              try simp only [lay]
              refine takeH 20 rfl (by kernel_rfl) rfl (by intro w k; simp only [Held] at k; go_simp; try with_reducible rfl) hHeld ?_
              try simp only [lay]
              refine takeH 21 rfl (by kernel_rfl) rfl (by intro w k; simp only [Held] at k; go_simp; try with_reducible rfl) hHeld ?_
              try simp only [lay]
              refine takeH 22 rfl (by kernel_rfl) rfl (by intro w k; simp only [Held] at k; go_simp; try with_reducible rfl) hHeld ?_
              try simp only [lay]
              refine takeH 23 rfl (by kernel_rfl) rfl (by intro w k; simp only [Held] at k; go_simp; try with_reducible rfl) hHeld ?_
              try simp only [lay]
              refine takeH 24 rfl (by kernel_rfl) rfl (by intro w k; simp only [Held] at k; go_simp; try with_reducible rfl) hHeld ?_
              try simp only [lay]
              refine takeH 25 rfl (by kernel_rfl) rfl (by intro w k; simp only [Held] at k; go_simp; try with_reducible rfl) hHeld ?_
              try simp only [lay]
              refine takeH 26 rfl (by kernel_rfl) rfl (by intro w k; simp only [Held] at k; go_simp; try with_reducible rfl) hHeld ?_
              try simp only [lay]
              refine takeH 27 rfl (by kernel_rfl) rfl (by intro w k; simp only [Held] at k; go_simp; try with_reducible rfl) hHeld ?_
              try simp only [lay]
              refine takeH 28 rfl (by kernel_rfl) rfl (by intro w k; simp only [Held] at k; go_simp; try with_reducible rfl) hHeld ?_
              try simp only [lay]
              refine takeH 29 rfl (by kernel_rfl) rfl (by intro w k; simp only [Held] at k; go_simp; try with_reducible rfl) hHeld ?_
              try simp only [lay]
              refine takeH 30 rfl (by kernel_rfl) rfl (by intro w k; simp only [Held] at k; go_simp; try with_reducible rfl) hHeld ?_
              try simp only [lay]
              refine takeH 31 rfl (by kernel_rfl) rfl (by intro w k; simp only [Held] at k; go_simp; try with_reducible rfl) hHeld ?_
              try simp only [lay]
              refine takeH 32 rfl (by kernel_rfl) rfl (by intro w k; simp only [Held] at k; go_simp; try with_reducible rfl) hHeld ?_
              try simp only [lay]
              refine takeH 33 rfl (by kernel_rfl) rfl (by intro w k; simp only [Held] at k; go_simp; try with_reducible rfl) hHeld ?_
              try simp only [lay]
              refine takeH 34 rfl (by kernel_rfl) rfl (by intro w k; simp only [Held] at k; go_simp; try with_reducible rfl) hHeld ?_
              try simp only [lay]
              refine takeH 35 rfl (by kernel_rfl) rfl (by intro w k; simp only [Held] at k; go_simp; try with_reducible rfl) hHeld ?_
              try simp only [lay]
              refine takeH 36 rfl (by kernel_rfl) rfl (by intro w k; simp only [Held] at k; go_simp; try with_reducible rfl) hHeld ?_
              try simp only [lay]
              refine takeH 37 rfl (by kernel_rfl) rfl (by intro w k; simp only [Held] at k; go_simp; try with_reducible rfl) hHeld ?_
              try simp only [lay]
              refine takeH 38 rfl (by kernel_rfl) rfl (by intro w k; simp only [Held] at k; go_simp; try with_reducible rfl) hHeld ?_
              try simp only [lay]
              refine skipH 39 rfl (by kernel_rfl) rfl hHeld ?_
              try simp only [lay]
              refine skipH 40 rfl (by kernel_rfl) rfl hHeld ?_
              try simp only [lay]
              refine skipH 41 rfl (by kernel_rfl) rfl hHeld ?_
              try simp only [lay]
              refine skipH 42 rfl (by kernel_rfl) rfl hHeld ?_
              try simp only [lay]
              refine skipH 43 rfl (by kernel_rfl) rfl hHeld ?_
              try simp only [lay]
              refine skipH 44 rfl (by kernel_rfl) rfl hHeld ?_
              try simp only [lay]
              refine takeH 45 rfl (by kernel_rfl) rfl (by intro w k; simp only [Held] at k; go_simp; try with_reducible rfl) hHeld ?_
              try simp only [lay]
              refine takeH 46 rfl (by kernel_rfl) rfl (by intro w k; simp only [Held] at k; go_simp; try with_reducible rfl) hHeld ?_
              try simp only [lay]
              refine takeH 47 rfl (by kernel_rfl) rfl (by intro w k; simp only [Held] at k; go_simp; try with_reducible rfl) hHeld ?_
              try simp only [lay]
              refine takeH 48 rfl (by kernel_rfl) rfl (by intro w k; simp only [Held] at k; go_simp; try with_reducible rfl) hHeld ?_
              try simp only [lay]
              refine takeH 49 rfl (by kernel_rfl) rfl (by intro w k; simp only [Held] at k; go_simp; try with_reducible rfl) hHeld ?_
              try simp only [lay]
              refine takeH 50 rfl (by kernel_rfl) rfl (by intro w k; simp only [Held] at k; go_simp; try with_reducible rfl) hHeld ?_
              try simp only [lay]
              refine callH 51 rfl (by kernel_rfl) rfl ?_
              intro K' hK
              go_simp
              refine (HT.out _).mono ?_
              rintro e wq ⟨rfl, hbq⟩
              refine hK.out _ _ (by exact Held.same hbq (by assumption)) (fun hHeld => ?_)
              clear hK K'
              try simp only [lay]
              refine takeH 52 rfl (by kernel_rfl) rfl (by intro w k; simp only [Held] at k; go_simp; try with_reducible rfl) hHeld ?_
              try simp only [lay]
              refine takeH 53 rfl (by kernel_rfl) rfl (by intro w k; simp only [Held] at k; go_simp; try with_reducible rfl) hHeld ?_
              try simp only [lay]
              refine takeH 54 rfl (by kernel_rfl) rfl (by intro w k; simp only [Held] at k; go_simp; try with_reducible rfl) hHeld ?_
              try simp only [lay]
              refine takeH 55 rfl (by kernel_rfl) rfl (by intro w k; simp only [Held] at k; go_simp; try with_reducible rfl) hHeld ?_
              try simp only [lay]
              refine wpAnyH_done (by kernel_rfl) ?_ _
              refine NoPanic.normal ?_
              have HBZ := Lib.hid ((HBY.out.drew).trans ((hbp.trans (hbq.mono hbp.size)).mono (by exact HBY.out.size)))
              clear hbp hbq hHeld
              go_wp2
              go_ret
              exact ⟨rfl, HBZ.out⟩
            · have hwl : Pl.workV other ≤ Pl.workV bits := HWLE.out (by omega)
              refine wp_region_noPanic ?_
              refine wp_region_held_drew (S := fun w' => Held w' _) (by kernel_rfl) HLF.out.drew (fun hHeld => ?_)
              refine takeH 0 rfl (by kernel_rfl) rfl (by intro w k; simp only [Held] at k; go_simp; try with_reducible rfl) hHeld ?_
              try simp only [lay]
              refine takeH 1 rfl (by kernel_rfl) rfl (by intro w k; simp only [Held] at k; go_simp; try with_reducible rfl) hHeld ?_
              try simp only [lay]
              refine takeH 2 rfl (by kernel_rfl) rfl (by intro w k; simp only [Held] at k; go_simp; try with_reducible rfl) hHeld ?_
              try simp only [lay]
              refine takeH 3 rfl (by kernel_rfl) rfl (by intro w k; simp only [Held] at k; go_simp; try with_reducible rfl) hHeld ?_
              try simp only [lay]
              refine takeH 4 rfl (by kernel_rfl) rfl (by intro w k; simp only [Held] at k; go_simp; try with_reducible rfl) hHeld ?_
              try simp only [lay]
              refine takeH 5 rfl (by kernel_rfl) rfl (by intro w k; simp only [Held] at k; go_simp; try with_reducible rfl) hHeld ?_
              try simp only [lay]
              refine takeH 6 rfl (by kernel_rfl) rfl (by intro w k; simp only [Held] at k; go_simp; try with_reducible rfl) hHeld ?_
              try simp only [lay]
              refine takeH 7 rfl (by kernel_rfl) rfl (by intro w k; simp only [Held] at k; go_simp; try with_reducible rfl) hHeld ?_
              try simp only [lay]
              refine takeH 8 rfl (by kernel_rfl) rfl (by intro w k; simp only [Held] at k; go_simp; try with_reducible rfl) hHeld ?_
              try simp only [lay]
              refine takeH 9 rfl (by kernel_rfl) rfl (by intro w k; simp only [Held] at k; go_simp; try with_reducible rfl) hHeld ?_
              try simp only [lay]
              refine takeH 10 rfl (by kernel_rfl) rfl (by intro w k; simp only [Held] at k; go_simp; try with_reducible rfl) hHeld ?_
              try simp only [lay]
              refine takeH 13 rfl (by kernel_rfl) rfl (by intro w k; simp only [Held] at k; go_simp; try with_reducible rfl) hHeld ?_
              try simp only [lay]
              refine takeH 14 rfl (by kernel_rfl) rfl (by intro w k; simp only [Held] at k; go_simp; try with_reducible rfl) hHeld ?_
              try simp only [lay]
              refine callH 11 rfl (by kernel_rfl) rfl ?_
              intro K' hK
              go_simp
              refine (C1.out _).mono ?_
              rintro e wp ⟨rfl, hbp⟩
              refine hK.out _ _ (by exact Held.same hbp (by assumption)) (fun hHeld => ?_)
              clear hK K'
              try simp only [lay]
              refine takeH 12 rfl (by kernel_rfl) rfl (by intro w k; simp only [Held] at k; go_simp; try with_reducible rfl) hHeld ?_
              try simp only [lay]
              refine takeH 15 rfl (by kernel_rfl) rfl (by intro w k; simp only [Held] at k; go_simp; try with_reducible rfl) hHeld ?_
              try simp only [lay]
              refine takeH 16 rfl (by kernel_rfl) rfl (by intro w k; simp only [Held] at k; go_simp; try with_reducible rfl) hHeld ?_
              try simp only [lay]
              refine takeH 17 rfl (by kernel_rfl) rfl (by intro w k; simp only [Held] at k; go_simp; try with_reducible rfl) hHeld ?_
              try simp only [lay]
              refine takeH 18 rfl (by kernel_rfl) rfl (by intro w k; simp only [Held] at k; go_simp; try with_reducible rfl) hHeld ?_
              try simp only [lay]
              refine takeH 19 rfl (by kernel_rfl) rfl (by intro w k; simp only [Held] at k; go_simp; try with_reducible rfl) hHeld ?_
              try simp only [lay]
              refine takeH 20 rfl (by kernel_rfl) rfl (by intro w k; simp only [Held] at k; go_simp; try with_reducible rfl) hHeld ?_
              try simp only [lay]
              refine takeH 21 rfl (by kernel_rfl) rfl (by intro w k; simp only [Held] at k; go_simp; try with_reducible rfl) hHeld ?_
              try simp only [lay]
              refine takeH 22 rfl (by kernel_rfl) rfl (by intro w k; simp only [Held] at k; go_simp; try with_reducible rfl) hHeld ?_
              try simp only [lay]
              refine takeH 23 rfl (by kernel_rfl) rfl (by intro w k; simp only [Held] at k; go_simp; try with_reducible rfl) hHeld ?_
              try simp only [lay]
              refine takeH 24 rfl (by kernel_rfl) rfl (by intro w k; simp only [Held] at k; go_simp; try with_reducible rfl) hHeld ?_
              try simp only [lay]
              refine takeH 25 rfl (by kernel_rfl) rfl (by intro w k; simp only [Held] at k; go_simp; try with_reducible rfl) hHeld ?_
              try simp only [lay]
              refine takeH 26 rfl (by kernel_rfl) rfl (by intro w k; simp only [Held] at k; go_simp; try with_reducible rfl) hHeld ?_
              try simp only [lay]
              refine takeH 27 rfl (by kernel_rfl) rfl (by intro w k; simp only [Held] at k; go_simp; try with_reducible rfl) hHeld ?_
              try simp only [lay]
              refine takeH 28 rfl (by kernel_rfl) rfl (by intro w k; simp only [Held] at k; go_simp; try with_reducible rfl) hHeld ?_
              try simp only [lay]
              refine takeH 29 rfl (by kernel_rfl) rfl (by intro w k; simp only [Held] at k; go_simp; try with_reducible rfl) hHeld ?_
              try simp only [lay]
              refine takeH 30 rfl (by kernel_rfl) rfl (by intro w k; simp only [Held] at k; go_simp; try with_reducible rfl) hHeld ?_
              try simp only [lay]
              refine takeH 31 rfl (by kernel_rfl) rfl (by intro w k; simp only [Held] at k; go_simp; try with_reducible rfl) hHeld ?_
              try simp only [lay]
              refine takeH 32 rfl (by kernel_rfl) rfl (by intro w k; simp only [Held] at k; go_simp; try with_reducible rfl) hHeld ?_
              try simp only [lay]
              refine takeH 33 rfl (by kernel_rfl) rfl (by intro w k; simp only [Held] at k; go_simp; try with_reducible rfl) hHeld ?_
              try simp only [lay]
              refine takeH 34 rfl (by kernel_rfl) rfl (by intro w k; simp only [Held] at k; go_simp; try with_reducible rfl) hHeld ?_
              try simp only [lay]
              refine takeH 35 rfl (by kernel_rfl) rfl (by intro w k; simp only [Held] at k; go_simp; try with_reducible rfl) hHeld ?_
              try simp only [lay]
              refine takeH 36 rfl (by kernel_rfl) rfl (by intro w k; simp only [Held] at k; go_simp; try with_reducible rfl) hHeld ?_
              try simp only [lay]
              refine takeH 37 rfl (by kernel_rfl) rfl (by intro w k; simp only [Held] at k; go_simp; try with_reducible rfl) hHeld ?_
              try simp only [lay]
              refine takeH 38 rfl (by kernel_rfl) rfl (by intro w k; simp only [Held] at k; go_simp; try with_reducible rfl) hHeld ?_
              try simp only [lay]
              refine takeH 39 rfl (by kernel_rfl) rfl (by intro w k; simp only [Held] at k; go_simp; try with_reducible rfl) hHeld ?_
              try simp only [lay]
              refine takeH 42 rfl (by kernel_rfl) rfl (by intro w k; simp only [Held] at k; go_simp; try with_reducible rfl) hHeld ?_
              try simp only [lay]
              refine takeH 43 rfl (by kernel_rfl) rfl (by intro w k; simp only [Held] at k; go_simp; try with_reducible rfl) hHeld ?_
              try simp only [lay]
              refine callH 40 rfl (by kernel_rfl) rfl ?_
              intro K' hK
              go_simp
              refine (HWO.out _).mono ?_
              rintro e wr ⟨rfl, hbr⟩
              refine hK.out _ _ (by exact Held.same hbr (by assumption)) (fun hHeld => ?_)
              clear hK K'
              try simp only [lay]
              refine takeH 41 rfl (by kernel_rfl) rfl (by intro w k; simp only [Held] at k; go_simp; try with_reducible rfl) hHeld ?_
              try simp only [lay]
              refine takeH 44 rfl (by kernel_rfl) rfl (by intro w k; simp only [Held] at k; go_simp; try with_reducible rfl) hHeld ?_
              try simp only [lay]
              refine takeH 45 rfl (by kernel_rfl) rfl (by intro w k; simp only [Held] at k; go_simp; try with_reducible rfl) hHeld ?_
              try simp only [lay]
              refine takeH 46 rfl (by kernel_rfl) rfl (by intro w k; simp only [Held] at k; go_simp; try with_reducible rfl) hHeld ?_
              try simp only [lay]
              refine takeH 47 rfl (by kernel_rfl) rfl (by intro w k; simp only [Held] at k; go_simp; try with_reducible rfl) hHeld ?_
              try simp only [lay]
              refine takeH 48 rfl (by kernel_rfl) rfl (by intro w k; simp only [Held] at k; go_simp; try with_reducible rfl) hHeld ?_
              try simp only [lay]
              refine takeH 49 rfl (by kernel_rfl) rfl (by intro w k; simp only [Held] at k; go_simp; try with_reducible rfl) hHeld ?_
              try simp only [lay]
              refine takeH 50 rfl (by kernel_rfl) rfl (by intro w k; simp only [Held] at k; go_simp; try with_reducible rfl) hHeld ?_
              try simp only [lay]
              refine callH 51 rfl (by kernel_rfl) rfl ?_
              intro K' hK
              go_simp
              refine (HT.out _).mono ?_
              rintro e wq ⟨rfl, hbq⟩
              refine hK.out _ _ (by exact Held.same hbq (by assumption)) (fun hHeld => ?_)
              clear hK K'
              try simp only [lay]
              refine takeH 52 rfl (by kernel_rfl) rfl (by intro w k; simp only [Held] at k; go_simp; try with_reducible rfl) hHeld ?_
              try simp only [lay]
              refine takeH 53 rfl (by kernel_rfl) rfl (by intro w k; simp only [Held] at k; go_simp; try with_reducible rfl) hHeld ?_
              try simp only [lay]
              refine takeH 54 rfl (by kernel_rfl) rfl (by intro w k; simp only [Held] at k; go_simp; try with_reducible rfl) hHeld ?_
              try simp only [lay]
              refine takeH 55 rfl (by kernel_rfl) rfl (by intro w k; simp only [Held] at k; go_simp; try with_reducible rfl) hHeld ?_
              try simp only [lay]
              refine wpAnyH_done (by kernel_rfl) ?_ _
              refine NoPanic.normal ?_
              have HBZ := Lib.hid ((HBY.out.drew).trans ((hbp.trans ((hbr.trans (hbq.mono hbr.size)).mono hbp.size)).mono (by exact HBY.out.size)))
              clear hbp hbq hbr hHeld
              go_wp2
              go_ret
              exact ⟨rfl, HBZ.out⟩
          · have e4 : Pl.targetC other = 3 := by simp [Pl.targetC, Pl.okB_false.2 hoth]
            have e5 : Pl.targetV other = 0 := by simp [Pl.targetV, Pl.okB_false.2 hoth]
            rw [e4, e5] at hl ⊢
            have HLF := Lib.hid hl
            clear e4 e5 hl hoth HL10
            refine wp_region_noPanic ?_
            refine wp_region_held_drew (S := fun w' => Held w' _) (by kernel_rfl) HLF.out.drew (fun hHeld => ?_)
            refine takeH 0 rfl (by kernel_rfl) rfl (by intro w k; simp only [Held] at k; go_simp; try with_reducible rfl) hHeld ?_
            try simp only [lay]
            refine takeH 1 rfl (by kernel_rfl) rfl (by intro w k; simp only [Held] at k; go_simp; try with_reducible rfl) hHeld ?_
            try simp only [lay]
            refine takeH 2 rfl (by kernel_rfl) rfl (by intro w k; simp only [Held] at k; go_simp; try with_reducible rfl) hHeld ?_
            try simp only [lay]
            refine takeH 3 rfl (by kernel_rfl) rfl (by intro w k; simp only [Held] at k; go_simp; try with_reducible rfl) hHeld ?_
            try simp only [lay]
            refine takeH 4 rfl (by kernel_rfl) rfl (by intro w k; simp only [Held] at k; go_simp; try with_reducible rfl) hHeld ?_
            try simp only [lay]
            refine takeH 5 rfl (by kernel_rfl) rfl (by intro w k; simp only [Held] at k; go_simp; try with_reducible rfl) hHeld ?_
            try simp only [lay]
            refine takeH 6 rfl (by kernel_rfl) rfl (by intro w k; simp only [Held] at k; go_simp; try with_reducible rfl) hHeld ?_
            try simp only [lay]
            refine takeH 7 rfl (by kernel_rfl) rfl (by intro w k; simp only [Held] at k; go_simp; try with_reducible rfl) hHeld ?_
            try simp only [lay]
            refine takeH 8 rfl (by kernel_rfl) rfl (by intro w k; simp only [Held] at k; go_simp; try with_reducible rfl) hHeld ?_
            try simp only [lay]
            refine takeH 9 rfl (by kernel_rfl) rfl (by intro w k; simp only [Held] at k; go_simp; try with_reducible rfl) hHeld ?_
            try simp only [lay]
            refine takeH 10 rfl (by kernel_rfl) rfl (by intro w k; simp only [Held] at k; go_simp; try with_reducible rfl) hHeld ?_
            try simp only [lay]
            refine takeH 13 rfl (by kernel_rfl) rfl (by intro w k; simp only [Held] at k; go_simp; try with_reducible rfl) hHeld ?_
            try simp only [lay]
            refine takeH 14 rfl (by kernel_rfl) rfl (by intro w k; simp only [Held] at k; go_simp; try with_reducible rfl) hHeld ?_
            try simp only [lay]
            refine callH 11 rfl (by kernel_rfl) rfl ?_
            intro K' hK
            go_simp
            refine (C1.out _).mono ?_
            rintro e wp ⟨rfl, hbp⟩
            refine hK.out _ _ (by exact Held.same hbp (by assumption)) (fun hHeld => ?_)
            clear hK K'
            try simp only [lay]
            refine takeH 12 rfl (by kernel_rfl) rfl (by intro w k; simp only [Held] at k; go_simp; try with_reducible rfl) hHeld ?_
            try simp only [lay]
            refine takeH 15 rfl (by kernel_rfl) rfl (by intro w k; simp only [Held] at k; go_simp; try with_reducible rfl) hHeld ?_
            try simp only [lay]
            refine takeH 16 rfl (by kernel_rfl) rfl (by intro w k; simp only [Held] at k; go_simp; try with_reducible rfl) hHeld ?_
            try simp only [lay]
            refine takeH 17 rfl (by kernel_rfl) rfl (by intro w k; simp only [Held] at k; go_simp; try with_reducible rfl) hHeld ?_
            try simp only [lay]
            refine takeH 18 rfl (by kernel_rfl) rfl (by intro w k; simp only [Held] at k; go_simp; try with_reducible rfl) hHeld ?_
            try simp only [lay]
            refine takeH 19 rfl (by kernel_rfl) rfl (by intro w k; simp only [Held] at k; go_simp; try with_reducible rfl) hHeld ?_
            try simp only [lay]
            refine takeH 20 rfl (by kernel_rfl) rfl (by intro w k; simp only [Held] at k; go_simp; try with_reducible rfl) hHeld ?_
            try simp only [lay]
            refine takeH 21 rfl (by kernel_rfl) rfl (by intro w k; simp only [Held] at k; go_simp; try with_reducible rfl) hHeld ?_
            try simp only [lay]
            refine takeH 22 rfl (by kernel_rfl) rfl (by intro w k; simp only [Held] at k; go_simp; try with_reducible rfl) hHeld ?_
            try simp only [lay]
            refine takeH 23 rfl (by kernel_rfl) rfl (by intro w k; simp only [Held] at k; go_simp; try with_reducible rfl) hHeld ?_
            try simp only [lay]
            refine takeH 24 rfl (by kernel_rfl) rfl (by intro w k; simp only [Held] at k; go_simp; try with_reducible rfl) hHeld ?_
            try simp only [lay]
            refine takeH 25 rfl (by kernel_rfl) rfl (by intro w k; simp only [Held] at k; go_simp; try with_reducible rfl) hHeld ?_
            try simp only [lay]
            refine takeH 26 rfl (by kernel_rfl) rfl (by intro w k; simp only [Held] at k; go_simp; try with_reducible rfl) hHeld ?_
            try simp only [lay]
            refine takeH 27 rfl (by kernel_rfl) rfl (by intro w k; simp only [Held] at k; go_simp; try with_reducible rfl) hHeld ?_
            try simp only [lay]
            refine takeH 28 rfl (by kernel_rfl) rfl (by intro w k; simp only [Held] at k; go_simp; try with_reducible rfl) hHeld ?_
            try simp only [lay]
            refine takeH 29 rfl (by kernel_rfl) rfl (by intro w k; simp only [Held] at k; go_simp; try with_reducible rfl) hHeld ?_
            try simp only [lay]
            refine takeH 30 rfl (by kernel_rfl) rfl (by intro w k; simp only [Held] at k; go_simp; try with_reducible rfl) hHeld ?_
            try simp only [lay]
            refine takeH 31 rfl (by kernel_rfl) rfl (by intro w k; simp only [Held] at k; go_simp; try with_reducible rfl) hHeld ?_
            try simp only [lay]
            refine skipH 32 rfl (by kernel_rfl) rfl hHeld ?_
            try simp only [lay]
            refine skipH 33 rfl (by kernel_rfl) rfl hHeld ?_
            try simp only [lay]
            refine skipH 34 rfl (by kernel_rfl) rfl hHeld ?_
            try simp only [lay]
            refine skipH 35 rfl (by kernel_rfl) rfl hHeld ?_
            try simp only [lay]
            refine skipH 36 rfl (by kernel_rfl) rfl hHeld ?_
            try simp only [lay]
            refine takeH 37 rfl (by kernel_rfl) rfl (by intro w k; simp only [Held] at k; go_simp; try with_reducible rfl) hHeld ?_
            try simp only [lay]
            refine takeH 38 rfl (by kernel_rfl) rfl (by intro w k; simp only [Held] at k; go_simp; try with_reducible rfl) hHeld ?_
            try simp only [lay]
            refine skipH 39 rfl (by kernel_rfl) rfl hHeld ?_
            try simp only [lay]
            refine skipH 40 rfl (by kernel_rfl) rfl hHeld ?_
            try simp only [lay]
            refine skipH 41 rfl (by kernel_rfl) rfl hHeld ?_
            try simp only [lay]
            refine skipH 42 rfl (by kernel_rfl) rfl hHeld ?_
            try simp only [lay]
            refine skipH 43 rfl (by kernel_rfl) rfl hHeld ?_
            try simp only [lay]
            refine skipH 44 rfl (by kernel_rfl) rfl hHeld ?_
            try simp only [lay]
            refine takeH 45 rfl (by kernel_rfl) rfl (by intro w k; simp only [Held] at k; go_simp; try with_reducible rfl) hHeld ?_
            try simp only [lay]
            refine takeH 46 rfl (by kernel_rfl) rfl (by intro w k; simp only [Held] at k; go_simp; try with_reducible rfl) hHeld ?_
            try simp only [lay]
            refine takeH 47 rfl (by kernel_rfl) rfl (by intro w k; simp only [Held] at k; go_simp; try with_reducible rfl) hHeld ?_
            try simp only [lay]
            refine takeH 48 rfl (by kernel_rfl) rfl (by intro w k; simp only [Held] at k; go_simp; try with_reducible rfl) hHeld ?_
            try simp only [lay]
            refine takeH 49 rfl (by kernel_rfl) rfl (by intro w k; simp only [Held] at k; go_simp; try with_reducible rfl) hHeld ?_
            try simp only [lay]
            refine takeH 50 rfl (by kernel_rfl) rfl (by intro w k; simp only [Held] at k; go_simp; try with_reducible rfl) hHeld ?_
            try simp only [lay]
            refine callH 51 rfl (by kernel_rfl) rfl ?_
            intro K' hK
            go_simp
            refine (HT.out _).mono ?_
            rintro e wq ⟨rfl, hbq⟩
            refine hK.out _ _ (by exact Held.same hbq (by assumption)) (fun hHeld => ?_)
            clear hK K'
            try simp only [lay]
            refine takeH 52 rfl (by kernel_rfl) rfl (by intro w k; simp only [Held] at k; go_simp; try with_reducible rfl) hHeld ?_
            try simp only [lay]
            refine takeH 53 rfl (by kernel_rfl) rfl (by intro w k; simp only [Held] at k; go_simp; try with_reducible rfl) hHeld ?_
            try simp only [lay]
            refine takeH 54 rfl (by kernel_rfl) rfl (by intro w k; simp only [Held] at k; go_simp; try with_reducible rfl) hHeld ?_
            try simp only [lay]
            refine takeH 55 rfl (by kernel_rfl) rfl (by intro w k; simp only [Held] at k; go_simp; try with_reducible rfl) hHeld ?_
            try simp only [lay]
            refine wpAnyH_done (by kernel_rfl) ?_ _
            refine NoPanic.normal ?_
            have HBZ := Lib.hid ((HBY.out.drew).trans ((hbp.trans (hbq.mono hbp.size)).mono (by exact HBY.out.size)))
            clear hbp hbq hHeld
            go_wp2
            go_ret
            exact ⟨rfl, HBZ.out⟩
        | some ad =>
          obtain ⟨a_, cap_, hv_, _, _, hne_, hw_⟩ := HS6.out
          simp only [Value.slice.injEq] at hv_
          obtain ⟨rfl, _, _⟩ := hv_
          have hnews : ∀ j u, (zs.map (Value.int .u8))[j]? = some u → ((w6.alloc (.cells #[.int .i64 0, .int .i64 bv'] 26)).alloc (.cells #[.int .u8 7] 5)).cell? (ad.add j) = some u := by
            intro j u hj
            have hjl : j < zs.length := by
              have := List.getElem?_eq_some_iff.1 hj
              obtain ⟨h, _⟩ := this; simpa using h
            obtain ⟨b_, off_, e_, hc_⟩ := hne_ (by omega)
            simp only [Option.some.injEq] at e_
            subst e_
            have e2 : (⟨b_, off_, none⟩ : Addr).add j = ⟨b_, off_ + j, none⟩ := by simp only [Addr.add]; split <;> simp_all
            rw [e2, hc_ j hjl]
            rw [List.getElem?_map, List.getElem?_eq_getElem hjl] at hj
            simp only [Option.map_some, Option.some.injEq] at hj
            rw [← hj]; simp [List.getD_eq_getElem?_getD, hjl]
          have HNEWS := Lib.hid hnews
          have HWF := Lib.hid hw_
          clear hnews hne_ hw_
          go_wp2_with (at_builtin; refine wpList_append_own _ rfl _ _ 22 rfl (w6.heap.size + 1) 5 i0 (.int .u8 0) 1 1 Try.underlying22 hi hz0 hz1 hz2 rfl (by decide) _ _ _ rfl HOWN0.out ad zs.length _ (zs.map (Value.int .u8)) rfl (by simp) HNEWS.out (ints_one _ _) (by unfold maxLen; omega) (by omega) (by rw [World.size_alloc, World.size_alloc]; omega) ?_; intro v7 WA hown7 hgrow7 _)
          have HD : Hid (Sl .u8 WA v7 (7 :: zs)) := by
            refine Sl.of_owns (zs := 7 :: zs) (by simpa [Nat.add_comm] using hown7) ?_
            intro n hn
            rcases List.mem_cons.1 hn with rfl | hn
            · simp [Lit.wf, IntKind.min, IntKind.max, IntKind.signed, IntKind.bits]
            · exact HWF.out n hn
          have hbw : Below (w6.heap.size + 1) ((w6.alloc (.cells #[.int .i64 0, .int .i64 bv'] 26)).alloc (.cells #[.int .u8 7] 5)) WA := (Below.refl _ _).grown hgrow7 (by simp) (fun g hg => (HOWN0.out.lt g hg).1)
          have HB7' := Lib.hid (HB7.out.trans (hbw.mono (by omega)))
          have hk : Below (w6.alloc (.cells #[.int .i64 0, .int .i64 bv'] 26)).heap.size (w6.alloc (.cells #[.int .i64 0, .int .i64 bv'] 26)) WA := by
            rw [World.size_alloc]; exact ((Below.refl _ _).alloc (by rw [World.size_alloc]; exact Nat.le_refl _) _).trans hbw
          have HL8' := Lib.hid (HL7.out.same hk)
          clear HB7 HL8 hbw hown7 hgrow7 hk
          refine (DrawWorkOf_any _ (7 :: zs) _ HD.out (by simp; omega)).mono ?_
          have HB7 := HB7'
          have HL8 := HL8'
          rintro e w8 ⟨⟨other, rfl, ho0, ho1⟩, hb8⟩
          have HB8 := Lib.hid (HB7.out.trans (hb8.mono HB7.out.size))
          have HL9 := Lib.hid (HL8.out.same hb8)
          clear hb8
          go_wp2_with fail
          refine (implTargetOf_any other _ (by omega) (by omega)).mono ?_
          rintro e w9 ⟨rfl, hb9⟩
          have HB9 := Lib.hid (HB8.out.trans (hb9.mono HB8.out.size))
          have HL10 := Lib.hid ((HL9.out.same hb9).box2 rfl (.int .i64 (Pl.targetC other)) (.int .i64 (Pl.targetV other)) 26)
          have HB10 := Lib.hid (HB9.out.alloc HB9.out.size (.cells #[.int .i64 (Pl.targetC other), .int .i64 (Pl.targetV other)] 26))
          clear hb9
          go_wp2_with fail
          generalize w6.heap.size = Bk at *
          generalize w9.heap.size = Xk at *
          generalize w9.alloc (.cells #[.int .i64 (Pl.targetC other), .int .i64 (Pl.targetV other)] 26) = WY at *
          have hpos : 0 < Pl.tg bits := by omega
          have c1 : ∀ w, Calls Try.prog 14 #[.int .i64 bv'] w fun e w' => e = .returned (.agg #[.int .i64 0, .int .i64 (Pl.tg bits)]) ∧ Below w.heap.size w w' := fun w => by
            have hk := HBK.out.2.1
            have := implTargetOf_any bv' w (by unfold Pl.okP at hk; omega) (by unfold Pl.okP at hk; omega)
            simp only [Pl.targetC, Pl.targetV, Pl.okB_true.2 hk, if_true, HBK.out.2.2] at this
            exact this
          have C1 := Lib.hid c1
          have hl := HL10.out
          have HBY := HB10
          clear c1 htp
          by_cases hoth : Pl.okP other
          · have e4 : Pl.targetC other = 0 := by simp [Pl.targetC, Pl.okB_true.2 hoth]
            have e5 : Pl.targetV other = Pl.tg other := by simp [Pl.targetV, Pl.okB_true.2 hoth]
            rw [e4, e5] at hl ⊢
            have hwo : ∀ w, Calls Try.prog 15 #[.int .i64 other] w fun e w' => e = .returned (.agg #[.int .i64 0, .int .i64 (Pl.workV other)]) ∧ Below w.heap.size w w' := fun w => by
              have := implWorkOf_any other w (by omega) (by omega); rw [e4] at this; exact this
            have HWO := Lib.hid hwo
            have hwle : Pl.tg bits ≤ Pl.tg other → Pl.workV other ≤ Pl.workV bits := Pl.work_le HBITS.out hoth
            have HWLE := Lib.hid hwle
            have HLF := Lib.hid hl
            clear e4 e5 hwo hwle hl hoth HL10
            by_cases hlt : Pl.tg other < Pl.tg bits
            · refine wp_region_noPanic ?_
              refine wp_region_held_drew (S := fun w' => Held w' _) (by kernel_rfl) HLF.out.drew (fun hHeld => ?_)
              refine takeH 0 rfl (by kernel_rfl) rfl (by intro w k; simp only [Held] at k; go_simp; try with_reducible rfl) hHeld ?_
              try simp only [lay]
              refine takeH 1 rfl (by kernel_rfl) rfl (by intro w k; simp only [Held] at k; go_simp; try with_reducible rfl) hHeld ?_
              try simp only [lay]
              refine takeH 2 rfl (by kernel_rfl) rfl (by intro w k; simp only [Held] at k; go_simp; try with_reducible rfl) hHeld ?_
              try simp only [lay]
              refine takeH 3 rfl (by kernel_rfl) rfl (by intro w k; simp only [Held] at k; go_simp; try with_reducible rfl) hHeld ?_
              try simp only [lay]
              refine takeH 4 rfl (by kernel_rfl) rfl (by intro w k; simp only [Held] at k; go_simp; try with_reducible rfl) hHeld ?_
              try simp only [lay]
              refine takeH 5 rfl (by kernel_rfl) rfl (by intro w k; simp only [Held] at k; go_simp; try with_reducible rfl) hHeld ?_
              try simp only [lay]
              refine takeH 6 rfl (by kernel_rfl) rfl (by intro w k; simp only [Held] at k; go_simp; try with_reducible rfl) hHeld ?_
              try simp only [lay]
              refine takeH 7 rfl (by kernel_rfl) rfl (by intro w k; simp only [Held] at k; go_simp; try with_reducible rfl) hHeld ?_
              try simp only [lay]
              refine takeH 8 rfl (by kernel_rfl) rfl (by intro w k; simp only [Held] at k; go_simp; try with_reducible rfl) hHeld ?_
              try simp only [lay]
              refine takeH 9 rfl (by kernel_rfl) rfl (by intro w k; simp only [Held] at k; go_simp; try with_reducible rfl) hHeld ?_
              try simp only [lay]
              refine takeH 10 rfl (by kernel_rfl) rfl (by intro w k; simp only [Held] at k; go_simp; try with_reducible rfl) hHeld ?_
              try simp only [lay]
              refine takeH 13 rfl (by kernel_rfl) rfl (by intro w k; simp only [Held] at k; go_simp; try with_reducible rfl) hHeld ?_
              try simp only [lay]
              refine takeH 14 rfl (by kernel_rfl) rfl (by intro w k; simp only [Held] at k; go_simp; try with_reducible rfl) hHeld ?_
              try simp only [lay]
              refine callH 11 rfl (by kernel_rfl) rfl ?_
              intro K' hK
              go_simp
              refine (C1.out _).mono ?_
              rintro e wp ⟨rfl, hbp⟩
              refine hK.out _ _ (by exact Held.same hbp (by assumption)) (fun hHeld => ?_)
              clear hK K'
              try simp only [lay]
              refine takeH 12 rfl (by kernel_rfl) rfl (by intro w k; simp only [Held] at k; go_simp; try with_reducible rfl) hHeld ?_
              try simp only [lay]
              refine takeH 15 rfl (by kernel_rfl) rfl (by intro w k; simp only [Held] at k; go_simp; try with_reducible rfl) hHeld ?_
              try simp only [lay]
              refine takeH 16 rfl (by kernel_rfl) rfl (by intro w k; simp only [Held] at k; go_simp; try with_reducible rfl) hHeld ?_
              try simp only [lay]
              refine takeH 17 rfl (by kernel_rfl) rfl (by intro w k; simp only [Held] at k; go_simp; try with_reducible rfl) hHeld ?_
              try simp only [lay]
              refine takeH 18 rfl (by kernel_rfl) rfl (by intro w k; simp only [Held] at k; go_simp; try with_reducible rfl) hHeld ?_
              try simp only [lay]
              refine takeH 19 rfl (by kernel_rfl) rfl (by intro w k; simp only [Held] at k; go_simp; try with_reducible rfl) hHeld ?_
              try simp only [lay]
              refine takeH 20 rfl (by kernel_rfl) rfl (by intro w k; simp only [Held] at k; go_simp; try with_reducible rfl) hHeld ?_
              try simp only [lay]
              refine takeH 21 rfl (by kernel_rfl) rfl (by intro w k; simp only [Held] at k; go_simp; try with_reducible rfl) hHeld ?_
              try simp only [lay]
              refine takeH 22 rfl (by kernel_rfl) rfl (by intro w k; simp only [Held] at k; go_simp; try with_reducible rfl) hHeld ?_
              try simp only [lay]
              refine takeH 23 rfl (by kernel_rfl) rfl (by intro w k; simp only [Held] at k; go_simp; try with_reducible rfl) hHeld ?_
              try simp only [lay]
              refine takeH 24 rfl (by kernel_rfl) rfl (by intro w k; simp only [Held] at k; go_simp; try with_reducible rfl) hHeld ?_
              try simp only [lay]
              refine takeH 25 rfl (by kernel_rfl) rfl (by intro w k; simp only [Held] at k; go_simp; try with_reducible rfl) hHeld ?_
              try simp only [lay]
              refine takeH 26 rfl (by kernel_rfl) rfl (by intro w k; simp only [Held] at k; go_simp; try with_reducible rfl) hHeld ?_
              try simp only [lay]
              refine takeH 27 rfl (by kernel_rfl) rfl (by intro w k; simp only [Held] at k; go_simp; try with_reducible rfl) hHeld ?_
              try simp only [lay]
              refine takeH 28 rfl (by kernel_rfl) rfl (by intro w k; simp only [Held] at k; go_simp; try with_reducible rfl) hHeld ?_
              try simp only [lay]
              refine takeH 29 rfl (by kernel_rfl) rfl (by intro w k; simp only [Held] at k; go_simp; try with_reducible rfl) hHeld ?_
              try simp only [lay]
              refine takeH 30 rfl (by kernel_rfl) rfl (by intro w k; simp only [Held] at k; go_simp; try with_reducible rfl) hHeld ?_
              try simp only [lay]
              refine takeH 31 rfl (by kernel_rfl) rfl (by intro w k; simp only [Held] at k; go_simp; try with_reducible rfl) hHeld ?_
              try simp only [lay]
              refine takeH 32 rfl (by kernel_rfl) rfl (by intro w k; simp only [Held] at k; go_simp; try with_reducible rfl) hHeld ?_
              try simp only [lay]
              refine takeH 33 rfl (by kernel_rfl) rfl (by intro w k; simp only [Held] at k; go_simp; try with_reducible rfl) hHeld ?_
              try simp only [lay]
              refine takeH 34 rfl (by kernel_rfl) rfl (by intro w k; simp only [Held] at k; go_simp; try with_reducible rfl) hHeld ?_
              try simp only [lay]
              refine takeH 35 rfl (by kernel_rfl) rfl (by intro w k; simp only [Held] at k; go_simp; try with_reducible rfl) hHeld ?_
              try simp only [lay]
              refine takeH 36 rfl (by kernel_rfl) rfl (by intro w k; simp only [Held] at k; go_simp; try with_reducible rfl) hHeld ?_
              try simp only [lay]
              refine takeH 37 rfl (by kernel_rfl) rfl (by intro w k; simp only [Held] at k; go_simp; try with_reducible rfl) hHeld ?_
              try simp only [lay]
              refine takeH 38 rfl (by kernel_rfl) rfl (by intro w k; simp only [Held] at k; go_simp; try with_reducible rfl) hHeld ?_
              try simp only [lay]
              refine skipH 39 rfl (by kernel_rfl) rfl hHeld ?_
              try simp only [lay]
              refine skipH 40 rfl (by kernel_rfl) rfl hHeld ?_
              try simp only [lay]
              refine skipH 41 rfl (by kernel_rfl) rfl hHeld ?_
              try simp only [lay]
              refine skipH 42 rfl (by kernel_rfl) rfl hHeld ?_
              try simp only [lay]
              refine skipH 43 rfl (by kernel_rfl) rfl hHeld ?_
              try simp only [lay]
              refine skipH 44 rfl (by kernel_rfl) rfl hHeld ?_
              try simp only [lay]
              refine takeH 45 rfl (by kernel_rfl) rfl (by intro w k; simp only [Held] at k; go_simp; try with_reducible rfl) hHeld ?_
              try simp only [lay]
              refine takeH 46 rfl (by kernel_rfl) rfl (by intro w k; simp only [Held] at k; go_simp; try with_reducible rfl) hHeld ?_
              try simp only [lay]
              refine takeH 47 rfl (by kernel_rfl) rfl (by intro w k; simp only [Held] at k; go_simp; try with_reducible rfl) hHeld ?_
              try simp only [lay]
              refine takeH 48 rfl (by kernel_rfl) rfl (by intro w k; simp only [Held] at k; go_simp; try with_reducible rfl) hHeld ?_
              try simp only [lay]
              refine takeH 49 rfl (by kernel_rfl) rfl (by intro w k; simp only [Held] at k; go_simp; try with_reducible rfl) hHeld ?_
              try simp only [lay]
              refine takeH 50 rfl (by kernel_rfl) rfl (by intro w k; simp only [Held] at k; go_simp; try with_reducible rfl) hHeld ?_
              try simp only [lay]
              refine callH 51 rfl (by kernel_rfl) rfl ?_
              intro K' hK
              go_simp
              refine (HT.out _).mono ?_
              rintro e wq ⟨rfl, hbq⟩
              refine hK.out _ _ (by exact Held.same hbq (by assumption)) (fun hHeld => ?_)
              clear hK K'
              try simp only [lay]
              refine takeH 52 rfl (by kernel_rfl) rfl (by intro w k; simp only [Held] at k; go_simp; try with_reducible rfl) hHeld ?_
              try simp only [lay]
              refine takeH 53 rfl (by kernel_rfl) rfl (by intro w k; simp only [Held] at k; go_simp; try with_reducible rfl) hHeld ?_
              try simp only [lay]
              refine takeH 54 rfl (by kernel_rfl) rfl (by intro w k; simp only [Held] at k; go_simp; try with_reducible rfl) hHeld ?_
              try simp only [lay]
              refine takeH 55 rfl (by kernel_rfl) rfl (by intro w k; simp only [Held] at k; go_simp; try with_reducible rfl) hHeld ?_
              try simp only [lay]
              refine wpAnyH_done (by kernel_rfl) ?_ _
              refine NoPanic.normal ?_
              have HBZ := Lib.hid ((HBY.out.drew).trans ((hbp.trans (hbq.mono hbp.size)).mono (by exact HBY.out.size)))
              clear hbp hbq hHeld
              go_wp2
              go_ret
              exact ⟨rfl, HBZ.out⟩
            · have hwl : Pl.workV other ≤ Pl.workV bits := HWLE.out (by omega)
              refine wp_region_noPanic ?_
              refine wp_region_held_drew (S := fun w' => Held w' _) (by kernel_rfl) HLF.out.drew (fun hHeld => ?_)
              refine takeH 0 rfl (by kernel_rfl) rfl (by intro w k; simp only [Held] at k; go_simp; try with_reducible rfl) hHeld ?_
              try simp only [lay]
              refine takeH 1 rfl (by kernel_rfl) rfl (by intro w k; simp only [Held] at k; go_simp; try with_reducible rfl) hHeld ?_
              try simp only [lay]
              refine takeH 2 rfl (by kernel_rfl) rfl (by intro w k; simp only [Held] at k; go_simp; try with_reducible rfl) hHeld ?_
              try simp only [lay]
              refine takeH 3 rfl (by kernel_rfl) rfl (by intro w k; simp only [Held] at k; go_simp; try with_reducible rfl) hHeld ?_
              try simp only [lay]
              refine takeH 4 rfl (by kernel_rfl) rfl (by intro w k; simp only [Held] at k; go_simp; try with_reducible rfl) hHeld ?_
              try simp only [lay]
              refine takeH 5 rfl (by kernel_rfl) rfl (by intro w k; simp only [Held] at k; go_simp; try with_reducible rfl) hHeld ?_
              try simp only [lay]
              refine takeH 6 rfl (by kernel_rfl) rfl (by intro w k; simp only [Held] at k; go_simp; try with_reducible rfl) hHeld ?_
              try simp only [lay]
              refine takeH 7 rfl (by kernel_rfl) rfl (by intro w k; simp only [Held] at k; go_simp; try with_reducible rfl) hHeld ?_
              try simp only [lay]
              refine takeH 8 rfl (by kernel_rfl) rfl (by intro w k; simp only [Held] at k; go_simp; try with_reducible rfl) hHeld ?_
              try simp only [lay]
              refine takeH 9 rfl (by kernel_rfl) rfl (by intro w k; simp only [Held] at k; go_simp; try with_reducible rfl) hHeld ?_
              try simp only [lay]
              refine takeH 10 rfl (by kernel_rfl) rfl (by intro w k; simp only [Held] at k; go_simp; try with_reducible rfl) hHeld ?_
              try simp only [lay]
              refine takeH 13 rfl (by kernel_rfl) rfl (by intro w k; simp only [Held] at k; go_simp; try with_reducible rfl) hHeld ?_
              try simp only [lay]
              refine takeH 14 rfl (by kernel_rfl) rfl (by intro w k; simp only [Held] at k; go_simp; try with_reducible rfl) hHeld ?_
              try simp only [lay]
              refine callH 11 rfl (by kernel_rfl) rfl ?_
              intro K' hK
              go_simp
              refine (C1.out _).mono ?_
              rintro e wp ⟨rfl, hbp⟩
              refine hK.out _ _ (by exact Held.same hbp (by assumption)) (fun hHeld => ?_)
              clear hK K'
              try simp only [lay]
              refine takeH 12 rfl (by kernel_rfl) rfl (by intro w k; simp only [Held] at k; go_simp; try with_reducible rfl) hHeld ?_
              try simp only [lay]
              refine takeH 15 rfl (by kernel_rfl) rfl (by intro w k; simp only [Held] at k; go_simp; try with_reducible rfl) hHeld ?_
              try simp only [lay]
              refine takeH 16 rfl (by kernel_rfl) rfl (by intro w k; simp only [Held] at k; go_simp; try with_reducible rfl) hHeld ?_
              try simp only [lay]
              refine takeH 17 rfl (by kernel_rfl) rfl (by intro w k; simp only [Held] at k; go_simp; try with_reducible rfl) hHeld ?_
              try simp only [lay]
              refine takeH 18 rfl (by kernel_rfl) rfl (by intro w k; simp only [Held] at k; go_simp; try with_reducible rfl) hHeld ?_
              try simp only [lay]
              refine takeH 19 rfl (by kernel_rfl) rfl (by intro w k; simp only [Held] at k; go_simp; try with_reducible rfl) hHeld ?_
              try simp only [lay]
              refine takeH 20 rfl (by kernel_rfl) rfl (by intro w k; simp only [Held] at k; go_simp; try with_reducible rfl) hHeld ?_
              try simp only [lay]
              refine takeH 21 rfl (by kernel_rfl) rfl (by intro w k; simp only [Held] at k; go_simp; try with_reducible rfl) hHeld ?_
              try simp only [lay]
              refine takeH 22 rfl (by kernel_rfl) rfl (by intro w k; simp only [Held] at k; go_simp; try with_reducible rfl) hHeld ?_
              try simp only [lay]
              refine takeH 23 rfl (by kernel_rfl) rfl (by intro w k; simp only [Held] at k; go_simp; try with_reducible rfl) hHeld ?_
              try simp only [lay]
              refine takeH 24 rfl (by kernel_rfl) rfl (by intro w k; simp only [Held] at k; go_simp; try with_reducible rfl) hHeld ?_
              try simp only [lay]
              refine takeH 25 rfl (by kernel_rfl) rfl (by intro w k; simp only [Held] at k; go_simp; try with_reducible rfl) hHeld ?_
              try simp only [lay]
              refine takeH 26 rfl (by kernel_rfl) rfl (by intro w k; simp only [Held] at k; go_simp; try with_reducible rfl) hHeld ?_
              try simp only [lay]
              refine takeH 27 rfl (by kernel_rfl) rfl (by intro w k; simp only [Held] at k; go_simp; try with_reducible rfl) hHeld ?_
              try simp only [lay]
              refine takeH 28 rfl (by kernel_rfl) rfl (by intro w k; simp only [Held] at k; go_simp; try with_reducible rfl) hHeld ?_
              try simp only [lay]
              refine takeH 29 rfl (by kernel_rfl) rfl (by intro w k; simp only [Held] at k; go_simp; try with_reducible rfl) hHeld ?_
              try simp only [lay]
              refine takeH 30 rfl (by kernel_rfl) rfl (by intro w k; simp only [Held] at k; go_simp; try with_reducible rfl) hHeld ?_
              try simp only [lay]
              refine takeH 31 rfl (by kernel_rfl) rfl (by intro w k; simp only [Held] at k; go_simp; try with_reducible rfl) hHeld ?_
              try simp only [lay]
              refine takeH 32 rfl (by kernel_rfl) rfl (by intro w k; simp only [Held] at k; go_simp; try with_reducible rfl) hHeld ?_
              try simp only [lay]
              refine takeH 33 rfl (by kernel_rfl) rfl (by intro w k; simp only [Held] at k; go_simp; try with_reducible rfl) hHeld ?_
              try simp only [lay]
              refine takeH 34 rfl (by kernel_rfl) rfl (by intro w k; simp only [Held] at k; go_simp; try with_reducible rfl) hHeld ?_
              try simp only [lay]
              refine takeH 35 rfl (by kernel_rfl) rfl (by intro w k; simp only [Held] at k; go_simp; try with_reducible rfl) hHeld ?_
              try simp only [lay]
              refine takeH 36 rfl (by kernel_rfl) rfl (by intro w k; simp only [Held] at k; go_simp; try with_reducible rfl) hHeld ?_
              try simp only [lay]
              refine takeH 37 rfl (by kernel_rfl) rfl (by intro w k; simp only [Held] at k; go_simp; try with_reducible rfl) hHeld ?_
              try simp only [lay]
              refine takeH 38 rfl (by kernel_rfl) rfl (by intro w k; simp only [Held] at k; go_simp; try with_reducible rfl) hHeld ?_
              try simp only [lay]
              refine takeH 39 rfl (by kernel_rfl) rfl (by intro w k; simp only [Held] at k; go_simp; try with_reducible rfl) hHeld ?_
              try simp only [lay]
              refine takeH 42 rfl (by kernel_rfl) rfl (by intro w k; simp only [Held] at k; go_simp; try with_reducible rfl) hHeld ?_
              try simp only [lay]
              refine takeH 43 rfl (by kernel_rfl) rfl (by intro w k; simp only [Held] at k; go_simp; try with_reducible rfl) hHeld ?_
              try simp only [lay]
              refine callH 40 rfl (by kernel_rfl) rfl ?_
              intro K' hK
              go_simp
              refine (HWO.out _).mono ?_
              rintro e wr ⟨rfl, hbr⟩
              refine hK.out _ _ (by exact Held.same hbr (by assumption)) (fun hHeld => ?_)
              clear hK K'
              try simp only [lay]
              refine takeH 41 rfl (by kernel_rfl) rfl (by intro w k; simp only [Held] at k; go_simp; try with_reducible rfl) hHeld ?_
              try simp only [lay]
              refine takeH 44 rfl (by kernel_rfl) rfl (by intro w k; simp only [Held] at k; go_simp; try with_reducible rfl) hHeld ?_
              try simp only [lay]
              refine takeH 45 rfl (by kernel_rfl) rfl (by intro w k; simp only [Held] at k; go_simp; try with_reducible rfl) hHeld ?_
              try simp only [lay]
              refine takeH 46 rfl (by kernel_rfl) rfl (by intro w k; simp only [Held] at k; go_simp; try with_reducible rfl) hHeld ?_
              try simp only [lay]
              refine takeH 47 rfl (by kernel_rfl) rfl (by intro w k; simp only [Held] at k; go_simp; try with_reducible rfl) hHeld ?_
              try simp only [lay]
              refine takeH 48 rfl (by kernel_rfl) rfl (by intro w k; simp only [Held] at k; go_simp; try with_reducible rfl) hHeld ?_
              try simp only [lay]
              refine takeH 49 rfl (by kernel_rfl) rfl (by intro w k; simp only [Held] at k; go_simp; try with_reducible rfl) hHeld ?_
              try simp only [lay]
              refine takeH 50 rfl (by kernel_rfl) rfl (by intro w k; simp only [Held] at k; go_simp; try with_reducible rfl) hHeld ?_
              try simp only [lay]
              refine callH 51 rfl (by kernel_rfl) rfl ?_
              intro K' hK
              go_simp
              refine (HT.out _).mono ?_
              rintro e wq ⟨rfl, hbq⟩
              refine hK.out _ _ (by exact Held.same hbq (by assumption)) (fun hHeld => ?_)
              clear hK K'
              try simp only [lay]
              refine takeH 52 rfl (by kernel_rfl) rfl (by intro w k; simp only [Held] at k; go_simp; try with_reducible rfl) hHeld ?_
              try simp only [lay]
              refine takeH 53 rfl (by kernel_rfl) rfl (by intro w k; simp only [Held] at k; go_simp; try with_reducible rfl) hHeld ?_
              try simp only [lay]
              refine takeH 54 rfl (by kernel_rfl) rfl (by intro w k; simp only [Held] at k; go_simp; try with_reducible rfl) hHeld ?_
              try simp only [lay]
              refine takeH 55 rfl (by kernel_rfl) rfl (by intro w k; simp only [Held] at k; go_simp; try with_reducible rfl) hHeld ?_
              try simp only [lay]
              refine wpAnyH_done (by kernel_rfl) ?_ _
              refine NoPanic.normal ?_
              have HBZ := Lib.hid ((HBY.out.drew).trans ((hbp.trans ((hbr.trans (hbq.mono hbr.size)).mono hbp.size)).mono (by exact HBY.out.size)))
              clear hbp hbq hbr hHeld
              go_wp2
              go_ret
              exact ⟨rfl, HBZ.out⟩
          · have e4 : Pl.targetC other = 3 := by simp [Pl.targetC, Pl.okB_false.2 hoth]
            have e5 : Pl.targetV other = 0 := by simp [Pl.targetV, Pl.okB_false.2 hoth]
            rw [e4, e5] at hl ⊢
            have HLF := Lib.hid hl
            clear e4 e5 hl hoth HL10
            refine wp_region_noPanic ?_
            refine wp_region_held_drew (S := fun w' => Held w' _) (by kernel_rfl) HLF.out.drew (fun hHeld => ?_)
            refine takeH 0 rfl (by kernel_rfl) rfl (by intro w k; simp only [Held] at k; go_simp; try with_reducible rfl) hHeld ?_
            try simp only [lay]
            refine takeH 1 rfl (by kernel_rfl) rfl (by intro w k; simp only [Held] at k; go_simp; try with_reducible rfl) hHeld ?_
            try simp only [lay]
            refine takeH 2 rfl (by kernel_rfl) rfl (by intro w k; simp only [Held] at k; go_simp; try with_reducible rfl) hHeld ?_
            try simp only [lay]
            refine takeH 3 rfl (by kernel_rfl) rfl (by intro w k; simp only [Held] at k; go_simp; try with_reducible rfl) hHeld ?_
            try simp only [lay]
            refine takeH 4 rfl (by kernel_rfl) rfl (by intro w k; simp only [Held] at k; go_simp; try with_reducible rfl) hHeld ?_
            try simp only [lay]
            refine takeH 5 rfl (by kernel_rfl) rfl (by intro w k; simp only [Held] at k; go_simp; try with_reducible rfl) hHeld ?_
            try simp only [lay]
            refine takeH 6 rfl (by kernel_rfl) rfl (by intro w k; simp only [Held] at k; go_simp; try with_reducible rfl) hHeld ?_
            try simp only [lay]
            refine takeH 7 rfl (by kernel_rfl) rfl (by intro w k; simp only [Held] at k; go_simp; try with_reducible rfl) hHeld ?_
            try simp only [lay]
            refine takeH 8 rfl (by kernel_rfl) rfl (by intro w k; simp only [Held] at k; go_simp; try with_reducible rfl) hHeld ?_
            try simp only [lay]
            refine takeH 9 rfl (by kernel_rfl) rfl (by intro w k; simp only [Held] at k; go_simp; try with_reducible rfl) hHeld ?_
            try simp only [lay]
            refine takeH 10 rfl (by kernel_rfl) rfl (by intro w k; simp only [Held] at k; go_simp; try with_reducible rfl) hHeld ?_
            try simp only [lay]
            refine takeH 13 rfl (by kernel_rfl) rfl (by intro w k; simp only [Held] at k; go_simp; try with_reducible rfl) hHeld ?_
            try simp only [lay]
            refine takeH 14 rfl (by kernel_rfl) rfl (by intro w k; simp only [Held] at k; go_simp; try with_reducible rfl) hHeld ?_
            try simp only [lay]
            refine callH 11 rfl (by kernel_rfl) rfl ?_
            intro K' hK
            go_simp
            refine (C1.out _).mono ?_
            rintro e wp ⟨rfl, hbp⟩
            refine hK.out _ _ (by exact Held.same hbp (by assumption)) (fun hHeld => ?_)
            clear hK K'
            try simp only [lay]
            refine takeH 12 rfl (by kernel_rfl) rfl (by intro w k; simp only [Held] at k; go_simp; try with_reducible rfl) hHeld ?_
            try simp only [lay]
            refine takeH 15 rfl (by kernel_rfl) rfl (by intro w k; simp only [Held] at k; go_simp; try with_reducible rfl) hHeld ?_
            try simp only [lay]
            refine takeH 16 rfl (by kernel_rfl) rfl (by intro w k; simp only [Held] at k; go_simp; try with_reducible rfl) hHeld ?_
            try simp only [lay]
            refine takeH 17 rfl (by kernel_rfl) rfl (by intro w k; simp only [Held] at k; go_simp; try with_reducible rfl) hHeld ?_
            try simp only [lay]
            refine takeH 18 rfl (by kernel_rfl) rfl (by intro w k; simp only [Held] at k; go_simp; try with_reducible rfl) hHeld ?_
            try simp only [lay]
            refine takeH 19 rfl (by kernel_rfl) rfl (by intro w k; simp only [Held] at k; go_simp; try with_reducible rfl) hHeld ?_
            try simp only [lay]
            refine takeH 20 rfl (by kernel_rfl) rfl (by intro w k; simp only [Held] at k; go_simp; try with_reducible rfl) hHeld ?_
            try simp only [lay]
            refine takeH 21 rfl (by kernel_rfl) rfl (by intro w k; simp only [Held] at k; go_simp; try with_reducible rfl) hHeld ?_
            try simp only [lay]
            refine takeH 22 rfl (by kernel_rfl) rfl (by intro w k; simp only [Held] at k; go_simp; try with_reducible rfl) hHeld ?_
            try simp only [lay]
            refine takeH 23 rfl (by kernel_rfl) rfl (by intro w k; simp only [Held] at k; go_simp; try with_reducible rfl) hHeld ?_
            try simp only [lay]
            refine takeH 24 rfl (by kernel_rfl) rfl (by intro w k; simp only [Held] at k; go_simp; try with_reducible rfl) hHeld ?_
            try simp only [lay]
            refine takeH 25 rfl (by kernel_rfl) rfl (by intro w k; simp only [Held] at k; go_simp; try with_reducible rfl) hHeld ?_
            try simp only [lay]
            refine takeH 26 rfl (by kernel_rfl) rfl (by intro w k; simp only [Held] at k; go_simp; try with_reducible rfl) hHeld ?_
            try simp only [lay]
            refine takeH 27 rfl (by kernel_rfl) rfl (by intro w k; simp only [Held] at k; go_simp; try with_reducible rfl) hHeld ?_
            try simp only [lay]
            refine takeH 28 rfl (by kernel_rfl) rfl (by intro w k; simp only [Held] at k; go_simp; try with_reducible rfl) hHeld ?_
            try simp only [lay]
            refine takeH 29 rfl (by kernel_rfl) rfl (by intro w k; simp only [Held] at k; go_simp; try with_reducible rfl) hHeld ?_
            try simp only [lay]
            refine takeH 30 rfl (by kernel_rfl) rfl (by intro w k; simp only [Held] at k; go_simp; try with_reducible rfl) hHeld ?_
            try simp only [lay]
            refine takeH 31 rfl (by kernel_rfl) rfl (by intro w k; simp only [Held] at k; go_simp; try with_reducible rfl) hHeld ?_
            try simp only [lay]
            refine skipH 32 rfl (by kernel_rfl) rfl hHeld ?_
            try simp only [lay]
            refine skipH 33 rfl (by kernel_rfl) rfl hHeld ?_
            try simp only [lay]
            refine skipH 34 rfl (by kernel_rfl) rfl hHeld ?_
            try simp only [lay]
            refine skipH 35 rfl (by kernel_rfl) rfl hHeld ?_
            try simp only [lay]
            refine skipH 36 rfl (by kernel_rfl) rfl hHeld ?_
            try simp only [lay]
            refine takeH 37 rfl (by kernel_rfl) rfl (by intro w k; simp only [Held] at k; go_simp; try with_reducible rfl) hHeld ?_
            try simp only [lay]
            refine takeH 38 rfl (by kernel_rfl) rfl (by intro w k; simp only [Held] at k; go_simp; try with_reducible rfl) hHeld ?_
            try simp only [lay]
            refine skipH 39 rfl (by kernel_rfl) rfl hHeld ?_
            try simp only [lay]
            refine skipH 40 rfl (by kernel_rfl) rfl hHeld ?_
            try simp only [lay]
            refine skipH 41 rfl (by kernel_rfl) rfl hHeld ?_
            try simp only [lay]
            refine skipH 42 rfl (by kernel_rfl) rfl hHeld ?_
            try simp only [lay]
            refine skipH 43 rfl (by kernel_rfl) rfl hHeld ?_
            try simp only [lay]
            refine skipH 44 rfl (by kernel_rfl) rfl hHeld ?_
            try simp only [lay]
            refine takeH 45 rfl (by kernel_rfl) rfl (by intro w k; simp only [Held] at k; go_simp; try with_reducible rfl) hHeld ?_
            try simp only [lay]
            refine takeH 46 rfl (by kernel_rfl) rfl (by intro w k; simp only [Held] at k; go_simp; try with_reducible rfl) hHeld ?_
            try simp only [lay]
            refine takeH 47 rfl (by kernel_rfl) rfl (by intro w k; simp only [Held] at k; go_simp; try with_reducible rfl) hHeld ?_
            try simp only [lay]
            refine takeH 48 rfl (by kernel_rfl) rfl (by intro w k; simp only [Held] at k; go_simp; try with_reducible rfl) hHeld ?_
            try simp only [lay]
            refine takeH 49 rfl (by kernel_rfl) rfl (by intro w k; simp only [Held] at k; go_simp; try with_reducible rfl) hHeld ?_
            try simp only [lay]
            refine takeH 50 rfl (by kernel_rfl) rfl (by intro w k; simp only [Held] at k; go_simp; try with_reducible rfl) hHeld ?_
            try simp only [lay]
            refine callH 51 rfl (by kernel_rfl) rfl ?_
            intro K' hK
            go_simp
            refine (HT.out _).mono ?_
            rintro e wq ⟨rfl, hbq⟩
            refine hK.out _ _ (by exact Held.same hbq (by assumption)) (fun hHeld => ?_)
            clear hK K'
            try simp only [lay]
            refine takeH 52 rfl (by kernel_rfl) rfl (by intro w k; simp only [Held] at k; go_simp; try with_reducible rfl) hHeld ?_
            try simp only [lay]
            refine takeH 53 rfl (by kernel_rfl) rfl (by intro w k; simp only [Held] at k; go_simp; try with_reducible rfl) hHeld ?_
            try simp only [lay]
            refine takeH 54 rfl (by kernel_rfl) rfl (by intro w k; simp only [Held] at k; go_simp; try with_reducible rfl) hHeld ?_
            try simp only [lay]
            refine takeH 55 rfl (by kernel_rfl) rfl (by intro w k; simp only [Held] at k; go_simp; try with_reducible rfl) hHeld ?_
            try simp only [lay]
            refine wpAnyH_done (by kernel_rfl) ?_ _
            refine NoPanic.normal ?_
            have HBZ := Lib.hid ((HBY.out.drew).trans ((hbp.trans (hbq.mono hbp.size)).mono (by exact HBY.out.size)))
            clear hbp hbq hHeld
            go_wp2
            go_ret
            exact ⟨rfl, HBZ.out⟩
    · have e1 : Pl.targetC bits = 3 := by simp [Pl.targetC, Pl.okB_false.2 hbits]
      have e2 : Pl.targetV bits = 0 := by simp [Pl.targetV, Pl.okB_false.2 hbits]
      have e3 : Pl.workV bits = 0 := by simp [Pl.workV, Pl.okB_false.2 hbits]
      have hT : ∀ w, Calls Try.prog 19 #[.int .i64 bits] w fun e w' => e = .returned (.agg #[.int .i64 3, .int .i64 0]) ∧ Below w.heap.size w w' := fun w => by have := specTargetOf_any bits w (by omega) (by omega); rw [e1, e2] at this; exact this
      have HT := Lib.hid hT
      rw [e1, e2, e3] at hL5 ⊢
      have HL6 := Lib.hid hL5
      clear hT e1 e2 e3 hL5 HL5
      rcases MEAN.out with ⟨rfl, hok, hbest⟩ | ⟨hbc, hno⟩
      · refine wp_region_noPanic ?_
        refine wp_region_held_drew (S := fun w' => Held w' _) (by kernel_rfl) HL6.out.drew (fun hHeld => ?_)
        have hle : Pl.tg bv ≤ target := by
          rcases hbest with ⟨h0, _⟩ | ⟨_, _, h, _⟩
          · unfold Pl.okP at hok; omega
          · exact h
        have hbv : ∀ w, Calls Try.prog 14 #[.int .i64 bv] w fun e w' => e = .returned (.agg #[.int .i64 0, .int .i64 (Pl.tg bv)]) ∧ Below w.heap.size w w' := fun w => by
          have := implTargetOf_any bv w (by unfold Pl.okP at hok; omega) (by unfold Pl.okP at hok; omega)
          simp only [Pl.targetC, Pl.targetV, Pl.okB_true.2 hok, if_true] at this
          exact this
        have HBV := Lib.hid hbv
        clear hbv hok hbest
        refine takeH 0 rfl (by kernel_rfl) rfl (by intro w k; simp only [Held] at k; go_simp; try with_reducible rfl) hHeld ?_
        try simp only [lay]
        refine takeH 1 rfl (by kernel_rfl) rfl (by intro w k; simp only [Held] at k; go_simp; try with_reducible rfl) hHeld ?_
        try simp only [lay]
        refine takeH 2 rfl (by kernel_rfl) rfl (by intro w k; simp only [Held] at k; go_simp; try with_reducible rfl) hHeld ?_
        try simp only [lay]
        refine callH 3 rfl (by kernel_rfl) rfl ?_
        intro K' hK
        go_simp
        refine (SPEC.out _).mono ?_
        rintro e wa ⟨rfl, hba⟩
        refine hK.out _ _ (by exact Held.same hba (by assumption)) (fun hHeld => ?_)
        clear hK K'
        try simp only [lay]
        refine takeH 4 rfl (by kernel_rfl) rfl (by intro w k; simp only [Held] at k; go_simp; try with_reducible rfl) hHeld ?_
        try simp only [lay]
        refine takeH 5 rfl (by kernel_rfl) rfl (by intro w k; simp only [Held] at k; go_simp; try with_reducible rfl) hHeld ?_
        try simp only [lay]
        refine takeH 6 rfl (by kernel_rfl) rfl (by intro w k; simp only [Held] at k; go_simp; try with_reducible rfl) hHeld ?_
        try simp only [lay]
        refine takeH 7 rfl (by kernel_rfl) rfl (by intro w k; simp only [Held] at k; go_simp; try with_reducible rfl) hHeld ?_
        try simp only [lay]
        refine takeH 8 rfl (by kernel_rfl) rfl (by intro w k; simp only [Held] at k; go_simp; try with_reducible rfl) hHeld ?_
        try simp only [lay]
        refine takeH 9 rfl (by kernel_rfl) rfl (by intro w k; simp only [Held] at k; go_simp; try with_reducible rfl) hHeld ?_
        try simp only [lay]
        refine callH 10 rfl (by kernel_rfl) rfl ?_
        intro K' hK
        go_simp
        refine (SPEC.out _).mono ?_
        rintro e wb ⟨rfl, hbb⟩
        refine hK.out _ _ (by exact Held.same hbb (by assumption)) (fun hHeld => ?_)
        clear hK K'
        try simp only [lay]
        refine takeH 11 rfl (by kernel_rfl) rfl (by intro w k; simp only [Held] at k; go_simp; try with_reducible rfl) hHeld ?_
        try simp only [lay]
        refine takeH 12 rfl (by kernel_rfl) rfl (by intro w k; simp only [Held] at k; go_simp; try with_reducible rfl) hHeld ?_
        try simp only [lay]
        refine takeH 13 rfl (by kernel_rfl) rfl (by intro w k; simp only [Held] at k; go_simp; try with_reducible rfl) hHeld ?_
        try simp only [lay]
        refine takeH 14 rfl (by kernel_rfl) rfl (by intro w k; simp only [Held] at k; go_simp; try with_reducible rfl) hHeld ?_
        try simp only [lay]
        refine takeH 15 rfl (by kernel_rfl) rfl (by intro w k; simp only [Held] at k; go_simp; try with_reducible rfl) hHeld ?_
        try simp only [lay]
        refine takeH 16 rfl (by kernel_rfl) rfl (by intro w k; simp only [Held] at k; go_simp; try with_reducible rfl) hHeld ?_
        try simp only [lay]
        refine takeH 17 rfl (by kernel_rfl) rfl (by intro w k; simp only [Held] at k; go_simp; try with_reducible rfl) hHeld ?_
        try simp only [lay]
        refine takeH 18 rfl (by kernel_rfl) rfl (by intro w k; simp only [Held] at k; go_simp; try with_reducible rfl) hHeld ?_
        try simp only [lay]
        refine takeH 19 rfl (by kernel_rfl) rfl (by intro w k; simp only [Held] at k; go_simp; try with_reducible rfl) hHeld ?_
        try simp only [lay]
        refine takeH 20 rfl (by kernel_rfl) rfl (by intro w k; simp only [Held] at k; go_simp; try with_reducible rfl) hHeld ?_
        try simp only [lay]
        refine takeH 23 rfl (by kernel_rfl) rfl (by intro w k; simp only [Held] at k; go_simp; try with_reducible rfl) hHeld ?_
        try simp only [lay]
        refine callH 21 rfl (by kernel_rfl) rfl ?_
        intro K' hK
        go_simp
        refine (HBV.out _).mono ?_
        rintro e wc ⟨rfl, hbc⟩
        refine hK.out _ _ (by exact Held.same hbc (by assumption)) (fun hHeld => ?_)
        clear hK K'
        try simp only [lay]
        refine takeH 22 rfl (by kernel_rfl) rfl (by intro w k; simp only [Held] at k; go_simp; try with_reducible rfl) hHeld ?_
        try simp only [lay]
        refine takeH 24 rfl (by kernel_rfl) rfl (by intro w k; simp only [Held] at k; go_simp; try with_reducible rfl) hHeld ?_
        try simp only [lay]
        refine takeH 25 rfl (by kernel_rfl) rfl (by intro w k; simp only [Held] at k; go_simp; try with_reducible rfl) hHeld ?_
        try simp only [lay]
        refine takeH 26 rfl (by kernel_rfl) rfl (by intro w k; simp only [Held] at k; go_simp; try with_reducible rfl) hHeld ?_
        try simp only [lay]
        have HBX := Lib.hid ((HB5'.out.drew).trans ((hba.trans ((hbb.trans (hbc.mono hbb.size)).mono hba.size)).mono (by exact HB5'.out.size)))
        clear hba hbb hbc
        have HLX := Lib.hid hHeld
        simp only [Held] at hHeld
        generalize wc = WX at *
        refine wpAnyH_done (by kernel_rfl) ?_ _
        refine NoPanic.normal ?_
        go_wp2_with fail
        refine wp_region_noPanic ?_
        refine wp_region_held_drew (S := fun w' => Held w' _) (by kernel_rfl) HLX.out.drew (fun hHeld => ?_)
        refine takeH 0 rfl (by kernel_rfl) rfl (by intro w k; simp only [Held] at k; go_simp; try with_reducible rfl) hHeld ?_
        try simp only [lay]
        refine takeH 3 rfl (by kernel_rfl) rfl (by intro w k; simp only [Held] at k; go_simp; try with_reducible rfl) hHeld ?_
        try simp only [lay]
        refine takeH 4 rfl (by kernel_rfl) rfl (by intro w k; simp only [Held] at k; go_simp; try with_reducible rfl) hHeld ?_
        try simp only [lay]
        refine callH 1 rfl (by kernel_rfl) rfl ?_
        intro K' hK
        go_simp
        refine (HT.out _).mono ?_
        rintro e wd ⟨rfl, hbd⟩
        refine hK.out _ _ (by exact Held.same hbd (by assumption)) (fun hHeld => ?_)
        clear hK K'
        try simp only [lay]
        refine takeH 2 rfl (by kernel_rfl) rfl (by intro w k; simp only [Held] at k; go_simp; try with_reducible rfl) hHeld ?_
        try simp only [lay]
        refine takeH 5 rfl (by kernel_rfl) rfl (by intro w k; simp only [Held] at k; go_simp; try with_reducible rfl) hHeld ?_
        try simp only [lay]
        refine takeH 6 rfl (by kernel_rfl) rfl (by intro w k; simp only [Held] at k; go_simp; try with_reducible rfl) hHeld ?_
        try simp only [lay]
        refine takeH 7 rfl (by kernel_rfl) rfl (by intro w k; simp only [Held] at k; go_simp; try with_reducible rfl) hHeld ?_
        try simp only [lay]
        refine takeH 8 rfl (by kernel_rfl) rfl (by intro w k; simp only [Held] at k; go_simp; try with_reducible rfl) hHeld ?_
        try simp only [lay]
        refine takeH 9 rfl (by kernel_rfl) rfl (by intro w k; simp only [Held] at k; go_simp; try with_reducible rfl) hHeld ?_
        try simp only [lay]
        refine takeH 10 rfl (by kernel_rfl) rfl (by intro w k; simp only [Held] at k; go_simp; try with_reducible rfl) hHeld ?_
        try simp only [lay]
        refine takeH 11 rfl (by kernel_rfl) rfl (by intro w k; simp only [Held] at k; go_simp; try with_reducible rfl) hHeld ?_
        try simp only [lay]
        refine takeH 12 rfl (by kernel_rfl) rfl (by intro w k; simp only [Held] at k; go_simp; try with_reducible rfl) hHeld ?_
        try simp only [lay]
        refine takeH 13 rfl (by kernel_rfl) rfl (by intro w k; simp only [Held] at k; go_simp; try with_reducible rfl) hHeld ?_
        try simp only [lay]
        refine wpAnyH_done (by kernel_rfl) ?_ _
        refine NoPanic.normal ?_
        have HBY := Lib.hid (HBX.out.drew.trans (hbd.mono (by exact HBX.out.size)))
        clear hbd
        go_wp2
        go_ret
        exact ⟨rfl, HBY.out⟩
      · have hbc' : (bc == 0) = false := by simp [hbc]
        clear hno
        have HBC := Lib.hid hbc
        clear hbc
        refine wp_region_noPanic ?_
        refine wp_region_held_drew (S := fun w' => Held w' _) (by kernel_rfl) HL6.out.drew (fun hHeld => ?_)
        refine takeH 0 rfl (by kernel_rfl) rfl (by intro w k; simp only [Held] at k; go_simp; try with_reducible rfl) hHeld ?_
        try simp only [lay]
        refine takeH 1 rfl (by kernel_rfl) rfl (by intro w k; simp only [Held] at k; go_simp; try with_reducible rfl) hHeld ?_
        try simp only [lay]
        refine takeH 2 rfl (by kernel_rfl) rfl (by intro w k; simp only [Held] at k; go_simp; try with_reducible rfl) hHeld ?_
        try simp only [lay]
        refine callH 3 rfl (by kernel_rfl) rfl ?_
        intro K' hK
        go_simp
        refine (SPEC.out _).mono ?_
        rintro e wa ⟨rfl, hba⟩
        refine hK.out _ _ (by exact Held.same hba (by assumption)) (fun hHeld => ?_)
        clear hK K'
        try simp only [lay]
        refine takeH 4 rfl (by kernel_rfl) rfl (by intro w k; simp only [Held] at k; go_simp; try with_reducible rfl) hHeld ?_
        try simp only [lay]
        refine takeH 5 rfl (by kernel_rfl) rfl (by intro w k; simp only [Held] at k; go_simp; try with_reducible rfl) hHeld ?_
        try simp only [lay]
        refine takeH 6 rfl (by kernel_rfl) rfl (by intro w k; simp only [Held] at k; go_simp; try with_reducible rfl) hHeld ?_
        try simp only [lay]
        refine takeH 7 rfl (by kernel_rfl) rfl (by intro w k; simp only [Held] at k; go_simp; try with_reducible rfl) hHeld ?_
        try simp only [lay]
        refine takeH 8 rfl (by kernel_rfl) rfl (by intro w k; simp only [Held] at k; go_simp; try with_reducible rfl) hHeld ?_
        try simp only [lay]
        refine takeH 9 rfl (by kernel_rfl) rfl (by intro w k; simp only [Held] at k; go_simp; try with_reducible rfl) hHeld ?_
        try simp only [lay]
        refine callH 10 rfl (by kernel_rfl) rfl ?_
        intro K' hK
        go_simp
        refine (SPEC.out _).mono ?_
        rintro e wb ⟨rfl, hbb⟩
        refine hK.out _ _ (by exact Held.same hbb (by assumption)) (fun hHeld => ?_)
        clear hK K'
        try simp only [lay]
        refine takeH 11 rfl (by kernel_rfl) rfl (by intro w k; simp only [Held] at k; go_simp; try with_reducible rfl) hHeld ?_
        try simp only [lay]
        refine takeH 12 rfl (by kernel_rfl) rfl (by intro w k; simp only [Held] at k; go_simp; try with_reducible rfl) hHeld ?_
        try simp only [lay]
        refine takeH 13 rfl (by kernel_rfl) rfl (by intro w k; simp only [Held] at k; go_simp; try with_reducible rfl) hHeld ?_
        try simp only [lay]
        refine takeH 14 rfl (by kernel_rfl) rfl (by intro w k; simp only [Held] at k; go_simp; try with_reducible rfl) hHeld ?_
        try simp only [lay]
        refine takeH 15 rfl (by kernel_rfl) rfl (by intro w k; simp only [Held] at k; go_simp; try with_reducible rfl) hHeld ?_
        try simp only [lay]
        refine takeH 16 rfl (by kernel_rfl) rfl (by intro w k; simp only [Held] at k; go_simp; try with_reducible rfl) hHeld ?_
        try simp only [lay]
        refine takeH 17 rfl (by kernel_rfl) rfl (by intro w k; simp only [Held] at k; go_simp; try with_reducible rfl) hHeld ?_
        try simp only [lay]
        refine takeH 18 rfl (by kernel_rfl) rfl (by intro w k; simp only [Held] at k; go_simp; try with_reducible rfl) hHeld ?_
        try simp only [lay]
        refine skipH 19 rfl (by kernel_rfl) rfl hHeld ?_
        try simp only [lay]
        refine skipH 20 rfl (by kernel_rfl) rfl hHeld ?_
        try simp only [lay]
        refine skipH 21 rfl (by kernel_rfl) rfl hHeld ?_
        try simp only [lay]
        refine skipH 22 rfl (by kernel_rfl) rfl hHeld ?_
        try simp only [lay]
        refine skipH 23 rfl (by kernel_rfl) rfl hHeld ?_
        try simp only [lay]
        refine skipH 24 rfl (by kernel_rfl) rfl hHeld ?_
        try simp only [lay]
        refine takeH 25 rfl (by kernel_rfl) rfl (by intro w k; simp only [Held] at k; go_simp; try with_reducible rfl) hHeld ?_
        try simp only [lay]
        refine takeH 26 rfl (by kernel_rfl) rfl (by intro w k; simp only [Held] at k; go_simp; try with_reducible rfl) hHeld ?_
        try simp only [lay]
        have HBX := Lib.hid ((HB5'.out.drew).trans ((hba.trans (hbb.mono hba.size)).mono (by exact HB5'.out.size)))
        clear hba hbb
        have HLX := Lib.hid hHeld
        simp only [Held] at hHeld
        generalize wb = WX at *
        refine wpAnyH_done (by kernel_rfl) ?_ _
        refine NoPanic.normal ?_
        go_wp2_with fail
        refine wp_region_noPanic ?_
        refine wp_region_held_drew (S := fun w' => Held w' _) (by kernel_rfl) HLX.out.drew (fun hHeld => ?_)
        refine takeH 0 rfl (by kernel_rfl) rfl (by intro w k; simp only [Held] at k; go_simp; try with_reducible rfl) hHeld ?_
        try simp only [lay]
        refine takeH 3 rfl (by kernel_rfl) rfl (by intro w k; simp only [Held] at k; go_simp; try with_reducible rfl) hHeld ?_
        try simp only [lay]
        refine takeH 4 rfl (by kernel_rfl) rfl (by intro w k; simp only [Held] at k; go_simp; try with_reducible rfl) hHeld ?_
        try simp only [lay]
        refine callH 1 rfl (by kernel_rfl) rfl ?_
        intro K' hK
        go_simp
        refine (HT.out _).mono ?_
        rintro e wd ⟨rfl, hbd⟩
        refine hK.out _ _ (by exact Held.same hbd (by assumption)) (fun hHeld => ?_)
        clear hK K'
        try simp only [lay]
        refine takeH 2 rfl (by kernel_rfl) rfl (by intro w k; simp only [Held] at k; go_simp; try with_reducible rfl) hHeld ?_
        try simp only [lay]
        refine takeH 5 rfl (by kernel_rfl) rfl (by intro w k; simp only [Held] at k; go_simp; try with_reducible rfl) hHeld ?_
        try simp only [lay]
        refine takeH 6 rfl (by kernel_rfl) rfl (by intro w k; simp only [Held] at k; go_simp; try with_reducible rfl) hHeld ?_
        try simp only [lay]
        refine takeH 7 rfl (by kernel_rfl) rfl (by intro w k; simp only [Held] at k; go_simp; try with_reducible rfl) hHeld ?_
        try simp only [lay]
        refine takeH 8 rfl (by kernel_rfl) rfl (by intro w k; simp only [Held] at k; go_simp; try with_reducible rfl) hHeld ?_
        try simp only [lay]
        refine takeH 9 rfl (by kernel_rfl) rfl (by intro w k; simp only [Held] at k; go_simp; try with_reducible rfl) hHeld ?_
        try simp only [lay]
        refine takeH 10 rfl (by kernel_rfl) rfl (by intro w k; simp only [Held] at k; go_simp; try with_reducible rfl) hHeld ?_
        try simp only [lay]
        refine takeH 11 rfl (by kernel_rfl) rfl (by intro w k; simp only [Held] at k; go_simp; try with_reducible rfl) hHeld ?_
        try simp only [lay]
        refine takeH 12 rfl (by kernel_rfl) rfl (by intro w k; simp only [Held] at k; go_simp; try with_reducible rfl) hHeld ?_
        try simp only [lay]
        refine takeH 13 rfl (by kernel_rfl) rfl (by intro w k; simp only [Held] at k; go_simp; try with_reducible rfl) hHeld ?_
        try simp only [lay]
        refine wpAnyH_done (by kernel_rfl) ?_ _
        refine NoPanic.normal ?_
        have HBY := Lib.hid (HBX.out.drew.trans (hbd.mono (by exact HBX.out.size)))
        clear hbd
        go_wp2
        go_ret
        exact ⟨rfl, HBY.out⟩
  · go_enter Try.func3, Try.ntmps3
    go_wp2_with fail
    refine (lwBig_yes _ zs _ HS.out h5).mono ?_
    rintro e w' ⟨rfl, rfl⟩
    go_wp2
    go_ret
    exact ⟨rfl, (by repeat (first | exact Below.refl _ _ | assumption | refine Below.drew ?_ | refine Below_drewN ?_ _ | refine Below.alloc ?_ (by first | omega | (simp; done) | (simp; omega)) _ | refine Below.setCell ?_ (by first | omega | (simp; done) | (simp; omega)) _ | (refine Below.trans ?_ (Below.mono (by assumption) (by first | omega | (simp; done) | (simp; omega))))))⟩

set_option maxRecDepth 100000 in
theorem lifted (os : Os) (started : os.Started) (H : Type) (enc : TypeId × Value → H) :
    ReturnsInHanded {} Try.checked os 3 .any (Rows.fnTargetsSpec.pre6 enc Try.prog Try.f3 Rows.fnTargetsRow.domain false) (Rows.fnTargetsSpec.post enc Try.prog Try.f3 false true false false) := by
  refine returnsInHanded_of_change (C := Try.checked) own started (by kernel_rfl) Try.func3
    (ChangeSpec.witness6 (enc := enc) (C := Try.checked) false ⟨#[], #[.slice none 0 0], []⟩ 8 (by kernel_rfl) (by kernel_rfl) (by kernel_rfl) (by kernel_rfl)) ?_
  intro W base args ds gs before hval0 hW hcnd _
  have hval : ∀ (j : Nat) t v, Try.f3.params[j]? = some t → args[j]? = some v → Value.okWide Try.prog W .any base t v := hval0
  have hW' := hW
  obtain ⟨p, q, hA0, hV, rfl, hfz, hnd⟩ := hW
  have hA : DataW.TrodAll enc Try.prog W 0 (fun _ => true) true Try.f3.params.toList args.toList ds p := hA0
  rw [Try.params3] at hA hval
  obtain ⟨v0, vs0, d0, ds0, p0, q0, hargs, rfl, rfl, h0, r0⟩ := trodAll_cons hA
  obtain ⟨rfl, rfl, rfl⟩ := trodAll_nil r0
  obtain rfl : args = #[v0] := by cases args; simp_all
  obtain ⟨rfl, rfl⟩ := trodVars_none hV
  obtain ⟨a0, len0, cap0, rfl⟩ := okWide_slice Try.underlying22 (hval 0 22 v0 rfl rfl)
  have k0 := h0
  have lt0 : ∀ x ∈ p0, x.block < W.heap.size := by obtain ⟨m, hm⟩ := k0; exact DataW.trod_lt m _ _ _ hm
  obtain ⟨z0, w0⟩ : ∃ zs, IsRow .u8 W a0 len0 cap0 zs := by
    obtain ⟨fuel, hf⟩ := h0
    rcases open_ints Try.underlying22 Try.underlying5 (by kernel_rfl) hf with ⟨hcs, _⟩ | ⟨x, l, c, zs, hcs, _, hl, hm, hz, _, hcell, hwz⟩
    · simp [Value.cells] at hcs
      obtain ⟨rfl, rfl, rfl⟩ := hcs
      exact ⟨[], .inl ⟨rfl, rfl, rfl, rfl⟩⟩
    · simp [Value.cells] at hcs
      obtain ⟨rfl, rfl, rfl⟩ := hcs
      exact ⟨zs, .inr ⟨_, rfl, hl, hm, by simpa using hz, hcell, hwz⟩⟩
  clear hA0 hval0
  refine (walk a0 len0 cap0 z0 W w0).mono fun e W' ⟨he, bel⟩ => ?_
  subst he
  exact ⟨_, rfl, _, _, _, [], _, [], hW', trodAll_mk1 (shut_bool Try.underlying4 _), (trodAll_cons_mk (Below.trod laidOut (by kernel_rfl) (of_decide_eq_true (by kernel_rfl)) k0 bel lt0) trodAll_mk0), rfl, bel.frame _, fun h => by cases h⟩

theorem over : Rows.fnTargetsRow.holds Try.pinned (OpenSpec.ofChange Rows.fnTargetsSpec) :=
  OpenClaim.holds_of_wide 3 Try.f3 rfl rfl rfl rfl rfl rfl rfl ⟨rfl, rfl, rfl, rfl, rfl⟩ rfl rfl rfl rfl rfl (by kernel_rfl) Try.func3 (by kernel_rfl)
    (of_decide_eq_true (by kernel_rfl)) (by unfold Func.isWrapper; first | (rw [if_pos (by decide +kernel)]; kernel_rfl) | (rw [if_neg (by decide +kernel)]; exact ⟨rfl, rfl⟩))
    (fun os started H enc _ => lifted os started H enc)

theorem proved : Rows.FnTargetsSaid := over
#print axioms proved
end Go.Proofs.Ytechmmppdciidaa.fnTargets
