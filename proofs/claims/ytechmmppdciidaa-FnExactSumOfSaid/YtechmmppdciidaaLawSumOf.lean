/-
  The statement FnExactSumOf: at every byte slice, impl.SumOf answers as the specification's SumOf and leaves its argument alone; no condition.
-/
import Derived.Test.YtechmmppdciidaaRows
import Derived.Test.YtechmmppdciidaaMem
import Derived.WalkKit
import Derived.ProofKit
import Derived.OpenShut
import Derived.ShutString
import Derived.ChangeOld
import Derived.Below
namespace Go.Proofs.Ytechmmppdciidaa.fnExactSumOf
open Go.ChangeShapes Go.WideShapes Go.ChangeAt Go.RowKit
open Go.ChangeMaps (open_string shut_string)
set_option linter.unusedVariables false
set_option linter.unusedSimpArgs false

theorem own : ownKnob Try.prog.godebug = none := by kernel_rfl
theorem laidOut : laidOutB Try.prog = true := by kernel_rfl

/-- Both in one. -/
theorem both (zs : List Int) : ∃ a b : Int, (∀ w v, Sl .u8 w v zs → Calls Try.prog 31 #[v] w fun e w' => e = .returned (ir a b) ∧ Below w.heap.size w w') ∧ (∀ w v, Sl .u8 w v zs → Calls Try.prog 30 #[v] w fun e w' => e = .returned (ir a b) ∧ Below w.heap.size w w') := by
  by_cases h4 : zs.length ≤ 4000
  · exact ⟨0, sumF zs, fun w v h => specSumOf_in v zs w h h4, fun w v h => implSumOf_in v zs w h h4⟩
  · exact ⟨2, 0, fun w v h => specSumOf_many v zs w h h4, fun w v h => implSumOf_many v zs w h h4⟩

theorem walk (a0 : Option Addr) (len0 cap0 : Nat) (z0 : List Int) (w : World) (w0 : IsRow .u8 w a0 len0 cap0 z0) :
    Calls Try.prog 5 #[.slice a0 len0 cap0] w fun e w' => e = .returned (.bool true) ∧ Below w.heap.size w w' := by
  have hS := Sl.of_row w0
  generalize hzs : z0.take len0 = zs at hS
  obtain ⟨a, cap, hv, hl, hm, hne, hw⟩ := hS
  simp only [Value.slice.injEq] at hv
  obtain ⟨rfl, hlen, rfl⟩ := hv
  have hS : Sl .u8 w (.slice a0 zs.length cap0) zs := ⟨a0, cap0, rfl, hl, hm, hne, hw⟩
  have HW := Lib.hid hw
  clear hne hzs w0 hw
  subst hlen
  unfold maxLen at hm
  obtain ⟨x, y, hs, hi⟩ := both zs
  have HS := Lib.hid hS
  have HA := Lib.hid hs
  have HI := Lib.hid hi
  clear hS hs hi
  by_cases h5 : zs.length ≤ 1048576
  · go_enter Try.func5, Try.ntmps5
    go_wp2_with fail
    refine (toByteS_any _ zs _ HS.out h5).mono ?_
    rintro e w1 ⟨⟨u1, rfl, hown1, _⟩, hb1⟩
    have hS1 := Lib.hid (Sl.of_owns hown1 HW.out)
    clear hown1
    obtain ⟨hc_hb1, hf_hb1, hz_hb1⟩ := bcell hb1; (try simp only [World.size_alloc, World.size_setCell, World.size_drew] at hz_hb1)
    go_wp2_with fail
    refine (HA.out _ _ hS1.out).mono ?_
    rintro e w2 ⟨rfl, hb2⟩
    obtain ⟨hc_hb2, hf_hb2, hz_hb2⟩ := bcell hb2; (try simp only [World.size_alloc, World.size_setCell, World.size_drew] at hz_hb2)
    go_wp2_with fail
    refine (toByteS_any _ zs _ (HS.out.same (by repeat (first | exact Below.refl _ _ | assumption | refine Below.drew ?_ | refine Below_drewN ?_ _ | refine Below.alloc ?_ (by first | omega | (simp; done) | (simp; omega)) _ | refine Below.setCell ?_ (by first | omega | (simp; done) | (simp; omega)) _ | (refine Below.trans ?_ (Below.mono (by assumption) (by first | omega | (simp; done) | (simp; omega))))))) h5).mono ?_
    rintro e w3 ⟨⟨u3, rfl, hown3, _⟩, hb3⟩
    have hS3 := Lib.hid (Sl.of_owns hown3 HW.out)
    clear hown3
    obtain ⟨hc_hb3, hf_hb3, hz_hb3⟩ := bcell hb3; (try simp only [World.size_alloc, World.size_setCell, World.size_drew] at hz_hb3)
    have hz3 : w2.heap.size < w3.heap.size := by omega
    go_wp2_with fail
    refine (HI.out _ _ hS3.out).mono ?_
    rintro e w4 ⟨rfl, hb4⟩
    obtain ⟨hc_hb4, hf_hb4, hz_hb4⟩ := bcell hb4; (try simp only [World.size_alloc, World.size_setCell, World.size_drew] at hz_hb4)
    have hz4 : w2.heap.size < w4.heap.size := by omega
    go_wp2_with fail
    refine (eqIntResult_yes _ _ _).mono ?_
    rintro e w5 ⟨rfl, hb5⟩
    obtain ⟨hc_hb5, hf_hb5, hz_hb5⟩ := bcell hb5; (try simp only [World.size_alloc, World.size_setCell, World.size_drew] at hz_hb5)
    go_wp2_with fail
    refine (toByteS_any _ zs _ (HS.out.same (by repeat (first | exact Below.refl _ _ | assumption | refine Below.drew ?_ | refine Below_drewN ?_ _ | refine Below.alloc ?_ (by first | omega | (simp; done) | (simp; omega)) _ | refine Below.setCell ?_ (by first | omega | (simp; done) | (simp; omega)) _ | (refine Below.trans ?_ (Below.mono (by assumption) (by first | omega | (simp; done) | (simp; omega))))))) h5).mono ?_
    rintro e w6 ⟨⟨u6, rfl, hown6, _⟩, hb6⟩
    have hS6 := Lib.hid (Sl.of_owns hown6 HW.out)
    clear hown6
    obtain ⟨hc_hb6, hf_hb6, hz_hb6⟩ := bcell hb6; (try simp only [World.size_alloc, World.size_setCell, World.size_drew] at hz_hb6)
    go_wp2_with fail
    refine (eqByteS_yes _ _ zs _ ((hS3.out.same hb4).same (by repeat (first | exact Below.refl _ _ | assumption | refine Below.drew ?_ | refine Below_drewN ?_ _ | refine Below.alloc ?_ (by first | omega | (simp; done) | (simp; omega)) _ | refine Below.setCell ?_ (by first | omega | (simp; done) | (simp; omega)) _ | (refine Below.trans ?_ (Below.mono (by assumption) (by first | omega | (simp; done) | (simp; omega))))))) hS6.out).mono ?_
    rintro e w7 ⟨rfl, hb7⟩
    go_wp2
    go_ret
    exact ⟨rfl, (by repeat (first | exact Below.refl _ _ | assumption | refine Below.drew ?_ | refine Below_drewN ?_ _ | refine Below.alloc ?_ (by first | omega | (simp; done) | (simp; omega)) _ | refine Below.setCell ?_ (by first | omega | (simp; done) | (simp; omega)) _ | (refine Below.trans ?_ (Below.mono (by assumption) (by first | omega | (simp; done) | (simp; omega))))))⟩
  · go_enter Try.func5, Try.ntmps5
    go_wp2
    go_ret
    exact ⟨rfl, (by repeat (first | exact Below.refl _ _ | assumption | refine Below.drew ?_ | refine Below_drewN ?_ _ | refine Below.alloc ?_ (by first | omega | (simp; done) | (simp; omega)) _ | refine Below.setCell ?_ (by first | omega | (simp; done) | (simp; omega)) _ | (refine Below.trans ?_ (Below.mono (by assumption) (by first | omega | (simp; done) | (simp; omega))))))⟩

set_option maxRecDepth 100000 in
theorem lifted (os : Os) (started : os.Started) (H : Type) (enc : TypeId × Value → H) :
    ReturnsInHanded {} Try.checked os 5 .any (Rows.fnExactSumOfSpec.pre6 enc Try.prog Try.f5 Rows.fnExactSumOfRow.domain false) (Rows.fnExactSumOfSpec.post enc Try.prog Try.f5 false true false false) := by
  refine returnsInHanded_of_change (C := Try.checked) own started (by kernel_rfl) Try.func5
    (ChangeSpec.witness6 (enc := enc) (C := Try.checked) false ⟨#[], #[.slice none 0 0], []⟩ 8 (by kernel_rfl) (by kernel_rfl) (by kernel_rfl) (by kernel_rfl)) ?_
  intro W base args ds gs before hval0 hW hcnd _
  have hval : ∀ (j : Nat) t v, Try.f5.params[j]? = some t → args[j]? = some v → Value.okWide Try.prog W .any base t v := hval0
  have hW' := hW
  obtain ⟨p, q, hA0, hV, rfl, hfz, hnd⟩ := hW
  have hA : DataW.TrodAll enc Try.prog W 0 (fun _ => true) true Try.f5.params.toList args.toList ds p := hA0
  rw [Try.params5] at hA hval
  obtain ⟨v0, vs0, d0, ds0, p0, q0, hargs, rfl, rfl, h0, r0⟩ := trodAll_cons hA
  obtain ⟨rfl, rfl, rfl⟩ := trodAll_nil r0
  obtain rfl : args = #[v0] := by cases args; simp_all
  obtain ⟨rfl, rfl⟩ := trodVars_none hV
  obtain ⟨a0, len0, cap0, rfl⟩ := okWide_slice Try.underlying22 (hval 0 22 v0 rfl rfl)
  have k0 := h0
  have lt0 : ∀ x ∈ p0, x.block < W.heap.size := by obtain ⟨m, hm⟩ := k0; exact DataW.trod_lt m _ _ _ hm
  obtain ⟨z0, w0⟩ : ∃ zs, IsRow .u8 W a0 len0 cap0 zs := by
    obtain ⟨fuel, hf⟩ := h0
    rcases open_ints Try.underlying22 Try.underlying5 (by kernel_rfl) hf with ⟨hcs, _⟩ | ⟨x, l, c, zs, hcs, _, hl, hm, hz, _, hcell, hwz⟩
    · simp [Value.cells] at hcs
      obtain ⟨rfl, rfl, rfl⟩ := hcs
      exact ⟨[], .inl ⟨rfl, rfl, rfl, rfl⟩⟩
    · simp [Value.cells] at hcs
      obtain ⟨rfl, rfl, rfl⟩ := hcs
      exact ⟨zs, .inr ⟨_, rfl, hl, hm, by simpa using hz, hcell, hwz⟩⟩
  clear hA0 hval0
  refine (walk a0 len0 cap0 z0 W w0).mono fun e W' ⟨he, bel⟩ => ?_
  subst he
  exact ⟨_, rfl, _, _, _, [], _, [], hW', trodAll_mk1 (shut_bool Try.underlying4 _), (trodAll_cons_mk (Below.trod laidOut (by kernel_rfl) (of_decide_eq_true (by kernel_rfl)) k0 bel lt0) trodAll_mk0), rfl, bel.frame _, fun h => by cases h⟩

theorem over : Rows.fnExactSumOfRow.holds Try.pinned (OpenSpec.ofChange Rows.fnExactSumOfSpec) :=
  OpenClaim.holds_of_wide 5 Try.f5 rfl rfl rfl rfl rfl rfl rfl ⟨rfl, rfl, rfl, rfl, rfl⟩ rfl rfl rfl rfl rfl (by kernel_rfl) Try.func5 (by kernel_rfl)
    (of_decide_eq_true (by kernel_rfl)) (by unfold Func.isWrapper; first | (rw [if_pos (by decide +kernel)]; kernel_rfl) | (rw [if_neg (by decide +kernel)]; exact ⟨rfl, rfl⟩))
    (fun os started H enc _ => lifted os started H enc)

theorem proved : Rows.FnExactSumOfSaid := over
#print axioms proved
end Go.Proofs.Ytechmmppdciidaa.fnExactSumOf
