/-
  CONTRACTS OF THE DRAWS of chapter 1: bits, targets, amounts, lists.
-/
import Derived.Test.YtechmmppdciidaaDraw
namespace Go.Proofs.Ytechmmppdciidaa
open Go.ChangeShapes Go.WideShapes Go.ChangeAt Go.RowKit
set_option linter.unusedSimpArgs false
set_option linter.unusedVariables false

/-- A drawn number: some int64 of modest size; what was there stays. -/
def DrawInt (w : World) (e : Ending) (w' : World) : Prop := (∃ r : Int, e = .returned (.int .i64 r) ∧ -1 ≤ r ∧ r ≤ 2147483647) ∧ Below w.heap.size w w'

set_option maxHeartbeats 800000 in
theorem DrawTargetOf_any (v : Value) (zs : List Int) (w : World) (h : Sl .u8 w v zs) (hl : zs.length ≤ 1048577) :
    Calls Try.prog 13 #[v] w (DrawInt w) := by
  have HS := Lib.hid h
  obtain ⟨a, cap, rfl, hll, hm, hne, hw⟩ := h
  clear hne hw
  go_enter Try.func13, Try.ntmps13
  go_wp2_with fail
  refine (l1Source_any _ zs _ HS.out hl).mono ?_
  rintro e w1 ⟨rfl, hs1, hb1, hz1⟩
  have HS1 := Lib.hid (SrcK.start hs1)
  have HZ1 := Lib.hid hz1
  clear hs1 hz1
  go_wp2_with fail
  refine (l1Next_k _ _ zs _ _ _ HS1.out (by omega) (by omega) (by omega)).mono ?_
  rintro e w2 ⟨r2, rfl, hr2, hs2, hb2, hz2, hg2⟩
  have HG2 := Lib.hid hg2
  have HB2 := Lib.hid hb2
  have HS2 := Lib.hid hs2
  have HZ2 := Lib.hid hz2
  clear hs2 hz2 hb2 hg2
  go_wp2_with fail
  refine (l1Next_k _ _ zs _ _ _ HS2.out (by omega) (by omega) (by omega)).mono ?_
  rintro e w3 ⟨r3, rfl, hr3, hs3, hb3, hz3, hg3⟩
  have HG3 := Lib.hid hg3
  have HB3 := Lib.hid hb3
  have HS3 := Lib.hid hs3
  have HZ3 := Lib.hid hz3
  clear hs3 hz3 hb3 hg3
  go_wp2_with fail
  refine (l1Pick_k _ _ zs _ _ [r2 - 1, r3 - 1, 256, 255, 257, 1023, 1024] _ (HS3.out.alloc _) (by omega) (by exact Sl.litAt _ [r2 - 1, r3 - 1, 256, 255, 257, 1023, 1024] _ (by first | rfl | simp) rfl rfl (by simp [maxLen]) (i64s_wf (by intro n hn; simp at hn; omega))) (by simp) (by simp) (by intro a l c h; simp at h; obtain ⟨⟨rfl, _⟩, _⟩ := h; have := HS3.out.lt; simp; omega)).mono ?_
  rintro e w4 ⟨r4, rfl, hr4, hs4, hb4, hz4, hg4⟩
  have HG4 := Lib.hid hg4
  have HB4 := Lib.hid hb4
  have HS4 := Lib.hid hs4
  have HZ4 := Lib.hid hz4
  clear hs4 hz4 hb4 hg4
  have hq : -1 ≤ r4 ∧ r4 ≤ 2147483647 := by simp at hr4; omega
  have h2 := HB2.out w.heap.size (Nat.le_refl _)
  have h3 := HB3.out w.heap.size (Nat.le_refl _)
  have h4 := HB4.out w.heap.size (Nat.le_refl _)
  have z3 : w.heap.size ≤ w3.heap.size := by have := h3.size; have := h2.size; have := hb1.size; omega
  have hB : Below w.heap.size w w4 := ((((hb1.trans h2).trans h3).alloc z3 _).trans h4)
  have HBB := Lib.hid hB
  clear h2 h3 h4 hB hr4
  go_wp2
  go_ret
  exact ⟨⟨_, rfl, hq⟩, HBB.out⟩

set_option maxHeartbeats 800000 in
theorem DrawBitsOf_any (v : Value) (zs : List Int) (w : World) (h : Sl .u8 w v zs) (hl : zs.length ≤ 1048577) :
    Calls Try.prog 16 #[v] w (DrawInt w) := by
  have HS := Lib.hid h
  obtain ⟨a, cap, rfl, hll, hm, hne, hw⟩ := h
  clear hne hw
  go_enter Try.func16, Try.ntmps16
  go_wp2_with fail
  refine (l1Source_any _ zs _ HS.out hl).mono ?_
  rintro e w1 ⟨rfl, hs1, hb1, hz1⟩
  have HS1 := Lib.hid (SrcK.start hs1)
  have HZ1 := Lib.hid hz1
  clear hs1 hz1
  go_wp2_with fail
  refine (l1Next_k _ _ zs _ _ _ HS1.out (by omega) (by omega) (by omega)).mono ?_
  rintro e w2 ⟨r2, rfl, hr2, hs2, hb2, hz2, hg2⟩
  have HG2 := Lib.hid hg2
  have HB2 := Lib.hid hb2
  have HS2 := Lib.hid hs2
  have HZ2 := Lib.hid hz2
  clear hs2 hz2 hb2 hg2
  go_wp2_with fail
  refine (l1Next_k _ _ zs _ _ _ HS2.out (by omega) (by omega) (by omega)).mono ?_
  rintro e w3 ⟨r3, rfl, hr3, hs3, hb3, hz3, hg3⟩
  have HG3 := Lib.hid hg3
  have HB3 := Lib.hid hb3
  have HS3 := Lib.hid hs3
  have HZ3 := Lib.hid hz3
  clear hs3 hz3 hb3 hg3
  go_wp2_with fail
  refine (l1Pick_k _ _ zs _ _ [r2, r3 * 1000, 0, 1, 2147483646, 2147483647] _ (HS3.out.alloc _) (by omega) (by exact Sl.litAt _ [r2, r3 * 1000, 0, 1, 2147483646, 2147483647] _ (by first | rfl | simp) rfl rfl (by simp [maxLen]) (i64s_wf (by intro n hn; simp at hn; omega))) (by simp) (by simp) (by intro a l c h; simp at h; obtain ⟨⟨rfl, _⟩, _⟩ := h; have := HS3.out.lt; simp; omega)).mono ?_
  rintro e w4 ⟨r4, rfl, hr4, hs4, hb4, hz4, hg4⟩
  have HG4 := Lib.hid hg4
  have HB4 := Lib.hid hb4
  have HS4 := Lib.hid hs4
  have HZ4 := Lib.hid hz4
  clear hs4 hz4 hb4 hg4
  have hq : -1 ≤ r4 ∧ r4 ≤ 2147483647 := by simp at hr4; omega
  have h2 := HB2.out w.heap.size (Nat.le_refl _)
  have h3 := HB3.out w.heap.size (Nat.le_refl _)
  have h4 := HB4.out w.heap.size (Nat.le_refl _)
  have z3 : w.heap.size ≤ w3.heap.size := by have := h3.size; have := h2.size; have := hb1.size; omega
  have hB : Below w.heap.size w w4 := ((((hb1.trans h2).trans h3).alloc z3 _).trans h4)
  have HBB := Lib.hid hB
  clear h2 h3 h4 hB hr4
  go_wp2
  go_ret
  exact ⟨⟨_, rfl, hq⟩, HBB.out⟩

theorem DrawWorkOf_any (v : Value) (zs : List Int) (w : World) (h : Sl .u8 w v zs) (hl : zs.length ≤ 1048577) :
    Calls Try.prog 20 #[v] w (DrawInt w) := by
  have HS := Lib.hid h
  obtain ⟨a, cap, rfl, hll, hm, hne, hw⟩ := h
  clear hne hw
  go_enter Try.func20, Try.ntmps20
  go_wp2_with fail
  refine (DrawTargetOf_any _ zs _ HS.out hl).mono ?_
  rintro e w1 ⟨⟨r, rfl, hr⟩, hb⟩
  go_wp2
  go_ret
  exact ⟨⟨_, rfl, hr⟩, hb⟩

set_option maxHeartbeats 800000 in
theorem DrawAddMoney_any (v : Value) (zs : List Int) (w : World) (h : Sl .u8 w v zs) (hl : zs.length ≤ 1048577) :
    Calls Try.prog 21 #[v] w fun e w' => (∃ r s : Int, e = .returned (.tuple #[.int .i64 r, .int .i64 s]) ∧ (-1 ≤ r ∧ r ≤ 2147483647) ∧ (-1 ≤ s ∧ s ≤ 2147483647)) ∧ Below w.heap.size w w' := by
  have HS := Lib.hid h
  obtain ⟨a, cap, rfl, hll, hm, hne, hw⟩ := h
  clear hne hw
  go_enter Try.func21, Try.ntmps21
  go_wp2_with fail
  refine (l1Source_any _ zs _ HS.out hl).mono ?_
  rintro e w1 ⟨rfl, hs1, hb1, hz1⟩
  have HS1 := Lib.hid (SrcK.start hs1)
  have HZ1 := Lib.hid hz1
  clear hs1 hz1
  go_wp2_with fail
  refine (l1Next_k _ _ zs _ _ _ HS1.out (by omega) (by omega) (by omega)).mono ?_
  rintro e w2 ⟨r2, rfl, hr2, hs2, hb2, hz2, hg2⟩
  have HG2 := Lib.hid hg2
  have HB2 := Lib.hid hb2
  have HS2 := Lib.hid hs2
  have HZ2 := Lib.hid hz2
  clear hs2 hz2 hb2 hg2
  go_wp2_with fail
  refine (l1Pick_k _ _ zs _ _ [r2, 600000, 1000000, 1000001, -1] _ (HS2.out.alloc _) (by omega) (by exact Sl.litAt _ [r2, 600000, 1000000, 1000001, -1] _ (by first | rfl | simp) rfl rfl (by simp [maxLen]) (i64s_wf (by intro n hn; simp at hn; omega))) (by simp) (by simp) (by intro a l c h; simp at h; obtain ⟨⟨rfl, _⟩, _⟩ := h; have := HS2.out.lt; simp; omega)).mono ?_
  rintro e w3 ⟨r3, rfl, hr3, hs3, hb3, hz3, hg3⟩
  have HG3 := Lib.hid hg3
  have HB3 := Lib.hid hb3
  have HS3 := Lib.hid hs3
  have HZ3 := Lib.hid hz3
  clear hs3 hz3 hb3 hg3
  have hq : -1 ≤ r3 ∧ r3 ≤ 2147483647 := by simp at hr3; omega
  have h2 := HB2.out w.heap.size (Nat.le_refl _)
  have h3 := HB3.out w.heap.size (Nat.le_refl _)
  have z2 : w.heap.size ≤ w2.heap.size := by have := h2.size; have := hb1.size; omega
  have hB3 : Below w.heap.size w w3 := (((hb1.trans h2).alloc z2 _).trans h3)
  have HBB3 := Lib.hid hB3
  clear h2 h3 hB3 hr3
  go_wp2_with fail
  refine (l1Next_k _ _ zs _ _ _ HS3.out (by omega) (by omega) (by omega)).mono ?_
  rintro e w4 ⟨r4, rfl, hr4, hs4, hb4, hz4, hg4⟩
  have HG4 := Lib.hid hg4
  have HB4 := Lib.hid hb4
  have HS4 := Lib.hid hs4
  have HZ4 := Lib.hid hz4
  clear hs4 hz4 hb4 hg4
  go_wp2_with fail
  refine (l1Pick_k _ _ zs _ _ [r4, 400000, 400001] _ (HS4.out.alloc _) (by omega) (by exact Sl.litAt _ [r4, 400000, 400001] _ (by first | rfl | simp) rfl rfl (by simp [maxLen]) (i64s_wf (by intro n hn; simp at hn; omega))) (by simp) (by simp) (by intro a l c h; simp at h; obtain ⟨⟨rfl, _⟩, _⟩ := h; have := HS4.out.lt; simp; omega)).mono ?_
  rintro e w5 ⟨r5, rfl, hr5, hs5, hb5, hz5, hg5⟩
  have HG5 := Lib.hid hg5
  have HB5 := Lib.hid hb5
  have HS5 := Lib.hid hs5
  have HZ5 := Lib.hid hz5
  clear hs5 hz5 hb5 hg5
  have hq' : -1 ≤ r5 ∧ r5 ≤ 2147483647 := by simp at hr5; omega
  have h4 := HB4.out w.heap.size (Nat.le_refl _)
  have h5 := HB5.out w.heap.size (Nat.le_refl _)
  have z4 : w.heap.size ≤ w4.heap.size := by have := HBB3.out.size; have := h4.size; omega
  have hB : Below w.heap.size w w5 := (((HBB3.out.trans h4).alloc z4 _).trans h5)
  have HBB := Lib.hid hB
  clear h4 h5 hB hr5
  go_wp2
  go_ret2
  exact ⟨⟨_, _, rfl, hq, hq'⟩, HBB.out⟩

/-- A drawn list: a slice of the call's own. -/
def DrawInts (k : IntKind) (w : World) (lo hi : Int) (n : Nat) (e : Ending) (w' : World) : Prop := (∃ u, ∃ l : List Int, e = .returned u ∧ Sl k w' u l ∧ (∀ x ∈ l, lo ≤ x ∧ x ≤ hi) ∧ l.length ≤ n ∧ (∀ a m c, u = .slice (some a) m c → w.heap.size ≤ a.block)) ∧ Below w.heap.size w w'

def SomePost (w : World) (b : Nat) (cv : Value) (zs : List Int) (K : Nat) (n : Int) (e : Ending) (w' : World) : Prop :=
  (∃ u, ∃ l : List Int, e = .returned u ∧ w'.ownsRow w.heap.size 5 1 u l.length (l.map (Value.int .u8)) ∧ (∀ x ∈ l, 0 ≤ x ∧ x ≤ 255) ∧ (l.length : Int) = n) ∧ SrcK w' b cv zs (K + n.toNat) ∧ (∀ B, B ≤ b → Below B w w')
def SomeRel (w : World) (b : Nat) (cv : Value) (zs : List Int) (K : Nat) (n : Int) (m u : Value) (wr : World) : Prop :=
  ∃ l : List Int, SrcK wr b cv zs (K + l.length) ∧ m = .int .i64 (n - l.length) ∧ wr.ownsRow w.heap.size 5 1 u l.length (l.map (Value.int .u8)) ∧ (∀ x ∈ l, 0 ≤ x ∧ x ≤ 255) ∧ (l.length : Int) ≤ n ∧ (∀ B, B ≤ b → Below B w wr) ∧ w.heap.size ≤ wr.heap.size

set_option maxHeartbeats 1600000 in
theorem l1Some_any (b : Nat) (cv : Value) (zs : List Int) (K : Nat) (n : Int) (w : World) (h : SrcK w b cv zs K) (hK : K ≤ 800000) (hn0 : 0 ≤ n) (hn1 : n ≤ 100000) :
    Calls Try.prog 54 #[.pointer (some ⟨b, 0, none⟩), .int .i64 n] w (SomePost w b cv zs K n) := by
  have HS := Lib.hid h
  have hlt := h.lt
  clear h
  obtain ⟨i0, hi, hz0, hz1, hz2⟩ := info_parts Tryinfo_u8
  go_enter Try.func54, Try.ntmps54
  go_wp2
  go_loopw [1, 5] (fun m u wr => SomeRel w b cv zs K n m u wr) (fun m _ _ => (intOf m).toNat)
  case atStart => exact ⟨[], by simpa using HS.out.alloc _, by simp, by simpa using World.ownsRow_lit (e := 5) (size := 1) w #[] 0 (Nat.le_refl _) (by simp [maxLen]) rfl, by simp, by simp; omega, fun B hB => (Below.refl _ _).alloc (by omega) _, by simp⟩
  obtain ⟨l, hs, rfl, hown, hl, hln, hbw, hsz⟩ := hrel
  have HS' := Lib.hid hs
  have HOWN := Lib.hid hown
  have HBW := Lib.hid hbw
  have HL := Lib.hid hl
  clear hs hown hbw hl
  by_cases hm : 0 < n - (l.length : Int)
  · go_wp2_with fail
    refine (l1Next_k _ _ zs _ _ _ HS'.out (by omega) (by omega) (by omega)).mono ?_
    rintro e w1 ⟨r, rfl, hr, hs1, hb1, hz1, hg1⟩
    have HS1 := Lib.hid hs1
    have HZ1 := Lib.hid hz1
    have HO1 := Lib.hid (HOWN.out.kept hg1 (by
      rcases HOWN.out.2 with ⟨e, _⟩ | ⟨g, _, _, e, hge, _⟩
      · left; rw [e]; rfl
      · right; rw [e]; simp [Value.ownBlock]; omega))
    have HB1 : Hid (∀ B, B ≤ b → Below B w w1) := fun B hB => (HBW.out B hB).trans (hb1 B hB)
    have hsz1 : w.heap.size ≤ w1.heap.size := by omega
    clear hs1 hb1 hz1 hg1
    go_wp2_with (at_builtin; refine wpList_append_own _ rfl _ _ 22 rfl w.heap.size 5 i0 (.int .u8 0) 1 1 Try.underlying22 hi hz0 hz1 hz2 rfl (by decide) _ _ _ rfl (HO1.out.alloc _) ⟨w1.heap.size, 0, none⟩ 1 1 [.int .u8 r] rfl rfl (lit_cells _ _ _) (by intro u hu; simp at hu; subst hu; rfl) (by unfold maxLen; omega) (by omega) (by simp; omega) ?_; intro v' w2 hown2 hgrow2 _)
    have hw2 : Below w.heap.size w1 w2 := ((Below.refl _ _).alloc hsz1 _).grown hgrow2 (by simp; omega) (fun g hg => (HO1.out.lt g hg).1)
    have hR : Hid (SomeRel w b cv zs K n (.int .i64 (n - (l.length : Int) - 1)) v' w2) := by
      refine ⟨l ++ [r], ?_, by simp; omega, by simpa using hown2, ?_, by simp; omega, fun B hB => ?_, by have := hw2.size; omega⟩
      · rw [List.length_append]; exact HS1.out.below (hw2.mono hlt)
      · intro x hx
        rcases List.mem_append.1 hx with hx | hx
        · exact HL.out x hx
        · simp at hx; subst hx; omega
      · exact (HB1.out B hB).trans (hw2.mono (by omega))
    clear hw2 hown2 hgrow2
    go_wp2
    go_roundw
    case rel => exact hR.out
    case measure => simp [intOf]; omega
  · go_wp2
    go_ret
    exact ⟨⟨_, l, rfl, HOWN.out, HL.out, by omega⟩, HS'.out.mono (by omega), HBW.out⟩

theorem owned_block {w : World} {B E : Nat} {v : Value} {n : Nat} {xs : List Value} (h : w.ownsRow B E 1 v n xs) : ∀ a m c, v = .slice (some a) m c → B ≤ a.block := by
  intro a m c e
  rcases h.2 with ⟨e', _⟩ | ⟨g, cap, cur, e', hb, _⟩
  · rw [e'] at e; simp at e
  · rw [e'] at e; simp at e; obtain ⟨rfl, _⟩ := e; exact hb

set_option maxHeartbeats 800000 in
theorem DrawSumOf_any (v : Value) (zs : List Int) (w : World) (h : Sl .u8 w v zs) (hl : zs.length ≤ 1048577) :
    Calls Try.prog 29 #[v] w (DrawInts .u8 w 0 255 4001) := by
  have HS := Lib.hid h
  obtain ⟨a, cap, rfl, hll, hm, hne, hw⟩ := h
  clear hne hw
  obtain ⟨i0, hi, hz0, hz1, hz2⟩ := info_parts Tryinfo_u8
  go_enter Try.func29, Try.ntmps29
  go_wp2_with fail
  refine (l1Source_any _ zs _ HS.out hl).mono ?_
  rintro e w1 ⟨rfl, hs1, hb1, hz1⟩
  have HS1 := Lib.hid (SrcK.start hs1)
  have HZ1 := Lib.hid hz1
  clear hs1 hz1
  go_wp2_with fail
  refine (l1Chance_k _ _ zs _ _ _ HS1.out (by omega) (by omega) (by omega)).mono ?_
  rintro e w2 ⟨c, rfl, hs2, hb2, hz2', hg2⟩
  have HS2 := Lib.hid hs2
  have h2 := hb2 w.heap.size (Nat.le_refl _)
  have hB2 := Lib.hid (hb1.trans h2)
  have z2 : w.heap.size ≤ w2.heap.size := hB2.out.size
  clear hs2 hb2 hz2' hg2 h2
  cases c
  · go_wp2_with fail
    refine (l1Next_k _ _ zs _ _ _ HS2.out (by omega) (by omega) (by omega)).mono ?_
    rintro e w3 ⟨r, rfl, hr, hs3, hb3, hz3, hg3⟩
    have HS3 := Lib.hid hs3
    have hB3 := Lib.hid (hB2.out.trans (hb3 w.heap.size (Nat.le_refl _)))
    have z3 : w.heap.size ≤ w3.heap.size := hB3.out.size
    clear hs3 hb3 hz3 hg3
    go_wp2_with fail
    refine (l1Some_any _ _ zs _ _ _ HS3.out (by omega) (by omega) (by omega)).mono ?_
    rintro e w4 ⟨⟨u, l, rfl, hown, hl4, hn4⟩, hs4, hb4⟩
    have hB4 := Lib.hid (hB3.out.trans (hb4 w.heap.size (Nat.le_refl _)))
    have HO := Lib.hid hown
    have HL := Lib.hid hl4
    clear hs4 hb4 hown hl4
    go_wp2
    go_ret
    refine ⟨⟨u, l, rfl, Sl.of_owns HO.out (fun n hn => ?_), HL.out, by omega, fun a m c e => ?_⟩, hB4.out⟩
    · have := HL.out n hn
      simpa [Lit.wf, IntKind.min, IntKind.max, IntKind.signed, IntKind.bits] using this
    · exact Nat.le_trans z3 (owned_block HO.out a m c e)
  · go_wp2_with (at_make; refine wpList_make_full _ rfl _ _ 22 rfl w.heap.size 5 i0 (.int .u8 0) 1 Try.underlying22 hi hz0 hz1 _ _ _ _ 4001 rfl rfl rfl rfl (by rw [hz2]; omega) (by unfold maxLen; omega) z2 ?_; intro w3 hown hgrow)
    have hB3 := Lib.hid (hB2.out.grown hgrow z2 (fun k h => by cases h))
    have HO : Hid (w3.ownsRow w.heap.size 5 1 (.slice (some ⟨w2.heap.size, 0, none⟩) 4001 4001) (List.replicate 4001 (0 : Int)).length ((List.replicate 4001 (0 : Int)).map (Value.int .u8))) := by
      unfold Hid
      rw [List.length_replicate, List.map_replicate]
      have e : (madeCells (Value.int .u8 0).cells (4001 * 1)).toList = List.replicate 4001 (Value.int .u8 0) := by
        have : (Value.int .u8 0).cells = #[.int .u8 0] := rfl
        rw [this, toList_madeCells_one, Nat.mul_one]
      rw [e] at hown; exact hown
    clear hown hgrow
    go_wp2
    go_ret
    have hzero : ∀ x ∈ List.replicate 4001 (0 : Int), 0 ≤ x ∧ x ≤ 255 := fun x hx => by have := List.eq_of_mem_replicate hx; omega
    refine ⟨⟨_, _, rfl, Sl.of_owns HO.out (fun n hn => ?_), hzero, by rw [List.length_replicate]; omega, owned_block HO.out⟩, hB3.out⟩
    have := hzero n hn
    simpa [Lit.wf, IntKind.min, IntKind.max, IntKind.signed, IntKind.bits] using this

theorem owned_ne {w : World} {B E : Nat} {v : Value} {n : Nat} {xs : List Value} (h : w.ownsRow B E 1 v n xs) {b : Nat} (hb : b < B) : v.ownBlock = none ∨ v.ownBlock ≠ some b := by
  rcases h.2 with ⟨e, _⟩ | ⟨g, _, _, e, hge, _⟩
  · left; rw [e]; rfl
  · right; rw [e]; simp [Value.ownBlock]; omega

/-- A list of numbers under way: what has been gathered. -/
def LRel (w : World) (b : Nat) (cv : Value) (zs : List Int) (K : Nat) (c : Nat) (u : Value) (wr : World) : Prop :=
  ∃ l : List Int, SrcK wr b cv zs (K + 2 * l.length) ∧ l.length ≤ c ∧ wr.ownsRow w.heap.size 2 1 u l.length (l.map (Value.int .i64)) ∧ (∀ x ∈ l, -1 ≤ x ∧ x ≤ 2147483647) ∧ (∀ B, B ≤ b → Below B w wr) ∧ w.heap.size ≤ wr.heap.size
def KRel (w : World) (b : Nat) (cv : Value) (zs : List Int) (K : Nat) (n : Int) (m u : Value) (wr : World) : Prop :=
  ∃ j : Int, 0 ≤ j ∧ j ≤ n ∧ m = .int .i64 j ∧ LRel w b cv zs K (n - j).toNat u wr

theorem LRel.step {w w2 w3 : World} {b : Nat} {cv : Value} {zs : List Int} {K c c' : Nat} {v' : Value} {l : List Int} {r : Int}
    (hs : SrcK w2 b cv zs (K + 2 * l.length)) (hlt : b < w.heap.size) (hc : l.length ≤ c) (hc' : c + 1 ≤ c') (hl : ∀ x ∈ l, -1 ≤ x ∧ x ≤ 2147483647) (hr : -1 ≤ r ∧ r ≤ 2147483647)
    (hb : ∀ B, B ≤ b → Below B w w2) (hsz : w.heap.size ≤ w2.heap.size) (hw3 : Below w.heap.size w2 w3)
    (hown : w3.ownsRow w.heap.size 2 1 v' (l.length + 1) (l.map (Value.int .i64) ++ [.int .i64 r])) : LRel w b cv zs (K - 2) c' v' w3 ∧ LRel w b cv zs K c' v' w3 := by
  have a1 : ∀ x ∈ l ++ [r], -1 ≤ x ∧ x ≤ 2147483647 := by
    intro x hx
    rcases List.mem_append.1 hx with hx | hx
    · exact hl x hx
    · simp at hx; subst hx; omega
  have a2 : w3.ownsRow w.heap.size 2 1 v' (l ++ [r]).length ((l ++ [r]).map (Value.int .i64)) := by simpa using hown
  have a3 : ∀ B, B ≤ b → Below B w w3 := fun B hB => (hb B hB).trans (hw3.mono (by omega))
  have a4 := hw3.size
  refine ⟨⟨l ++ [r], (hs.below (hw3.mono hlt)).mono (by simp; omega), by simp; omega, a2, a1, a3, by omega⟩, ⟨l ++ [r], (hs.below (hw3.mono hlt)).mono (by simp; omega), by simp; omega, a2, a1, a3, by omega⟩⟩

theorem LRel.lt {w : World} {b : Nat} {cv : Value} {zs : List Int} {K c : Nat} {u : Value} {wr : World} (h : LRel w b cv zs K c u wr) : w.heap.size ≤ wr.heap.size := by
  obtain ⟨_, _, _, _, _, _, h⟩ := h; exact h

theorem next_L (w : World) (b : Nat) (cv : Value) (zs : List Int) (K c : Nat) (u : Value) (n : Int) (wr : World) (h : LRel w b cv zs K c u wr ∧ b < w.heap.size) (hK : K + 2 * c ≤ 800000) (hn0 : 1 ≤ n) (hn1 : n ≤ 1000000) :
    Calls Try.prog 41 #[.pointer (some ⟨b, 0, none⟩), .int .i64 n] wr fun e w' => ∃ r : Int, e = .returned (.int .i64 r) ∧ (0 ≤ r ∧ r < n) ∧ LRel w b cv zs (K + 1) c u w' ∧ b < w.heap.size := by
  obtain ⟨⟨l, hs, hl, ho, hr, hb, hz⟩, hlt⟩ := h
  refine (l1Next_k b cv zs _ n wr hs (by omega) hn0 hn1).mono ?_
  rintro e w' ⟨r, rfl, hrr, hs1, hb1, hz1, hg1⟩
  exact ⟨r, rfl, hrr, ⟨l, hs1.mono (by omega), hl, ho.kept hg1 (owned_ne ho hlt), hr, fun B hB => (hb B hB).trans (hb1 B hB), by omega⟩, hlt⟩

theorem chance_L (w : World) (b : Nat) (cv : Value) (zs : List Int) (K c : Nat) (u : Value) (n : Int) (wr : World) (h : LRel w b cv zs K c u wr ∧ b < w.heap.size) (hK : K + 2 * c ≤ 800000) (hn0 : 1 ≤ n) (hn1 : n ≤ 1000000) :
    Calls Try.prog 47 #[.pointer (some ⟨b, 0, none⟩), .int .i64 n] wr fun e w' => ∃ r : Bool, e = .returned (.bool r) ∧ LRel w b cv zs (K + 1) c u w' ∧ b < w.heap.size := by
  obtain ⟨⟨l, hs, hl, ho, hr, hb, hz⟩, hlt⟩ := h
  refine (l1Chance_k b cv zs _ n wr hs (by omega) hn0 hn1).mono ?_
  rintro e w' ⟨r, rfl, hs1, hb1, hz1, hg1⟩
  exact ⟨r, rfl, ⟨l, hs1.mono (by omega), hl, ho.kept hg1 (owned_ne ho hlt), hr, fun B hB => (hb B hB).trans (hb1 B hB), by omega⟩, hlt⟩

theorem pick_L (w : World) (b : Nat) (cv : Value) (zs : List Int) (K c : Nat) (u : Value) (vs : List Int) (wr : World) (cs : Array Value) (T : TypeId) (g m : Nat) (h : LRel w b cv zs K c u wr ∧ b < w.heap.size) (hK : K + 2 * c ≤ 800000)
    (hg : g = wr.heap.size) (hm : m = vs.length) (hcs : cs = (vs.map (Value.int .i64)).toArray) (h0 : T = T) (h1 : 1 ≤ vs.length) (h2 : vs.length ≤ 1000) (h3 : ∀ n ∈ vs, -1000000000 ≤ n ∧ n ≤ 1000000000000) :
    Calls Try.prog 40 #[.pointer (some ⟨b, 0, none⟩), .slice (some ⟨g, 0, none⟩) m m] (wr.alloc (.cells cs T)) fun e w' => ∃ r : Int, e = .returned (.int .i64 r) ∧ r ∈ vs ∧ LRel w b cv zs (K + 1) c u w' ∧ b < w.heap.size := by
  obtain ⟨⟨l, hs, hl, ho, hr, hb, hz⟩, hlt⟩ := h
  refine (l1Pick_k b cv zs _ _ vs _ (hs.alloc _) (by omega) (Sl.litAt _ vs _ hg hm hcs (by unfold maxLen; omega) (i64s_wf h3)) h1 h2 (by intro a l c e; simp at e; obtain ⟨⟨rfl, _⟩, _⟩ := e; have := hs.lt; simp; omega)).mono ?_
  rintro e w' ⟨r, rfl, hrr, hs1, hb1, hz1, hg1⟩
  rw [World.size_alloc] at hz1
  exact ⟨r, rfl, hrr, ⟨l, hs1.mono (by omega), hl, (ho.alloc _).kept hg1 (owned_ne ho hlt), hr, fun B hB => ((hb B hB).alloc (by omega) _).trans (hb1 B hB), by omega⟩, hlt⟩

theorem LRel.start {w : World} {b : Nat} {cv : Value} {zs : List Int} {K : Nat} (h : SrcK w b cv zs K) : LRel w b cv zs K 0 (.slice (some ⟨w.heap.size, 0, none⟩) 0 0) (w.alloc (.cells #[] 2)) :=
  ⟨[], by simpa using h.alloc _, by simp, by simpa using World.ownsRow_lit (e := 2) (size := 1) w #[] 0 (Nat.le_refl _) (by simp [maxLen]) rfl, by simp, fun B hB => (Below.refl _ _).alloc (by have := h.lt; omega) _, by simp⟩

/-- What a drawn list is, for the source's owner. -/
def ListPost (w : World) (b : Nat) (e : Ending) (w' : World) : Prop :=
  (∃ u, ∃ l : List Int, e = .returned u ∧ Sl .i64 w' u l ∧ (∀ x ∈ l, -1 ≤ x ∧ x ≤ 2147483647) ∧ l.length ≤ 201 ∧ (∀ a m c, u = .slice (some a) m c → w.heap.size ≤ a.block)) ∧ (∀ B, B ≤ b → Below B w w')

theorem LRel.post {w : World} {b : Nat} {cv : Value} {zs : List Int} {K c : Nat} {u : Value} {wr : World} (h : LRel w b cv zs K c u wr) (hc : c ≤ 201) : ListPost w b (.returned u) wr := by
  obtain ⟨l, _, hl, ho, hr, hb, _⟩ := h
  exact ⟨⟨u, l, rfl, Sl.of_owns ho (fun n hn => wf_i64 (by have := hr n hn; omega)), hr, by omega, owned_block ho⟩, hb⟩

set_option maxHeartbeats 3200000 in
theorem l1List_any (b : Nat) (cv : Value) (zs : List Int) (K : Nat) (w : World) (h : SrcK w b cv zs K) (hK : K ≤ 700000) :
    Calls Try.prog 50 #[.pointer (some ⟨b, 0, none⟩)] w (ListPost w b) := by
  have HS := Lib.hid h
  have hlt := h.lt
  clear h
  obtain ⟨i0, hi, hz0, hz1, hz2⟩ := info_parts Tryinfo_i64
  go_enter Try.func50, Try.ntmps50
  go_wp2_with fail
  have HL1 := Lib.hid (And.intro (LRel.start HS.out) hlt)
  go_wp2_with fail
  refine (next_L _ _ _ zs _ _ _ 6 _ HL1.out (by omega) (by omega) (by omega)).mono ?_
  rintro e w2 ⟨r2, rfl, hr2, hL2⟩
  have HL2 := Lib.hid hL2
  clear hL2
  go_wp2
  go_loopw [3, 4] (fun u m wr => KRel w b cv zs (K + 1) r2 m u wr) (fun _ m _ => (intOf m).toNat)
  case atStart => exact ⟨r2, by omega, by omega, rfl, by rw [Int.sub_self]; exact HL2.out.1⟩
  obtain ⟨j, hj0, hj1, rfl, hL⟩ := hrel
  have HL := Lib.hid (And.intro hL hlt)
  clear hL
  by_cases hj : 0 < j
  · go_wp2_with fail
    refine (next_L _ _ _ zs _ _ _ 1000 _ HL.out (by omega) (by omega) (by omega)).mono ?_
    rintro e w3 ⟨r3, rfl, hr3, hL3⟩
    have HL3 := Lib.hid hL3
    clear hL3
    go_wp2_with fail
    refine (pick_L _ _ _ zs _ _ _ [r3, 2147483646, 300000] _ _ _ _ _ HL3.out (by omega) rfl rfl rfl rfl (by simp) (by simp) (by intro n hn; simp at hn; omega)).mono ?_
    rintro e w4 ⟨r4, rfl, hr4, hL4⟩
    have HL4 := Lib.hid hL4
    have hrb4 : -1 ≤ r4 ∧ r4 ≤ 2147483647 := by simp at hr4; omega
    clear hL4 hr4
    have HL4' := Lib.hid HL4.out.1
    obtain ⟨l, hsl, hll', hol, hrl, hbl, hzl⟩ := HL4'.out
    have HOL := Lib.hid hol
    go_wp2_with (at_builtin; refine wpList_append_own _ rfl (.tmp 12) (.tmp 18) 31 rfl _ 2 i0 (.int .i64 0) 1 8 Try.underlying31 hi hz0 hz1 hz2 rfl (by decide) _ _ _ rfl (HOL.out.alloc _) ⟨w4.heap.size, 0, none⟩ 1 1 [.int .i64 r4] rfl rfl (lit_cells _ _ _) (by intro u hu; simp at hu; subst hu; rfl) (by unfold maxLen; omega) (by omega) (by simp; omega) ?_; intro v' wn hownn hgrown _)
    have hwn := ((Below.refl _ _).alloc hzl _).grown hgrown (by simp; omega) (fun g hg => (HOL.out.lt g hg).1)
    have HK : Hid (KRel w b cv zs (K + 1) r2 (.int .i64 (j - 1)) v' wn) := ⟨j - 1, by omega, by omega, rfl, (LRel.step hsl hlt hll' (by omega) hrl hrb4 hbl hzl hwn hownn).1⟩
    clear hwn hownn hgrown hsl hrl hbl hol
    go_wp2
    go_roundw
    case rel => exact HK.out
    case measure => simp [intOf]; omega
  · go_wp2_with fail
    refine (next_L _ _ _ zs _ _ _ 12 _ HL.out (by omega) (by omega) (by omega)).mono ?_
    rintro e w3 ⟨r3, rfl, hr3, hL3⟩
    have HL3 := Lib.hid hL3
    clear hL3
    by_cases h0 : r3 = 0
    · subst h0
      go_wp2_with fail
      refine (pick_L _ _ _ zs _ _ _ [-1, 2147483647] _ _ _ _ _ HL3.out (by omega) rfl rfl rfl rfl (by simp) (by simp) (by intro n hn; simp at hn; omega)).mono ?_
      rintro e w4 ⟨r4, rfl, hr4, hL4⟩
      have HL4 := Lib.hid hL4
      have hrb4 : -1 ≤ r4 ∧ r4 ≤ 2147483647 := by simp at hr4; omega
      clear hL4 hr4
      have HL4' := Lib.hid HL4.out.1
      obtain ⟨l, hsl, hll', hol, hrl, hbl, hzl⟩ := HL4'.out
      have HOL := Lib.hid hol
      go_wp2_with (at_builtin; refine wpList_append_own _ rfl (.tmp 24) (.tmp 28) 31 rfl _ 2 i0 (.int .i64 0) 1 8 Try.underlying31 hi hz0 hz1 hz2 rfl (by decide) _ _ _ rfl (HOL.out.alloc _) ⟨w4.heap.size, 0, none⟩ 1 1 [.int .i64 r4] rfl rfl (lit_cells _ _ _) (by intro u hu; simp at hu; subst hu; rfl) (by unfold maxLen; omega) (by omega) (by simp; omega) ?_; intro v' wn hownn hgrown _)
      have hwn := ((Below.refl _ _).alloc hzl _).grown hgrown (by simp; omega) (fun g hg => (HOL.out.lt g hg).1)
      have HK : Hid (LRel w b cv zs _ 201 v' wn) := (LRel.step hsl hlt hll' (by omega) hrl hrb4 hbl hzl hwn hownn).1
      clear hwn hownn hgrown hsl hrl hbl hol
      go_wp2
      go_ret
      exact HK.out.post (by omega)
    · have h0' : (r3 == 0) = false := by simp [h0]
      have H0 := Lib.hid h0
      clear h0
      by_cases h1 : r3 = 1
      · subst h1
        have hlz := HL3.out.1.lt
        go_wp2_with (at_make; refine wpList_make_full _ rfl _ _ 31 rfl w.heap.size 2 i0 (.int .i64 0) 1 Try.underlying31 hi hz0 hz1 _ _ _ _ 201 rfl rfl rfl rfl (by rw [hz2]; omega) (by unfold maxLen; omega) hlz ?_; intro w4 hown hgrow)
        have HP : Hid (ListPost w b (.returned (.slice (some ⟨w3.heap.size, 0, none⟩) 201 201)) w4) := by
          obtain ⟨_, _, _, _, _, hb, _⟩ := HL3.out.1
          have e : (madeCells (Value.int .i64 0).cells (201 * 1)).toList = List.replicate 201 (Value.int .i64 0) := by
            have : (Value.int .i64 0).cells = #[.int .i64 0] := rfl
            rw [this, toList_madeCells_one, Nat.mul_one]
          rw [e] at hown
          have ho : w4.ownsRow w.heap.size 2 1 (.slice (some ⟨w3.heap.size, 0, none⟩) 201 201) (List.replicate 201 (0 : Int)).length ((List.replicate 201 (0 : Int)).map (Value.int .i64)) := by
            rw [List.length_replicate, List.map_replicate]; exact hown
          have hzero : ∀ x ∈ List.replicate 201 (0 : Int), -1 ≤ x ∧ x ≤ 2147483647 := fun x hx => by have := List.eq_of_mem_replicate hx; omega
          exact ⟨⟨_, _, rfl, Sl.of_owns ho (fun n hn => wf_i64 (by have := hzero n hn; omega)), hzero, by rw [List.length_replicate]; omega, owned_block ho⟩, fun B hB => (hb B hB).grown hgrow (by omega) (fun k h => by cases h)⟩
        clear hown hgrow
        go_wp2
        go_ret
        exact HP.out
      · have h1' : (r3 == 1) = false := by simp [h1]
        clear h1
        go_wp2
        go_ret
        exact HL3.out.1.post (by omega)

set_option maxHeartbeats 1600000 in
theorem DrawTotalOf_any (v : Value) (zs : List Int) (w : World) (h : Sl .u8 w v zs) (hl : zs.length ≤ 1048577) :
    Calls Try.prog 23 #[v] w (DrawInts .i64 w (-1) 2147483647 201) := by
  have HS := Lib.hid h
  obtain ⟨a, cap, rfl, hll, hm, hne, hw⟩ := h
  clear hne hw
  obtain ⟨i0, hi, hz0, hz1, hz2⟩ := info_parts Tryinfo_i64
  go_enter Try.func23, Try.ntmps23
  go_wp2_with fail
  refine (l1Source_any _ zs _ HS.out hl).mono ?_
  rintro e w1 ⟨rfl, hs1, hb1, hz1⟩
  have HS1 := Lib.hid (SrcK.start hs1)
  have HZ1 := Lib.hid hz1
  clear hs1 hz1
  have HL1 := Lib.hid (And.intro (LRel.start HS1.out) HS1.out.lt)
  have hbb := HS1.out.lt
  go_wp2_with fail
  refine (next_L _ _ _ zs _ _ _ 6 _ HL1.out (by omega) (by omega) (by omega)).mono ?_
  rintro e w2 ⟨r2, rfl, hr2, hL2⟩
  have HL2 := Lib.hid hL2
  clear hL2
  go_wp2
  go_loopw [4, 5] (fun u m wr => KRel w1 w.heap.size (.slice a zs.length cap) zs 1 r2 m u wr) (fun _ m _ => (intOf m).toNat)
  case atStart => exact ⟨r2, by omega, by omega, rfl, by rw [Int.sub_self]; exact HL2.out.1⟩
  obtain ⟨j, hj0, hj1, rfl, hL⟩ := hrel
  have HL := Lib.hid (And.intro hL hbb)
  clear hL
  by_cases hj : 0 < j
  · go_wp2_with fail
    refine (next_L _ _ _ zs _ _ _ 1000 _ HL.out (by omega) (by omega) (by omega)).mono ?_
    rintro e w3 ⟨r3, rfl, hr3, hL3⟩
    have HL3 := Lib.hid hL3
    clear hL3
    go_wp2_with fail
    refine (pick_L _ _ _ zs _ _ _ [r3, 300000, 1000000] _ _ _ _ _ HL3.out (by omega) rfl rfl rfl rfl (by simp) (by simp) (by intro n hn; simp at hn; omega)).mono ?_
    rintro e w4 ⟨r4, rfl, hr4, hL4⟩
    have HL4 := Lib.hid hL4
    have hrb4 : -1 ≤ r4 ∧ r4 ≤ 2147483647 := by simp at hr4; omega
    clear hL4 hr4
    have HL4' := Lib.hid HL4.out.1
    obtain ⟨l, hsl, hll', hol, hrl, hbl, hzl⟩ := HL4'.out
    have HOL := Lib.hid hol
    go_wp2_with (at_builtin; refine wpList_append_own _ rfl (.tmp 15) (.tmp 21) 31 rfl _ 2 i0 (.int .i64 0) 1 8 Try.underlying31 hi hz0 hz1 hz2 rfl (by decide) _ _ _ rfl (HOL.out.alloc _) ⟨w4.heap.size, 0, none⟩ 1 1 [.int .i64 r4] rfl rfl (lit_cells _ _ _) (by intro u hu; simp at hu; subst hu; rfl) (by unfold maxLen; omega) (by omega) (by simp; omega) ?_; intro v' wn hownn hgrown _)
    have hwn := ((Below.refl _ _).alloc hzl _).grown hgrown (by simp; omega) (fun g hg => (HOL.out.lt g hg).1)
    have HK : Hid (KRel w1 w.heap.size (.slice a zs.length cap) zs 1 r2 (.int .i64 (j - 1)) v' wn) := ⟨j - 1, by omega, by omega, rfl, (LRel.step hsl hbb hll' (by omega) hrl hrb4 hbl hzl hwn hownn).1⟩
    clear hwn hownn hgrown hsl hrl hbl hol
    go_wp2
    go_roundw
    case rel => exact HK.out
    case measure => simp [intOf]; omega
  · go_wp2_with fail
    refine (chance_L _ _ _ zs _ _ _ 10 _ HL.out (by omega) (by omega) (by omega)).mono ?_
    rintro e w3 ⟨c, rfl, hL3⟩
    have HL3 := Lib.hid hL3
    clear hL3
    have fin : ∀ e wf, ListPost w1 w.heap.size e wf → DrawInts .i64 w (-1) 2147483647 201 e wf := by
      rintro e wf ⟨⟨u, l, rfl, hS, hr, hn, hbk⟩, hB⟩
      exact ⟨⟨u, l, rfl, hS, hr, hn, fun a m c e => Nat.le_trans hb1.size (hbk a m c e)⟩, hb1.trans (hB w.heap.size (Nat.le_refl _))⟩
    have FIN := Lib.hid fin
    clear fin
    cases c
    · go_wp2
      go_ret
      exact FIN.out _ _ (HL3.out.1.post (by omega))
    · go_wp2_with fail
      refine (pick_L _ _ _ zs _ _ _ [-1, 1000001] _ _ _ _ _ HL3.out (by omega) rfl rfl rfl rfl (by simp) (by simp) (by intro n hn; simp at hn; omega)).mono ?_
      rintro e w4 ⟨r4, rfl, hr4, hL4⟩
      have HL4 := Lib.hid hL4
      have hrb4 : -1 ≤ r4 ∧ r4 ≤ 2147483647 := by simp at hr4; omega
      clear hL4 hr4
      have HL4' := Lib.hid HL4.out.1
      obtain ⟨l, hsl, hll', hol, hrl, hbl, hzl⟩ := HL4'.out
      have HOL := Lib.hid hol
      go_wp2_with (at_builtin; refine wpList_append_own _ rfl (.tmp 25) (.tmp 29) 31 rfl _ 2 i0 (.int .i64 0) 1 8 Try.underlying31 hi hz0 hz1 hz2 rfl (by decide) _ _ _ rfl (HOL.out.alloc _) ⟨w4.heap.size, 0, none⟩ 1 1 [.int .i64 r4] rfl rfl (lit_cells _ _ _) (by intro u hu; simp at hu; subst hu; rfl) (by unfold maxLen; omega) (by omega) (by simp; omega) ?_; intro v' wn hownn hgrown _)
      have hwn := ((Below.refl _ _).alloc hzl _).grown hgrown (by simp; omega) (fun g hg => (HOL.out.lt g hg).1)
      have HK : Hid (LRel w1 w.heap.size (.slice a zs.length cap) zs _ 201 v' wn) := (LRel.step hsl hbb hll' (by omega) hrl hrb4 hbl hzl hwn hownn).1
      clear hwn hownn hgrown hsl hrl hbl hol
      go_wp2
      go_ret
      exact FIN.out _ _ (HK.out.post (by omega))

theorem DrawSumInts_any (v : Value) (zs : List Int) (w : World) (h : Sl .u8 w v zs) (hl : zs.length ≤ 1048577) :
    Calls Try.prog 25 #[v] w (DrawInts .i64 w (-1) 2147483647 201) := by
  have HS := Lib.hid h
  obtain ⟨a, cap, rfl, hll, hm, hne, hw⟩ := h
  clear hne hw
  go_enter Try.func25, Try.ntmps25
  go_wp2_with fail
  refine (l1Source_any _ zs _ HS.out hl).mono ?_
  rintro e w1 ⟨rfl, hs1, hb1, hz1⟩
  have HS1 := Lib.hid (SrcK.start hs1)
  have HZ1 := Lib.hid hz1
  clear hs1 hz1
  go_wp2_with fail
  refine (l1List_any _ _ zs _ _ HS1.out (by omega)).mono ?_
  rintro e wf ⟨⟨u, l, rfl, hS, hr, hn, hbk⟩, hB⟩
  have fin := Lib.hid (show DrawInts .i64 w (-1) 2147483647 201 (.returned u) wf from ⟨⟨u, l, rfl, hS, hr, hn, fun a m c e => Nat.le_trans hb1.size (hbk a m c e)⟩, hb1.trans (hB w.heap.size (Nat.le_refl _))⟩)
  clear hS hr hn hbk hB
  go_wp2
  go_ret
  exact fin.out

end Go.Proofs.Ytechmmppdciidaa
