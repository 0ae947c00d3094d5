/-
  CONTRACTS OF CHAPTER 1: TotalOf, AddMoney, both sides.
-/
import Derived.Test.YtechmmppdciidaaMem
namespace Go.Proofs.Ytechmmppdciidaa
open Go.ChangeShapes Go.WideShapes Go.ChangeAt Go.RowKit
set_option linter.unusedSimpArgs false
set_option linter.unusedVariables false

/-- Every number lies between. -/
def AllIn (zs : List Int) (a b : Int) : Prop := ∀ n ∈ zs, a ≤ n ∧ n ≤ b
def sumL (zs : List Int) : Int := zs.foldl (· + ·) 0
theorem sumL_snoc (zs : List Int) (b : Int) : sumL (zs ++ [b]) = sumL zs + b := by simp [sumL]
theorem sumL_take (zs : List Int) {k : Nat} (h : k < zs.length) : sumL (zs.take (k + 1)) = sumL (zs.take k) + zs[k] := by
  rw [take_snoc zs k h, sumL_snoc]; simp [List.getD_eq_getElem?_getD, h]
theorem sumL_bd (zs : List Int) (b : Int) (h : AllIn zs 0 b) (k : Nat) (hk : k ≤ zs.length) : 0 ≤ sumL (zs.take k) ∧ sumL (zs.take k) ≤ k * b := by
  induction k with
  | zero => simp [sumL]
  | succ k ih =>
    have := ih (by omega)
    have hx := h zs[k] (List.getElem_mem (by omega))
    rw [sumL_take zs (by omega)]
    have e : ((k + 1 : Nat) : Int) * b = k * b + b := by rw [Int.natCast_add, Int.add_mul]; simp
    omega
theorem AllIn.at {zs : List Int} {a b : Int} (h : AllIn zs a b) {k : Nat} (hk : k < zs.length) : a ≤ zs[k] ∧ zs[k] ≤ b := h zs[k] (List.getElem_mem hk)
theorem not_AllIn {zs : List Int} {a b : Int} (h : ¬ AllIn zs a b) : ∃ j, ∃ hj : j < zs.length, (zs[j] < a ∨ b < zs[j]) ∧ AllIn (zs.take j) a b := by
  induction zs with
  | nil => exact absurd (fun n hn => by cases hn) h
  | cons x r ih =>
    by_cases hx : a ≤ x ∧ x ≤ b
    · have : ¬ AllIn r a b := fun hr => h (fun n hn => by
        rcases List.mem_cons.1 hn with rfl | hn
        · exact hx
        · exact hr n hn)
      obtain ⟨j, hj, h1, h2⟩ := ih this
      refine ⟨j + 1, by simp; omega, by simpa using h1, fun n hn => ?_⟩
      rw [List.take_succ_cons] at hn
      rcases List.mem_cons.1 hn with rfl | hn
      · exact hx
      · exact h2 n hn
    · exact ⟨0, by simp, by simp; omega, fun n hn => by simp at hn⟩

theorem l1All_yes (v : Value) (zs : List Int) (a b : Int) (w : World) (h : Sl .i64 w v zs) (hA : AllIn zs a b) :
    Calls Try.prog 51 #[v, .int .i64 a, .int .i64 b] w fun e w' => e = .returned (.bool true) ∧ w = w' := by
  obtain ⟨ad, cap, rfl, hl, hm, hne, hw⟩ := h
  unfold maxLen at hm
  have HNE := Lib.hid hne
  have HA := Lib.hid hA
  clear hne hw hA
  go_enter Try.func51, Try.ntmps51
  go_wp2
  go_loop [7] (fun i => ∃ k : Nat, k ≤ zs.length ∧ i = .int .i64 k) (fun i => zs.length - (intOf i).toNat)
  case atStart => exact ⟨0, Nat.zero_le _, rfl⟩
  case round =>
    obtain ⟨k, hk, rfl⟩ := hrel
    by_cases hlt : k < zs.length
    · obtain ⟨bb, off, rfl, hc⟩ := HNE.out (by omega)
      have hck := hc k hlt
      obtain ⟨hx0, hx1⟩ := HA.out.at hlt
      clear hc
      go_wp2_with (go_at_call 44; refine (l1In_yes _ _ _ _ hx0 hx1).mono ?_; rintro e w' ⟨rfl, rfl⟩)
      go_round
      case rel => exact ⟨k + 1, by omega, by go_num⟩
      case measure => simp [intOf]; omega
    · go_wp2
      go_ret
      exact ⟨rfl, rfl⟩

theorem l1All_no (v : Value) (zs : List Int) (a b : Int) (w : World) (h : Sl .i64 w v zs) (hA : ¬ AllIn zs a b) :
    Calls Try.prog 51 #[v, .int .i64 a, .int .i64 b] w fun e w' => e = .returned (.bool false) ∧ w = w' := by
  obtain ⟨ad, cap, rfl, hl, hm, hne, hw⟩ := h
  unfold maxLen at hm
  obtain ⟨j, hj, hbad, hgood⟩ := not_AllIn hA
  have HNE := Lib.hid hne
  have HG := Lib.hid hgood
  have HB := Lib.hid hbad
  clear hne hw hA hgood hbad
  go_enter Try.func51, Try.ntmps51
  go_wp2
  go_loop [7] (fun i => ∃ k : Nat, k ≤ j ∧ i = .int .i64 k) (fun i => zs.length - (intOf i).toNat)
  case atStart => exact ⟨0, Nat.zero_le _, rfl⟩
  case round =>
    obtain ⟨k, hk, rfl⟩ := hrel
    have hlt : k < zs.length := by omega
    obtain ⟨bb, off, rfl, hc⟩ := HNE.out (by omega)
    have hck := hc k hlt
    clear hc
    by_cases hkj : k < j
    · have hx : a ≤ zs[k] ∧ zs[k] ≤ b := by
        have := HG.out.at (k := k) (by rw [List.length_take]; omega)
        simpa using this
      obtain ⟨hx0, hx1⟩ := hx
      go_wp2_with (go_at_call 44; refine (l1In_yes _ _ _ _ hx0 hx1).mono ?_; rintro e w' ⟨rfl, rfl⟩)
      go_round
      case rel => exact ⟨k + 1, by omega, by go_num⟩
      case measure => simp [intOf]; omega
    · obtain rfl : k = j := by omega
      go_wp2_with (go_at_call 44; refine (l1In_no _ _ _ _ HB.out).mono ?_; rintro e w' ⟨rfl, rfl⟩)
      go_ret
      exact ⟨rfl, rfl⟩

theorem l1Amount_yes (n : Int) (w : World) (h : 0 ≤ n) (h' : n ≤ 1000000) : Calls Try.prog 53 #[.int .i64 n] w fun e w' => e = .returned (.bool true) ∧ w = w' := by
  go_enter Try.func53, Try.ntmps53
  go_wp2_with (go_at_call 44; refine (l1In_yes _ _ _ _ h h').mono ?_; rintro e w' ⟨rfl, rfl⟩)
  go_ret
  exact ⟨rfl, rfl⟩
theorem l1Amount_no (n : Int) (w : World) (h : n < 0 ∨ 1000000 < n) : Calls Try.prog 53 #[.int .i64 n] w fun e w' => e = .returned (.bool false) ∧ w = w' := by
  have H := Lib.hid h
  clear h
  go_enter Try.func53, Try.ntmps53
  go_wp2_with (go_at_call 44; refine (l1In_no _ _ _ _ H.out).mono ?_; rintro e w' ⟨rfl, rfl⟩)
  go_ret
  exact ⟨rfl, rfl⟩

/-- What TotalOf answers. -/
inductive TotalAns (zs : List Int) : Int → Int → Prop
  | many (h : ¬ zs.length ≤ 200) : TotalAns zs 2 0
  | range (h : zs.length ≤ 200) (h' : ¬ AllIn zs 0 1000000) : TotalAns zs 3 0
  | money (h : zs.length ≤ 200) (h' : AllIn zs 0 1000000) (h'' : 1000000 < sumL zs) : TotalAns zs 7 0
  | sum (h : zs.length ≤ 200) (h' : AllIn zs 0 1000000) (h'' : sumL zs ≤ 1000000) : TotalAns zs 0 (sumL zs)

theorem TotalAns.some (zs : List Int) : ∃ a b, TotalAns zs a b := by
  by_cases h : zs.length ≤ 200
  · by_cases h' : AllIn zs 0 1000000
    · by_cases h'' : sumL zs ≤ 1000000
      · exact ⟨_, _, .sum h h' h''⟩
      · exact ⟨_, _, .money h h' (by omega)⟩
    · exact ⟨_, _, .range h h'⟩
  · exact ⟨_, _, .many h⟩

set_option maxHeartbeats 400000 in
theorem specTotalOf_any (v : Value) (zs : List Int) (w : World) (h : Sl .i64 w v zs) (a b : Int) (hA : TotalAns zs a b) :
    Calls Try.prog 28 #[v] w fun e w' => e = .returned (ir a b) ∧ Below w.heap.size w w' := by
  have H := Lib.hid h
  obtain ⟨ad, cap, rfl, hl, hm, hne, hw⟩ := h
  unfold maxLen at hm
  have HNE := Lib.hid hne
  clear hne hw
  cases hA with
  | many h4 =>
    go_enter Try.func28, Try.ntmps28
    go_wp2
    exact bodyPost_ret (v := ir 2 0) (by simp [results, Try.results28, go_sem]) rfl ⟨rfl, (by repeat (first | exact Below.refl _ _ | assumption | refine Below.drew ?_ | refine Below_drewN ?_ _ | refine Below.alloc ?_ (by first | omega | (simp; done) | (simp; omega)) _ | refine Below.setCell ?_ (by first | omega | (simp; done) | (simp; omega)) _ | (refine Below.trans ?_ (Below.mono (by assumption) (by first | omega | (simp; done) | (simp; omega))))))⟩
  | range h4 hr =>
    have HR := Lib.hid hr
    clear hr
    go_enter Try.func28, Try.ntmps28
    go_wp2_with (go_at_call 51; refine (l1All_no _ zs _ _ _ (H.out.same (by repeat (first | exact Below.refl _ _ | assumption | refine Below.drew ?_ | refine Below_drewN ?_ _ | refine Below.alloc ?_ (by first | omega | (simp; done) | (simp; omega)) _ | refine Below.setCell ?_ (by first | omega | (simp; done) | (simp; omega)) _ | (refine Below.trans ?_ (Below.mono (by assumption) (by first | omega | (simp; done) | (simp; omega))))))) HR.out).mono ?_; rintro e w' ⟨rfl, rfl⟩)
    exact bodyPost_ret (v := ir 3 0) (by simp [results, Try.results28, go_sem]) rfl ⟨rfl, (by repeat (first | exact Below.refl _ _ | assumption | refine Below.drew ?_ | refine Below_drewN ?_ _ | refine Below.alloc ?_ (by first | omega | (simp; done) | (simp; omega)) _ | refine Below.setCell ?_ (by first | omega | (simp; done) | (simp; omega)) _ | (refine Below.trans ?_ (Below.mono (by assumption) (by first | omega | (simp; done) | (simp; omega))))))⟩
  | money h4 hr hs =>
    have HR := Lib.hid hr
    have HS := Lib.hid hs
    clear hr hs
    go_enter Try.func28, Try.ntmps28
    go_wp2_with (go_at_call 51; refine (l1All_yes _ zs _ _ _ (H.out.same (by repeat (first | exact Below.refl _ _ | assumption | refine Below.drew ?_ | refine Below_drewN ?_ _ | refine Below.alloc ?_ (by first | omega | (simp; done) | (simp; omega)) _ | refine Below.setCell ?_ (by first | omega | (simp; done) | (simp; omega)) _ | (refine Below.trans ?_ (Below.mono (by assumption) (by first | omega | (simp; done) | (simp; omega))))))) HR.out).mono ?_; rintro e w' ⟨rfl, rfl⟩)
    go_loop [3, 4] (fun s i => ∃ k : Nat, k ≤ zs.length ∧ i = .int .i64 k ∧ s = .int .i64 (sumL (zs.take k))) (fun _ i => zs.length - (intOf i).toNat)
    case atStart => exact ⟨0, Nat.zero_le _, rfl, rfl⟩
    obtain ⟨k, hk, rfl, rfl⟩ := hrel
    have hb := sumL_bd zs 1000000 HR.out k hk
    by_cases hlt : k < zs.length
    · obtain ⟨bb, off, rfl, hc⟩ := HNE.out (by omega)
      have hck := hc k hlt
      have hbk : bb < w.heap.size := World.block_lt_of_cell? _ _ hck
      have hx := HR.out.at hlt
      have E := Lib.hid (sumL_take zs hlt)
      clear hc
      go_wp2
      go_round
      case rel => exact ⟨k + 1, by omega, by go_num, by rw [E.out]⟩
      case measure => simp [intOf]; omega
    obtain rfl : k = zs.length := by omega
    have E : Hid (sumL (zs.take zs.length) = sumL zs) := by unfold Hid; rw [List.take_length]
    go_wp2_with (go_at_call 53; refine (l1Amount_no _ _ (Or.inr HS.out)).mono ?_; rintro e w' ⟨rfl, rfl⟩)
    exact bodyPost_ret (v := ir 7 0) (by simp [results, Try.results28, go_sem]) rfl ⟨rfl, (by repeat (first | exact Below.refl _ _ | assumption | refine Below.drew ?_ | refine Below_drewN ?_ _ | refine Below.alloc ?_ (by first | omega | (simp; done) | (simp; omega)) _ | refine Below.setCell ?_ (by first | omega | (simp; done) | (simp; omega)) _ | (refine Below.trans ?_ (Below.mono (by assumption) (by first | omega | (simp; done) | (simp; omega))))))⟩
  | sum h4 hr hs =>
    have HR := Lib.hid hr
    have HS := Lib.hid hs
    clear hr hs
    go_enter Try.func28, Try.ntmps28
    go_wp2_with (go_at_call 51; refine (l1All_yes _ zs _ _ _ (H.out.same (by repeat (first | exact Below.refl _ _ | assumption | refine Below.drew ?_ | refine Below_drewN ?_ _ | refine Below.alloc ?_ (by first | omega | (simp; done) | (simp; omega)) _ | refine Below.setCell ?_ (by first | omega | (simp; done) | (simp; omega)) _ | (refine Below.trans ?_ (Below.mono (by assumption) (by first | omega | (simp; done) | (simp; omega))))))) HR.out).mono ?_; rintro e w' ⟨rfl, rfl⟩)
    go_loop [3, 4] (fun s i => ∃ k : Nat, k ≤ zs.length ∧ i = .int .i64 k ∧ s = .int .i64 (sumL (zs.take k))) (fun _ i => zs.length - (intOf i).toNat)
    case atStart => exact ⟨0, Nat.zero_le _, rfl, rfl⟩
    obtain ⟨k, hk, rfl, rfl⟩ := hrel
    have hb := sumL_bd zs 1000000 HR.out k hk
    by_cases hlt : k < zs.length
    · obtain ⟨bb, off, rfl, hc⟩ := HNE.out (by omega)
      have hck := hc k hlt
      have hbk : bb < w.heap.size := World.block_lt_of_cell? _ _ hck
      have hx := HR.out.at hlt
      have E := Lib.hid (sumL_take zs hlt)
      clear hc
      go_wp2
      go_round
      case rel => exact ⟨k + 1, by omega, by go_num, by rw [E.out]⟩
      case measure => simp [intOf]; omega
    obtain rfl : k = zs.length := by omega
    have E : Hid (sumL (zs.take zs.length) = sumL zs) := by unfold Hid; rw [List.take_length]
    have hb2 := sumL_bd zs 1000000 HR.out zs.length (Nat.le_refl _)
    rw [E.out] at hb2
    go_wp2_with (go_at_call 53; refine (l1Amount_yes _ _ (by omega) HS.out).mono ?_; rintro e w' ⟨rfl, rfl⟩)
    exact bodyPost_ret (v := ir 0 (sumL zs)) (by simp [results, Try.results28, go_sem]) rfl ⟨rfl, (by repeat (first | exact Below.refl _ _ | assumption | refine Below.drew ?_ | refine Below_drewN ?_ _ | refine Below.alloc ?_ (by first | omega | (simp; done) | (simp; omega)) _ | refine Below.setCell ?_ (by first | omega | (simp; done) | (simp; omega)) _ | (refine Below.trans ?_ (Below.mono (by assumption) (by first | omega | (simp; done) | (simp; omega))))))⟩
theorem valid_yes (n : Int) (w : World) (h : 0 ≤ n) (h' : n ≤ 1000000) : Calls Try.prog 48 #[.agg #[.int .i64 n]] w fun e w' => e = .returned (.bool true) ∧ Below w.heap.size w w' := by
  go_enter Try.func48, Try.ntmps48
  go_wp2
  go_ret
  exact ⟨rfl, (by repeat (first | exact Below.refl _ _ | assumption | refine Below.drew ?_ | refine Below_drewN ?_ _ | refine Below.alloc ?_ (by first | omega | (simp; done) | (simp; omega)) _ | refine Below.setCell ?_ (by first | omega | (simp; done) | (simp; omega)) _ | (refine Below.trans ?_ (Below.mono (by assumption) (by first | omega | (simp; done) | (simp; omega))))))⟩
theorem valid_no (n : Int) (w : World) (h : n < 0 ∨ 1000000 < n) : Calls Try.prog 48 #[.agg #[.int .i64 n]] w fun e w' => e = .returned (.bool false) ∧ Below w.heap.size w w' := by
  by_cases h1 : 0 ≤ n
  · have h2 : ¬ n ≤ 1000000 := by omega
    clear h
    go_enter Try.func48, Try.ntmps48
    go_wp2
    go_ret
    exact ⟨rfl, (by repeat (first | exact Below.refl _ _ | assumption | refine Below.drew ?_ | refine Below_drewN ?_ _ | refine Below.alloc ?_ (by first | omega | (simp; done) | (simp; omega)) _ | refine Below.setCell ?_ (by first | omega | (simp; done) | (simp; omega)) _ | (refine Below.trans ?_ (Below.mono (by assumption) (by first | omega | (simp; done) | (simp; omega))))))⟩
  · clear h
    go_enter Try.func48, Try.ntmps48
    go_wp2
    go_ret
    exact ⟨rfl, (by repeat (first | exact Below.refl _ _ | assumption | refine Below.drew ?_ | refine Below_drewN ?_ _ | refine Below.alloc ?_ (by first | omega | (simp; done) | (simp; omega)) _ | refine Below.setCell ?_ (by first | omega | (simp; done) | (simp; omega)) _ | (refine Below.trans ?_ (Below.mono (by assumption) (by first | omega | (simp; done) | (simp; omega))))))⟩
theorem plus_any (a b : Int) (w : World) (h0 : 0 ≤ a) (h1 : a ≤ 1000000000) (h2 : 0 ≤ b) (h3 : b ≤ 1000000) : Calls Try.prog 49 #[.agg #[.int .i64 a], .agg #[.int .i64 b]] w fun e w' => e = .returned (.agg #[.int .i64 (a + b)]) ∧ Below w.heap.size w w' := by
  go_enter Try.func49, Try.ntmps49
  go_wp2
  exact bodyPost_ret (v := .agg #[.int .i64 (a + b)]) (by simp [results, Try.results49, go_sem]) rfl ⟨rfl, (by repeat (first | exact Below.refl _ _ | assumption | refine Below.drew ?_ | refine Below_drewN ?_ _ | refine Below.alloc ?_ (by first | omega | (simp; done) | (simp; omega)) _ | refine Below.setCell ?_ (by first | omega | (simp; done) | (simp; omega)) _ | (refine Below.trans ?_ (Below.mono (by assumption) (by first | omega | (simp; done) | (simp; omega))))))⟩

/-- The loop of impl.TotalOf: what holds of the memory after some rounds. B: the result's block; the total's is the next. -/
structure TotRel (w : World) (zs : List Int) (s : Int) (wr : World) : Prop where
  r0 : wr.cell? ⟨w.heap.size, 0, none⟩ = some (.int .i64 0)
  r1 : wr.cell? ⟨w.heap.size, 1, none⟩ = some (.int .i64 0)
  f0 : wr.frozen? ⟨w.heap.size, 0, none⟩ = false
  f1 : wr.frozen? ⟨w.heap.size, 1, none⟩ = false
  t : wr.cell? ⟨w.heap.size + 1, 0, none⟩ = some (.int .i64 s)
  tf : wr.frozen? ⟨w.heap.size + 1, 0, none⟩ = false
  sz : w.heap.size + 1 < wr.heap.size
  bel : Below w.heap.size w wr

theorem TotRel.step {w wr w2 : World} {zs : List Int} {s : Int} (h : TotRel w zs s wr) (hb : Below wr.heap.size wr w2) (s' : Int) : TotRel w zs s' (w2.setCell ⟨w.heap.size + 1, 0, none⟩ (.int .i64 s')) := by
  have hz := h.sz
  have c := fun (b o : Nat) (hlt : b < wr.heap.size) => hb.cell (p := ⟨b, o, none⟩) hlt
  have f := fun (b o : Nat) (hlt : b < wr.heap.size) => hb.frozen (p := ⟨b, o, none⟩) hlt
  have hs := hb.size
  refine ⟨?_, ?_, ?_, ?_, ?_, ?_, ?_, ?_⟩
  · rw [World.cell?_setCell_other _ _ _ _ (by simp), c _ _ (by omega)]; exact h.r0
  · rw [World.cell?_setCell_other _ _ _ _ (by simp), c _ _ (by omega)]; exact h.r1
  · rw [World.frozen?_setCell, f _ _ (by omega)]; exact h.f0
  · rw [World.frozen?_setCell, f _ _ (by omega)]; exact h.f1
  · exact World.cell?_setCell_same _ _ _ ((c _ _ (by omega)).trans h.t)
  · rw [World.frozen?_setCell, f _ _ (by omega)]; exact h.tf
  · rw [World.size_setCell]; omega
  · exact (h.bel.trans (hb.mono (by omega))).setCell (by simp) _

set_option maxHeartbeats 800000 in
theorem implTotalOf_any (v : Value) (zs : List Int) (w : World) (h : Sl .i64 w v zs) (a b : Int) (hA : TotalAns zs a b) :
    Calls Try.prog 24 #[v] w fun e w' => e = .returned (ir a b) ∧ Below w.heap.size w w' := by
  have H := Lib.hid h
  obtain ⟨ad, cap, rfl, hl, hm, hne, hw⟩ := h
  unfold maxLen at hm
  have HNE := Lib.hid hne
  clear hne hw
  cases hA with
  | many h4 =>
    go_enter Try.func24, Try.ntmps24
    go_wp2
    exact bodyPost_ret (v := ir 2 0) (by simp [results, Try.results24, go_sem]) rfl ⟨rfl, (by repeat (first | exact Below.refl _ _ | assumption | refine Below.drew ?_ | refine Below_drewN ?_ _ | refine Below.alloc ?_ (by first | omega | (simp; done) | (simp; omega)) _ | refine Below.setCell ?_ (by first | omega | (simp; done) | (simp; omega)) _ | (refine Below.trans ?_ (Below.mono (by assumption) (by first | omega | (simp; done) | (simp; omega))))))⟩
  | range h4 hr =>
    obtain ⟨j, hj, hbad, hgood⟩ := not_AllIn hr
    have hlj : (zs.take j).length = j := by rw [List.length_take]; omega
    have HG := Lib.hid hgood
    have HBAD := Lib.hid hbad
    have HLJ := Lib.hid hlj
    clear hr hgood hbad hlj
    go_enter Try.func24, Try.ntmps24
    go_wp2
    go_loopw [13] (fun i wr => ∃ k : Nat, k ≤ j ∧ i = .int .i64 k ∧ TotRel w zs (sumL ((zs.take j).take k)) wr) (fun i _ => zs.length - (intOf i).toNat)
    case atStart => exact ⟨0, Nat.zero_le _, rfl, by simp, by simp, by simp, by simp, by simp [sumL], by simp, by simp, (by repeat (first | exact Below.refl _ _ | assumption | refine Below.drew ?_ | refine Below_drewN ?_ _ | refine Below.alloc ?_ (by first | omega | (simp; done) | (simp; omega)) _ | refine Below.setCell ?_ (by first | omega | (simp; done) | (simp; omega)) _ | (refine Below.trans ?_ (Below.mono (by assumption) (by first | omega | (simp; done) | (simp; omega))))))⟩
    obtain ⟨k, hk, rfl, hT⟩ := hrel
    have HT := Lib.hid hT
    obtain ⟨r0, r1, f0, f1, t, tf, sz, bel⟩ := hT
    have hb := sumL_bd (zs.take j) 1000000 HG.out k (by rw [HLJ.out]; omega)
    have hlt : k < zs.length := by omega
    obtain ⟨bb, off, rfl, hc⟩ := HNE.out (by omega)
    have hck := hc k hlt
    have hbk : bb < w.heap.size := World.block_lt_of_cell? _ _ hck
    have hckr : wr.cell? ⟨bb, off + k, none⟩ = some (.int .i64 (zs.getD k 0)) := (bel.cell (p := ⟨bb, off + k, none⟩) hbk).trans hck
    clear hc hck
    by_cases hkj : k < j
    · have hx : 0 ≤ zs[k] ∧ zs[k] ≤ 1000000 := by
        have := HG.out.at (k := k) (by rw [HLJ.out]; omega)
        simpa using this
      have E : Hid (sumL ((zs.take j).take (k + 1)) = sumL ((zs.take j).take k) + zs[k]) := by
        unfold Hid
        have := sumL_take (zs.take j) (k := k) (by rw [HLJ.out]; omega)
        simpa using this
      generalize hS : sumL ((zs.take j).take k) = S at *
      have HS' := Lib.hid hS
      clear hS
      have sz' : w.heap.size < wr.heap.size := by omega
      go_wp2_with fail
      refine (valid_yes _ _ hx.1 hx.2).mono ?_
      rintro e w1 ⟨rfl, hb1⟩
      obtain ⟨hc_hb1, hf_hb1, hz_hb1⟩ := bcell hb1; (try simp only [World.size_alloc, World.size_setCell, World.size_drew] at hz_hb1)
      have hz1 : wr.heap.size < w1.heap.size := by omega
      have hz1' : w.heap.size + 1 < w1.heap.size := by omega
      have hz1'' : w.heap.size < w1.heap.size := by omega
      go_wp2_with fail
      refine (plus_any _ _ _ (by omega) (by omega) hx.1 hx.2).mono ?_
      rintro e w2 ⟨rfl, hb2⟩
      obtain ⟨hc_hb2, hf_hb2, hz_hb2⟩ := bcell hb2; (try simp only [World.size_alloc, World.size_setCell, World.size_drew] at hz_hb2)
      have hz2 : wr.heap.size < w2.heap.size := by omega
      have hz2' : w.heap.size + 1 < w2.heap.size := by omega
      have hz2'' : w.heap.size < w2.heap.size := by omega
      have hbb : Hid (Below wr.heap.size wr w2) := (by repeat (first | exact Below.refl _ _ | assumption | refine Below.drew ?_ | refine Below_drewN ?_ _ | refine Below.alloc ?_ (by first | omega | (simp; done) | (simp; omega)) _ | refine Below.setCell ?_ (by first | omega | (simp; done) | (simp; omega)) _ | (refine Below.trans ?_ (Below.mono (by assumption) (by first | omega | (simp; done) | (simp; omega))))))
      go_wp2
      go_roundw
      case rel => exact ⟨k + 1, by omega, by go_num, by rw [E.out]; exact HT.out.step hbb.out _⟩
      case measure => simp [intOf]; omega
    · obtain rfl : k = j := by omega
      generalize hS : sumL ((zs.take k).take k) = S at *
      have HS' := Lib.hid hS
      clear hS
      have sz' : w.heap.size < wr.heap.size := by omega
      go_wp2_with fail
      refine (valid_no _ _ HBAD.out).mono ?_
      rintro e w1 ⟨rfl, hb1⟩
      obtain ⟨hc_hb1, hf_hb1, hz_hb1⟩ := bcell hb1; (try simp only [World.size_alloc, World.size_setCell, World.size_drew] at hz_hb1)
      have hz1'' : w.heap.size < w1.heap.size := by omega
      go_wp2
      have sz2 : w.heap.size < wr.heap.size + 1 := by omega
      exact bodyPost_ret (v := ir 3 0) (by simp [results, Try.results24, go_sem, hc_hb1, hf_hb1, hz1'', r0, r1, sz', sz2]) rfl ⟨rfl, (by repeat (first | exact Below.refl _ _ | assumption | refine Below.drew ?_ | refine Below_drewN ?_ _ | refine Below.alloc ?_ (by first | omega | (simp; done) | (simp; omega)) _ | refine Below.setCell ?_ (by first | omega | (simp; done) | (simp; omega)) _ | (refine Below.trans ?_ (Below.mono (by assumption) (by first | omega | (simp; done) | (simp; omega))))))⟩
  | money h4 hr hs =>
    have HR := Lib.hid hr
    have HS := Lib.hid hs
    clear hr hs
    go_enter Try.func24, Try.ntmps24
    go_wp2
    go_loopw [13] (fun i wr => ∃ k : Nat, k ≤ zs.length ∧ i = .int .i64 k ∧ TotRel w zs (sumL (zs.take k)) wr) (fun i _ => zs.length - (intOf i).toNat)
    case atStart => exact ⟨0, Nat.zero_le _, rfl, by simp, by simp, by simp, by simp, by simp [sumL], by simp, by simp, (by repeat (first | exact Below.refl _ _ | assumption | refine Below.drew ?_ | refine Below_drewN ?_ _ | refine Below.alloc ?_ (by first | omega | (simp; done) | (simp; omega)) _ | refine Below.setCell ?_ (by first | omega | (simp; done) | (simp; omega)) _ | (refine Below.trans ?_ (Below.mono (by assumption) (by first | omega | (simp; done) | (simp; omega))))))⟩
    obtain ⟨k, hk, rfl, hT⟩ := hrel
    have HT := Lib.hid hT
    obtain ⟨r0, r1, f0, f1, t, tf, sz, bel⟩ := hT
    have hb := sumL_bd zs 1000000 HR.out k hk
    by_cases hlt : k < zs.length
    · obtain ⟨bb, off, rfl, hc⟩ := HNE.out (by omega)
      have hck := hc k hlt
      have hbk : bb < w.heap.size := World.block_lt_of_cell? _ _ hck
      have hckr : wr.cell? ⟨bb, off + k, none⟩ = some (.int .i64 (zs.getD k 0)) := (bel.cell (p := ⟨bb, off + k, none⟩) hbk).trans hck
      have hx := HR.out.at hlt
      have E := Lib.hid (sumL_take zs hlt)
      clear hc hck
      have sz' : w.heap.size < wr.heap.size := by omega
      go_wp2_with fail
      refine (valid_yes _ _ hx.1 hx.2).mono ?_
      rintro e w1 ⟨rfl, hb1⟩
      obtain ⟨hc_hb1, hf_hb1, hz_hb1⟩ := bcell hb1; (try simp only [World.size_alloc, World.size_setCell, World.size_drew] at hz_hb1)
      have hz1 : wr.heap.size < w1.heap.size := by omega
      have hz1' : w.heap.size + 1 < w1.heap.size := by omega
      have hz1'' : w.heap.size < w1.heap.size := by omega
      go_wp2_with fail
      refine (plus_any _ _ _ (by omega) (by omega) hx.1 hx.2).mono ?_
      rintro e w2 ⟨rfl, hb2⟩
      obtain ⟨hc_hb2, hf_hb2, hz_hb2⟩ := bcell hb2; (try simp only [World.size_alloc, World.size_setCell, World.size_drew] at hz_hb2)
      have hz2 : wr.heap.size < w2.heap.size := by omega
      have hz2' : w.heap.size + 1 < w2.heap.size := by omega
      have hz2'' : w.heap.size < w2.heap.size := by omega
      have hbb : Hid (Below wr.heap.size wr w2) := (by repeat (first | exact Below.refl _ _ | assumption | refine Below.drew ?_ | refine Below_drewN ?_ _ | refine Below.alloc ?_ (by first | omega | (simp; done) | (simp; omega)) _ | refine Below.setCell ?_ (by first | omega | (simp; done) | (simp; omega)) _ | (refine Below.trans ?_ (Below.mono (by assumption) (by first | omega | (simp; done) | (simp; omega))))))
      go_wp2
      go_roundw
      case rel => exact ⟨k + 1, by omega, by go_num, by rw [E.out]; exact HT.out.step hbb.out _⟩
      case measure => simp [intOf]; omega
    obtain rfl : k = zs.length := by omega
    have sz' : w.heap.size < wr.heap.size := by omega
    rw [List.take_length] at t hb
    go_wp2_with fail
    refine (valid_no _ _ (Or.inr HS.out)).mono ?_
    rintro e w1 ⟨rfl, hb1⟩
    obtain ⟨hc_hb1, hf_hb1, hz_hb1⟩ := bcell hb1; (try simp only [World.size_alloc, World.size_setCell, World.size_drew] at hz_hb1)
    have hz1'' : w.heap.size < w1.heap.size := by omega
    go_wp2
    exact bodyPost_ret (v := ir 7 0) (by simp [results, Try.results24, go_sem, hc_hb1, hf_hb1, hz1'', r0, r1, sz']) rfl ⟨rfl, (by repeat (first | exact Below.refl _ _ | assumption | refine Below.drew ?_ | refine Below_drewN ?_ _ | refine Below.alloc ?_ (by first | omega | (simp; done) | (simp; omega)) _ | refine Below.setCell ?_ (by first | omega | (simp; done) | (simp; omega)) _ | (refine Below.trans ?_ (Below.mono (by assumption) (by first | omega | (simp; done) | (simp; omega))))))⟩
  | sum h4 hr hs =>
    have HR := Lib.hid hr
    have HS := Lib.hid hs
    clear hr hs
    go_enter Try.func24, Try.ntmps24
    go_wp2
    go_loopw [13] (fun i wr => ∃ k : Nat, k ≤ zs.length ∧ i = .int .i64 k ∧ TotRel w zs (sumL (zs.take k)) wr) (fun i _ => zs.length - (intOf i).toNat)
    case atStart => exact ⟨0, Nat.zero_le _, rfl, by simp, by simp, by simp, by simp, by simp [sumL], by simp, by simp, (by repeat (first | exact Below.refl _ _ | assumption | refine Below.drew ?_ | refine Below_drewN ?_ _ | refine Below.alloc ?_ (by first | omega | (simp; done) | (simp; omega)) _ | refine Below.setCell ?_ (by first | omega | (simp; done) | (simp; omega)) _ | (refine Below.trans ?_ (Below.mono (by assumption) (by first | omega | (simp; done) | (simp; omega))))))⟩
    obtain ⟨k, hk, rfl, hT⟩ := hrel
    have HT := Lib.hid hT
    obtain ⟨r0, r1, f0, f1, t, tf, sz, bel⟩ := hT
    have hb := sumL_bd zs 1000000 HR.out k hk
    by_cases hlt : k < zs.length
    · obtain ⟨bb, off, rfl, hc⟩ := HNE.out (by omega)
      have hck := hc k hlt
      have hbk : bb < w.heap.size := World.block_lt_of_cell? _ _ hck
      have hckr : wr.cell? ⟨bb, off + k, none⟩ = some (.int .i64 (zs.getD k 0)) := (bel.cell (p := ⟨bb, off + k, none⟩) hbk).trans hck
      have hx := HR.out.at hlt
      have E := Lib.hid (sumL_take zs hlt)
      clear hc hck
      have sz' : w.heap.size < wr.heap.size := by omega
      go_wp2_with fail
      refine (valid_yes _ _ hx.1 hx.2).mono ?_
      rintro e w1 ⟨rfl, hb1⟩
      obtain ⟨hc_hb1, hf_hb1, hz_hb1⟩ := bcell hb1; (try simp only [World.size_alloc, World.size_setCell, World.size_drew] at hz_hb1)
      have hz1 : wr.heap.size < w1.heap.size := by omega
      have hz1' : w.heap.size + 1 < w1.heap.size := by omega
      have hz1'' : w.heap.size < w1.heap.size := by omega
      go_wp2_with fail
      refine (plus_any _ _ _ (by omega) (by omega) hx.1 hx.2).mono ?_
      rintro e w2 ⟨rfl, hb2⟩
      obtain ⟨hc_hb2, hf_hb2, hz_hb2⟩ := bcell hb2; (try simp only [World.size_alloc, World.size_setCell, World.size_drew] at hz_hb2)
      have hz2 : wr.heap.size < w2.heap.size := by omega
      have hz2' : w.heap.size + 1 < w2.heap.size := by omega
      have hz2'' : w.heap.size < w2.heap.size := by omega
      have hbb : Hid (Below wr.heap.size wr w2) := (by repeat (first | exact Below.refl _ _ | assumption | refine Below.drew ?_ | refine Below_drewN ?_ _ | refine Below.alloc ?_ (by first | omega | (simp; done) | (simp; omega)) _ | refine Below.setCell ?_ (by first | omega | (simp; done) | (simp; omega)) _ | (refine Below.trans ?_ (Below.mono (by assumption) (by first | omega | (simp; done) | (simp; omega))))))
      go_wp2
      go_roundw
      case rel => exact ⟨k + 1, by omega, by go_num, by rw [E.out]; exact HT.out.step hbb.out _⟩
      case measure => simp [intOf]; omega
    obtain rfl : k = zs.length := by omega
    have sz' : w.heap.size < wr.heap.size := by omega
    rw [List.take_length] at t hb
    go_wp2_with fail
    refine (valid_yes _ _ (by omega) HS.out).mono ?_
    rintro e w1 ⟨rfl, hb1⟩
    obtain ⟨hc_hb1, hf_hb1, hz_hb1⟩ := bcell hb1; (try simp only [World.size_alloc, World.size_setCell, World.size_drew] at hz_hb1)
    have hz1'' : w.heap.size < w1.heap.size := by omega
    go_wp2
    exact bodyPost_ret (v := ir 0 (sumL zs)) (by simp [results, Try.results24, go_sem, hc_hb1, hf_hb1, hz1'', r0, r1, sz']) rfl ⟨rfl, (by repeat (first | exact Below.refl _ _ | assumption | refine Below.drew ?_ | refine Below_drewN ?_ _ | refine Below.alloc ?_ (by first | omega | (simp; done) | (simp; omega)) _ | refine Below.setCell ?_ (by first | omega | (simp; done) | (simp; omega)) _ | (refine Below.trans ?_ (Below.mono (by assumption) (by first | omega | (simp; done) | (simp; omega))))))⟩

/-- AddMoney's answer: TotalOf of both. -/
theorem implAddMoney_any (x y : Int) (w : World) (hx : -9223372036854775808 ≤ x ∧ x ≤ 9223372036854775807) (hy : -9223372036854775808 ≤ y ∧ y ≤ 9223372036854775807) (a b : Int) (hA : TotalAns [x, y] a b) :
    Calls Try.prog 22 #[.int .i64 x, .int .i64 y] w fun e w' => e = .returned (ir a b) ∧ Below w.heap.size w w' := by
  have HA := Lib.hid hA
  clear hA
  go_enter Try.func22, Try.ntmps22
  go_wp2_with fail
  refine (implTotalOf_any _ [x, y] _ (by exact Sl.litAt _ [x, y] _ (by simp) rfl rfl (by simp [maxLen]) (by intro n hn; simp at hn; rcases hn with rfl | rfl; exact wf_i64 hx; exact wf_i64 hy)) a b HA.out).mono ?_
  rintro e w1 ⟨rfl, hb1⟩
  obtain ⟨hc_hb1, hf_hb1, hz_hb1⟩ := bcell hb1; (try simp only [World.size_alloc, World.size_setCell, World.size_drew] at hz_hb1)
  have hz1 : w.heap.size < w1.heap.size := by omega
  have hz2 : w.heap.size < w.heap.size + 1 + 1 := by omega
  go_wp2
  exact bodyPost_ret (v := ir a b) (by simp [results, Try.results22, go_sem, hc_hb1, hf_hb1, hz1, hz2]) rfl ⟨rfl, (by repeat (first | exact Below.refl _ _ | assumption | refine Below.drew ?_ | refine Below_drewN ?_ _ | refine Below.alloc ?_ (by first | omega | (simp; done) | (simp; omega)) _ | refine Below.setCell ?_ (by first | omega | (simp; done) | (simp; omega)) _ | (refine Below.trans ?_ (Below.mono (by assumption) (by first | omega | (simp; done) | (simp; omega))))))⟩

theorem specAddMoney_any (x y : Int) (w : World) (hx : -9223372036854775808 ≤ x ∧ x ≤ 9223372036854775807) (hy : -9223372036854775808 ≤ y ∧ y ≤ 9223372036854775807) (a b : Int) (hA : TotalAns [x, y] a b) :
    Calls Try.prog 32 #[.int .i64 x, .int .i64 y] w fun e w' => e = .returned (ir a b) ∧ Below w.heap.size w w' := by
  have hI : AllIn [x, y] 0 1000000 ↔ (0 ≤ x ∧ x ≤ 1000000) ∧ (0 ≤ y ∧ y ≤ 1000000) := by simp [AllIn]
  have hsum : sumL [x, y] = x + y := by simp [sumL]
  have HI := Lib.hid hI
  have HSUM := Lib.hid hsum
  clear hI hsum
  cases hA with
  | many h4 => exact absurd (by simp) h4
  | range h4 hr =>
    rw [HI.out] at hr
    by_cases h : 0 ≤ x ∧ x ≤ 1000000
    · have h2 : y < 0 ∨ 1000000 < y := by omega
      have H2 := Lib.hid h2
      clear hr h2
      go_enter Try.func32, Try.ntmps32
      go_wp2_with (go_at_call 53; first | ((with_reducible refine (l1Amount_yes x _ h.1 h.2).mono ?_); rintro e w' ⟨rfl, rfl⟩) | ((with_reducible refine (l1Amount_no y _ H2.out).mono ?_); rintro e w' ⟨rfl, rfl⟩))
      exact bodyPost_ret (v := ir 3 0) (by simp [results, Try.results32, go_sem]) rfl ⟨rfl, (by repeat (first | exact Below.refl _ _ | assumption | refine Below.drew ?_ | refine Below_drewN ?_ _ | refine Below.alloc ?_ (by first | omega | (simp; done) | (simp; omega)) _ | refine Below.setCell ?_ (by first | omega | (simp; done) | (simp; omega)) _ | (refine Below.trans ?_ (Below.mono (by assumption) (by first | omega | (simp; done) | (simp; omega))))))⟩
    · have h2 : x < 0 ∨ 1000000 < x := by omega
      have H2 := Lib.hid h2
      clear hr h2 h
      go_enter Try.func32, Try.ntmps32
      go_wp2_with (go_at_call 53; ((with_reducible refine (l1Amount_no x _ H2.out).mono ?_); rintro e w' ⟨rfl, rfl⟩))
      exact bodyPost_ret (v := ir 3 0) (by simp [results, Try.results32, go_sem]) rfl ⟨rfl, (by repeat (first | exact Below.refl _ _ | assumption | refine Below.drew ?_ | refine Below_drewN ?_ _ | refine Below.alloc ?_ (by first | omega | (simp; done) | (simp; omega)) _ | refine Below.setCell ?_ (by first | omega | (simp; done) | (simp; omega)) _ | (refine Below.trans ?_ (Below.mono (by assumption) (by first | omega | (simp; done) | (simp; omega))))))⟩
  | money h4 hr hs =>
    rw [HI.out] at hr
    rw [HSUM.out] at hs
    have H2 : Hid (x + y < 0 ∨ 1000000 < x + y) := Or.inr hs
    clear hs
    go_enter Try.func32, Try.ntmps32
    go_wp2_with (go_at_call 53; first | ((with_reducible refine (l1Amount_yes x _ hr.1.1 hr.1.2).mono ?_); rintro e w' ⟨rfl, rfl⟩) | ((with_reducible refine (l1Amount_yes y _ hr.2.1 hr.2.2).mono ?_); rintro e w' ⟨rfl, rfl⟩) | ((with_reducible refine (l1Amount_no (x + y) _ H2.out).mono ?_); rintro e w' ⟨rfl, rfl⟩))
    exact bodyPost_ret (v := ir 7 0) (by simp [results, Try.results32, go_sem]) rfl ⟨rfl, (by repeat (first | exact Below.refl _ _ | assumption | refine Below.drew ?_ | refine Below_drewN ?_ _ | refine Below.alloc ?_ (by first | omega | (simp; done) | (simp; omega)) _ | refine Below.setCell ?_ (by first | omega | (simp; done) | (simp; omega)) _ | (refine Below.trans ?_ (Below.mono (by assumption) (by first | omega | (simp; done) | (simp; omega))))))⟩
  | sum h4 hr hs =>
    rw [HI.out] at hr
    rw [HSUM.out] at hs ⊢
    go_enter Try.func32, Try.ntmps32
    go_wp2_with (go_at_call 53; first | ((with_reducible refine (l1Amount_yes x _ hr.1.1 hr.1.2).mono ?_); rintro e w' ⟨rfl, rfl⟩) | ((with_reducible refine (l1Amount_yes y _ hr.2.1 hr.2.2).mono ?_); rintro e w' ⟨rfl, rfl⟩) | ((with_reducible refine (l1Amount_yes (x + y) _ (by omega) hs).mono ?_); rintro e w' ⟨rfl, rfl⟩))
    exact bodyPost_ret (v := ir 0 (x + y)) (by simp [results, Try.results32, go_sem]) rfl ⟨rfl, (by repeat (first | exact Below.refl _ _ | assumption | refine Below.drew ?_ | refine Below_drewN ?_ _ | refine Below.alloc ?_ (by first | omega | (simp; done) | (simp; omega)) _ | refine Below.setCell ?_ (by first | omega | (simp; done) | (simp; omega)) _ | (refine Below.trans ?_ (Below.mono (by assumption) (by first | omega | (simp; done) | (simp; omega))))))⟩

end Go.Proofs.Ytechmmppdciidaa
