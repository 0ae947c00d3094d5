/-
  CONTRACTS OF CHAPTER 1: SumInts, both sides.
-/
import Derived.Test.YtechmmppdciidaaTotal
namespace Go.Proofs.Ytechmmppdciidaa
open Go.ChangeShapes Go.WideShapes Go.ChangeAt Go.RowKit
set_option linter.unusedSimpArgs false
set_option linter.unusedVariables false

/-- Four bytes of a number. -/
def four (n : Int) : List Int := [n / 16777216 % 256, n / 65536 % 256, n / 256 % 256, n % 256]
def fours (zs : List Int) : List Int := zs.flatMap four
theorem fours_snoc (zs : List Int) (n : Int) : fours (zs ++ [n]) = fours zs ++ four n := by simp [fours]
theorem fours_length (zs : List Int) : (fours zs).length = 4 * zs.length := by
  induction zs with
  | nil => rfl
  | cons x r ih =>
    have : fours (x :: r) = four x ++ fours r := rfl
    rw [this, List.length_append, ih]; simp [four]; omega
theorem fours_take (zs : List Int) {k : Nat} (h : k < zs.length) : fours (zs.take (k + 1)) = fours (zs.take k) ++ four zs[k] := by
  rw [take_snoc zs k h, fours_snoc]; simp [List.getD_eq_getElem?_getD, h]
theorem four_wf (n : Int) : ∀ m ∈ four n, (Lit.int .u8 m).wf = true := by
  intro m hm
  have : 0 ≤ m ∧ m ≤ 255 := by
    simp [four] at hm
    rcases hm with rfl | rfl | rfl | rfl <;> omega
  simpa [Lit.wf, IntKind.min, IntKind.max, IntKind.signed, IntKind.bits] using this
theorem fours_wf (zs : List Int) : ∀ m ∈ fours zs, (Lit.int .u8 m).wf = true := by
  intro m hm
  simp only [fours, List.mem_flatMap] at hm
  obtain ⟨n, _, h⟩ := hm
  exact four_wf n m h

theorem lit_cells (w : World) (l : List Value) (T : TypeId) : ∀ j u, l[j]? = some u → (w.alloc (.cells l.toArray T)).cell? ((⟨w.heap.size, 0, none⟩ : Addr).add j) = some u := by
  intro j u h
  have e : (⟨w.heap.size, 0, none⟩ : Addr).add j = ⟨w.heap.size, j, none⟩ := by
    simp only [Addr.add]; split <;> simp_all
  rw [e, World.cell?_alloc_at (hn := rfl)]
  simpa using h
theorem ints_one (k : IntKind) (l : List Int) : ∀ u ∈ l.map (Value.int k), u.oneCell' = true := by
  intro u hu
  obtain ⟨n, _, rfl⟩ := List.mem_map.1 hu
  rfl

theorem l1Four_any (n : Int) (w : World) (h0 : 0 ≤ n) (h1 : n ≤ 2147483646) :
    Calls Try.prog 57 #[.int .i64 n] w fun e w' => e = .returned (.slice (some ⟨w.heap.size, 0, none⟩) 4 4) ∧ w' = w.alloc (.cells ((four n).map (Value.int .u8)).toArray 5) := by
  go_enter Try.func57, Try.ntmps57
  go_wp2
  go_ret
  have e : n / 16777216 % 256 = n / 16777216 := by omega
  exact ⟨rfl, by simp [four, e]⟩

set_option maxHeartbeats 800000 in
theorem l1SumInts_any (v : Value) (zs : List Int) (w : World) (h : Sl .i64 w v zs) (hA : AllIn zs 0 2147483646) (hn : zs.length ≤ 200) :
    Calls Try.prog 52 #[v] w fun e w' => e = .returned (.int .i64 (sumF (fours zs))) ∧ Below w.heap.size w w' := by
  obtain ⟨ad, cap, rfl, hl, hm, hne, hw⟩ := h
  unfold maxLen at hm
  have HNE := Lib.hid hne
  have HA := Lib.hid hA
  clear hne hw hA
  obtain ⟨i0, hi, hz0, hz1, hz2⟩ := info_parts Tryinfo_u8
  go_enter Try.func52, Try.ntmps52
  go_wp2
  go_loopw [3, 4] (fun s i wr => ∃ k : Nat, k ≤ zs.length ∧ i = .int .i64 k ∧ wr.ownsRow w.heap.size 5 1 s (fours (zs.take k)).length ((fours (zs.take k)).map (Value.int .u8)) ∧ Below w.heap.size w wr) (fun _ i _ => zs.length - (intOf i).toNat)
  case atStart => exact ⟨0, Nat.zero_le _, rfl, by simpa [fours] using World.ownsRow_lit (e := 5) (size := 1) w #[] 0 (Nat.le_refl _) (by simp [maxLen]) rfl, (by repeat (first | exact Below.refl _ _ | assumption | refine Below.drew ?_ | refine Below_drewN ?_ _ | refine Below.alloc ?_ (by first | omega | (simp; done) | (simp; omega)) _ | refine Below.setCell ?_ (by first | omega | (simp; done) | (simp; omega)) _ | (refine Below.trans ?_ (Below.mono (by assumption) (by first | omega | (simp; done) | (simp; omega))))))⟩
  obtain ⟨k, hk, rfl, hown, hbw⟩ := hrel
  have hlen := fours_length (zs.take k)
  have hlen2 : (fours (zs.take k)).length ≤ 800 := by rw [hlen, List.length_take]; omega
  have HLEN := Lib.hid hlen
  clear hlen
  by_cases hlt : k < zs.length
  · obtain ⟨bb, off, rfl, hc⟩ := HNE.out (by omega)
    have hck := hc k hlt
    have hbk : bb < w.heap.size := World.block_lt_of_cell? _ _ hck
    have hckr : wr.cell? ⟨bb, off + k, none⟩ = some (.int .i64 (zs.getD k 0)) := (hbw.cell (p := ⟨bb, off + k, none⟩) hbk).trans hck
    obtain ⟨hx0, hx1⟩ := HA.out.at hlt
    have E := Lib.hid (fours_take zs hlt)
    have hsz := hbw.size
    clear hc hck
    go_wp2_with fail
    refine (l1Four_any _ _ hx0 hx1).mono ?_
    rintro e w1 ⟨rfl, rfl⟩
    have HOWN := Lib.hid hown
    clear hown
    go_wp2_with (at_builtin; refine wpList_append_own _ rfl _ _ 22 rfl w.heap.size 5 i0 (.int .u8 0) 1 1 Try.underlying22 hi hz0 hz1 hz2 rfl (by decide) _ _ _ rfl (HOWN.out.alloc _) ⟨wr.heap.size, 0, none⟩ 4 4 ((four zs[k]).map (Value.int .u8)) rfl rfl (lit_cells _ _ _) (ints_one _ _) (by unfold maxLen; omega) (by omega) (by simp; omega) ?_; intro v' w2 hown2 hgrow2 _)
    have R := Lib.hid (show w2.ownsRow w.heap.size 5 1 v' (fours (zs.take (k + 1))).length ((fours (zs.take (k + 1))).map (Value.int .u8)) by rw [E.out, List.length_append, List.map_append]; exact hown2)
    have HG := Lib.hid (show Below w.heap.size w w2 from (hbw.alloc hsz _).grown hgrow2 (by simp; omega) (fun g hg => (HOWN.out.lt g hg).1))
    clear hown2 hgrow2
    go_wp2
    go_roundw
    case rel => exact ⟨k + 1, by omega, by go_num, R.out, HG.out⟩
    case measure => simp [intOf]; omega
  · obtain rfl : k = zs.length := by omega
    have e : zs.take zs.length = zs := List.take_length
    rw [e] at hown hlen2
    have HS := Lib.hid (Sl.of_owns hown (fours_wf zs))
    clear hown e
    go_wp2_with (go_at_call 55; refine (l1Sum_sl _ _ _ HS.out).mono ?_; rintro e w' ⟨rfl, rfl⟩)
    go_ret
    exact ⟨rfl, hbw⟩

theorem four_lit {n : Int} (h0 : 0 ≤ n) (h1 : n ≤ 2147483646) : [Value.int .u8 (n / 16777216), .int .u8 (n / 65536 % 256), .int .u8 (n / 256 % 256), .int .u8 (n % 256)] = (four n).map (Value.int .u8) := by
  have e : n / 16777216 % 256 = n / 16777216 := by omega
  simp [four, e]

set_option maxHeartbeats 1600000 in
theorem implSumInts_in (v : Value) (zs : List Int) (w : World) (h : Sl .i64 w v zs) (hA : AllIn zs 0 2147483646) (hn : zs.length ≤ 200) :
    Calls Try.prog 26 #[v] w fun e w' => (∃ a b, e = .returned (ir a b) ∧ a = 0 ∧ b = sumF (fours zs)) ∧ Below w.heap.size w w' := by
  obtain ⟨ad, cap, rfl, hl, hm, hne, hw⟩ := h
  unfold maxLen at hm
  have HNE := Lib.hid hne
  have HA := Lib.hid hA
  clear hne hw hA
  obtain ⟨i0, hi, hz0, hz1, hz2⟩ := info_parts Tryinfo_u8
  go_enter Try.func26, Try.ntmps26
  go_wp2_with (at_make; refine wpList_make_own _ rfl _ _ 22 rfl (w.heap.size + 1) 5 i0 (.int .u8 0) 1 Try.underlying22 hi hz0 hz1 _ _ _ (4 * zs.length) rfl rfl (by omega) (by rw [hz2]; omega) (by unfold maxLen; omega) (by simp) ?_; intro w1 hown hgrow)
  have hw1 : Below (w.heap.size + 1) (w.alloc (.cells #[.int .i64 0, .int .i64 0] 26)) w1 := (Below.refl _ _).grown hgrow (by simp) (fun k h => by cases h)
  rw [World.size_alloc] at hown
  clear hgrow
  go_loopw [3, 17] (fun s i wr => ∃ k : Nat, k ≤ zs.length ∧ i = .int .i64 k ∧ wr.ownsRow (w.heap.size + 1) 5 1 s (fours (zs.take k)).length ((fours (zs.take k)).map (Value.int .u8)) ∧ Below (w.heap.size + 1) (w.alloc (.cells #[.int .i64 0, .int .i64 0] 26)) wr) (fun _ i _ => zs.length - (intOf i).toNat)
  case atStart => exact ⟨0, Nat.zero_le _, rfl, hown, hw1⟩
  obtain ⟨k, hk, rfl, hownk, hbw⟩ := hrel
  clear hown hw1
  obtain ⟨hres, hresf, hsz, hbel⟩ := resBlock hbw
  have hlen := fours_length (zs.take k)
  have hlen2 : (fours (zs.take k)).length ≤ 800 := by rw [hlen, List.length_take]; omega
  have HLEN := Lib.hid hlen
  have HOWN := Lib.hid hownk
  have HRES := Lib.hid hres
  have HRESF := Lib.hid hresf
  clear hlen hownk hres hresf
  by_cases hlt : k < zs.length
  · obtain ⟨bb, off, rfl, hc⟩ := HNE.out (by omega)
    have hck := hc k hlt
    have hbk : bb < w.heap.size := World.block_lt_of_cell? _ _ hck
    have hckr : wr.cell? ⟨bb, off + k, none⟩ = some (.int .i64 (zs.getD k 0)) := (hbel.cell (p := ⟨bb, off + k, none⟩) hbk).trans hck
    obtain ⟨hx0, hx1⟩ := HA.out.at hlt
    have E := Lib.hid (fours_take zs hlt)
    clear hc hck
    go_wp2_with (first | (go_at_call 43; refine (isSum_yes _ _ hx0 hx1).mono ?_; rintro e w' ⟨rfl, rfl⟩) | (at_builtin; refine wpList_append_own _ rfl (.tmp 27) (.tmp 39) 22 rfl (w.heap.size + 1) 5 i0 (.int .u8 0) 1 1 Try.underlying22 hi hz0 hz1 hz2 rfl (by decide) _ _ _ rfl (HOWN.out.alloc _) ⟨wr.heap.size, 0, none⟩ 4 4 [.int .u8 (zs[k] / 16777216), .int .u8 (zs[k] / 65536 % 256), .int .u8 (zs[k] / 256 % 256), .int .u8 (zs[k] % 256)] rfl rfl (lit_cells _ _ _) (by rw [four_lit hx0 hx1]; exact ints_one _ _) (by unfold maxLen; omega) (by omega) (by simp; omega) ?_; intro v' w2 hown2 hgrow2 _))
    have R := Lib.hid (show w2.ownsRow (w.heap.size + 1) 5 1 v' (fours (zs.take (k + 1))).length ((fours (zs.take (k + 1))).map (Value.int .u8)) by rw [E.out, List.length_append, List.map_append, ← four_lit hx0 hx1]; exact hown2)
    have HG := Lib.hid (show Below (w.heap.size + 1) (w.alloc (.cells #[.int .i64 0, .int .i64 0] 26)) w2 from (hbw.alloc hsz _).grown hgrow2 (by simp; omega) (fun g hg => (HOWN.out.lt g hg).1))
    clear hown2 hgrow2
    go_roundw
    case rel => exact ⟨k + 1, by omega, by go_num, R.out, HG.out⟩
    case measure => simp [intOf]; omega
  · obtain rfl : k = zs.length := by omega
    have e : zs.take zs.length = zs := List.take_length
    rw [e] at HOWN hlen2
    have HS := Lib.hid (Sl.of_owns HOWN.out (fours_wf zs))
    clear HOWN e
    go_wp2_with fail
    refine (implSumOf_in _ _ _ HS.out (by omega)).mono ?_
    rintro e w2 ⟨rfl, hb2⟩
    obtain ⟨hc_hb2, hf_hb2, hz_hb2⟩ := bcell hb2; (try simp only [World.size_alloc, World.size_setCell, World.size_drew] at hz_hb2)
    have hz2 : w.heap.size < w2.heap.size := by omega
    have r := HRES.out
    have rf := HRESF.out
    go_wp2
    exact bodyPost_ret (v := ir 0 (sumF (fours zs))) (by simp [results, Try.results26, go_sem, hc_hb2, hf_hb2, hz2, r, rf, hsz]) rfl ⟨⟨_, _, rfl, rfl, rfl⟩, (by repeat (first | exact Below.refl _ _ | assumption | refine Below.drew ?_ | refine Below_drewN ?_ _ | refine Below.alloc ?_ (by first | omega | (simp; done) | (simp; omega)) _ | refine Below.setCell ?_ (by first | omega | (simp; done) | (simp; omega)) _ | (refine Below.trans ?_ (Below.mono (by assumption) (by first | omega | (simp; done) | (simp; omega))))))⟩

theorem implSumInts_many (v : Value) (zs : List Int) (w : World) (h : Sl .i64 w v zs) (h4 : ¬ zs.length ≤ 200) :
    Calls Try.prog 26 #[v] w fun e w' => e = .returned (ir 2 0) ∧ Below w.heap.size w w' := by
  obtain ⟨a, cap, rfl, hl, hm, hne, hw⟩ := h
  unfold maxLen at hm
  clear hne hw
  go_enter Try.func26, Try.ntmps26
  go_wp2
  exact bodyPost_ret (v := ir 2 0) (by simp [results, Try.results26, go_sem]) rfl ⟨rfl, (by repeat (first | exact Below.refl _ _ | assumption | refine Below.drew ?_ | refine Below_drewN ?_ _ | refine Below.alloc ?_ (by first | omega | (simp; done) | (simp; omega)) _ | refine Below.setCell ?_ (by first | omega | (simp; done) | (simp; omega)) _ | (refine Below.trans ?_ (Below.mono (by assumption) (by first | omega | (simp; done) | (simp; omega))))))⟩

set_option maxHeartbeats 1600000 in
theorem implSumInts_range (v : Value) (zs : List Int) (w : World) (h : Sl .i64 w v zs) (hA : ¬ AllIn zs 0 2147483646) (hn : zs.length ≤ 200) :
    Calls Try.prog 26 #[v] w fun e w' => e = .returned (ir 3 0) ∧ Below w.heap.size w w' := by
  obtain ⟨ad, cap, rfl, hl, hm, hne, hw⟩ := h
  unfold maxLen at hm
  obtain ⟨j, hj, hbad, hgood⟩ := not_AllIn hA
  have HNE := Lib.hid hne
  have HG := Lib.hid hgood
  have HBAD := Lib.hid hbad
  clear hne hw hA hgood hbad
  obtain ⟨i0, hi, hz0, hz1, hz2⟩ := info_parts Tryinfo_u8
  go_enter Try.func26, Try.ntmps26
  go_wp2_with (at_make; refine wpList_make_own _ rfl _ _ 22 rfl (w.heap.size + 1) 5 i0 (.int .u8 0) 1 Try.underlying22 hi hz0 hz1 _ _ _ (4 * zs.length) rfl rfl (by omega) (by rw [hz2]; omega) (by unfold maxLen; omega) (by simp) ?_; intro w1 hown hgrow)
  have hw1 : Below (w.heap.size + 1) (w.alloc (.cells #[.int .i64 0, .int .i64 0] 26)) w1 := (Below.refl _ _).grown hgrow (by simp) (fun k h => by cases h)
  rw [World.size_alloc] at hown
  clear hgrow
  go_loopw [3, 17] (fun s i wr => ∃ k : Nat, k ≤ j ∧ i = .int .i64 k ∧ wr.ownsRow (w.heap.size + 1) 5 1 s (fours (zs.take k)).length ((fours (zs.take k)).map (Value.int .u8)) ∧ Below (w.heap.size + 1) (w.alloc (.cells #[.int .i64 0, .int .i64 0] 26)) wr) (fun _ i _ => zs.length - (intOf i).toNat)
  case atStart => exact ⟨0, Nat.zero_le _, rfl, hown, hw1⟩
  obtain ⟨k, hk, rfl, hownk, hbw⟩ := hrel
  clear hown hw1
  obtain ⟨hres, hresf, hsz, hbel⟩ := resBlock hbw
  have hlen := fours_length (zs.take k)
  have hlen2 : (fours (zs.take k)).length ≤ 800 := by rw [hlen, List.length_take]; omega
  have HLEN := Lib.hid hlen
  have HOWN := Lib.hid hownk
  have HRES := Lib.hid hres
  have HRESF := Lib.hid hresf
  clear hlen hownk hres hresf
  have hlt : k < zs.length := by omega
  obtain ⟨bb, off, rfl, hc⟩ := HNE.out (by omega)
  have hck := hc k hlt
  have hbk : bb < w.heap.size := World.block_lt_of_cell? _ _ hck
  have hckr : wr.cell? ⟨bb, off + k, none⟩ = some (.int .i64 (zs.getD k 0)) := (hbel.cell (p := ⟨bb, off + k, none⟩) hbk).trans hck
  clear hc hck
  by_cases hkj : k < j
  · have hx : 0 ≤ zs[k] ∧ zs[k] ≤ 2147483646 := by
      have := HG.out.at (k := k) (by rw [List.length_take]; omega)
      simpa using this
    obtain ⟨hx0, hx1⟩ := hx
    have E := Lib.hid (fours_take zs hlt)
    go_wp2_with (first | (go_at_call 43; refine (isSum_yes _ _ hx0 hx1).mono ?_; rintro e w' ⟨rfl, rfl⟩) | (at_builtin; refine wpList_append_own _ rfl (.tmp 27) (.tmp 39) 22 rfl (w.heap.size + 1) 5 i0 (.int .u8 0) 1 1 Try.underlying22 hi hz0 hz1 hz2 rfl (by decide) _ _ _ rfl (HOWN.out.alloc _) ⟨wr.heap.size, 0, none⟩ 4 4 [.int .u8 (zs[k] / 16777216), .int .u8 (zs[k] / 65536 % 256), .int .u8 (zs[k] / 256 % 256), .int .u8 (zs[k] % 256)] rfl rfl (lit_cells _ _ _) (by rw [four_lit hx0 hx1]; exact ints_one _ _) (by unfold maxLen; omega) (by omega) (by simp; omega) ?_; intro v' w2 hown2 hgrow2 _))
    have R := Lib.hid (show w2.ownsRow (w.heap.size + 1) 5 1 v' (fours (zs.take (k + 1))).length ((fours (zs.take (k + 1))).map (Value.int .u8)) by rw [E.out, List.length_append, List.map_append, ← four_lit hx0 hx1]; exact hown2)
    have HG2 := Lib.hid (show Below (w.heap.size + 1) (w.alloc (.cells #[.int .i64 0, .int .i64 0] 26)) w2 from (hbw.alloc hsz _).grown hgrow2 (by simp; omega) (fun g hg => (HOWN.out.lt g hg).1))
    clear hown2 hgrow2
    go_roundw
    case rel => exact ⟨k + 1, by omega, by go_num, R.out, HG2.out⟩
    case measure => simp [intOf]; omega
  · obtain rfl : k = j := by omega
    have r := HRES.out
    have rf := HRESF.out
    go_wp2_with (go_at_call 43; refine (isSum_no _ _ HBAD.out).mono ?_; rintro e w' ⟨rfl, rfl⟩)
    exact bodyPost_ret (v := ir 3 0) (by simp [results, Try.results26, go_sem, r, rf, hsz]) rfl ⟨rfl, (by repeat (first | exact Below.refl _ _ | assumption | refine Below.drew ?_ | refine Below_drewN ?_ _ | refine Below.alloc ?_ (by first | omega | (simp; done) | (simp; omega)) _ | refine Below.setCell ?_ (by first | omega | (simp; done) | (simp; omega)) _ | (refine Below.trans ?_ (Below.mono (by assumption) (by first | omega | (simp; done) | (simp; omega))))))⟩

/-- What SumInts answers. -/
theorem specSumInts_many (v : Value) (zs : List Int) (w : World) (h : Sl .i64 w v zs) (h4 : ¬ zs.length ≤ 200) :
    Calls Try.prog 27 #[v] w fun e w' => e = .returned (ir 2 0) ∧ Below w.heap.size w w' := by
  obtain ⟨a, cap, rfl, hl, hm, hne, hw⟩ := h
  unfold maxLen at hm
  clear hne hw
  go_enter Try.func27, Try.ntmps27
  go_wp2
  exact bodyPost_ret (v := ir 2 0) (by simp [results, Try.results27, go_sem]) rfl ⟨rfl, (by repeat (first | exact Below.refl _ _ | assumption | refine Below.drew ?_ | refine Below_drewN ?_ _ | refine Below.alloc ?_ (by first | omega | (simp; done) | (simp; omega)) _ | refine Below.setCell ?_ (by first | omega | (simp; done) | (simp; omega)) _ | (refine Below.trans ?_ (Below.mono (by assumption) (by first | omega | (simp; done) | (simp; omega))))))⟩

theorem specSumInts_range (v : Value) (zs : List Int) (w : World) (h : Sl .i64 w v zs) (hA : ¬ AllIn zs 0 2147483646) (hn : zs.length ≤ 200) :
    Calls Try.prog 27 #[v] w fun e w' => e = .returned (ir 3 0) ∧ Below w.heap.size w w' := by
  have H := Lib.hid h
  obtain ⟨ad, cap, rfl, hl, hm, hne, hw⟩ := h
  unfold maxLen at hm
  have HR := Lib.hid hA
  clear hne hw hA
  go_enter Try.func27, Try.ntmps27
  go_wp2_with (go_at_call 51; refine (l1All_no _ zs _ _ _ (H.out.same (by repeat (first | exact Below.refl _ _ | assumption | refine Below.drew ?_ | refine Below_drewN ?_ _ | refine Below.alloc ?_ (by first | omega | (simp; done) | (simp; omega)) _ | refine Below.setCell ?_ (by first | omega | (simp; done) | (simp; omega)) _ | (refine Below.trans ?_ (Below.mono (by assumption) (by first | omega | (simp; done) | (simp; omega))))))) HR.out).mono ?_; rintro e w' ⟨rfl, rfl⟩)
  exact bodyPost_ret (v := ir 3 0) (by simp [results, Try.results27, go_sem]) rfl ⟨rfl, (by repeat (first | exact Below.refl _ _ | assumption | refine Below.drew ?_ | refine Below_drewN ?_ _ | refine Below.alloc ?_ (by first | omega | (simp; done) | (simp; omega)) _ | refine Below.setCell ?_ (by first | omega | (simp; done) | (simp; omega)) _ | (refine Below.trans ?_ (Below.mono (by assumption) (by first | omega | (simp; done) | (simp; omega))))))⟩

theorem specSumInts_in (v : Value) (zs : List Int) (w : World) (h : Sl .i64 w v zs) (hA : AllIn zs 0 2147483646) (hn : zs.length ≤ 200) :
    Calls Try.prog 27 #[v] w fun e w' => e = .returned (ir 0 (sumF (fours zs))) ∧ Below w.heap.size w w' := by
  have H := Lib.hid h
  obtain ⟨ad, cap, rfl, hl, hm, hne, hw⟩ := h
  unfold maxLen at hm
  have HR := Lib.hid hA
  clear hne hw hA
  go_enter Try.func27, Try.ntmps27
  go_wp2_with fail
  refine (l1All_yes _ zs _ _ _ (H.out.same (by repeat (first | exact Below.refl _ _ | assumption | refine Below.drew ?_ | refine Below_drewN ?_ _ | refine Below.alloc ?_ (by first | omega | (simp; done) | (simp; omega)) _ | refine Below.setCell ?_ (by first | omega | (simp; done) | (simp; omega)) _ | (refine Below.trans ?_ (Below.mono (by assumption) (by first | omega | (simp; done) | (simp; omega))))))) HR.out).mono ?_
  rintro e w' ⟨rfl, rfl⟩
  go_wp2_with fail
  refine (l1SumInts_any _ zs _ (H.out.same (by repeat (first | exact Below.refl _ _ | assumption | refine Below.drew ?_ | refine Below_drewN ?_ _ | refine Below.alloc ?_ (by first | omega | (simp; done) | (simp; omega)) _ | refine Below.setCell ?_ (by first | omega | (simp; done) | (simp; omega)) _ | (refine Below.trans ?_ (Below.mono (by assumption) (by first | omega | (simp; done) | (simp; omega))))))) HR.out hn).mono ?_
  rintro e w2 ⟨rfl, hb2⟩
  obtain ⟨hc_hb2, hf_hb2, hz_hb2⟩ := bcell hb2; (try simp only [World.size_alloc, World.size_setCell, World.size_drew] at hz_hb2)
  have hz2 : w.heap.size < w2.heap.size := by omega
  have hz3 : w.heap.size < w.heap.size + 1 := by omega
  go_wp2
  exact bodyPost_ret (v := ir 0 (sumF (fours zs))) (by simp [results, Try.results27, go_sem, hc_hb2, hf_hb2, hz2, hz3]) rfl ⟨rfl, (by repeat (first | exact Below.refl _ _ | assumption | refine Below.drew ?_ | refine Below_drewN ?_ _ | refine Below.alloc ?_ (by first | omega | (simp; done) | (simp; omega)) _ | refine Below.setCell ?_ (by first | omega | (simp; done) | (simp; omega)) _ | (refine Below.trans ?_ (Below.mono (by assumption) (by first | omega | (simp; done) | (simp; omega))))))⟩

/-- What SumInts answers, both sides. -/
def sumIntsC (zs : List Int) (a b : Int) : Prop := (¬ zs.length ≤ 200 ∧ a = 2 ∧ b = 0) ∨ (zs.length ≤ 200 ∧ ¬ AllIn zs 0 2147483646 ∧ a = 3 ∧ b = 0) ∨ (zs.length ≤ 200 ∧ AllIn zs 0 2147483646 ∧ a = 0 ∧ b = sumF (fours zs))
theorem sumIntsC.some (zs : List Int) : ∃ a b, sumIntsC zs a b := by
  by_cases h : zs.length ≤ 200
  · by_cases h' : AllIn zs 0 2147483646
    · exact ⟨_, _, Or.inr (Or.inr ⟨h, h', rfl, rfl⟩)⟩
    · exact ⟨_, _, Or.inr (Or.inl ⟨h, h', rfl, rfl⟩)⟩
  · exact ⟨_, _, Or.inl ⟨h, rfl, rfl⟩⟩
theorem specSumInts_any (v : Value) (zs : List Int) (w : World) (h : Sl .i64 w v zs) (a b : Int) (hA : sumIntsC zs a b) :
    Calls Try.prog 27 #[v] w fun e w' => e = .returned (ir a b) ∧ Below w.heap.size w w' := by
  rcases hA with ⟨h1, rfl, rfl⟩ | ⟨h1, h2, rfl, rfl⟩ | ⟨h1, h2, rfl, rfl⟩
  · exact specSumInts_many v zs w h h1
  · exact specSumInts_range v zs w h h2 h1
  · exact specSumInts_in v zs w h h2 h1
theorem implSumInts_any (v : Value) (zs : List Int) (w : World) (h : Sl .i64 w v zs) (a b : Int) (hA : sumIntsC zs a b) :
    Calls Try.prog 26 #[v] w fun e w' => e = .returned (ir a b) ∧ Below w.heap.size w w' := by
  rcases hA with ⟨h1, rfl, rfl⟩ | ⟨h1, h2, rfl, rfl⟩ | ⟨h1, h2, rfl, rfl⟩
  · exact implSumInts_many v zs w h h1
  · exact implSumInts_range v zs w h h2 h1
  · exact (implSumInts_in v zs w h h2 h1).mono fun e w' ⟨⟨a, b, he, ha, hb⟩, hB⟩ => ⟨by rw [he, ha, hb], hB⟩

end Go.Proofs.Ytechmmppdciidaa
