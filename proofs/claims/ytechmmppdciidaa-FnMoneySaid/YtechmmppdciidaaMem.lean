/-
  WHAT A SLICE OF INTEGERS READS AS; contracts of the laws' own copies and comparisons.
-/
import Derived.Test.YtechmmppdciidaaPrim
import Derived.OwnWalk
namespace Go.Proofs.Ytechmmppdciidaa
open Go.ChangeShapes Go.WideShapes Go.ChangeAt Go.RowKit
set_option linter.unusedSimpArgs false
set_option linter.unusedVariables false

/-- What the row's step hands over of a slice of integers. -/
def IsRow (k : IntKind) (w : World) (a : Option Addr) (len cap : Nat) (zs : List Int) : Prop :=
  (a = none ∧ len = 0 ∧ cap = 0 ∧ zs = []) ∨
  ∃ x, a = some x ∧ len ≤ cap ∧ cap ≤ maxLen ∧ zs.length = cap ∧ (∀ i, i < zs.length → w.cell? (x.add i) = some (.int k (zs.getD i 0))) ∧ ∀ n ∈ zs, (Lit.int k n).wf = true

/-- A slice of integers that can be read. -/
def Sl (k : IntKind) (w : World) (v : Value) (zs : List Int) : Prop :=
  ∃ a cap, v = .slice a zs.length cap ∧ zs.length ≤ cap ∧ cap ≤ maxLen ∧
    (0 < zs.length → ∃ b off, a = some ⟨b, off, none⟩ ∧ ∀ i, i < zs.length → w.cell? ⟨b, off + i, none⟩ = some (.int k (zs.getD i 0))) ∧ ∀ n ∈ zs, (Lit.int k n).wf = true

theorem Sl.nil (k : IntKind) (w : World) : Sl k w (.slice none 0 0) [] := ⟨none, 0, rfl, Nat.le_refl _, by unfold maxLen; omega, fun h => by simp at h, fun n hn => by simp at hn⟩

theorem Sl.of_row {k : IntKind} {w : World} {a : Option Addr} {len cap : Nat} {zs : List Int} (h : IsRow k w a len cap zs) : Sl k w (.slice a len cap) (zs.take len) := by
  rcases h with ⟨rfl, rfl, rfl, rfl⟩ | ⟨x, rfl, hl, hm, hz, hc, hw⟩
  · exact Sl.nil k w
  · have hlen : (zs.take len).length = len := by rw [List.length_take]; omega
    refine ⟨some x, cap, by rw [hlen], by omega, hm, fun h0 => ?_, fun n hn => hw n (List.mem_of_mem_take hn)⟩
    rw [hlen] at h0 ⊢
    obtain ⟨b, off, spot⟩ := x
    have hs := hc 0 (by omega)
    have hspot : spot = none := by simpa [Addr.add] using World.cell?_spot hs
    subst hspot
    refine ⟨b, off, rfl, fun i hi => ?_⟩
    have := hc i (by omega)
    have e : (⟨b, off, none⟩ : Addr).add i = ⟨b, off + i, none⟩ := by
      simp only [Addr.add]; split <;> simp_all
    rw [e] at this
    rw [this]
    simp [List.getD_eq_getElem?_getD, List.getElem?_take, hi]

theorem Sl.same {k : IntKind} {w w' : World} {v : Value} {zs : List Int} (h : Sl k w v zs) (hb : Below w.heap.size w w') : Sl k w' v zs := by
  obtain ⟨a, cap, rfl, hl, hm, hne, hw⟩ := h
  refine ⟨a, cap, rfl, hl, hm, fun h0 => ?_, hw⟩
  obtain ⟨b, off, rfl, hc⟩ := hne h0
  exact ⟨b, off, rfl, fun i hi => (hb.cell (p := ⟨b, off + i, none⟩) (World.block_lt_of_cell? _ _ (hc i hi))).trans (hc i hi)⟩

theorem u8_at {zs : List Int} (h : ∀ n ∈ zs, (Lit.int .u8 n).wf = true) {k : Nat} (hk : k < zs.length) : 0 ≤ zs[k] ∧ zs[k] ≤ 255 := by
  have := h zs[k] (List.getElem_mem hk)
  simpa [Lit.wf, IntKind.min, IntKind.max, IntKind.signed, IntKind.bits] using this
theorem i64_at {zs : List Int} (h : ∀ n ∈ zs, (Lit.int .i64 n).wf = true) {k : Nat} (hk : k < zs.length) : -9223372036854775808 ≤ zs[k] ∧ zs[k] ≤ 9223372036854775807 := by
  have := h zs[k] (List.getElem_mem hk)
  simpa [Lit.wf, IntKind.min, IntKind.max, IntKind.signed, IntKind.bits] using this

/-- The sum of bytes. -/
def sumF (zs : List Int) : Int := zs.foldl (fun s b => (s * 33 + b + 1) % 2147483647) 5381

theorem sumF_snoc (zs : List Int) (b : Int) : sumF (zs ++ [b]) = (sumF zs * 33 + b + 1) % 2147483647 := by simp [sumF]
theorem sumF_bd (zs : List Int) : 0 ≤ sumF zs ∧ sumF zs ≤ 2147483646 := by
  rcases List.eq_nil_or_concat zs with rfl | ⟨l, b, rfl⟩
  · simp [sumF]
  · rw [List.concat_eq_append, sumF_snoc]; omega
theorem take_snoc (zs : List Int) (k : Nat) (h : k < zs.length) : zs.take (k + 1) = zs.take k ++ [zs.getD k 0] := by
  rw [List.take_succ_eq_append_getElem h]; simp [List.getD_eq_getElem?_getD, h]

set_option maxHeartbeats 400000 in
theorem l1Sum_sl (v : Value) (zs : List Int) (w : World) (h : Sl .u8 w v zs) :
    Calls Try.prog 55 #[v] w fun e w' => e = .returned (.int .i64 (sumF zs)) ∧ w = w' := by
  obtain ⟨a, cap, rfl, hl, hm, hne, hw⟩ := h
  unfold maxLen at hm
  have HNE := Lib.hid hne
  have HW := Lib.hid hw
  clear hne hw
  go_enter Try.func55, Try.ntmps55
  go_wp2
  go_loop [3, 4] (fun s i => ∃ k : Nat, k ≤ zs.length ∧ i = .int .i64 k ∧ s = .int .i64 (sumF (zs.take k))) (fun _ i => zs.length - (intOf i).toNat)
  case atStart => exact ⟨0, Nat.zero_le _, rfl, rfl⟩
  case round =>
    obtain ⟨k, hk, rfl, rfl⟩ := hrel
    have hb := sumF_bd (zs.take k)
    by_cases hlt : k < zs.length
    · obtain ⟨b, off, rfl, hc⟩ := HNE.out (by omega)
      have hck := hc k hlt
      have hwk := u8_at HW.out hlt
      have E : Hid (sumF (zs.take (k + 1)) = (sumF (zs.take k) * 33 + zs[k] + 1) % 2147483647) := by unfold Hid; rw [take_snoc zs k hlt, sumF_snoc]; simp [List.getD_eq_getElem?_getD, hlt]
      clear hc
      go_wp2
      go_round
      case rel => exact ⟨k + 1, by omega, by go_num, by rw [E.out]⟩
      case measure => simp [intOf]; omega
    · go_wp2
      go_ret
      exact ⟨ret_int (by rw [List.take_of_length_le (by omega)]), rfl⟩

theorem sum64 (s b : Int) (h0 : 0 ≤ s) (h1 : s ≤ 2147483646) (h2 : 0 ≤ b) (h3 : b ≤ 255) : (s * 32 + s + b + 1) % 2147483647 = (s * 33 + b + 1) % 2147483647 := by
  rw [show s * 32 + s + b + 1 = s * 33 + b + 1 from by omega]

set_option maxHeartbeats 400000 in
theorem implSumOf_in (v : Value) (zs : List Int) (w : World) (h : Sl .u8 w v zs) (h4 : zs.length ≤ 4000) :
    Calls Try.prog 30 #[v] w fun e w' => e = .returned (ir 0 (sumF zs)) ∧ Below w.heap.size w w' := by
  obtain ⟨a, cap, rfl, hl, hm, hne, hw⟩ := h
  unfold maxLen at hm
  have HNE := Lib.hid hne
  have HW := Lib.hid hw
  clear hne hw
  go_enter Try.func30, Try.ntmps30
  go_wp2
  go_loop [3, 12] (fun s i => ∃ k : Nat, k ≤ zs.length ∧ i = .int .i64 k ∧ s = .int .u64 (sumF (zs.take k))) (fun _ i => zs.length - (intOf i).toNat)
  case atStart => exact ⟨0, Nat.zero_le _, rfl, rfl⟩
  case round =>
    obtain ⟨k, hk, rfl, rfl⟩ := hrel
    have hb := sumF_bd (zs.take k)
    by_cases hlt : k < zs.length
    · obtain ⟨b, off, rfl, hc⟩ := HNE.out (by omega)
      have hck := hc k hlt
      have hbk : b < w.heap.size := World.block_lt_of_cell? _ _ hck
      have hwk := u8_at HW.out hlt
      have E : Hid (sumF (zs.take (k + 1)) = (sumF (zs.take k) * 33 + zs[k] + 1) % 2147483647) := by unfold Hid; rw [take_snoc zs k hlt, sumF_snoc]; simp [List.getD_eq_getElem?_getD, hlt]
      clear hc
      go_wp2
      go_round
      case rel => exact ⟨k + 1, by omega, by go_num, by rw [E.out, sum64 _ _ hb.1 hb.2 hwk.1 hwk.2]⟩
      case measure => simp [intOf]; omega
    · have E : Hid (sumF (zs.take k) = sumF zs) := by unfold Hid; rw [List.take_of_length_le (by omega)]
      go_wp2
      exact bodyPost_ret (v := ir 0 (sumF (zs.take k))) (by simp [results, Try.results30, go_sem]) rfl ⟨ret_ir rfl E.out, (by repeat (first | exact Below.refl _ _ | assumption | refine Below.drew ?_ | refine Below_drewN ?_ _ | refine Below.alloc ?_ (by first | omega | (simp; done) | (simp; omega)) _ | refine Below.setCell ?_ (by first | omega | (simp; done) | (simp; omega)) _ | (refine Below.trans ?_ (Below.mono (by assumption) (by first | omega | (simp; done) | (simp; omega))))))⟩

theorem implSumOf_many (v : Value) (zs : List Int) (w : World) (h : Sl .u8 w v zs) (h4 : ¬ zs.length ≤ 4000) :
    Calls Try.prog 30 #[v] w fun e w' => e = .returned (ir 2 0) ∧ Below w.heap.size w w' := by
  obtain ⟨a, cap, rfl, hl, hm, hne, hw⟩ := h
  unfold maxLen at hm
  clear hne hw
  go_enter Try.func30, Try.ntmps30
  go_wp2
  exact bodyPost_ret (v := ir 2 0) (by simp [results, Try.results30, go_sem]) rfl ⟨rfl, (by repeat (first | exact Below.refl _ _ | assumption | refine Below.drew ?_ | refine Below_drewN ?_ _ | refine Below.alloc ?_ (by first | omega | (simp; done) | (simp; omega)) _ | refine Below.setCell ?_ (by first | omega | (simp; done) | (simp; omega)) _ | (refine Below.trans ?_ (Below.mono (by assumption) (by first | omega | (simp; done) | (simp; omega))))))⟩

set_option maxHeartbeats 400000 in
theorem eqByteS_yes (v u : Value) (zs : List Int) (w : World) (h : Sl .u8 w v zs) (h' : Sl .u8 w u zs) :
    Calls Try.prog 35 #[v, u] w fun e w' => e = .returned (.bool true) ∧ Below w.heap.size w w' := by
  obtain ⟨a, cap, rfl, hl, hm, hne, hw⟩ := h
  obtain ⟨a', cap', rfl, hl', hm', hne', hw'⟩ := h'
  unfold maxLen at hm hm'
  have HNE := Lib.hid hne
  have HNE' := Lib.hid hne'
  clear hne hw hne' hw'
  go_enter Try.func35, Try.ntmps35
  go_wp2
  go_loopw [5] (fun i wr => ∃ k : Nat, k ≤ zs.length ∧ i = .int .i64 k ∧ Below w.heap.size w wr) (fun i _ => zs.length - (intOf i).toNat)
  case atStart => exact ⟨0, Nat.zero_le _, rfl, Below.refl _ _⟩
  case round =>
    obtain ⟨k, hk, rfl, hbw⟩ := hrel
    by_cases hlt : k < zs.length
    · obtain ⟨b, off, rfl, hc⟩ := HNE.out (by omega)
      obtain ⟨b', off', rfl, hc'⟩ := HNE'.out (by omega)
      have hck : wr.cell? ⟨b, off + k, none⟩ = some (.int .u8 (zs.getD k 0)) := (hbw.cell (p := ⟨b, off + k, none⟩) (World.block_lt_of_cell? _ _ (hc k hlt))).trans (hc k hlt)
      have hck' : wr.cell? ⟨b', off' + k, none⟩ = some (.int .u8 (zs.getD k 0)) := (hbw.cell (p := ⟨b', off' + k, none⟩) (World.block_lt_of_cell? _ _ (hc' k hlt))).trans (hc' k hlt)
      clear hc hc'
      have hlt' : (k : Int) < (zs.length : Int) := by omega
      have hk0 : (0 : Int) ≤ (k : Int) := by omega
      go_wp2
      go_quiet (fail)
      go_wp2
      go_roundw
      case rel => exact ⟨k + 1, by omega, by go_num, (by repeat (first | exact Below.refl _ _ | assumption | refine Below.drew ?_ | refine Below_drewN ?_ _ | refine Below.alloc ?_ (by first | omega | (simp; done) | (simp; omega)) _ | refine Below.setCell ?_ (by first | omega | (simp; done) | (simp; omega)) _ | (refine Below.trans ?_ (Below.mono (by assumption) (by first | omega | (simp; done) | (simp; omega))))))⟩
      case measure => simp [intOf]; omega
    · go_wp2
      go_ret
      exact ⟨rfl, hbw⟩

theorem specSumOf_in (v : Value) (zs : List Int) (w : World) (h : Sl .u8 w v zs) (h4 : zs.length ≤ 4000) :
    Calls Try.prog 31 #[v] w fun e w' => e = .returned (ir 0 (sumF zs)) ∧ Below w.heap.size w w' := by
  have H := Lib.hid h
  obtain ⟨a, cap, rfl, hl, hm, hne, hw⟩ := h
  unfold maxLen at hm
  clear hne hw
  go_enter Try.func31, Try.ntmps31
  go_wp2_with (go_at_call 55; refine (l1Sum_sl _ zs _ (H.out.same (by repeat (first | exact Below.refl _ _ | assumption | refine Below.drew ?_ | refine Below_drewN ?_ _ | refine Below.alloc ?_ (by first | omega | (simp; done) | (simp; omega)) _ | refine Below.setCell ?_ (by first | omega | (simp; done) | (simp; omega)) _ | (refine Below.trans ?_ (Below.mono (by assumption) (by first | omega | (simp; done) | (simp; omega)))))))).mono ?_; rintro e w' ⟨rfl, rfl⟩)
  exact bodyPost_ret (v := ir 0 (sumF zs)) (by simp [results, Try.results31, go_sem]) rfl ⟨rfl, (by repeat (first | exact Below.refl _ _ | assumption | refine Below.drew ?_ | refine Below_drewN ?_ _ | refine Below.alloc ?_ (by first | omega | (simp; done) | (simp; omega)) _ | refine Below.setCell ?_ (by first | omega | (simp; done) | (simp; omega)) _ | (refine Below.trans ?_ (Below.mono (by assumption) (by first | omega | (simp; done) | (simp; omega))))))⟩

theorem specSumOf_many (v : Value) (zs : List Int) (w : World) (h : Sl .u8 w v zs) (h4 : ¬ zs.length ≤ 4000) :
    Calls Try.prog 31 #[v] w fun e w' => e = .returned (ir 2 0) ∧ Below w.heap.size w w' := by
  obtain ⟨a, cap, rfl, hl, hm, hne, hw⟩ := h
  unfold maxLen at hm
  clear hne hw
  go_enter Try.func31, Try.ntmps31
  go_wp2
  exact bodyPost_ret (v := ir 2 0) (by simp [results, Try.results31, go_sem]) rfl ⟨rfl, (by repeat (first | exact Below.refl _ _ | assumption | refine Below.drew ?_ | refine Below_drewN ?_ _ | refine Below.alloc ?_ (by first | omega | (simp; done) | (simp; omega)) _ | refine Below.setCell ?_ (by first | omega | (simp; done) | (simp; omega)) _ | (refine Below.trans ?_ (Below.mono (by assumption) (by first | omega | (simp; done) | (simp; omega))))))⟩

theorem Tryinfo_u8 : (Try.prog.info? 5).map (fun i => (i.zero, i.size, i.bytes)) = some (some (.int .u8 0), 1, 1) := by kernel_rfl
theorem Tryinfo_i64 : (Try.prog.info? 2).map (fun i => (i.zero, i.size, i.bytes)) = some (some (.int .i64 0), 1, 8) := by kernel_rfl

/-- A copy under way: the first k elements, then zeros. -/
def fill (k : IntKind) (zs : List Int) (n : Nat) : List Value := (zs.take n).map (Value.int k) ++ List.replicate (zs.length - n) (Value.int k 0)
theorem made_fill (k : IntKind) (zs : List Int) : (madeCells (Value.int k 0).cells (zs.length * 1)).toList = fill k zs 0 := by
  have : (Value.int k 0).cells = #[.int k 0] := rfl
  rw [this, toList_madeCells_one]; simp [fill]
theorem fill_all (k : IntKind) (zs : List Int) : fill k zs zs.length = zs.map (Value.int k) := by simp [fill]
theorem fill_at (k : IntKind) (zs : List Int) {n : Nat} (h : n < zs.length) : (fill k zs n)[n]? = some (.int k 0) := by
  unfold fill
  rw [List.getElem?_append_right (by simp; omega)]
  simp [List.getElem?_replicate]; omega
theorem fill_set (k : IntKind) (zs : List Int) {n : Nat} (h : n < zs.length) : (fill k zs n).set n (.int k zs[n]) = fill k zs (n + 1) := by
  apply List.ext_getElem?
  intro j
  unfold fill
  by_cases hj : j = n
  · subst hj
    rw [List.getElem?_set_self (by simp; omega), List.getElem?_append_left (by simp; omega)]
    simp [List.getElem?_take, h]
  · rw [List.getElem?_set_ne (by omega)]
    by_cases hl : j < n
    · rw [List.getElem?_append_left (by simp; omega), List.getElem?_append_left (by simp; omega)]
      simp [List.getElem?_take, hl, show j < n + 1 by omega]
    · rw [List.getElem?_append_right (by simp; omega), List.getElem?_append_right (by simp; omega)]
      simp only [List.getElem?_replicate, List.length_map, List.length_take]
      by_cases hjl : j < zs.length
      · rw [if_pos (by omega), if_pos (by omega)]
      · rw [if_neg (by omega), if_neg (by omega)]

set_option maxHeartbeats 400000 in
theorem toByteS_any (v : Value) (zs : List Int) (w : World) (h : Sl .u8 w v zs) (h4 : zs.length ≤ 1048576) :
    Calls Try.prog 33 #[v] w fun e w' => (∃ u, e = .returned u ∧ w'.ownsRow w.heap.size 5 1 u zs.length (zs.map (Value.int .u8)) ∧ u ≠ .slice none 0 0) ∧ Below w.heap.size w w' := by
  obtain ⟨a, cap, rfl, hl, hm, hne, hw⟩ := h
  unfold maxLen at hm
  have HNE := Lib.hid hne
  have HW := Lib.hid hw
  clear hne hw
  obtain ⟨i0, hi, hz0, hz1, hz2⟩ := info_parts Tryinfo_u8
  go_enter Try.func33, Try.ntmps33
  go_wp2_with (at_make; refine wpList_make_full _ rfl _ _ 22 rfl w.heap.size 5 i0 (.int .u8 0) 1 Try.underlying22 hi hz0 hz1 _ _ _ _ zs.length rfl rfl rfl rfl (by rw [hz2]; omega) (by unfold maxLen; omega) (Nat.le_refl _) ?_; intro w1 hown hgrow)
  have hw1 : Below w.heap.size w w1 := (Below.refl _ _).grown hgrow (Nat.le_refl _) (fun k h => by cases h)
  rw [made_fill .u8 zs] at hown
  clear hgrow
  go_loopw [4] (fun i wr => ∃ k : Nat, k ≤ zs.length ∧ i = .int .i64 k ∧ wr.ownsRow w.heap.size 5 1 (.slice (some ⟨w.heap.size, 0, none⟩) zs.length zs.length) zs.length (fill .u8 zs k) ∧ Below w.heap.size w wr) (fun i _ => zs.length - (intOf i).toNat)
  case atStart => exact ⟨0, Nat.zero_le _, rfl, hown, hw1⟩
  case round =>
    obtain ⟨k, hk, rfl, hownk, hbw⟩ := hrel
    clear hown hw1
    by_cases hlt : k < zs.length
    · obtain ⟨b, off, rfl, hc⟩ := HNE.out (by omega)
      have hck : wr.cell? ⟨b, off + k, none⟩ = some (.int .u8 (zs.getD k 0)) := (hbw.cell (p := ⟨b, off + k, none⟩) (World.block_lt_of_cell? _ _ (hc k hlt))).trans (hc k hlt)
      have hco : wr.cell? ⟨w.heap.size, k, none⟩ = some (.int .u8 0) := by rw [hownk.cellAt k (by omega), fill_at .u8 zs hlt]
      have hfo := hownk.frozenAt k
      have hst := hownk.stored k (.int .u8 zs[k])
      have HST := Lib.hid hst
      have HB := Lib.hid hbw
      clear hc hst hownk hbw
      go_wp2
      go_roundw
      case rel => exact ⟨k + 1, by omega, by go_num, by have := HST.out.1; rwa [fill_set .u8 zs hlt] at this, HB.out.grown HST.out.2 (by have := HB.out.size; omega) (fun k h => by cases h; exact Nat.le_refl _)⟩
      case measure => simp [intOf]; omega
    · obtain rfl : k = zs.length := by omega
      go_wp2
      go_ret
      exact ⟨⟨_, rfl, by rw [← fill_all .u8 zs]; exact hownk, by simp⟩, hbw⟩

set_option maxHeartbeats 400000 in
theorem toInt64S_any (v : Value) (zs : List Int) (w : World) (h : Sl .i64 w v zs) (h4 : zs.length ≤ 1048576) :
    Calls Try.prog 36 #[v] w fun e w' => (∃ u, e = .returned u ∧ w'.ownsRow w.heap.size 2 1 u zs.length (zs.map (Value.int .i64)) ∧ u ≠ .slice none 0 0) ∧ Below w.heap.size w w' := by
  obtain ⟨a, cap, rfl, hl, hm, hne, hw⟩ := h
  unfold maxLen at hm
  have HNE := Lib.hid hne
  have HW := Lib.hid hw
  clear hne hw
  obtain ⟨i0, hi, hz0, hz1, hz2⟩ := info_parts Tryinfo_i64
  go_enter Try.func36, Try.ntmps36
  go_wp2_with (at_make; refine wpList_make_full _ rfl _ _ 31 rfl w.heap.size 2 i0 (.int .i64 0) 1 Try.underlying31 hi hz0 hz1 _ _ _ _ zs.length rfl rfl rfl rfl (by rw [hz2]; omega) (by unfold maxLen; omega) (Nat.le_refl _) ?_; intro w1 hown hgrow)
  have hw1 : Below w.heap.size w w1 := (Below.refl _ _).grown hgrow (Nat.le_refl _) (fun k h => by cases h)
  rw [made_fill .i64 zs] at hown
  clear hgrow
  go_loopw [4] (fun i wr => ∃ k : Nat, k ≤ zs.length ∧ i = .int .i64 k ∧ wr.ownsRow w.heap.size 2 1 (.slice (some ⟨w.heap.size, 0, none⟩) zs.length zs.length) zs.length (fill .i64 zs k) ∧ Below w.heap.size w wr) (fun i _ => zs.length - (intOf i).toNat)
  case atStart => exact ⟨0, Nat.zero_le _, rfl, hown, hw1⟩
  case round =>
    obtain ⟨k, hk, rfl, hownk, hbw⟩ := hrel
    clear hown hw1
    by_cases hlt : k < zs.length
    · obtain ⟨b, off, rfl, hc⟩ := HNE.out (by omega)
      have hck : wr.cell? ⟨b, off + k, none⟩ = some (.int .i64 (zs.getD k 0)) := (hbw.cell (p := ⟨b, off + k, none⟩) (World.block_lt_of_cell? _ _ (hc k hlt))).trans (hc k hlt)
      have hco : wr.cell? ⟨w.heap.size, k, none⟩ = some (.int .i64 0) := by rw [hownk.cellAt k (by omega), fill_at .i64 zs hlt]
      have hfo := hownk.frozenAt k
      have hst := hownk.stored k (.int .i64 zs[k])
      have HST := Lib.hid hst
      have HB := Lib.hid hbw
      clear hc hst hownk hbw
      go_wp2
      go_roundw
      case rel => exact ⟨k + 1, by omega, by go_num, by have := HST.out.1; rwa [fill_set .i64 zs hlt] at this, HB.out.grown HST.out.2 (by have := HB.out.size; omega) (fun k h => by cases h; exact Nat.le_refl _)⟩
      case measure => simp [intOf]; omega
    · obtain rfl : k = zs.length := by omega
      go_wp2
      go_ret
      exact ⟨⟨_, rfl, by rw [← fill_all .i64 zs]; exact hownk, by simp⟩, hbw⟩

set_option maxHeartbeats 400000 in
theorem eqInt64S_yes (v u : Value) (zs : List Int) (w : World) (h : Sl .i64 w v zs) (h' : Sl .i64 w u zs) :
    Calls Try.prog 37 #[v, u] w fun e w' => e = .returned (.bool true) ∧ Below w.heap.size w w' := by
  obtain ⟨a, cap, rfl, hl, hm, hne, hw⟩ := h
  obtain ⟨a', cap', rfl, hl', hm', hne', hw'⟩ := h'
  unfold maxLen at hm hm'
  have HNE := Lib.hid hne
  have HNE' := Lib.hid hne'
  clear hne hw hne' hw'
  go_enter Try.func37, Try.ntmps37
  go_wp2
  go_loopw [5] (fun i wr => ∃ k : Nat, k ≤ zs.length ∧ i = .int .i64 k ∧ Below w.heap.size w wr) (fun i _ => zs.length - (intOf i).toNat)
  case atStart => exact ⟨0, Nat.zero_le _, rfl, Below.refl _ _⟩
  case round =>
    obtain ⟨k, hk, rfl, hbw⟩ := hrel
    by_cases hlt : k < zs.length
    · obtain ⟨b, off, rfl, hc⟩ := HNE.out (by omega)
      obtain ⟨b', off', rfl, hc'⟩ := HNE'.out (by omega)
      have hck : wr.cell? ⟨b, off + k, none⟩ = some (.int .i64 (zs.getD k 0)) := (hbw.cell (p := ⟨b, off + k, none⟩) (World.block_lt_of_cell? _ _ (hc k hlt))).trans (hc k hlt)
      have hck' : wr.cell? ⟨b', off' + k, none⟩ = some (.int .i64 (zs.getD k 0)) := (hbw.cell (p := ⟨b', off' + k, none⟩) (World.block_lt_of_cell? _ _ (hc' k hlt))).trans (hc' k hlt)
      clear hc hc'
      have hlt' : (k : Int) < (zs.length : Int) := by omega
      have hk0 : (0 : Int) ≤ (k : Int) := by omega
      go_wp2
      go_quiet (fail)
      go_wp2
      go_roundw
      case rel => exact ⟨k + 1, by omega, by go_num, (by repeat (first | exact Below.refl _ _ | assumption | refine Below.drew ?_ | refine Below_drewN ?_ _ | refine Below.alloc ?_ (by first | omega | (simp; done) | (simp; omega)) _ | refine Below.setCell ?_ (by first | omega | (simp; done) | (simp; omega)) _ | (refine Below.trans ?_ (Below.mono (by assumption) (by first | omega | (simp; done) | (simp; omega))))))⟩
      case measure => simp [intOf]; omega
    · go_wp2
      go_ret
      exact ⟨rfl, hbw⟩

/-- What is owned can be read. -/
theorem Sl.of_owns {k : IntKind} {w : World} {B E : Nat} {v : Value} {zs : List Int} (h : w.ownsRow B E 1 v zs.length (zs.map (Value.int k))) (hw : ∀ n ∈ zs, (Lit.int k n).wf = true) : Sl k w v zs := by
  have h' := h
  rcases h.2 with ⟨rfl, h0⟩ | ⟨g, cap, cur, rfl, hb, hg, hnc, hcm, hcs, htake⟩
  · have : zs = [] := List.eq_nil_of_length_eq_zero h0
    subst this
    exact Sl.nil k w
  · refine ⟨some ⟨g, 0, none⟩, cap, rfl, hnc, hcm, fun _ => ⟨g, 0, rfl, fun i hi => ?_⟩, hw⟩
    rw [Nat.zero_add, h'.cellAt i (by omega)]
    simp [List.getD_eq_getElem?_getD, hi]

theorem Sl.wf {k : IntKind} {w : World} {v : Value} {zs : List Int} (h : Sl k w v zs) : ∀ n ∈ zs, (Lit.int k n).wf = true := by
  obtain ⟨_, _, _, _, _, _, hw⟩ := h; exact hw

/-- A slice that a literal just made. -/
theorem Sl.lit {k : IntKind} (w : World) (zs : List Int) (T : TypeId) (hl : zs.length ≤ maxLen) (hw : ∀ n ∈ zs, (Lit.int k n).wf = true) :
    Sl k (w.alloc (.cells (zs.map (Value.int k)).toArray T)) (.slice (some ⟨w.heap.size, 0, none⟩) zs.length zs.length) zs := by
  refine ⟨_, _, rfl, Nat.le_refl _, hl, fun _ => ⟨w.heap.size, 0, rfl, fun i hi => ?_⟩, hw⟩
  rw [Nat.zero_add, World.cell?_alloc_at (hn := rfl)]
  simp [List.getD_eq_getElem?_getD, hi]
theorem Sl.litAt {k : IntKind} (w : World) (zs : List Int) (T : TypeId) {n l : Nat} {cs : Array Value} (hn : n = w.heap.size) (hlen : l = zs.length) (hcs : cs = (zs.map (Value.int k)).toArray) (hl : zs.length ≤ maxLen) (hw : ∀ n ∈ zs, (Lit.int k n).wf = true) :
    Sl k (w.alloc (.cells cs T)) (.slice (some ⟨n, 0, none⟩) l l) zs := by
  subst hn hlen hcs; exact Sl.lit w zs T hl hw
/-- The result's own block, where all below the next block is as it was laid. -/
theorem resBlock {w wr : World} {cs : Array Value} {T : TypeId} (h : Below (w.heap.size + 1) (w.alloc (.cells cs T)) wr) :
    (∀ i, wr.cell? ⟨w.heap.size, i, none⟩ = cs[i]?) ∧ (∀ i, wr.frozen? ⟨w.heap.size, i, none⟩ = false) ∧ w.heap.size < wr.heap.size ∧ Below w.heap.size w wr := by
  refine ⟨fun i => ?_, fun i => ?_, ?_, ?_⟩
  · rw [h.cell (p := ⟨w.heap.size, i, none⟩) (by simp), World.cell?_alloc_at (hn := rfl)]
  · rw [h.frozen (p := ⟨w.heap.size, i, none⟩) (by simp), World.frozen?_alloc_at (hn := rfl)]
  · have := h.size; simp at this; omega
  · exact ((Below.refl _ _).alloc (Nat.le_refl _) _).trans (h.mono (by omega))

theorem wf_i64 {v : Int} (h : -9223372036854775808 ≤ v ∧ v ≤ 9223372036854775807) : (Lit.int .i64 v).wf = true := by
  simpa [Lit.wf, IntKind.min, IntKind.max, IntKind.signed, IntKind.bits] using h

end Go.Proofs.Ytechmmppdciidaa
