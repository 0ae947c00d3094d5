/-
  CONTRACTS OF THE DRAWS: the source of bytes, a number out of it, a pick. What is told: the range, not the number.
-/
import Derived.Test.YtechmmppdciidaaSumInts
namespace Go.Proofs.Ytechmmppdciidaa
open Go.ChangeShapes Go.WideShapes Go.ChangeAt Go.RowKit
set_option linter.unusedSimpArgs false
set_option linter.unusedVariables false

/-- The draws' source: block b holds the bytes' slice and the count. -/
structure Src (w : World) (b : Nat) (cv : Value) (zs : List Int) (at_ : Int) : Prop where
  c0 : w.cell? ⟨b, 0, none⟩ = some cv
  c1 : w.cell? ⟨b, 1, none⟩ = some (.int .i64 at_)
  f1 : w.frozen? ⟨b, 1, none⟩ = false
  code : Sl .u8 w cv zs
  lo : 0 ≤ at_
  len : zs.length ≤ 1048577
  cb : ∀ a l c, cv = .slice (some a) l c → 0 < l → a.block < b

theorem Src.lt {w : World} {b : Nat} {cv : Value} {zs : List Int} {at_ : Int} (h : Src w b cv zs at_) : b < w.heap.size := World.block_lt_of_cell? _ _ h.c1

/-- The count moved on; nothing else turned. -/
theorem Src.next {w : World} {b : Nat} {cv : Value} {zs : List Int} {at_ : Int} (h : Src w b cv zs at_) (n : Nat) : Src ((w.setCell ⟨b, 1, none⟩ (.int .i64 (at_ + 1))).drewN n) b cv zs (at_ + 1) := by
  refine ⟨?_, ?_, ?_, ?_, by have := h.lo; omega, h.len, h.cb⟩
  · rw [World.cell?_drewN, World.cell?_setCell_other _ _ _ _ (by simp)]; exact h.c0
  · rw [World.cell?_drewN]; exact World.cell?_setCell_same _ _ _ h.c1
  · rw [World.frozen?_drewN, World.frozen?_setCell]; exact h.f1
  · obtain ⟨a, cap, hv, hl, hm, hne, hw⟩ := h.code
    refine ⟨a, cap, hv, hl, hm, fun h0 => ?_, hw⟩
    obtain ⟨b', off, ha, hc⟩ := hne h0
    refine ⟨b', off, ha, fun i hi => ?_⟩
    rw [World.cell?_drewN, World.cell?_setCell_other]
    · exact hc i hi
    · intro e
      have := hc i hi
      rw [← e, h.c1] at this
      simp at this

theorem Src.below {w w' : World} {b : Nat} {cv : Value} {zs : List Int} {at_ : Int} (h : Src w b cv zs at_) (hb : Below (b + 1) w w') : Src w' b cv zs at_ := by
  refine ⟨(hb.cell (p := ⟨b, 0, none⟩) (by simp)).trans h.c0, (hb.cell (p := ⟨b, 1, none⟩) (by simp)).trans h.c1, (hb.frozen (p := ⟨b, 1, none⟩) (by simp)).trans h.f1, ?_, h.lo, h.len, h.cb⟩
  obtain ⟨a, cap, hv, hl, hm, hne, hw⟩ := h.code
  refine ⟨a, cap, hv, hl, hm, fun h0 => ?_, hw⟩
  obtain ⟨b', off, ha, hc⟩ := hne h0
  have hlt : b' < b := h.cb ⟨b', off, none⟩ _ _ (by rw [hv, ha]) h0
  exact ⟨b', off, ha, fun i hi => (hb.cell (p := ⟨b', off + i, none⟩) (by simp; omega)).trans (hc i hi)⟩
theorem Src.same {w w' : World} {b : Nat} {cv : Value} {zs : List Int} {at_ : Int} (h : Src w b cv zs at_) (hb : Below w.heap.size w w') : Src w' b cv zs at_ := h.below (hb.mono h.lt)

/-- What a draw does to the world: the count's cell alone. -/
def NextPost (w : World) (b : Nat) (at_ : Int) (n : Int) (e : Ending) (w' : World) : Prop :=
  ∃ r : Int, ∃ q : Nat, e = .returned (.int .i64 r) ∧ 0 ≤ r ∧ (1 ≤ n → r < n) ∧ w' = (w.setCell ⟨b, 1, none⟩ (.int .i64 (at_ + 1))).drewN q

theorem mod_ends {x n : Int} (hx : 0 ≤ x) (hn : 1 ≤ n) : 0 ≤ x % n ∧ (1 ≤ n → x % n < n) := ⟨Int.emod_nonneg _ (by omega), fun _ => Int.emod_lt_of_pos _ (by omega)⟩

set_option maxHeartbeats 1600000 in
theorem l1Next_any (b : Nat) (cv : Value) (zs : List Int) (at_ n : Int) (w : World) (h : Src w b cv zs at_) (ha : at_ ≤ 1000000) (hn0 : 1 ≤ n) (hn1 : n ≤ 1000000) :
    Calls Try.prog 41 #[.pointer (some ⟨b, 0, none⟩), .int .i64 n] w (NextPost w b at_ n) := by
  obtain ⟨c0, c1, f1, code, lo, hlen, hcb⟩ := h
  clear hcb
  obtain ⟨a, cap, rfl, hl, hm, hne, hw⟩ := code
  unfold maxLen at hm
  have HNE := Lib.hid hne
  have HW := Lib.hid hw
  clear hne hw
  by_cases hz : zs.length = 0
  · have hz' : ((zs.length : Int) == 0) = true := by simp [hz]
    have HZ := Lib.hid hz
    clear hz
    go_enter Try.func41, Try.ntmps41
    go_wp2
    go_ret
    have hm := mod_ends (x := at_ * 7) (by omega) hn0
    exact ⟨_, 0, rfl, hm.1, hm.2, rfl⟩
  · have hz' : ((zs.length : Int) == 0) = false := by simpa using hz
    have hz1 : (1 : Int) ≤ (zs.length : Int) := by omega
    obtain ⟨t, rfl⟩ := Int.eq_ofNat_of_zero_le lo
    have hi := Nat.mod_lt t (show zs.length > 0 by omega)
    have hi2 := Nat.mod_lt (t + 1) (show zs.length > 0 by omega)
    obtain ⟨bb, off, rfl, hc⟩ := HNE.out (by omega)
    have hc1 := hc _ hi
    have hc2 := hc _ hi2
    have hne1 : ¬ (bb = b ∧ off + t % zs.length = 1) := fun ⟨e1, e2⟩ => by subst e1; rw [e2, c1] at hc1; simp at hc1
    have hne2 : ¬ (bb = b ∧ off + (t + 1) % zs.length = 1) := fun ⟨e1, e2⟩ => by subst e1; rw [e2, c1] at hc2; simp at hc2
    have hb1 := u8_at HW.out hi
    have hb2 := u8_at HW.out hi2
    generalize hx1 : zs.getD (t % zs.length) 0 = x1 at hc1
    generalize hx2 : zs.getD ((t + 1) % zs.length) 0 = x2 at hc2
    have hX1 : 0 ≤ x1 ∧ x1 ≤ 255 := by rw [← hx1]; simpa [List.getD_eq_getElem?_getD, hi] using hb1
    have hX2 : 0 ≤ x2 ∧ x2 ≤ 255 := by rw [← hx2]; simpa [List.getD_eq_getElem?_getD, hi2] using hb2
    clear hx1 hx2 hb1 hb2 hc hz
    have k0 : (w.setCell ⟨b, 1, none⟩ (.int .i64 ((t : Int) + 1))).cell? ⟨b, 0, none⟩ = some (.slice (some ⟨bb, off, none⟩) zs.length cap) := by rw [World.cell?_setCell_other _ _ _ _ (by simp)]; exact c0
    have k1 : (w.setCell ⟨b, 1, none⟩ (.int .i64 ((t : Int) + 1))).cell? ⟨bb, off + t % zs.length, none⟩ = some (.int .u8 x1) := by rw [World.cell?_setCell_other _ _ _ _ (by simp; omega)]; exact hc1
    have k2 : (w.setCell ⟨b, 1, none⟩ (.int .i64 ((t : Int) + 1))).cell? ⟨bb, off + (t + 1) % zs.length, none⟩ = some (.int .u8 x2) := by rw [World.cell?_setCell_other _ _ _ _ (by simp; omega)]; exact hc2
    have m1 : ((t : Int)).tmod (zs.length : Int) = ((t % zs.length : Nat) : Int) := by rw [Int.tmod_eq_emod_of_nonneg (by omega)]; rfl
    have hi' : ((t % zs.length : Nat) : Int) < (zs.length : Int) := by omega
    have hi0 : (0 : Int) ≤ ((t % zs.length : Nat) : Int) := by omega
    have hq0 : 0 ≤ (t : Int) / (zs.length : Int) := Int.ediv_nonneg (by omega) (by omega)
    have hq1 : (t : Int) / (zs.length : Int) ≤ 1000000 := Int.le_trans (Int.ediv_le_self _ (by omega)) ha
    have m2 : ((t : Int) + 1).tmod (zs.length : Int) = (((t + 1) % zs.length : Nat) : Int) := by rw [Int.tmod_eq_emod_of_nonneg (by omega)]; rfl
    have hj' : (((t + 1) % zs.length : Nat) : Int) < (zs.length : Int) := by omega
    have hj0 : (0 : Int) ≤ (((t + 1) % zs.length : Nat) : Int) := by omega
    by_cases hbig : 200 < n
    · go_enter Try.func41, Try.ntmps41
      go_wp2
      obtain ⟨W1, hW⟩ : ∃ W1, W1 = w.setCell ⟨b, 1, none⟩ (.int .i64 ((t : Int) + 1)) := ⟨_, rfl⟩
      rw [← hW] at k0 k1 k2 ⊢
      have HW1 := Lib.hid hW
      have hat : W1.cell? ⟨b, 1, none⟩ = some (.int .i64 ((t : Int) + 1)) := by rw [hW]; exact World.cell?_setCell_same _ _ _ c1
      clear hW c0 c1 f1 hc1 hc2 HNE
      go_quiet (fail)
      have hv : 0 ≤ x1 + (t : Int) / (zs.length : Int) * 37 ∧ x1 + (t : Int) / (zs.length : Int) * 37 ≤ 37000255 := by omega
      generalize x1 + (t : Int) / (zs.length : Int) * 37 = v7 at *
      obtain ⟨h70, h71⟩ := hv
      have h8 : 0 ≤ v7 * 251 + x2 * 13 + (t : Int) := by omega
      go_wp2
      have l1 : IntKind.i64.wrap ((t : Int) + 1) = (t : Int) + 1 := IntWalk.i64_in _ (by omega)
      have l2 : 0 ≤ (t : Int) + 1 := by omega
      obtain ⟨W2, hW2⟩ : ∃ W2, W2 = W1.drewN nq := ⟨_, rfl⟩
      have j0 : W2.cell? ⟨b, 0, none⟩ = some (.slice (some ⟨bb, off, none⟩) zs.length cap) := by rw [hW2]; exact k0
      have j2 : W2.cell? ⟨bb, off + (t + 1) % zs.length, none⟩ = some (.int .u8 x2) := by rw [hW2]; exact k2
      rw [← hW2]
      have HW2 := Lib.hid hW2
      clear hW2 k0 k1 k2
      have q0 : 0 ≤ ((t : Int) + 1) % (zs.length : Int) := Int.emod_nonneg _ (by omega)
      have q1 : ((t : Int) + 1) % (zs.length : Int) < (zs.length : Int) := Int.emod_lt_of_pos _ (by omega)
      have q2 : (((t : Int) + 1) % (zs.length : Int)).toNat = (t + 1) % zs.length := Int.toNat_natCast _
      go_quiet (fail)
      go_wp2
      go_ret
      have hm := mod_ends (x := v7 * 251 + x2 * 13 + (t : Int)) h8 hn0
      exact ⟨_, _, rfl, hm.1, hm.2, by rw [HW2.out, HW1.out, World.drewN_drewN]⟩
    · go_enter Try.func41, Try.ntmps41
      go_wp2
      obtain ⟨W1, hW⟩ : ∃ W1, W1 = w.setCell ⟨b, 1, none⟩ (.int .i64 ((t : Int) + 1)) := ⟨_, rfl⟩
      rw [← hW] at k0 k1 k2 ⊢
      have HW1 := Lib.hid hW
      have hat : W1.cell? ⟨b, 1, none⟩ = some (.int .i64 ((t : Int) + 1)) := by rw [hW]; exact World.cell?_setCell_same _ _ _ c1
      clear hW c0 c1 f1 hc1 hc2 HNE
      go_quiet (fail)
      have hv : 0 ≤ x1 + (t : Int) / (zs.length : Int) * 37 ∧ x1 + (t : Int) / (zs.length : Int) * 37 ≤ 37000255 := by omega
      generalize x1 + (t : Int) / (zs.length : Int) * 37 = v7 at *
      obtain ⟨h70, h71⟩ := hv
      go_wp2
      go_ret
      have hm := mod_ends (x := v7) h70 hn0
      exact ⟨_, _, rfl, hm.1, hm.2, by rw [HW1.out]⟩

theorem Src.nextW {w w' : World} {b : Nat} {cv : Value} {zs : List Int} {at_ : Int} (h : Src w b cv zs at_) {q : Nat} (e : w' = (w.setCell ⟨b, 1, none⟩ (.int .i64 (at_ + 1))).drewN q) :
    Src w' b cv zs (at_ + 1) ∧ (∀ B, B ≤ b → Below B w w') ∧ w'.heap.size = w.heap.size ∧ w.grownBy w' (some b) := by
  subst e
  refine ⟨h.next q, fun B hB => Below_drewN ((Below.refl _ _).setCell hB _) _, by simp, ⟨rfl, rfl, rfl, by simp, fun k hk hne => ?_⟩⟩
  show ((w.setCell ⟨b, 1, none⟩ (.int .i64 (at_ + 1))).heap)[k]? = _
  exact heap_setCell_other w ⟨b, 1, none⟩ k _ (fun e => hne (by simp [e]))

theorem l1Source_any (v : Value) (zs : List Int) (w : World) (h : Sl .u8 w v zs) (hl : zs.length ≤ 1048577) :
    Calls Try.prog 39 #[v] w fun e w' => e = .returned (.pointer (some ⟨w.heap.size, 0, none⟩)) ∧ Src w' w.heap.size v zs 0 ∧ Below w.heap.size w w' ∧ w'.heap.size = w.heap.size + 1 := by
  have HS := Lib.hid h
  obtain ⟨a, cap, rfl, hll, hm, hne, hw⟩ := h
  have hcb : ∀ a_1 l c, Value.slice a zs.length cap = .slice (some a_1) l c → 0 < l → a_1.block < w.heap.size := by
    intro a' l c e h0
    simp only [Value.slice.injEq] at e
    obtain ⟨rfl, rfl, rfl⟩ := e
    obtain ⟨b', off, e, hc⟩ := hne h0
    simp only [Option.some.injEq] at e
    subst e
    exact World.block_lt_of_cell? _ _ (hc 0 h0)
  have HCB := Lib.hid hcb
  clear hne hw hcb
  go_enter Try.func39, Try.ntmps39
  go_wp2
  go_ret
  have hb : Below w.heap.size w (w.alloc (.cells #[.slice a zs.length cap, .int .i64 0] 63)) := (by repeat (first | exact Below.refl _ _ | assumption | refine Below.drew ?_ | refine Below_drewN ?_ _ | refine Below.alloc ?_ (by first | omega | (simp; done) | (simp; omega)) _ | refine Below.setCell ?_ (by first | omega | (simp; done) | (simp; omega)) _ | (refine Below.trans ?_ (Below.mono (by assumption) (by first | omega | (simp; done) | (simp; omega))))))
  exact ⟨rfl, ⟨by rw [World.cell?_alloc_at (hn := rfl)]; rfl, by rw [World.cell?_alloc_at (hn := rfl)]; rfl, by rw [World.frozen?_alloc_at (hn := rfl)], HS.out.same hb, by omega, hl, HCB.out⟩, hb, by simp⟩

/-- A pick: one of the numbers. -/
def PickPost (w : World) (b : Nat) (at_ : Int) (vs : List Int) (e : Ending) (w' : World) : Prop :=
  ∃ r : Int, ∃ q : Nat, e = .returned (.int .i64 r) ∧ r ∈ vs ∧ w' = (w.setCell ⟨b, 1, none⟩ (.int .i64 (at_ + 1))).drewN q

set_option maxHeartbeats 800000 in
theorem l1Pick_any (b : Nat) (cv : Value) (zs : List Int) (at_ : Int) (v : Value) (vs : List Int) (w : World) (h : Src w b cv zs at_) (ha : at_ ≤ 1000000) (hv : Sl .i64 w v vs) (h1 : 1 ≤ vs.length) (h2 : vs.length ≤ 1000) (hd : ∀ a l c, v = .slice (some a) l c → a.block ≠ b) :
    Calls Try.prog 40 #[.pointer (some ⟨b, 0, none⟩), v] w (PickPost w b at_ vs) := by
  obtain ⟨a, cap, rfl, hl, hm, hne, hw⟩ := hv
  obtain ⟨bb, off, rfl, hc⟩ := hne (by omega)
  have hbb : bb ≠ b := hd _ _ _ rfl
  unfold maxLen at hm
  have HS := Lib.hid h
  have HC := Lib.hid hc
  clear h hc hne hw hd
  go_enter Try.func40, Try.ntmps40
  go_wp2_with fail
  refine (l1Next_any b cv zs at_ _ w HS.out ha (by omega) (by omega)).mono ?_
  rintro e w1 ⟨r, q, rfl, hr0, hr1, hw1⟩
  have hr2 := hr1 (by omega)
  obtain ⟨n, rfl⟩ := Int.eq_ofNat_of_zero_le hr0
  have hn : n < vs.length := by omega
  have hc1 : w1.cell? ⟨bb, off + n, none⟩ = some (.int .i64 (vs.getD n 0)) := by
    rw [hw1, World.cell?_drewN, World.cell?_setCell_other _ _ _ _ (fun e => hbb (congrArg Addr.block e).symm)]
    exact HC.out n hn
  have HW1 := Lib.hid hw1
  clear hw1 hr1
  go_wp2
  go_ret
  exact ⟨_, q, rfl, List.getElem_mem hn, HW1.out⟩

theorem l1Chance_any (b : Nat) (cv : Value) (zs : List Int) (at_ n : Int) (w : World) (h : Src w b cv zs at_) (ha : at_ ≤ 1000000) (hn0 : 1 ≤ n) (hn1 : n ≤ 1000000) :
    Calls Try.prog 47 #[.pointer (some ⟨b, 0, none⟩), .int .i64 n] w fun e w' => (∃ c, e = .returned (.bool c)) ∧ ∃ q, w' = (w.setCell ⟨b, 1, none⟩ (.int .i64 (at_ + 1))).drewN q := by
  have HS := Lib.hid h
  clear h
  go_enter Try.func47, Try.ntmps47
  go_wp2_with fail
  refine (l1Next_any b cv zs at_ _ w HS.out ha hn0 hn1).mono ?_
  rintro e w1 ⟨r, q, rfl, hr0, hr1, hw1⟩
  have HW1 := Lib.hid hw1
  clear hw1 hr1
  go_wp2
  go_ret
  exact ⟨⟨_, rfl⟩, q, HW1.out⟩

/-- The source after at most K draws. -/
def SrcK (w : World) (b : Nat) (cv : Value) (zs : List Int) (K : Nat) : Prop := ∃ at_ : Int, at_ ≤ K ∧ Src w b cv zs at_
theorem SrcK.start {w : World} {b : Nat} {cv : Value} {zs : List Int} (h : Src w b cv zs 0) : SrcK w b cv zs 0 := ⟨0, by omega, h⟩
theorem SrcK.lt {w : World} {b : Nat} {cv : Value} {zs : List Int} {K : Nat} (h : SrcK w b cv zs K) : b < w.heap.size := by obtain ⟨_, _, h⟩ := h; exact h.lt
theorem SrcK.same {w w' : World} {b : Nat} {cv : Value} {zs : List Int} {K : Nat} (h : SrcK w b cv zs K) (hb : Below w.heap.size w w') : SrcK w' b cv zs K := by
  obtain ⟨a, ha, h⟩ := h; exact ⟨a, ha, h.same hb⟩
theorem SrcK.below {w w' : World} {b : Nat} {cv : Value} {zs : List Int} {K : Nat} (h : SrcK w b cv zs K) (hb : Below (b + 1) w w') : SrcK w' b cv zs K := by
  obtain ⟨a, ha, h⟩ := h; exact ⟨a, ha, h.below hb⟩
theorem SrcK.alloc {w : World} {b : Nat} {cv : Value} {zs : List Int} {K : Nat} (h : SrcK w b cv zs K) (o : Obj) : SrcK (w.alloc o) b cv zs K := h.same ((Below.refl _ _).alloc (Nat.le_refl _) _)
theorem SrcK.mono {w : World} {b : Nat} {cv : Value} {zs : List Int} {K K' : Nat} (h : SrcK w b cv zs K) (hk : K ≤ K') : SrcK w b cv zs K' := by
  obtain ⟨a, ha, h⟩ := h; exact ⟨a, by omega, h⟩

theorem l1Next_k (b : Nat) (cv : Value) (zs : List Int) (K : Nat) (n : Int) (w : World) (h : SrcK w b cv zs K) (hK : K ≤ 900000) (hn0 : 1 ≤ n) (hn1 : n ≤ 1000000) :
    Calls Try.prog 41 #[.pointer (some ⟨b, 0, none⟩), .int .i64 n] w fun e w' => ∃ r : Int, e = .returned (.int .i64 r) ∧ (0 ≤ r ∧ r < n) ∧ SrcK w' b cv zs (K + 1) ∧ (∀ B, B ≤ b → Below B w w') ∧ w'.heap.size = w.heap.size ∧ w.grownBy w' (some b) := by
  obtain ⟨a, ha, hs⟩ := h
  refine (l1Next_any b cv zs a n w hs (by omega) hn0 hn1).mono ?_
  rintro e w' ⟨r, q, rfl, h0, h1, hw⟩
  obtain ⟨k1, k2, k3, k4⟩ := hs.nextW hw
  exact ⟨r, rfl, ⟨h0, h1 hn0⟩, ⟨a + 1, by omega, k1⟩, k2, k3, k4⟩

theorem l1Pick_k (b : Nat) (cv : Value) (zs : List Int) (K : Nat) (v : Value) (vs : List Int) (w : World) (h : SrcK w b cv zs K) (hK : K ≤ 900000) (hv : Sl .i64 w v vs) (h1 : 1 ≤ vs.length) (h2 : vs.length ≤ 1000) (hd : ∀ a l c, v = .slice (some a) l c → a.block ≠ b) :
    Calls Try.prog 40 #[.pointer (some ⟨b, 0, none⟩), v] w fun e w' => ∃ r : Int, e = .returned (.int .i64 r) ∧ r ∈ vs ∧ SrcK w' b cv zs (K + 1) ∧ (∀ B, B ≤ b → Below B w w') ∧ w'.heap.size = w.heap.size ∧ w.grownBy w' (some b) := by
  obtain ⟨a, ha, hs⟩ := h
  refine (l1Pick_any b cv zs a v vs w hs (by omega) hv h1 h2 hd).mono ?_
  rintro e w' ⟨r, q, rfl, h0, hw⟩
  obtain ⟨k1, k2, k3, k4⟩ := hs.nextW hw
  exact ⟨r, rfl, h0, ⟨a + 1, by omega, k1⟩, k2, k3, k4⟩

theorem l1Chance_k (b : Nat) (cv : Value) (zs : List Int) (K : Nat) (n : Int) (w : World) (h : SrcK w b cv zs K) (hK : K ≤ 900000) (hn0 : 1 ≤ n) (hn1 : n ≤ 1000000) :
    Calls Try.prog 47 #[.pointer (some ⟨b, 0, none⟩), .int .i64 n] w fun e w' => ∃ c : Bool, e = .returned (.bool c) ∧ SrcK w' b cv zs (K + 1) ∧ (∀ B, B ≤ b → Below B w w') ∧ w'.heap.size = w.heap.size ∧ w.grownBy w' (some b) := by
  obtain ⟨a, ha, hs⟩ := h
  refine (l1Chance_any b cv zs a n w hs (by omega) hn0 hn1).mono ?_
  rintro e w' ⟨⟨c, rfl⟩, q, hw⟩
  obtain ⟨k1, k2, k3, k4⟩ := hs.nextW hw
  exact ⟨c, rfl, ⟨a + 1, by omega, k1⟩, k2, k3, k4⟩

theorem i64s_wf {l : List Int} (h : ∀ n ∈ l, -1000000000 ≤ n ∧ n ≤ 1000000000000) : ∀ n ∈ l, (Lit.int .i64 n).wf = true := fun n hn => wf_i64 (by have := h n hn; omega)

end Go.Proofs.Ytechmmppdciidaa
