/-
  CHAPTER 3: the readers, by the reading.
-/
import Derived.Test.YtdafmioegaelgaaP14
import Derived.Test.YtdafmioegaelgaaAmG
import Derived.Test.YtdafmioegaelgaaM8
namespace Go.Proofs.Ytdafmioegaelgaa
open Go Go.Am Go.RowKit
set_option linter.unusedVariables false
set_option linter.unusedSimpArgs false
/-- The program's reader: a number. -/
def numF (d : List Int) (s : RS) : Int × RS := if s.2 = true then (0, (s.1, true)) else match rdV (d.drop s.1) with
  | some (v, u) => (v, (s.1 + u, false))
  | none => (0, (s.1, true))
theorem numF_bd {d : List Int} (hd : ∀ z ∈ d, isU8 z) (s : RS) (hs : s.1 ≤ d.length) : 0 ≤ (numF d s).1 ∧ (numF d s).1 ≤ 65535 ∧ (numF d s).2.1 ≤ d.length := by
  unfold numF
  split
  · exact ⟨Int.le_refl 0, by show (0 : Int) ≤ 65535; decide, hs⟩
  · cases h : rdV (d.drop s.1) with
    | none => exact ⟨Int.le_refl 0, by show (0 : Int) ≤ 65535; decide, hs⟩
    | some x =>
      obtain ⟨v, u⟩ := x
      have h1 := rdV_bd (drop_u8 hd s.1) h
      have h2 := (rdV_len h).2.2
      rw [List.length_drop] at h2
      unfold inR at h1
      exact ⟨h1.1, h1.2, by dsimp only; omega⟩
theorem rdNumber_ret (d : List Int) (s : RS) (i n : Nat) (hd : ∀ z ∈ d, isU8 z) (hl : d.length ≤ 1048576) (hs : s.1 ≤ d.length) : Ret Try.prog 98 [.pt i 0 0] [(i, rdO d s)] n true (Is (iv (numF d s).1) [(i, rdO d (numF d s).2)] n) := by
  obtain ⟨p, b⟩ := s
  dsimp only at hs
  refine Ret.of_run (tt := tt) ttOk Try.func98 rfl Try.call98 [i] [rdO d (p, b)] [.pt 0 0 0] true n _ rfl (nodup1 i) (by exact Nat.le_of_ble_eq_true rfl) rfl rfl ?_
  have hL : (uvs d).length = d.length := by simp
  have hu := drop_u8 hd p
  have hr := fun n => implReadVar_ret (d.drop p) n hu (by simp; omega)
  unfold rvC at hr
  conv => whnf
  repeat' first
    | (refine CondP.yes ?_; conv => whnf)
    | (refine CondP.not ?_; conv => whnf)
    | ((first | refine CondP.dec (fun h => ?_) (fun h => ?_) | refine CondP.ndec (fun h => ?_) (fun h => ?_)) <;> first | (exfalso; first | omega | exact h (by assumption) | exact absurd h (by assumption)) | (conv => whnf))
    | (refine Both.mk ?_ ?_ <;> (conv => whnf))
    | (refine Keep.mk (by repeat' first | exact trivial | rfl | refine And.intro ?_ ?_) ?_; conv => whnf)
    | (refine And.intro (by first | decide | omega) ?_; conv => whnf)
    | fail
  refine ⟨⟨by show (0 : Int) ≤ (p : Int); omega, by show (p : Int) ≤ _; rw [hL]; omega, ?_⟩, ?_⟩
  · cases d with
    | nil => left; show (p : Int) = 0; simp at hs; omega
    | cons => right; rfl
  have e : List.drop ((p : Int)).toNat (uvs d) = uvs (d.drop p) := by simp [uvs, List.map_drop]
  conv => whnf
  repeat' first
    | (refine CondP.yes ?_; conv => whnf)
    | (refine CondP.not ?_; conv => whnf)
    | ((first | refine CondP.dec (fun h => ?_) (fun h => ?_) | refine CondP.ndec (fun h => ?_) (fun h => ?_)) <;> first | (exfalso; first | omega | exact h (by assumption) | exact absurd h (by assumption)) | (conv => whnf))
    | (refine Both.mk ?_ ?_ <;> (conv => whnf))
    | (refine Keep.mk (by repeat' first | exact trivial | rfl | refine And.intro ?_ ?_) ?_; conv => whnf)
    | (refine And.intro (by first | decide | omega) ?_; conv => whnf)
    | fail
  rw [show (List.drop (((p, b) : RS).1 : Int).toNat (uvs d)) = uvs (d.drop p) from e]
  unfold numF
  cases h : rdV (d.drop p) with
  | none =>
    simp only [h] at hr
    cases b
    · refine CallN.is rfl (hr) ?_
      conv => whnf
      repeat' first
        | (refine CondP.yes ?_; conv => whnf)
        | (refine CondP.not ?_; conv => whnf)
        | ((first | refine CondP.dec (fun h => ?_) (fun h => ?_) | refine CondP.ndec (fun h => ?_) (fun h => ?_)) <;> first | (exfalso; first | omega | exact h (by assumption) | exact absurd h (by assumption)) | (conv => whnf))
        | (refine Both.mk ?_ ?_ <;> (conv => whnf))
        | (refine Keep.mk (by repeat' first | exact trivial | rfl | refine And.intro ?_ ?_) ?_; conv => whnf)
        | (refine And.intro (by first | decide | omega) ?_; conv => whnf)
        | fail
      refine FinOk.mk' [] rfl rfl rfl rfl rfl rfl rfl ⟨?_, ?_, rfl⟩
      · rfl
      · rfl
    · refine CallN.is rfl (hr) ?_
      conv => whnf
      repeat' first
        | (refine CondP.yes ?_; conv => whnf)
        | (refine CondP.not ?_; conv => whnf)
        | ((first | refine CondP.dec (fun h => ?_) (fun h => ?_) | refine CondP.ndec (fun h => ?_) (fun h => ?_)) <;> first | (exfalso; first | omega | exact h (by assumption) | exact absurd h (by assumption)) | (conv => whnf))
        | (refine Both.mk ?_ ?_ <;> (conv => whnf))
        | (refine Keep.mk (by repeat' first | exact trivial | rfl | refine And.intro ?_ ?_) ?_; conv => whnf)
        | (refine And.intro (by first | decide | omega) ?_; conv => whnf)
        | fail
      refine FinOk.mk' [] rfl rfl rfl rfl rfl rfl rfl ⟨?_, ?_, rfl⟩
      · rfl
      · rfl
  | some x =>
    obtain ⟨v, u⟩ := x
    simp only [h] at hr
    have h1 := rdV_bd hu h
    have h2 := rdV_len h
    rw [List.length_drop] at h2
    unfold inR at h1
    cases b
    · refine CallN.is rfl (hr) ?_
      conv => whnf
      repeat' first
        | (refine CondP.yes ?_; conv => whnf)
        | (refine CondP.not ?_; conv => whnf)
        | ((first | refine CondP.dec (fun h => ?_) (fun h => ?_) | refine CondP.ndec (fun h => ?_) (fun h => ?_)) <;> first | (exfalso; first | omega | exact h (by assumption) | exact absurd h (by assumption)) | (conv => whnf))
        | (refine Both.mk ?_ ?_ <;> (conv => whnf))
        | (refine Keep.mk (by repeat' first | exact trivial | rfl | refine And.intro ?_ ?_) ?_; conv => whnf)
        | (refine And.intro (by first | decide | omega) ?_; conv => whnf)
        | fail
      refine FinOk.mk' [] rfl rfl rfl rfl rfl rfl rfl ⟨?_, ?_, rfl⟩
      · rfl
      · show [(i, AObj.box [ul d, iv (IntKind.i64.wrap ((p : Int) + (u : Int))), bv false])] = [(i, AObj.box [ul d, iv ((p + u : Nat) : Int), bv false])]
        rw [IntWalk.i64_in _ (by omega)]; rfl
    · refine CallN.is rfl (hr) ?_
      conv => whnf
      repeat' first
        | (refine CondP.yes ?_; conv => whnf)
        | (refine CondP.not ?_; conv => whnf)
        | ((first | refine CondP.dec (fun h => ?_) (fun h => ?_) | refine CondP.ndec (fun h => ?_) (fun h => ?_)) <;> first | (exfalso; first | omega | exact h (by assumption) | exact absurd h (by assumption)) | (conv => whnf))
        | (refine Both.mk ?_ ?_ <;> (conv => whnf))
        | (refine Keep.mk (by repeat' first | exact trivial | rfl | refine And.intro ?_ ?_) ?_; conv => whnf)
        | (refine And.intro (by first | decide | omega) ?_; conv => whnf)
        | fail
      refine FinOk.mk' [] rfl rfl rfl rfl rfl rfl rfl ⟨?_, ?_, rfl⟩
      · rfl
      · rfl
/-- Two halves. -/
def bigF (d : List Int) (s : RS) : Int × RS := ((numF d s).1 + 65536 * (numF d (numF d s).2).1, (numF d (numF d s).2).2)
theorem rdHalves_ret (d : List Int) (s : RS) (i n : Nat) (hd : ∀ z ∈ d, isU8 z) (hl : d.length ≤ 1048576) (hs : s.1 ≤ d.length) : Ret Try.prog 100 [.pt i 0 0] [(i, rdO d s)] n true (Is (iv (bigF d s).1) [(i, rdO d (bigF d s).2)] n) := by
  have hx := numF_bd hd s hs
  have hy := numF_bd hd (numF d s).2 hx.2.2
  refine Ret.of_run (tt := tt) ttOk Try.func100 rfl Try.call100 [i] [rdO d s] [.pt 0 0 0] true n _ rfl (nodup1 i) (by exact Nat.le_of_ble_eq_true rfl) rfl rfl ?_
  conv => whnf
  repeat' first
    | (refine CondP.yes ?_; conv => whnf)
    | (refine CondP.not ?_; conv => whnf)
    | ((first | refine CondP.dec (fun h => ?_) (fun h => ?_) | refine CondP.ndec (fun h => ?_) (fun h => ?_)) <;> first | (exfalso; first | omega | exact h (by assumption) | exact absurd h (by assumption)) | (conv => whnf))
    | (refine Both.mk ?_ ?_ <;> (conv => whnf))
    | (refine Keep.mk (by repeat' first | exact trivial | rfl | refine And.intro ?_ ?_) ?_; conv => whnf)
    | (refine And.intro (by first | decide | omega) ?_; conv => whnf)
    | fail
  refine CallP.heapIs (rdNumber_ret d s 0 _ hd hl hs) rfl (by repeat' first | exact trivial | rfl | exact leafI (by first | rfl | omega | (simp (disch := omega) only [Int.reduceToNat, IntKind.bits, Nat.min_eq_left, Int.reducePow, IntWalk.i64_in, IntWalk.rem_in, IntWalk.i64_quo, IntWalk.u8_in, IntWalk.u32_in, IntWalk.u64_in]; done) | (simp (disch := omega) only [Int.reduceToNat, IntKind.bits, Nat.min_eq_left, Int.reducePow, IntWalk.i64_in, IntWalk.rem_in, IntWalk.i64_quo, IntWalk.u8_in, IntWalk.u32_in, IntWalk.u64_in]; omega)) | refine And.intro ?_ ?_) rfl ?_
  conv => whnf
  repeat' first
    | (refine CondP.yes ?_; conv => whnf)
    | (refine CondP.not ?_; conv => whnf)
    | ((first | refine CondP.dec (fun h => ?_) (fun h => ?_) | refine CondP.ndec (fun h => ?_) (fun h => ?_)) <;> first | (exfalso; first | omega | exact h (by assumption) | exact absurd h (by assumption)) | (conv => whnf))
    | (refine Both.mk ?_ ?_ <;> (conv => whnf))
    | (refine Keep.mk (by repeat' first | exact trivial | rfl | refine And.intro ?_ ?_) ?_; conv => whnf)
    | (refine And.intro (by first | decide | omega) ?_; conv => whnf)
    | fail
  refine CallP.heapIs (rdNumber_ret d (numF d s).2 0 _ hd hl hx.2.2) rfl (by repeat' first | exact trivial | rfl | exact leafI (by first | rfl | omega | (simp (disch := omega) only [Int.reduceToNat, IntKind.bits, Nat.min_eq_left, Int.reducePow, IntWalk.i64_in, IntWalk.rem_in, IntWalk.i64_quo, IntWalk.u8_in, IntWalk.u32_in, IntWalk.u64_in]; done) | (simp (disch := omega) only [Int.reduceToNat, IntKind.bits, Nat.min_eq_left, Int.reducePow, IntWalk.i64_in, IntWalk.rem_in, IntWalk.i64_quo, IntWalk.u8_in, IntWalk.u32_in, IntWalk.u64_in]; omega)) | refine And.intro ?_ ?_) rfl ?_
  conv => whnf
  repeat' first
    | (refine CondP.yes ?_; conv => whnf)
    | (refine CondP.not ?_; conv => whnf)
    | ((first | refine CondP.dec (fun h => ?_) (fun h => ?_) | refine CondP.ndec (fun h => ?_) (fun h => ?_)) <;> first | (exfalso; first | omega | exact h (by assumption) | exact absurd h (by assumption)) | (conv => whnf))
    | (refine Both.mk ?_ ?_ <;> (conv => whnf))
    | (refine Keep.mk (by repeat' first | exact trivial | rfl | refine And.intro ?_ ?_) ?_; conv => whnf)
    | (refine And.intro (by first | decide | omega) ?_; conv => whnf)
    | fail
  refine FinOk.mk' [] rfl rfl rfl rfl rfl rfl rfl ⟨?_, ?_, rfl⟩
  · refine ivI ?_
    rw [show IntKind.i64.wrap ((numF d (numF d s).2).1 * 65536) = (numF d (numF d s).2).1 * 65536 from IntWalk.i64_in _ (by omega), IntWalk.i64_in _ (by omega)]
    unfold bigF; dsimp only; omega
  · rfl
def cntF (m : Nat) (d : List Int) (s : RS) : Int × RS := if (m : Int) < (numF d s).1 then (0, ((numF d s).2.1, true)) else numF d s
theorem rdCount_ret (m : Nat) (d : List Int) (s : RS) (i n : Nat) (hd : ∀ z ∈ d, isU8 z) (hl : d.length ≤ 1048576) (hs : s.1 ≤ d.length) : Ret Try.prog 99 [.pt i 0 0, iv m] [(i, rdO d s)] n true (Is (iv (cntF m d s).1) [(i, rdO d (cntF m d s).2)] n) := by
  refine Ret.of_run (tt := tt) ttOk Try.func99 rfl Try.call99 [i] [rdO d s] [.pt 0 0 0, iv m] true n _ rfl (nodup1 i) (by exact Nat.le_of_ble_eq_true rfl) rfl rfl ?_
  conv => whnf
  repeat' first
    | (refine CondP.yes ?_; conv => whnf)
    | (refine CondP.not ?_; conv => whnf)
    | ((first | refine CondP.dec (fun h => ?_) (fun h => ?_) | refine CondP.ndec (fun h => ?_) (fun h => ?_)) <;> first | (exfalso; first | omega | exact h (by assumption) | exact absurd h (by assumption)) | (conv => whnf))
    | (refine Both.mk ?_ ?_ <;> (conv => whnf))
    | (refine Keep.mk (by repeat' first | exact trivial | rfl | refine And.intro ?_ ?_) ?_; conv => whnf)
    | (refine And.intro (by first | decide | omega) ?_; conv => whnf)
    | fail
  refine CallP.heapIs (rdNumber_ret d s 0 _ hd hl hs) rfl (by repeat' first | exact trivial | rfl | exact leafI (by first | rfl | omega | (simp (disch := omega) only [Int.reduceToNat, IntKind.bits, Nat.min_eq_left, Int.reducePow, IntWalk.i64_in, IntWalk.rem_in, IntWalk.i64_quo, IntWalk.u8_in, IntWalk.u32_in, IntWalk.u64_in]; done) | (simp (disch := omega) only [Int.reduceToNat, IntKind.bits, Nat.min_eq_left, Int.reducePow, IntWalk.i64_in, IntWalk.rem_in, IntWalk.i64_quo, IntWalk.u8_in, IntWalk.u32_in, IntWalk.u64_in]; omega)) | refine And.intro ?_ ?_) rfl ?_
  conv => whnf
  repeat' first
    | (refine CondP.yes ?_; conv => whnf)
    | (refine CondP.not ?_; conv => whnf)
    | ((first | refine CondP.dec (fun h => ?_) (fun h => ?_) | refine CondP.ndec (fun h => ?_) (fun h => ?_)) <;> first | (exfalso; first | omega | exact h (by assumption) | exact absurd h (by assumption)) | (conv => whnf))
    | (refine Both.mk ?_ ?_ <;> (conv => whnf))
    | (refine Keep.mk (by repeat' first | exact trivial | rfl | refine And.intro ?_ ?_) ?_; conv => whnf)
    | (refine And.intro (by first | decide | omega) ?_; conv => whnf)
    | fail
  · unfold cntF
    rw [if_pos (show (m : Int) < (numF d s).1 by omega)]
    refine FinOk.mk' [] rfl rfl rfl rfl rfl rfl rfl ⟨?_, ?_, rfl⟩
    · rfl
    · rfl
  · unfold cntF
    rw [if_neg (show ¬ (m : Int) < (numF d s).1 by omega)]
    refine FinOk.mk' [] rfl rfl rfl rfl rfl rfl rfl ⟨?_, ?_, rfl⟩
    · rfl
    · rfl
/-- So many numbers. -/
def numsF (d : List Int) (s : RS) : Nat → List Int × RS
  | 0 => ([], s)
  | k + 1 => ((numsF d s k).1 ++ [(numF d (numsF d s k).2).1], (numF d (numsF d s k).2).2)
theorem numsF_len (d : List Int) (s : RS) : ∀ k, (numsF d s k).1.length = k
  | 0 => rfl
  | k + 1 => by simp [numsF, numsF_len d s k]
theorem numsF_bd {d : List Int} (hd : ∀ z ∈ d, isU8 z) (s : RS) (hs : s.1 ≤ d.length) : ∀ k, (numsF d s k).2.1 ≤ d.length
  | 0 => hs
  | k + 1 => (numF_bd hd _ (numsF_bd hd s hs k)).2.2
def listF (m : Nat) (d : List Int) (s : RS) : List Int × RS := numsF d (cntF m d s).2 (cntF m d s).1.toNat
theorem cntF_bd {d : List Int} (hd : ∀ z ∈ d, isU8 z) (m : Nat) (s : RS) (hs : s.1 ≤ d.length) : 0 ≤ (cntF m d s).1 ∧ (cntF m d s).1 ≤ m ∧ (cntF m d s).2.1 ≤ d.length := by
  have h := numF_bd hd s hs
  unfold cntF
  split
  · exact ⟨Int.le_refl 0, by dsimp only; omega, h.2.2⟩
  · exact ⟨h.1, by omega, h.2.2⟩
theorem rdNumbers_ret (m : Nat) (d : List Int) (s : RS) (i n : Nat) (hm : m ≤ 12) (hd : ∀ z ∈ d, isU8 z) (hl : d.length ≤ 1048576) (hs : s.1 ≤ d.length) : Ret Try.prog 101 [.pt i 0 0, iv m] [(i, rdO d s)] n true (Is (.own n (listF m d s).1.length) [(i, rdO d (listF m d s).2), (n, .list 2 1 (ivs (listF m d s).1))] (n + 1)) := by
  have hc := cntF_bd hd m s hs
  refine Ret.of_run (tt := tt) ttOk Try.func101 rfl Try.call101 [i] [rdO d s] [.pt 0 0 0, iv m] true n _ rfl (nodup1 i) (by exact Nat.le_of_ble_eq_true rfl) rfl rfl ?_
  conv => whnf
  repeat' first
    | (refine CondP.yes ?_; conv => whnf)
    | (refine CondP.not ?_; conv => whnf)
    | ((first | refine CondP.dec (fun h => ?_) (fun h => ?_) | refine CondP.ndec (fun h => ?_) (fun h => ?_)) <;> first | (exfalso; first | omega | exact h (by assumption) | exact absurd h (by assumption)) | (conv => whnf))
    | (refine Both.mk ?_ ?_ <;> (conv => whnf))
    | (refine Keep.mk (by repeat' first | exact trivial | rfl | refine And.intro ?_ ?_) ?_; conv => whnf)
    | (refine And.intro (by first | decide | omega) ?_; conv => whnf)
    | fail
  refine CallP.heapIs (rdCount_ret m d s 0 _ hd hl hs) rfl (by repeat' first | exact trivial | rfl | exact leafI (by first | rfl | omega | (simp (disch := omega) only [Int.reduceToNat, IntKind.bits, Nat.min_eq_left, Int.reducePow, IntWalk.i64_in, IntWalk.rem_in, IntWalk.i64_quo, IntWalk.u8_in, IntWalk.u32_in, IntWalk.u64_in]; done) | (simp (disch := omega) only [Int.reduceToNat, IntKind.bits, Nat.min_eq_left, Int.reducePow, IntWalk.i64_in, IntWalk.rem_in, IntWalk.i64_quo, IntWalk.u8_in, IntWalk.u32_in, IntWalk.u64_in]; omega)) | refine And.intro ?_ ?_) rfl ?_
  conv => whnf
  repeat' first
    | (refine CondP.yes ?_; conv => whnf)
    | (refine CondP.not ?_; conv => whnf)
    | ((first | refine CondP.dec (fun h => ?_) (fun h => ?_) | refine CondP.ndec (fun h => ?_) (fun h => ?_)) <;> first | (exfalso; first | omega | exact h (by assumption) | exact absurd h (by assumption)) | (conv => whnf))
    | (refine Both.mk ?_ ?_ <;> (conv => whnf))
    | (refine Keep.mk (by repeat' first | exact trivial | rfl | refine And.intro ?_ ?_) ?_; conv => whnf)
    | (refine And.intro (by first | decide | omega) ?_; conv => whnf)
    | fail
  unfold listF
  generalize cntF m d s = cs at *
  obtain ⟨z, s1⟩ := cs
  dsimp only at hc ⊢
  obtain ⟨k, rfl⟩ := Int.eq_ofNat_of_zero_le hc.1
  have hk : k ≤ 12 := by omega
  have hs1 := hc.2.2
  refine ⟨⟨by omega, by omega, by omega, by show (k : Int) * (8 : Int) ≤ _; omega⟩, ?_⟩
  conv => whnf
  repeat' first
    | (refine CondP.yes ?_; conv => whnf)
    | (refine CondP.not ?_; conv => whnf)
    | ((first | refine CondP.dec (fun h => ?_) (fun h => ?_) | refine CondP.ndec (fun h => ?_) (fun h => ?_)) <;> first | (exfalso; first | omega | exact h (by assumption) | exact absurd h (by assumption)) | (conv => whnf))
    | (refine Both.mk ?_ ?_ <;> (conv => whnf))
    | (refine Keep.mk (by repeat' first | exact trivial | rfl | refine And.intro ?_ ?_) ?_; conv => whnf)
    | (refine And.intro (by first | decide | omega) ?_; conv => whnf)
    | fail
  rw [Int.toNat_natCast]
  refine LoopP.go (fun j : Nat => j ≤ k) (fun j => ⟨[(0, .pt 0 0 0), (5, .own 1 k), (12, iv k), (13, iv j)], [(0, rdO d (numsF d s1 j).2), (1, .list 2 1 (ivs ((numsF d s1 j).1 ++ List.replicate (k - j) 0)))], 2⟩) (fun j => k - j) 0 (Nat.zero_le _) ?_ ?_
  · refine Weak.of rfl rfl ⟨⟨rfl, rfl⟩, ⟨rfl, rfl⟩, ⟨rfl, rfl⟩, ⟨rfl, rfl⟩, trivial⟩ ⟨⟨rfl, rfl, rfl⟩, ⟨leafO ?_, rfl, rfl⟩, trivial⟩
    simp [numsF, ivs]
  intro j hj
  have hlen := numsF_len d s1 j
  have hb := numsF_bd hd s1 hs1 j
  have hL : (ivs ((numsF d s1 j).1 ++ List.replicate (k - j) 0)).length = k := by simp [hlen]; omega
  conv => whnf
  repeat' first
    | (refine CondP.yes ?_; conv => whnf)
    | (refine CondP.not ?_; conv => whnf)
    | ((first | refine CondP.dec (fun h => ?_) (fun h => ?_) | refine CondP.ndec (fun h => ?_) (fun h => ?_)) <;> first | (exfalso; first | omega | exact h (by assumption) | exact absurd h (by assumption)) | (conv => whnf))
    | (refine Both.mk ?_ ?_ <;> (conv => whnf))
    | (refine Keep.mk (by repeat' first | exact trivial | rfl | refine And.intro ?_ ?_) ?_; conv => whnf)
    | (refine And.intro (by first | decide | omega) ?_; conv => whnf)
    | fail
  · have hlt : j < k := by omega
    refine CallP.heapIs (rdNumber_ret d (numsF d s1 j).2 0 _ hd hl hb) rfl (by repeat' first | exact trivial | rfl | exact leafI (by first | rfl | omega | (simp (disch := omega) only [Int.reduceToNat, IntKind.bits, Nat.min_eq_left, Int.reducePow, IntWalk.i64_in, IntWalk.rem_in, IntWalk.i64_quo, IntWalk.u8_in, IntWalk.u32_in, IntWalk.u64_in]; done) | (simp (disch := omega) only [Int.reduceToNat, IntKind.bits, Nat.min_eq_left, Int.reducePow, IntWalk.i64_in, IntWalk.rem_in, IntWalk.i64_quo, IntWalk.u8_in, IntWalk.u32_in, IntWalk.u64_in]; omega)) | refine And.intro ?_ ?_) rfl ?_
    conv => whnf
    repeat' first
      | (refine CondP.yes ?_; conv => whnf)
      | (refine CondP.not ?_; conv => whnf)
      | ((first | refine CondP.dec (fun h => ?_) (fun h => ?_) | refine CondP.ndec (fun h => ?_) (fun h => ?_)) <;> first | (exfalso; first | omega | exact h (by assumption) | exact absurd h (by assumption)) | (conv => whnf))
      | (refine Both.mk ?_ ?_ <;> (conv => whnf))
      | (refine Keep.mk (by repeat' first | exact trivial | rfl | refine And.intro ?_ ?_) ?_; conv => whnf)
      | (refine And.intro (by first | decide | omega) ?_; conv => whnf)
      | fail
    refine ⟨j + 1, by omega, by omega, Weak.of rfl rfl (by repeat' first | exact trivial | rfl | exact leafI (by first | rfl | omega | (simp (disch := omega) only [Int.reduceToNat, IntKind.bits, Nat.min_eq_left, Int.reducePow, IntWalk.i64_in, IntWalk.rem_in, IntWalk.i64_quo, IntWalk.u8_in, IntWalk.u32_in, IntWalk.u64_in]; done) | (simp (disch := omega) only [Int.reduceToNat, IntKind.bits, Nat.min_eq_left, Int.reducePow, IntWalk.i64_in, IntWalk.rem_in, IntWalk.i64_quo, IntWalk.u8_in, IntWalk.u32_in, IntWalk.u64_in]; omega)) | refine And.intro ?_ ?_) ⟨⟨rfl, rfl, rfl⟩, ⟨leafO ?_, rfl, rfl⟩, trivial⟩⟩
    rw [setRow _ _ _ (by simp [hlen]; omega) _ rfl]
    congr 1
    show _ = ((numsF d s1 j).1 ++ [(numF d (numsF d s1 j).2).1]) ++ List.replicate (k - (j + 1)) 0
    obtain ⟨q, hq⟩ : ∃ q, k - j = q + 1 := ⟨k - j - 1, by omega⟩
    rw [hq, show k - (j + 1) = q by omega, List.replicate_succ, List.set_append_right _ _ (by omega), hlen]
    simp
  · obtain rfl : j = k := by omega
    refine FinOk.mk' [1] rfl rfl rfl rfl rfl rfl rfl ⟨?_, ?_, rfl⟩
    · show AV.own n j = _
      rw [hlen]
    · rw [Nat.sub_self, List.replicate_zero, List.append_nil]; rfl
theorem listF_len {m : Nat} (hm : m ≤ 12) {d : List Int} (hd : ∀ z ∈ d, isU8 z) (s : RS) (hs : s.1 ≤ d.length) : (listF m d s).1.length ≤ m ∧ (listF m d s).2.1 ≤ d.length := by
  have hc := cntF_bd hd m s hs
  exact ⟨by unfold listF; rw [numsF_len]; omega, numsF_bd hd _ hc.2.2 _⟩
theorem rdNumbers_fr (m : Nat) (d : List Int) (s : RS) (i n : Nat) (hm : m ≤ 12) (hd : ∀ z ∈ d, isU8 z) (hl : d.length ≤ 1048576) (hs : s.1 ≤ d.length) : Ret Try.prog 101 [.pt i 0 0, iv m] [(i, rdO d s)] n true (Is (il (listF m d s).1) [(i, rdO d (listF m d s).2)] n) := by
  refine Ret.frBox (fun hin => ?_) (rdNumbers_ret m d s i n hm hd hl hs)
  rintro _ _ _ ⟨rfl, rfl, rfl⟩
  exact ⟨il (listF m d s).1, _, frCellH (look_cons_ne _ _ (by omega)) ((look_cons_ne _ _ (by omega)).trans (look_cons_eq _ _ _)) (by simp), look_cons_eq _ _ _, rfl, rfl, rfl, rfl⟩
/-- One after the other. -/
def snocF {α : Type} (f : RS → α × RS) (s : RS) : Nat → List α × RS
  | 0 => ([], s)
  | k + 1 => ((snocF f s k).1 ++ [(f (snocF f s k).2).1], (f (snocF f s k).2).2)
theorem snocF_len {α : Type} (f : RS → α × RS) (s : RS) : ∀ k, (snocF f s k).1.length = k
  | 0 => rfl
  | k + 1 => by simp [snocF, snocF_len f s k]
theorem snocF_bd {α : Type} {f : RS → α × RS} {m : Nat} (hf : ∀ s : RS, s.1 ≤ m → (f s).2.1 ≤ m) (s : RS) (hs : s.1 ≤ m) : ∀ k, (snocF f s k).2.1 ≤ m
  | 0 => hs
  | k + 1 => hf _ (snocF_bd hf s hs k)
def inF (d : List Int) (s : RS) : InD × RS :=
  let a := bigF d s
  let b := numF d a.2
  let l := listF 8 d b.2
  ((a.1, b.1, l.1), l.2)
def outF (d : List Int) (s : RS) : OutD × RS :=
  let a := bigF d s
  let l := listF 12 d a.2
  ((a.1, l.1), l.2)
def txF (d : List Int) (s : RS) : TxD × RS :=
  let n := numF d s
  let c := cntF 4 d n.2
  let xs := snocF (inF d) c.2 c.1.toNat
  let e := cntF 4 d xs.2
  let ys := snocF (outF d) e.2 e.1.toNat
  ((n.1, xs.1, ys.1), ys.2)
theorem bigF_bd {d : List Int} (hd : ∀ z ∈ d, isU8 z) (s : RS) (hs : s.1 ≤ d.length) : (bigF d s).2.1 ≤ d.length := (numF_bd hd _ (numF_bd hd s hs).2.2).2.2
theorem inF_bd {d : List Int} (hd : ∀ z ∈ d, isU8 z) (s : RS) (hs : s.1 ≤ d.length) : (inF d s).2.1 ≤ d.length := (listF_len (by decide) hd _ (numF_bd hd _ (bigF_bd hd s hs)).2.2).2
theorem outF_bd {d : List Int} (hd : ∀ z ∈ d, isU8 z) (s : RS) (hs : s.1 ≤ d.length) : (outF d s).2.1 ≤ d.length := (listF_len (by decide) hd _ (bigF_bd hd s hs)).2
theorem rdTx_ret (d : List Int) (s : RS) (i n : Nat) (hd : ∀ z ∈ d, isU8 z) (hl : d.length ≤ 1048576) (hs : s.1 ≤ d.length) : Ret Try.prog 56 [.pt i 0 0] [(i, rdO d s)] n true (Is (.agg [iv (txF d s).1.1, .own n (txF d s).1.2.1.length, .own (n + 1) (txF d s).1.2.2.length]) [(i, rdO d (txF d s).2), (n, .list 125 3 ((txF d s).1.2.1.map inRow)), (n + 1, .list 127 2 ((txF d s).1.2.2.map outRow))] (n + 2)) := by
  refine Ret.of_run (tt := tt) ttOk Try.func56 rfl Try.call56 [i] [rdO d s] [.pt 0 0 0] true n _ rfl (nodup1 i) (by exact Nat.le_of_ble_eq_true rfl) rfl rfl ?_
  have h1 := numF_bd hd s hs
  have h2 := cntF_bd hd 4 _ h1.2.2
  conv => whnf
  repeat' first
    | (refine CondP.yes ?_; conv => whnf)
    | (refine CondP.not ?_; conv => whnf)
    | ((first | refine CondP.dec (fun h => ?_) (fun h => ?_) | refine CondP.ndec (fun h => ?_) (fun h => ?_)) <;> first | (exfalso; first | omega | exact h (by assumption) | exact absurd h (by assumption)) | (conv => whnf))
    | (refine Both.mk ?_ ?_ <;> (conv => whnf))
    | (refine Keep.mk (by repeat' first | exact trivial | rfl | refine And.intro ?_ ?_) ?_; conv => whnf)
    | (refine And.intro (by first | decide | omega) ?_; conv => whnf)
    | fail
  refine CallP.heapIs (rdNumber_ret d s 0 _ hd hl hs) rfl (by repeat' first | exact trivial | rfl | exact leafI (by first | rfl | omega | (simp (disch := omega) only [Int.reduceToNat, IntKind.bits, Nat.min_eq_left, Int.reducePow, IntWalk.i64_in, IntWalk.rem_in, IntWalk.i64_quo, IntWalk.u8_in, IntWalk.u32_in, IntWalk.u64_in]; done) | (simp (disch := omega) only [Int.reduceToNat, IntKind.bits, Nat.min_eq_left, Int.reducePow, IntWalk.i64_in, IntWalk.rem_in, IntWalk.i64_quo, IntWalk.u8_in, IntWalk.u32_in, IntWalk.u64_in]; omega)) | refine And.intro ?_ ?_) rfl ?_
  conv => whnf
  repeat' first
    | (refine CondP.yes ?_; conv => whnf)
    | (refine CondP.not ?_; conv => whnf)
    | ((first | refine CondP.dec (fun h => ?_) (fun h => ?_) | refine CondP.ndec (fun h => ?_) (fun h => ?_)) <;> first | (exfalso; first | omega | exact h (by assumption) | exact absurd h (by assumption)) | (conv => whnf))
    | (refine Both.mk ?_ ?_ <;> (conv => whnf))
    | (refine Keep.mk (by repeat' first | exact trivial | rfl | refine And.intro ?_ ?_) ?_; conv => whnf)
    | (refine And.intro (by first | decide | omega) ?_; conv => whnf)
    | fail
  refine CallP.heapIs (rdCount_ret 4 d _ 0 _ hd hl h1.2.2) rfl (by repeat' first | exact trivial | rfl | exact leafI (by first | rfl | omega | (simp (disch := omega) only [Int.reduceToNat, IntKind.bits, Nat.min_eq_left, Int.reducePow, IntWalk.i64_in, IntWalk.rem_in, IntWalk.i64_quo, IntWalk.u8_in, IntWalk.u32_in, IntWalk.u64_in]; done) | (simp (disch := omega) only [Int.reduceToNat, IntKind.bits, Nat.min_eq_left, Int.reducePow, IntWalk.i64_in, IntWalk.rem_in, IntWalk.i64_quo, IntWalk.u8_in, IntWalk.u32_in, IntWalk.u64_in]; omega)) | refine And.intro ?_ ?_) rfl ?_
  conv => whnf
  repeat' first
    | (refine CondP.yes ?_; conv => whnf)
    | (refine CondP.not ?_; conv => whnf)
    | ((first | refine CondP.dec (fun h => ?_) (fun h => ?_) | refine CondP.ndec (fun h => ?_) (fun h => ?_)) <;> first | (exfalso; first | omega | exact h (by assumption) | exact absurd h (by assumption)) | (conv => whnf))
    | (refine Both.mk ?_ ?_ <;> (conv => whnf))
    | (refine Keep.mk (by repeat' first | exact trivial | rfl | refine And.intro ?_ ?_) ?_; conv => whnf)
    | (refine And.intro (by first | decide | omega) ?_; conv => whnf)
    | fail
  have hT : ∀ (note : Int) (s1 : RS), (numF d s) = (note, s1) → txF d s = ((note, (snocF (inF d) (cntF 4 d s1).2 (cntF 4 d s1).1.toNat).1, (snocF (outF d) (cntF 4 d (snocF (inF d) (cntF 4 d s1).2 (cntF 4 d s1).1.toNat).2).2 (cntF 4 d (snocF (inF d) (cntF 4 d s1).2 (cntF 4 d s1).1.toNat).2).1.toNat).1), (snocF (outF d) (cntF 4 d (snocF (inF d) (cntF 4 d s1).2 (cntF 4 d s1).1.toNat).2).2 (cntF 4 d (snocF (inF d) (cntF 4 d s1).2 (cntF 4 d s1).1.toNat).2).1.toNat).2) := by
    intro note s1 e; unfold txF; simp only [e]
  generalize hn : numF d s = ns at *
  obtain ⟨note, s1⟩ := ns
  rw [hT note s1 rfl]
  clear hT hn
  dsimp only at h1 h2 ⊢
  generalize cntF 4 d s1 = cs at *
  obtain ⟨k, s2⟩ := cs
  dsimp only at h2 ⊢
  obtain ⟨k, rfl⟩ := Int.eq_ofNat_of_zero_le h2.1
  have hk4 : k ≤ 4 := by omega
  rw [Int.toNat_natCast]
  refine LoopP.go (fun j : Nat => j ≤ k)
      (fun j => ⟨[(0, .pt 0 0 0), (2, .pt 1 0 0), (3, .pt 2 0 0), (10, iv k), (11, iv j)], [(0, rdO d (snocF (inF d) s2 j).2), (1, .box [iv 0, nl, nl]), (2, .box [iv note, .own 3 j, .own 4 0]), (3, .list 125 3 ((snocF (inF d) s2 j).1.map inRow)), (4, .list 127 2 [])], 5⟩) (fun j => k - j) 0 (Nat.zero_le _) ?_ ?_
  · refine Weak.trans (Weak.of (tm' := [(0, .pt 0 0 0), (2, .pt 1 0 0), (3, .pt 2 0 0), (10, iv k), (11, iv (0 : Nat))]) (hp' := [(0, rdO d s2), (1, .box [iv 0, nl, nl]), (2, .box [iv note, nl, nl])]) (nx' := 3) rfl rfl ⟨⟨rfl, rfl⟩, ⟨rfl, rfl⟩, ⟨rfl, rfl⟩, ⟨rfl, rfl⟩, ⟨rfl, rfl⟩, trivial⟩ ⟨⟨rfl, rfl, rfl⟩, ⟨rfl, rfl, rfl⟩, ⟨rfl, rfl, rfl⟩, trivial⟩) ?_
    refine Weak.trans (Weak.name 2 1 125 3 _ (by decide) rfl rfl) ?_
    refine Weak.trans (Weak.name 2 2 127 2 _ (by decide) rfl rfl) ?_
    exact (Weak.of rfl rfl (by repeat' first | exact trivial | rfl | exact leafI (by first | rfl | omega | (simp (disch := omega) only [Int.reduceToNat, IntKind.bits, Nat.min_eq_left, Int.reducePow, IntWalk.i64_in, IntWalk.rem_in, IntWalk.i64_quo, IntWalk.u8_in, IntWalk.u32_in, IntWalk.u64_in]; done) | (simp (disch := omega) only [Int.reduceToNat, IntKind.bits, Nat.min_eq_left, Int.reducePow, IntWalk.i64_in, IntWalk.rem_in, IntWalk.i64_quo, IntWalk.u8_in, IntWalk.u32_in, IntWalk.u64_in]; omega)) | refine And.intro ?_ ?_) (by repeat' first | exact trivial | rfl | exact leafI (by first | rfl | omega | (simp (disch := omega) only [Int.reduceToNat, IntKind.bits, Nat.min_eq_left, Int.reducePow, IntWalk.i64_in, IntWalk.rem_in, IntWalk.i64_quo, IntWalk.u8_in, IntWalk.u32_in, IntWalk.u64_in]; done) | (simp (disch := omega) only [Int.reduceToNat, IntKind.bits, Nat.min_eq_left, Int.reducePow, IntWalk.i64_in, IntWalk.rem_in, IntWalk.i64_quo, IntWalk.u8_in, IntWalk.u32_in, IntWalk.u64_in]; omega)) | refine And.intro ?_ ?_))
  intro j hj
  have hlen := snocF_len (inF d) s2 j
  have hb := snocF_bd (inF_bd hd) s2 h2.2.2 j
  conv => whnf
  repeat' first
    | (refine CondP.yes ?_; conv => whnf)
    | (refine CondP.not ?_; conv => whnf)
    | ((first | refine CondP.dec (fun h => ?_) (fun h => ?_) | refine CondP.ndec (fun h => ?_) (fun h => ?_)) <;> first | (exfalso; first | omega | exact h (by assumption) | exact absurd h (by assumption)) | (conv => whnf))
    | (refine Both.mk ?_ ?_ <;> (conv => whnf))
    | (refine Keep.mk (by repeat' first | exact trivial | rfl | refine And.intro ?_ ?_) ?_; conv => whnf)
    | (refine And.intro (by first | decide | omega) ?_; conv => whnf)
    | fail
  · have hlt : j < k := by omega
    have b1 := bigF_bd hd _ hb
    have b2 := numF_bd hd _ b1
    refine CallP.heapIs (rdHalves_ret d (snocF (inF d) s2 j).2 0 _ hd hl hb) rfl (by repeat' first | exact trivial | rfl | exact leafI (by first | rfl | omega | (simp (disch := omega) only [Int.reduceToNat, IntKind.bits, Nat.min_eq_left, Int.reducePow, IntWalk.i64_in, IntWalk.rem_in, IntWalk.i64_quo, IntWalk.u8_in, IntWalk.u32_in, IntWalk.u64_in]; done) | (simp (disch := omega) only [Int.reduceToNat, IntKind.bits, Nat.min_eq_left, Int.reducePow, IntWalk.i64_in, IntWalk.rem_in, IntWalk.i64_quo, IntWalk.u8_in, IntWalk.u32_in, IntWalk.u64_in]; omega)) | refine And.intro ?_ ?_) rfl ?_
    conv => whnf
    repeat' first
      | (refine CondP.yes ?_; conv => whnf)
      | (refine CondP.not ?_; conv => whnf)
      | ((first | refine CondP.dec (fun h => ?_) (fun h => ?_) | refine CondP.ndec (fun h => ?_) (fun h => ?_)) <;> first | (exfalso; first | omega | exact h (by assumption) | exact absurd h (by assumption)) | (conv => whnf))
      | (refine Both.mk ?_ ?_ <;> (conv => whnf))
      | (refine Keep.mk (by repeat' first | exact trivial | rfl | refine And.intro ?_ ?_) ?_; conv => whnf)
      | (refine And.intro (by first | decide | omega) ?_; conv => whnf)
      | fail
    refine CallP.heapIs (rdNumber_ret d _ 0 _ hd hl b1) rfl (by repeat' first | exact trivial | rfl | exact leafI (by first | rfl | omega | (simp (disch := omega) only [Int.reduceToNat, IntKind.bits, Nat.min_eq_left, Int.reducePow, IntWalk.i64_in, IntWalk.rem_in, IntWalk.i64_quo, IntWalk.u8_in, IntWalk.u32_in, IntWalk.u64_in]; done) | (simp (disch := omega) only [Int.reduceToNat, IntKind.bits, Nat.min_eq_left, Int.reducePow, IntWalk.i64_in, IntWalk.rem_in, IntWalk.i64_quo, IntWalk.u8_in, IntWalk.u32_in, IntWalk.u64_in]; omega)) | refine And.intro ?_ ?_) rfl ?_
    conv => whnf
    repeat' first
      | (refine CondP.yes ?_; conv => whnf)
      | (refine CondP.not ?_; conv => whnf)
      | ((first | refine CondP.dec (fun h => ?_) (fun h => ?_) | refine CondP.ndec (fun h => ?_) (fun h => ?_)) <;> first | (exfalso; first | omega | exact h (by assumption) | exact absurd h (by assumption)) | (conv => whnf))
      | (refine Both.mk ?_ ?_ <;> (conv => whnf))
      | (refine Keep.mk (by repeat' first | exact trivial | rfl | refine And.intro ?_ ?_) ?_; conv => whnf)
      | (refine And.intro (by first | decide | omega) ?_; conv => whnf)
      | fail
    refine CallP.heapIs (rdNumbers_fr 8 d _ 0 _ (by decide) hd hl b2.2.2) rfl (by repeat' first | exact trivial | rfl | exact leafI (by first | rfl | omega | (simp (disch := omega) only [Int.reduceToNat, IntKind.bits, Nat.min_eq_left, Int.reducePow, IntWalk.i64_in, IntWalk.rem_in, IntWalk.i64_quo, IntWalk.u8_in, IntWalk.u32_in, IntWalk.u64_in]; done) | (simp (disch := omega) only [Int.reduceToNat, IntKind.bits, Nat.min_eq_left, Int.reducePow, IntWalk.i64_in, IntWalk.rem_in, IntWalk.i64_quo, IntWalk.u8_in, IntWalk.u32_in, IntWalk.u64_in]; omega)) | refine And.intro ?_ ?_) rfl ?_
    conv => whnf
    repeat' first
      | (refine CondP.yes ?_; conv => whnf)
      | (refine CondP.not ?_; conv => whnf)
      | ((first | refine CondP.dec (fun h => ?_) (fun h => ?_) | refine CondP.ndec (fun h => ?_) (fun h => ?_)) <;> first | (exfalso; first | omega | exact h (by assumption) | exact absurd h (by assumption)) | (conv => whnf))
      | (refine Both.mk ?_ ?_ <;> (conv => whnf))
      | (refine Keep.mk (by repeat' first | exact trivial | rfl | refine And.intro ?_ ?_) ?_; conv => whnf)
      | (refine And.intro (by first | decide | omega) ?_; conv => whnf)
      | fail
    refine ⟨⟨by (first | exact True.intro | omega | (simp only [List.length_map, List.length_take, List.length_drop, List.length_append, List.length_set, List.length_replicate, List.length_cons, List.length_nil, four_len, fours_len, maxLen] at *; omega)), by (first | exact True.intro | omega | (simp only [List.length_map, List.length_take, List.length_drop, List.length_append, List.length_set, List.length_replicate, List.length_cons, List.length_nil, four_len, fours_len, maxLen] at *; omega)), by (first | exact True.intro | omega | (simp only [List.length_map, List.length_take, List.length_drop, List.length_append, List.length_set, List.length_replicate, List.length_cons, List.length_nil, four_len, fours_len, maxLen] at *; omega)), by (first | exact True.intro | omega | (simp only [List.length_map, List.length_take, List.length_drop, List.length_append, List.length_set, List.length_replicate, List.length_cons, List.length_nil, four_len, fours_len, maxLen] at *; omega)), by (first | (intro r hr; first | exact row1 hr | exact row1 (List.mem_of_mem_take hr)) | (refine rowsB_ok ?_; rfl))⟩, ?_⟩
    conv => whnf
    repeat' first
      | (refine CondP.yes ?_; conv => whnf)
      | (refine CondP.not ?_; conv => whnf)
      | ((first | refine CondP.dec (fun h => ?_) (fun h => ?_) | refine CondP.ndec (fun h => ?_) (fun h => ?_)) <;> first | (exfalso; first | omega | exact h (by assumption) | exact absurd h (by assumption)) | (conv => whnf))
      | (refine Both.mk ?_ ?_ <;> (conv => whnf))
      | (refine Keep.mk (by repeat' first | exact trivial | rfl | refine And.intro ?_ ?_) ?_; conv => whnf)
      | (refine And.intro (by first | decide | omega) ?_; conv => whnf)
      | fail
    refine ⟨j + 1, by omega, by omega, Weak.of rfl rfl (by repeat' first | exact trivial | rfl | exact leafI (by first | rfl | omega | (simp (disch := omega) only [Int.reduceToNat, IntKind.bits, Nat.min_eq_left, Int.reducePow, IntWalk.i64_in, IntWalk.rem_in, IntWalk.i64_quo, IntWalk.u8_in, IntWalk.u32_in, IntWalk.u64_in]; done) | (simp (disch := omega) only [Int.reduceToNat, IntKind.bits, Nat.min_eq_left, Int.reducePow, IntWalk.i64_in, IntWalk.rem_in, IntWalk.i64_quo, IntWalk.u8_in, IntWalk.u32_in, IntWalk.u64_in]; omega)) | refine And.intro ?_ ?_) ⟨⟨rfl, rfl, rfl⟩, ⟨rfl, rfl, rfl⟩, ⟨rfl, rfl, rfl⟩, ⟨leafO ?_, rfl, rfl⟩, ⟨rfl, rfl, rfl⟩, trivial⟩⟩
    rw [List.take_of_length_le (by simp [hlen])]
    show _ = ((snocF (inF d) s2 j).1 ++ [(inF d (snocF (inF d) s2 j).2).1]).map inRow
    rw [List.map_append]; rfl
  · obtain rfl : j = k := by omega
    generalize snocF (inF d) s2 j = xr at *
    obtain ⟨xs, s3⟩ := xr
    dsimp only at hlen hb ⊢
    have h4 := cntF_bd hd 4 s3 hb
    refine CallP.heapIs (rdCount_ret 4 d s3 0 _ hd hl hb) rfl (by repeat' first | exact trivial | rfl | exact leafI (by first | rfl | omega | (simp (disch := omega) only [Int.reduceToNat, IntKind.bits, Nat.min_eq_left, Int.reducePow, IntWalk.i64_in, IntWalk.rem_in, IntWalk.i64_quo, IntWalk.u8_in, IntWalk.u32_in, IntWalk.u64_in]; done) | (simp (disch := omega) only [Int.reduceToNat, IntKind.bits, Nat.min_eq_left, Int.reducePow, IntWalk.i64_in, IntWalk.rem_in, IntWalk.i64_quo, IntWalk.u8_in, IntWalk.u32_in, IntWalk.u64_in]; omega)) | refine And.intro ?_ ?_) rfl ?_
    conv => whnf
    repeat' first
      | (refine CondP.yes ?_; conv => whnf)
      | (refine CondP.not ?_; conv => whnf)
      | ((first | refine CondP.dec (fun h => ?_) (fun h => ?_) | refine CondP.ndec (fun h => ?_) (fun h => ?_)) <;> first | (exfalso; first | omega | exact h (by assumption) | exact absurd h (by assumption)) | (conv => whnf))
      | (refine Both.mk ?_ ?_ <;> (conv => whnf))
      | (refine Keep.mk (by repeat' first | exact trivial | rfl | refine And.intro ?_ ?_) ?_; conv => whnf)
      | (refine And.intro (by first | decide | omega) ?_; conv => whnf)
      | fail
    generalize cntF 4 d s3 = cs at *
    obtain ⟨q, s4⟩ := cs
    dsimp only at h4 ⊢
    obtain ⟨q, rfl⟩ := Int.eq_ofNat_of_zero_le h4.1
    have hq4 : q ≤ 4 := by omega
    rw [Int.toNat_natCast]
    refine LoopP.go (fun y : Nat => y ≤ q)
      (fun y => ⟨[(0, .pt 0 0 0), (2, .pt 1 0 0), (3, .pt 2 0 0), (28, iv q), (29, iv y)], [(0, rdO d (snocF (outF d) s4 y).2), (1, .box [iv 0, nl, nl]), (2, .box [iv note, .own 3 j, .own 4 y]), (3, .list 125 3 (xs.map inRow)), (4, .list 127 2 ((snocF (outF d) s4 y).1.map outRow))], 5⟩) (fun y => q - y) 0 (Nat.zero_le _) ?_ ?_
    · exact (Weak.of rfl rfl (by repeat' first | exact trivial | rfl | exact leafI (by first | rfl | omega | (simp (disch := omega) only [Int.reduceToNat, IntKind.bits, Nat.min_eq_left, Int.reducePow, IntWalk.i64_in, IntWalk.rem_in, IntWalk.i64_quo, IntWalk.u8_in, IntWalk.u32_in, IntWalk.u64_in]; done) | (simp (disch := omega) only [Int.reduceToNat, IntKind.bits, Nat.min_eq_left, Int.reducePow, IntWalk.i64_in, IntWalk.rem_in, IntWalk.i64_quo, IntWalk.u8_in, IntWalk.u32_in, IntWalk.u64_in]; omega)) | refine And.intro ?_ ?_) (by repeat' first | exact trivial | rfl | exact leafI (by first | rfl | omega | (simp (disch := omega) only [Int.reduceToNat, IntKind.bits, Nat.min_eq_left, Int.reducePow, IntWalk.i64_in, IntWalk.rem_in, IntWalk.i64_quo, IntWalk.u8_in, IntWalk.u32_in, IntWalk.u64_in]; done) | (simp (disch := omega) only [Int.reduceToNat, IntKind.bits, Nat.min_eq_left, Int.reducePow, IntWalk.i64_in, IntWalk.rem_in, IntWalk.i64_quo, IntWalk.u8_in, IntWalk.u32_in, IntWalk.u64_in]; omega)) | refine And.intro ?_ ?_))
    intro y hy
    have hlen2 := snocF_len (outF d) s4 y
    have hb2 := snocF_bd (outF_bd hd) s4 h4.2.2 y
    conv => whnf
    repeat' first
      | (refine CondP.yes ?_; conv => whnf)
      | (refine CondP.not ?_; conv => whnf)
      | ((first | refine CondP.dec (fun h => ?_) (fun h => ?_) | refine CondP.ndec (fun h => ?_) (fun h => ?_)) <;> first | (exfalso; first | omega | exact h (by assumption) | exact absurd h (by assumption)) | (conv => whnf))
      | (refine Both.mk ?_ ?_ <;> (conv => whnf))
      | (refine Keep.mk (by repeat' first | exact trivial | rfl | refine And.intro ?_ ?_) ?_; conv => whnf)
      | (refine And.intro (by first | decide | omega) ?_; conv => whnf)
      | fail
    · have hlt : y < q := by omega
      have b1 := bigF_bd hd _ hb2
      refine CallP.heapIs (rdHalves_ret d (snocF (outF d) s4 y).2 0 _ hd hl hb2) rfl (by repeat' first | exact trivial | rfl | exact leafI (by first | rfl | omega | (simp (disch := omega) only [Int.reduceToNat, IntKind.bits, Nat.min_eq_left, Int.reducePow, IntWalk.i64_in, IntWalk.rem_in, IntWalk.i64_quo, IntWalk.u8_in, IntWalk.u32_in, IntWalk.u64_in]; done) | (simp (disch := omega) only [Int.reduceToNat, IntKind.bits, Nat.min_eq_left, Int.reducePow, IntWalk.i64_in, IntWalk.rem_in, IntWalk.i64_quo, IntWalk.u8_in, IntWalk.u32_in, IntWalk.u64_in]; omega)) | refine And.intro ?_ ?_) rfl ?_
      conv => whnf
      repeat' first
        | (refine CondP.yes ?_; conv => whnf)
        | (refine CondP.not ?_; conv => whnf)
        | ((first | refine CondP.dec (fun h => ?_) (fun h => ?_) | refine CondP.ndec (fun h => ?_) (fun h => ?_)) <;> first | (exfalso; first | omega | exact h (by assumption) | exact absurd h (by assumption)) | (conv => whnf))
        | (refine Both.mk ?_ ?_ <;> (conv => whnf))
        | (refine Keep.mk (by repeat' first | exact trivial | rfl | refine And.intro ?_ ?_) ?_; conv => whnf)
        | (refine And.intro (by first | decide | omega) ?_; conv => whnf)
        | fail
      refine CallP.heapIs (rdNumbers_fr 12 d _ 0 _ (by decide) hd hl b1) rfl (by repeat' first | exact trivial | rfl | exact leafI (by first | rfl | omega | (simp (disch := omega) only [Int.reduceToNat, IntKind.bits, Nat.min_eq_left, Int.reducePow, IntWalk.i64_in, IntWalk.rem_in, IntWalk.i64_quo, IntWalk.u8_in, IntWalk.u32_in, IntWalk.u64_in]; done) | (simp (disch := omega) only [Int.reduceToNat, IntKind.bits, Nat.min_eq_left, Int.reducePow, IntWalk.i64_in, IntWalk.rem_in, IntWalk.i64_quo, IntWalk.u8_in, IntWalk.u32_in, IntWalk.u64_in]; omega)) | refine And.intro ?_ ?_) rfl ?_
      conv => whnf
      repeat' first
        | (refine CondP.yes ?_; conv => whnf)
        | (refine CondP.not ?_; conv => whnf)
        | ((first | refine CondP.dec (fun h => ?_) (fun h => ?_) | refine CondP.ndec (fun h => ?_) (fun h => ?_)) <;> first | (exfalso; first | omega | exact h (by assumption) | exact absurd h (by assumption)) | (conv => whnf))
        | (refine Both.mk ?_ ?_ <;> (conv => whnf))
        | (refine Keep.mk (by repeat' first | exact trivial | rfl | refine And.intro ?_ ?_) ?_; conv => whnf)
        | (refine And.intro (by first | decide | omega) ?_; conv => whnf)
        | fail
      refine ⟨⟨by (first | exact True.intro | omega | (simp only [List.length_map, List.length_take, List.length_drop, List.length_append, List.length_set, List.length_replicate, List.length_cons, List.length_nil, four_len, fours_len, maxLen] at *; omega)), by (first | exact True.intro | omega | (simp only [List.length_map, List.length_take, List.length_drop, List.length_append, List.length_set, List.length_replicate, List.length_cons, List.length_nil, four_len, fours_len, maxLen] at *; omega)), by (first | exact True.intro | omega | (simp only [List.length_map, List.length_take, List.length_drop, List.length_append, List.length_set, List.length_replicate, List.length_cons, List.length_nil, four_len, fours_len, maxLen] at *; omega)), by (first | exact True.intro | omega | (simp only [List.length_map, List.length_take, List.length_drop, List.length_append, List.length_set, List.length_replicate, List.length_cons, List.length_nil, four_len, fours_len, maxLen] at *; omega)), by (first | (intro r hr; first | exact row1 hr | exact row1 (List.mem_of_mem_take hr)) | (refine rowsB_ok ?_; rfl))⟩, ?_⟩
      conv => whnf
      repeat' first
        | (refine CondP.yes ?_; conv => whnf)
        | (refine CondP.not ?_; conv => whnf)
        | ((first | refine CondP.dec (fun h => ?_) (fun h => ?_) | refine CondP.ndec (fun h => ?_) (fun h => ?_)) <;> first | (exfalso; first | omega | exact h (by assumption) | exact absurd h (by assumption)) | (conv => whnf))
        | (refine Both.mk ?_ ?_ <;> (conv => whnf))
        | (refine Keep.mk (by repeat' first | exact trivial | rfl | refine And.intro ?_ ?_) ?_; conv => whnf)
        | (refine And.intro (by first | decide | omega) ?_; conv => whnf)
        | fail
      refine ⟨y + 1, by omega, by omega, Weak.of rfl rfl (by repeat' first | exact trivial | rfl | exact leafI (by first | rfl | omega | (simp (disch := omega) only [Int.reduceToNat, IntKind.bits, Nat.min_eq_left, Int.reducePow, IntWalk.i64_in, IntWalk.rem_in, IntWalk.i64_quo, IntWalk.u8_in, IntWalk.u32_in, IntWalk.u64_in]; done) | (simp (disch := omega) only [Int.reduceToNat, IntKind.bits, Nat.min_eq_left, Int.reducePow, IntWalk.i64_in, IntWalk.rem_in, IntWalk.i64_quo, IntWalk.u8_in, IntWalk.u32_in, IntWalk.u64_in]; omega)) | refine And.intro ?_ ?_) ⟨⟨rfl, rfl, rfl⟩, ⟨rfl, rfl, rfl⟩, ⟨rfl, rfl, rfl⟩, ⟨rfl, rfl, rfl⟩, ⟨leafO ?_, rfl, rfl⟩, trivial⟩⟩
      rw [List.take_of_length_le (by simp [hlen2])]
      show _ = ((snocF (outF d) s4 y).1 ++ [(outF d (snocF (outF d) s4 y).2).1]).map outRow
      rw [List.map_append]; rfl
    · obtain rfl : y = q := by omega
      refine FinOk.mk' [3, 4] rfl rfl rfl rfl rfl rfl rfl ⟨?_, rfl, rfl⟩
      show AV.agg [iv note, .own n j, .own (n + 1) y] = .agg [iv note, .own n xs.length, .own (n + 1) (snocF (outF d) s4 y).1.length]
      rw [hlen, hlen2]
end Go.Proofs.Ytdafmioegaelgaa
