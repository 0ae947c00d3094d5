/-
  CHAPTER 3: numbers that are read, by the reading.
-/
import Derived.Test.YtdafmioegaelgaaP13
import Derived.Test.YtdafmioegaelgaaM5
namespace Go.Proofs.Ytdafmioegaelgaa
open Go Go.Am Go.RowKit
set_option linter.unusedVariables false
set_option linter.unusedSimpArgs false
abbrev rdO (d : List Int) (s : RS) : AObj := .box [ul d, iv s.1, bv s.2]
theorem l3Byte_ret (d : List Int) (s : RS) (i n : Nat) (hd : ∀ z ∈ d, isU8 z) (hl : d.length ≤ 1048576) (hs : s.1 ≤ d.length) : Ret Try.prog 127 [.pt i 0 0] [(i, rdO d s)] n true (Is (iv (byteF d s).1) [(i, rdO d (byteF d s).2)] n) := by
  obtain ⟨a, w⟩ := s
  dsimp only at hs
  have hL : (uvs d).length = d.length := by simp
  have e0 : IntKind.i64.wrap ((a : Int) + 1) = ((a + 1 : Nat) : Int) := by rw [IntWalk.i64_in _ (by omega)]; omega
  have e1 : IntKind.i64.wrap (((a + 1 : Nat) : Int) - 1) = a := by rw [IntWalk.i64_in _ (by omega)]; omega
  refine Ret.of_run (tt := tt) ttOk Try.func127 rfl Try.call127 [i] [.box [ul d, iv a, bv w]] [.pt 0 0 0] true n _ rfl (nodup1 i) (by exact Nat.le_of_ble_eq_true rfl) rfl rfl ?_
  conv => whnf
  repeat' first
    | (refine CondP.yes ?_; conv => whnf)
    | (refine CondP.not ?_; conv => whnf)
    | ((first | refine CondP.dec (fun h => ?_) (fun h => ?_) | refine CondP.ndec (fun h => ?_) (fun h => ?_)) <;> first | (exfalso; first | omega | exact h (by assumption) | exact absurd h (by assumption)) | (conv => whnf))
    | (refine Both.mk ?_ ?_ <;> (conv => whnf))
    | (refine Keep.mk (by repeat' first | exact trivial | rfl | refine And.intro ?_ ?_) ?_; conv => whnf)
    | (refine And.intro (by first | decide | omega) ?_; conv => whnf)
    | fail
  · have hF : byteF d (a, w) = (0, (a, true)) := by unfold byteF; rw [show d[(a, w).1]? = none from List.getElem?_eq_none (by dsimp only; omega)]
    rw [hF]
    refine FinOk.mk' [] rfl rfl rfl rfl rfl rfl rfl ⟨?_, ?_, rfl⟩
    · rfl
    · rfl
  · have hlt : a < d.length := by omega
    have hF : byteF d (a, w) = (d[a], (a + 1, w)) := by unfold byteF; rw [show d[(a, w).1]? = some d[a] from List.getElem?_eq_getElem hlt]
    rw [hF]
    simp only [e0, e1]
    have hu := hd d[a] (List.getElem_mem hlt)
    unfold isU8 at hu
    rw [rowK uv1 d a (by omega)]
    refine ⟨by (first | exact ⟨by omega, by omega, rfl⟩ | (simp only [List.length_map]; exact ⟨by omega, by omega, rfl⟩)), ?_⟩
    conv => whnf
    repeat' first
      | (refine CondP.yes ?_; conv => whnf)
      | (refine CondP.not ?_; conv => whnf)
      | ((first | refine CondP.dec (fun h => ?_) (fun h => ?_) | refine CondP.ndec (fun h => ?_) (fun h => ?_)) <;> first | (exfalso; first | omega | exact h (by assumption) | exact absurd h (by assumption)) | (conv => whnf))
      | (refine Both.mk ?_ ?_ <;> (conv => whnf))
      | (refine Keep.mk (by repeat' first | exact trivial | rfl | refine And.intro ?_ ?_) ?_; conv => whnf)
      | (refine And.intro (by first | decide | omega) ?_; conv => whnf)
      | fail
    rw [IntWalk.i64_in _ (by omega)]
    refine FinOk.mk' [] rfl rfl rfl rfl rfl rfl rfl ⟨?_, ?_, rfl⟩
    · rfl
    · rfl
theorem implReadVar_ret (d : List Int) (n : Nat) (hd : ∀ z ∈ d, isU8 z) (hl : d.length ≤ 1048576) : Ret Try.prog 128 [ul d] [] n true (Is (.agg (rvC d)) [] n) := by
  match d, hd with
  | [], _ =>
    refine Ret.fn ttOk Try.func128 rfl Try.call128 rfl rfl ?_
    conv => whnf
    repeat' first
      | (refine CondP.yes ?_; conv => whnf)
      | (refine CondP.not ?_; conv => whnf)
      | ((first | refine CondP.dec (fun h => ?_) (fun h => ?_) | refine CondP.ndec (fun h => ?_) (fun h => ?_)) <;> first | (exfalso; first | omega | exact h (by assumption) | exact absurd h (by assumption)) | (conv => whnf))
      | (refine Both.mk ?_ ?_ <;> (conv => whnf))
      | (refine Keep.mk (by repeat' first | exact trivial | rfl | refine And.intro ?_ ?_) ?_; conv => whnf)
      | (refine And.intro (by first | decide | omega) ?_; conv => whnf)
      | fail
    refine FinOk.pure rfl rfl rfl ⟨?_, rfl, rfl⟩
    rfl
  | [b], hd =>
    have hL : (uvs [b]).length = 1 := rfl
    have hb : isU8 b := hd b (by simp)
    unfold isU8 at hb
    refine Ret.fn ttOk Try.func128 rfl Try.call128 rfl rfl ?_
    conv => whnf
    repeat' first
      | (refine CondP.yes ?_; conv => whnf)
      | (refine CondP.not ?_; conv => whnf)
      | ((first | refine CondP.dec (fun h => ?_) (fun h => ?_) | refine CondP.ndec (fun h => ?_) (fun h => ?_)) <;> first | (exfalso; first | omega | exact h (by assumption) | exact absurd h (by assumption)) | (conv => whnf))
      | (refine Both.mk ?_ ?_ <;> (conv => whnf))
      | (refine Keep.mk (by repeat' first | exact trivial | rfl | refine And.intro ?_ ?_) ?_; conv => whnf)
      | (refine And.intro (by first | decide | omega) ?_; conv => whnf)
      | fail
    refine ⟨⟨by omega, by omega, rfl⟩, ?_⟩
    conv => whnf
    repeat' first
      | (refine CondP.yes ?_; conv => whnf)
      | (refine CondP.not ?_; conv => whnf)
      | ((first | refine CondP.dec (fun h => ?_) (fun h => ?_) | refine CondP.ndec (fun h => ?_) (fun h => ?_)) <;> first | (exfalso; first | omega | exact h (by assumption) | exact absurd h (by assumption)) | (conv => whnf))
      | (refine Both.mk ?_ ?_ <;> (conv => whnf))
      | (refine Keep.mk (by repeat' first | exact trivial | rfl | refine And.intro ?_ ?_) ?_; conv => whnf)
      | (refine And.intro (by first | decide | omega) ?_; conv => whnf)
      | fail
    · refine ⟨⟨by omega, by omega, rfl⟩, ?_⟩
      conv => whnf
      repeat' first
        | (refine CondP.yes ?_; conv => whnf)
        | (refine CondP.not ?_; conv => whnf)
        | ((first | refine CondP.dec (fun h => ?_) (fun h => ?_) | refine CondP.ndec (fun h => ?_) (fun h => ?_)) <;> first | (exfalso; first | omega | exact h (by assumption) | exact absurd h (by assumption)) | (conv => whnf))
        | (refine Both.mk ?_ ?_ <;> (conv => whnf))
        | (refine Keep.mk (by repeat' first | exact trivial | rfl | refine And.intro ?_ ?_) ?_; conv => whnf)
        | (refine And.intro (by first | decide | omega) ?_; conv => whnf)
        | fail
      rw [IntWalk.i64_in _ (by omega)]
      refine FinOk.pure rfl rfl rfl ⟨?_, rfl, rfl⟩
      simp [rvC, rdV, h]
    · refine FinOk.pure rfl rfl rfl ⟨?_, rfl, rfl⟩
      simp [rvC, rdV, h]
  | [b, l], hd =>
    have hL : (uvs [b, l]).length = 2 := rfl
    have hb : isU8 b := hd b (by simp)
    unfold isU8 at hb
    refine Ret.fn ttOk Try.func128 rfl Try.call128 rfl rfl ?_
    conv => whnf
    repeat' first
      | (refine CondP.yes ?_; conv => whnf)
      | (refine CondP.not ?_; conv => whnf)
      | ((first | refine CondP.dec (fun h => ?_) (fun h => ?_) | refine CondP.ndec (fun h => ?_) (fun h => ?_)) <;> first | (exfalso; first | omega | exact h (by assumption) | exact absurd h (by assumption)) | (conv => whnf))
      | (refine Both.mk ?_ ?_ <;> (conv => whnf))
      | (refine Keep.mk (by repeat' first | exact trivial | rfl | refine And.intro ?_ ?_) ?_; conv => whnf)
      | (refine And.intro (by first | decide | omega) ?_; conv => whnf)
      | fail
    refine ⟨⟨by omega, by omega, rfl⟩, ?_⟩
    conv => whnf
    repeat' first
      | (refine CondP.yes ?_; conv => whnf)
      | (refine CondP.not ?_; conv => whnf)
      | ((first | refine CondP.dec (fun h => ?_) (fun h => ?_) | refine CondP.ndec (fun h => ?_) (fun h => ?_)) <;> first | (exfalso; first | omega | exact h (by assumption) | exact absurd h (by assumption)) | (conv => whnf))
      | (refine Both.mk ?_ ?_ <;> (conv => whnf))
      | (refine Keep.mk (by repeat' first | exact trivial | rfl | refine And.intro ?_ ?_) ?_; conv => whnf)
      | (refine And.intro (by first | decide | omega) ?_; conv => whnf)
      | fail
    · refine ⟨⟨by omega, by omega, rfl⟩, ?_⟩
      conv => whnf
      repeat' first
        | (refine CondP.yes ?_; conv => whnf)
        | (refine CondP.not ?_; conv => whnf)
        | ((first | refine CondP.dec (fun h => ?_) (fun h => ?_) | refine CondP.ndec (fun h => ?_) (fun h => ?_)) <;> first | (exfalso; first | omega | exact h (by assumption) | exact absurd h (by assumption)) | (conv => whnf))
        | (refine Both.mk ?_ ?_ <;> (conv => whnf))
        | (refine Keep.mk (by repeat' first | exact trivial | rfl | refine And.intro ?_ ?_) ?_; conv => whnf)
        | (refine And.intro (by first | decide | omega) ?_; conv => whnf)
        | fail
      rw [IntWalk.i64_in _ (by omega)]
      refine FinOk.pure rfl rfl rfl ⟨?_, rfl, rfl⟩
      simp [rvC, rdV, h]
    · refine FinOk.pure rfl rfl rfl ⟨?_, rfl, rfl⟩
      simp [rvC, rdV, h]
  | b :: l :: hh :: r, hd =>
    have hL : (uvs (b :: l :: hh :: r)).length = r.length + 3 := by simp
    have hb : isU8 b := hd b (by simp)
    have hl1 : isU8 l := hd l (by simp)
    have hh1 : isU8 hh := hd hh (by simp)
    unfold isU8 at hb hl1 hh1
    refine Ret.fn ttOk Try.func128 rfl Try.call128 rfl rfl ?_
    conv => whnf
    repeat' first
      | (refine CondP.yes ?_; conv => whnf)
      | (refine CondP.not ?_; conv => whnf)
      | ((first | refine CondP.dec (fun h => ?_) (fun h => ?_) | refine CondP.ndec (fun h => ?_) (fun h => ?_)) <;> first | (exfalso; first | omega | exact h (by assumption) | exact absurd h (by assumption)) | (conv => whnf))
      | (refine Both.mk ?_ ?_ <;> (conv => whnf))
      | (refine Keep.mk (by repeat' first | exact trivial | rfl | refine And.intro ?_ ?_) ?_; conv => whnf)
      | (refine And.intro (by first | decide | omega) ?_; conv => whnf)
      | fail
    refine ⟨⟨by omega, by omega, rfl⟩, ?_⟩
    conv => whnf
    repeat' first
      | (refine CondP.yes ?_; conv => whnf)
      | (refine CondP.not ?_; conv => whnf)
      | ((first | refine CondP.dec (fun h => ?_) (fun h => ?_) | refine CondP.ndec (fun h => ?_) (fun h => ?_)) <;> first | (exfalso; first | omega | exact h (by assumption) | exact absurd h (by assumption)) | (conv => whnf))
      | (refine Both.mk ?_ ?_ <;> (conv => whnf))
      | (refine Keep.mk (by repeat' first | exact trivial | rfl | refine And.intro ?_ ?_) ?_; conv => whnf)
      | (refine And.intro (by first | decide | omega) ?_; conv => whnf)
      | fail
    · refine ⟨⟨by omega, by omega, rfl⟩, ?_⟩
      conv => whnf
      repeat' first
        | (refine CondP.yes ?_; conv => whnf)
        | (refine CondP.not ?_; conv => whnf)
        | ((first | refine CondP.dec (fun h => ?_) (fun h => ?_) | refine CondP.ndec (fun h => ?_) (fun h => ?_)) <;> first | (exfalso; first | omega | exact h (by assumption) | exact absurd h (by assumption)) | (conv => whnf))
        | (refine Both.mk ?_ ?_ <;> (conv => whnf))
        | (refine Keep.mk (by repeat' first | exact trivial | rfl | refine And.intro ?_ ?_) ?_; conv => whnf)
        | (refine And.intro (by first | decide | omega) ?_; conv => whnf)
        | fail
      rw [IntWalk.i64_in _ (by omega)]
      refine FinOk.pure rfl rfl rfl ⟨?_, rfl, rfl⟩
      simp [rvC, rdV, h]
    · have hb3 : ¬ b < 253 := h
      refine ⟨⟨by omega, by omega, rfl⟩, ?_⟩
      conv => whnf
      repeat' first
        | (refine CondP.yes ?_; conv => whnf)
        | (refine CondP.not ?_; conv => whnf)
        | ((first | refine CondP.dec (fun h => ?_) (fun h => ?_) | refine CondP.ndec (fun h => ?_) (fun h => ?_)) <;> first | (exfalso; first | omega | exact h (by assumption) | exact absurd h (by assumption)) | (conv => whnf))
        | (refine Both.mk ?_ ?_ <;> (conv => whnf))
        | (refine Keep.mk (by repeat' first | exact trivial | rfl | refine And.intro ?_ ?_) ?_; conv => whnf)
        | (refine And.intro (by first | decide | omega) ?_; conv => whnf)
        | fail
      · refine FinOk.pure rfl rfl rfl ⟨?_, rfl, rfl⟩
        simp [rvC, rdV, hb3, h]
      · have hb4 : b = 253 := by omega
        subst hb4
        refine ⟨⟨by omega, by omega, rfl⟩, ?_⟩
        conv => whnf
        repeat' first
          | (refine CondP.yes ?_; conv => whnf)
          | (refine CondP.not ?_; conv => whnf)
          | ((first | refine CondP.dec (fun h => ?_) (fun h => ?_) | refine CondP.ndec (fun h => ?_) (fun h => ?_)) <;> first | (exfalso; first | omega | exact h (by assumption) | exact absurd h (by assumption)) | (conv => whnf))
          | (refine Both.mk ?_ ?_ <;> (conv => whnf))
          | (refine Keep.mk (by repeat' first | exact trivial | rfl | refine And.intro ?_ ?_) ?_; conv => whnf)
          | (refine And.intro (by first | decide | omega) ?_; conv => whnf)
          | fail
        refine ⟨⟨by omega, by omega, rfl⟩, ?_⟩
        conv => whnf
        repeat' first
          | (refine CondP.yes ?_; conv => whnf)
          | (refine CondP.not ?_; conv => whnf)
          | ((first | refine CondP.dec (fun h => ?_) (fun h => ?_) | refine CondP.ndec (fun h => ?_) (fun h => ?_)) <;> first | (exfalso; first | omega | exact h (by assumption) | exact absurd h (by assumption)) | (conv => whnf))
          | (refine Both.mk ?_ ?_ <;> (conv => whnf))
          | (refine Keep.mk (by repeat' first | exact trivial | rfl | refine And.intro ?_ ?_) ?_; conv => whnf)
          | (refine And.intro (by first | decide | omega) ?_; conv => whnf)
          | fail
        all_goals
          rw [show (2 : Int) ^ min (Int.toNat 8) IntKind.i64.bits = 256 from rfl, IntWalk.i64_in hh (by omega), IntWalk.i64_in l (by omega), IntWalk.i64_in (hh * 256) (by omega), IntWalk.i64_in _ (by omega)] at h
        · refine FinOk.pure rfl rfl rfl ⟨?_, rfl, rfl⟩
          rw [show l + hh * 256 = l + 256 * hh by omega] at h
          simp [rvC, rdV, h]
        · rw [show (2 : Int) ^ min (Int.toNat 8) IntKind.i64.bits = 256 from rfl, IntWalk.i64_in hh (by omega), IntWalk.i64_in l (by omega), IntWalk.i64_in (hh * 256) (by omega), IntWalk.i64_in _ (by omega)]
          rw [show l + hh * 256 = l + 256 * hh by omega] at h ⊢
          refine FinOk.pure rfl rfl rfl ⟨?_, rfl, rfl⟩
          simp [rvC, rdV, h]
theorem l3Var_ret (d : List Int) (s : RS) (i n : Nat) (hd : ∀ z ∈ d, isU8 z) (hl : d.length ≤ 1048576) (hs : s.1 ≤ d.length) : Ret Try.prog 95 [.pt i 0 0] [(i, rdO d s)] n true (Is (iv (varF d s).1) [(i, rdO d (varF d s).2)] n) := by
  have hx := byteF_bd hd s hs
  have hy := byteF_bd hd (byteF d s).2 hx.2.2.2.1
  have hz := byteF_bd hd (byteF d (byteF d s).2).2 hy.2.2.2.1
  refine Ret.of_run (tt := tt) ttOk Try.func95 rfl Try.call95 [i] [rdO d s] [.pt 0 0 0] true n _ rfl (nodup1 i) (by exact Nat.le_of_ble_eq_true rfl) rfl rfl ?_
  conv => whnf
  repeat' first
    | (refine CondP.yes ?_; conv => whnf)
    | (refine CondP.not ?_; conv => whnf)
    | ((first | refine CondP.dec (fun h => ?_) (fun h => ?_) | refine CondP.ndec (fun h => ?_) (fun h => ?_)) <;> first | (exfalso; first | omega | exact h (by assumption) | exact absurd h (by assumption)) | (conv => whnf))
    | (refine Both.mk ?_ ?_ <;> (conv => whnf))
    | (refine Keep.mk (by repeat' first | exact trivial | rfl | refine And.intro ?_ ?_) ?_; conv => whnf)
    | (refine And.intro (by first | decide | omega) ?_; conv => whnf)
    | fail
  refine CallP.heapIs (l3Byte_ret d s 0 _ hd hl hs) rfl (by repeat' first | exact trivial | rfl | exact leafI (by first | rfl | omega | (simp (disch := omega) only [Int.reduceToNat, IntKind.bits, Nat.min_eq_left, Int.reducePow, IntWalk.i64_in, IntWalk.rem_in, IntWalk.i64_quo, IntWalk.u8_in, IntWalk.u32_in, IntWalk.u64_in]; done) | (simp (disch := omega) only [Int.reduceToNat, IntKind.bits, Nat.min_eq_left, Int.reducePow, IntWalk.i64_in, IntWalk.rem_in, IntWalk.i64_quo, IntWalk.u8_in, IntWalk.u32_in, IntWalk.u64_in]; omega)) | refine And.intro ?_ ?_) rfl ?_
  conv => whnf
  repeat' first
    | (refine CondP.yes ?_; conv => whnf)
    | (refine CondP.not ?_; conv => whnf)
    | ((first | refine CondP.dec (fun h => ?_) (fun h => ?_) | refine CondP.ndec (fun h => ?_) (fun h => ?_)) <;> first | (exfalso; first | omega | exact h (by assumption) | exact absurd h (by assumption)) | (conv => whnf))
    | (refine Both.mk ?_ ?_ <;> (conv => whnf))
    | (refine Keep.mk (by repeat' first | exact trivial | rfl | refine And.intro ?_ ?_) ?_; conv => whnf)
    | (refine And.intro (by first | decide | omega) ?_; conv => whnf)
    | fail
  · rw [show varF d s = byteF d s from by unfold varF; dsimp only; rw [if_pos h]]
    refine FinOk.mk' [] rfl rfl rfl rfl rfl rfl rfl ⟨?_, ?_, rfl⟩
    · rfl
    · rfl
  · have h3 : ¬ (byteF d s).1 < 253 := h
    have hF : varF d s = ((byteF d (byteF d s).2).1 + 256 * (byteF d (byteF d (byteF d s).2).2).1, ((byteF d (byteF d (byteF d s).2).2).2.1, (byteF d (byteF d (byteF d s).2).2).2.2 || decide ((byteF d s).1 ≠ 253) || decide ((byteF d (byteF d s).2).1 + 256 * (byteF d (byteF d (byteF d s).2).2).1 < 253))) := by
      unfold varF; dsimp only; rw [if_neg h3]
    have he : IntKind.i64.wrap ((byteF d (byteF d s).2).1 + IntKind.i64.wrap (256 * (byteF d (byteF d (byteF d s).2).2).1)) = (byteF d (byteF d s).2).1 + 256 * (byteF d (byteF d (byteF d s).2).2).1 := by
      rw [IntWalk.i64_in (256 * _) (by omega), IntWalk.i64_in _ (by omega)]
    rw [hF]
    refine CallP.heapIs (l3Byte_ret d (byteF d s).2 0 _ hd hl hx.2.2.2.1) rfl (by repeat' first | exact trivial | rfl | exact leafI (by first | rfl | omega | (simp (disch := omega) only [Int.reduceToNat, IntKind.bits, Nat.min_eq_left, Int.reducePow, IntWalk.i64_in, IntWalk.rem_in, IntWalk.i64_quo, IntWalk.u8_in, IntWalk.u32_in, IntWalk.u64_in]; done) | (simp (disch := omega) only [Int.reduceToNat, IntKind.bits, Nat.min_eq_left, Int.reducePow, IntWalk.i64_in, IntWalk.rem_in, IntWalk.i64_quo, IntWalk.u8_in, IntWalk.u32_in, IntWalk.u64_in]; omega)) | refine And.intro ?_ ?_) rfl ?_
    conv => whnf
    repeat' first
      | (refine CondP.yes ?_; conv => whnf)
      | (refine CondP.not ?_; conv => whnf)
      | ((first | refine CondP.dec (fun h => ?_) (fun h => ?_) | refine CondP.ndec (fun h => ?_) (fun h => ?_)) <;> first | (exfalso; first | omega | exact h (by assumption) | exact absurd h (by assumption)) | (conv => whnf))
      | (refine Both.mk ?_ ?_ <;> (conv => whnf))
      | (refine Keep.mk (by repeat' first | exact trivial | rfl | refine And.intro ?_ ?_) ?_; conv => whnf)
      | (refine And.intro (by first | decide | omega) ?_; conv => whnf)
      | fail
    refine CallP.heapIs (l3Byte_ret d (byteF d (byteF d s).2).2 0 _ hd hl hy.2.2.2.1) rfl (by repeat' first | exact trivial | rfl | exact leafI (by first | rfl | omega | (simp (disch := omega) only [Int.reduceToNat, IntKind.bits, Nat.min_eq_left, Int.reducePow, IntWalk.i64_in, IntWalk.rem_in, IntWalk.i64_quo, IntWalk.u8_in, IntWalk.u32_in, IntWalk.u64_in]; done) | (simp (disch := omega) only [Int.reduceToNat, IntKind.bits, Nat.min_eq_left, Int.reducePow, IntWalk.i64_in, IntWalk.rem_in, IntWalk.i64_quo, IntWalk.u8_in, IntWalk.u32_in, IntWalk.u64_in]; omega)) | refine And.intro ?_ ?_) rfl ?_
    conv => whnf
    repeat' first
      | (refine CondP.yes ?_; conv => whnf)
      | (refine CondP.not ?_; conv => whnf)
      | ((first | refine CondP.dec (fun h => ?_) (fun h => ?_) | refine CondP.ndec (fun h => ?_) (fun h => ?_)) <;> first | (exfalso; first | omega | exact h (by assumption) | exact absurd h (by assumption)) | (conv => whnf))
      | (refine Both.mk ?_ ?_ <;> (conv => whnf))
      | (refine Keep.mk (by repeat' first | exact trivial | rfl | refine And.intro ?_ ?_) ?_; conv => whnf)
      | (refine And.intro (by first | decide | omega) ?_; conv => whnf)
      | fail
    · have h253 : ¬ (byteF d s).1 = 253 := h
      rw [he]
      refine FinOk.mk' [] rfl rfl rfl rfl rfl rfl rfl ⟨?_, ?_, rfl⟩
      · rfl
      · simp [h253, rdO]; rfl
    · rw [he] at h ⊢
      refine FinOk.mk' [] rfl rfl rfl rfl rfl rfl rfl ⟨?_, ?_, rfl⟩
      · rfl
      · simp [h, rdO]; rfl
    · have h253 : (byteF d s).1 = 253 := by omega
      rw [he] at h ⊢
      refine FinOk.mk' [] rfl rfl rfl rfl rfl rfl rfl ⟨?_, ?_, rfl⟩
      · rfl
      · simp [h, h253, rdO]; rfl
end Go.Proofs.Ytdafmioegaelgaa
