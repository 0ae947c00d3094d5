/-
  CONTRACTS OF CHAPTER 1: BitsOf, both sides.
-/
import Derived.Test.YtechmmppdciidaaPrim
namespace Go.Proofs.Ytechmmppdciidaa
open Go.ChangeShapes Go.WideShapes Go.ChangeAt Go.RowKit
set_option linter.unusedSimpArgs false
set_option linter.unusedVariables false

def InSum (t : Int) : Prop := 1 ≤ t ∧ t ≤ 2147483646

/-- What 'BitsOf' answers at a target in range, told by the best bits. -/
def bitsAns (b : Int) (e : Ending) : Prop := (b = 0 ∧ e = .returned (ir 4 0)) ∨ (b ≠ 0 ∧ e = .returned (ir 0 b))

def SRel (t : Int) (x y : Value) : Prop := ∃ k b : Int, 1 ≤ k ∧ k ≤ 1024 ∧ Pl.Best t k b ∧ x = .int .i64 b ∧ y = .int .i64 k

set_option maxHeartbeats 800000 in
theorem specBitsOf_in (t : Int) (w : World) (h0 : 1 ≤ t) (h1 : t ≤ 2147483646) :
    Calls Try.prog 18 #[.int .i64 t] w fun e w' => (∃ b, Pl.Best t 1024 b ∧ bitsAns b e) ∧ Below w.heap.size w w' := by
  go_enter Try.func18, Try.ntmps18
  go_wp2_with (go_at_call 44; refine (l1In_yes _ _ _ _ h0 h1).mono ?_; rintro e w' ⟨rfl, rfl⟩)
  go_loop [3, 4] (fun x y => SRel t x y) (fun _ y => (1024 - intOf y).toNat)
  case atStart => exact ⟨1, 0, by omega, by omega, Pl.Best.start t, rfl, rfl⟩
  case round =>
    obtain ⟨k, b, hk0, hk1, hB, rfl, rfl⟩ := hrel
    have hB' := Lib.hid hB
    have hb := hB.zero_or
    clear hB
    by_cases hlt : k < 1024
    · by_cases hok : Pl.okP k
      · have HOK := Lib.hid hok
        clear hok
        have hb0 : 0 ≤ b := by unfold Pl.okP at hb; omega
        have hb1 : b ≤ 1023 := by unfold Pl.okP at hb; omega
        have HB := Lib.hid hb
        clear hb
        by_cases ht : Pl.tg k ≤ t
        · by_cases hz : b = 0
          · subst hz
            go_wp2_with (first | (go_at_call 45; refine (l1Bits_yes _ _ HOK.out).mono ?_; rintro e w' ⟨rfl, rfl⟩) | (go_at_call 46; refine (l1Target_any _ _ (by omega) (by omega)).mono ?_; rintro e w' ⟨rfl, rfl⟩))
            go_round
            case rel => exact ⟨k + 1, k, by omega, by omega, hB'.out.take HOK.out ht (Or.inl rfl), rfl, rfl⟩
            case measure => simp [intOf]; omega
          · have hz' : (b == 0) = false := by simp [hz]
            have hz2 := Lib.hid hz
            clear hz
            by_cases hg : Pl.tg b < Pl.tg k
            · go_wp2_with (first | (go_at_call 45; refine (l1Bits_yes _ _ HOK.out).mono ?_; rintro e w' ⟨rfl, rfl⟩) | (go_at_call 46; refine (l1Target_any _ _ (by omega) (by omega)).mono ?_; rintro e w' ⟨rfl, rfl⟩))
              go_round
              case rel => exact ⟨k + 1, k, by omega, by omega, hB'.out.take HOK.out ht (Or.inr hg), rfl, rfl⟩
              case measure => simp [intOf]; omega
            · go_wp2_with (first | (go_at_call 45; refine (l1Bits_yes _ _ HOK.out).mono ?_; rintro e w' ⟨rfl, rfl⟩) | (go_at_call 46; refine (l1Target_any _ _ (by omega) (by omega)).mono ?_; rintro e w' ⟨rfl, rfl⟩))
              go_round
              case rel => exact ⟨k + 1, b, by omega, by omega, hB'.out.low hz2.out (by omega), rfl, rfl⟩
              case measure => simp [intOf]; omega
        · go_wp2_with (first | (go_at_call 45; refine (l1Bits_yes _ _ HOK.out).mono ?_; rintro e w' ⟨rfl, rfl⟩) | (go_at_call 46; refine (l1Target_any _ _ (by omega) (by omega)).mono ?_; rintro e w' ⟨rfl, rfl⟩))
          go_round
          case rel => exact ⟨k + 1, b, by omega, by omega, hB'.out.skip (fun _ => by omega), rfl, rfl⟩
          case measure => simp [intOf]; omega
      · have HOK := Lib.hid hok
        clear hok hb
        go_wp2_with (go_at_call 45; refine (l1Bits_no _ _ HOK.out (by omega) (by omega)).mono ?_; rintro e w' ⟨rfl, rfl⟩)
        go_round
        case rel => exact ⟨k + 1, b, by omega, by omega, hB'.out.skip (fun h => absurd h HOK.out), rfl, rfl⟩
        case measure => simp [intOf]; omega
    · have hk : k = 1024 := by omega
      subst hk
      by_cases hz : b = 0
      · subst hz
        go_wp2
        exact bodyPost_ret (v := ir 4 0) (by simp [results, Try.results18, go_sem]) rfl ⟨⟨0, hB'.out, Or.inl ⟨rfl, rfl⟩⟩, (by repeat (first | exact Below.refl _ _ | assumption | refine Below.drew ?_ | refine Below_drewN ?_ _ | refine Below.alloc ?_ (by first | omega | (simp; done) | (simp; omega)) _ | refine Below.setCell ?_ (by first | omega | (simp; done) | (simp; omega)) _ | (refine Below.trans ?_ (Below.mono (by assumption) (by first | omega | (simp; done) | (simp; omega))))))⟩
      · have hz' : (b == 0) = false := by simp [hz]
        have hz2 := Lib.hid hz
        clear hz hb
        go_wp2
        exact bodyPost_ret (v := ir 0 b) (by simp [results, Try.results18, go_sem]) rfl ⟨⟨b, hB'.out, Or.inr ⟨hz2.out, rfl⟩⟩, (by repeat (first | exact Below.refl _ _ | assumption | refine Below.drew ?_ | refine Below_drewN ?_ _ | refine Below.alloc ?_ (by first | omega | (simp; done) | (simp; omega)) _ | refine Below.setCell ?_ (by first | omega | (simp; done) | (simp; omega)) _ | (refine Below.trans ?_ (Below.mono (by assumption) (by first | omega | (simp; done) | (simp; omega))))))⟩

theorem specBitsOf_out (t : Int) (w : World) (h : ¬ (1 ≤ t ∧ t ≤ 2147483646)) :
    Calls Try.prog 18 #[.int .i64 t] w fun e w' => e = .returned (ir 3 0) ∧ Below w.heap.size w w' := by
  by_cases h0 : 1 ≤ t
  · have h1 : ¬ t ≤ 2147483646 := by omega
    clear h
    go_enter Try.func18, Try.ntmps18
    go_wp2
    exact bodyPost_ret (v := ir 3 0) (by simp [results, Try.results18, go_sem]) rfl ⟨rfl, (by repeat (first | exact Below.refl _ _ | assumption | refine Below.drew ?_ | refine Below_drewN ?_ _ | refine Below.alloc ?_ (by first | omega | (simp; done) | (simp; omega)) _ | refine Below.setCell ?_ (by first | omega | (simp; done) | (simp; omega)) _ | (refine Below.trans ?_ (Below.mono (by assumption) (by first | omega | (simp; done) | (simp; omega))))))⟩
  · clear h
    go_enter Try.func18, Try.ntmps18
    go_wp2
    exact bodyPost_ret (v := ir 3 0) (by simp [results, Try.results18, go_sem]) rfl ⟨rfl, (by repeat (first | exact Below.refl _ _ | assumption | refine Below.drew ?_ | refine Below_drewN ?_ _ | refine Below.alloc ?_ (by first | omega | (simp; done) | (simp; omega)) _ | refine Below.setCell ?_ (by first | omega | (simp; done) | (simp; omega)) _ | (refine Below.trans ?_ (Below.mono (by assumption) (by first | omega | (simp; done) | (simp; omega))))))⟩

theorem implBitsOf_out (t : Int) (w : World) (h : ¬ (1 ≤ t ∧ t ≤ 2147483646)) :
    Calls Try.prog 17 #[.int .i64 t] w fun e w' => e = .returned (ir 3 0) ∧ Below w.heap.size w w' := by
  by_cases h0 : t < 1
  · clear h
    go_enter Try.func17, Try.ntmps17
    go_wp2
    exact bodyPost_ret (v := ir 3 0) (by simp [results, Try.results17, go_sem]) rfl ⟨rfl, (by repeat (first | exact Below.refl _ _ | assumption | refine Below.drew ?_ | refine Below_drewN ?_ _ | refine Below.alloc ?_ (by first | omega | (simp; done) | (simp; omega)) _ | refine Below.setCell ?_ (by first | omega | (simp; done) | (simp; omega)) _ | (refine Below.trans ?_ (Below.mono (by assumption) (by first | omega | (simp; done) | (simp; omega))))))⟩
  · have h1 : ¬ t ≤ 2147483646 := by omega
    clear h
    go_enter Try.func17, Try.ntmps17
    go_wp2
    exact bodyPost_ret (v := ir 3 0) (by simp [results, Try.results17, go_sem]) rfl ⟨rfl, (by repeat (first | exact Below.refl _ _ | assumption | refine Below.drew ?_ | refine Below_drewN ?_ _ | refine Below.alloc ?_ (by first | omega | (simp; done) | (simp; omega)) _ | refine Below.setCell ?_ (by first | omega | (simp; done) | (simp; omega)) _ | (refine Below.trans ?_ (Below.mono (by assumption) (by first | omega | (simp; done) | (simp; omega))))))⟩

theorem targetFrom_any (e m : Int) (w : World) (h0 : 0 ≤ e) (h1 : e ≤ 3) (h2 : 1 ≤ m) (h3 : m ≤ 255) : Calls Try.prog 42 #[.int .i64 e, .int .i64 m] w fun e' w' => e' = .returned (.int .i64 ((m + 1) * Pl.pw e - 1)) ∧ w = w' := by
  have hc : e = 0 ∨ e = 1 ∨ e = 2 ∨ e = 3 := by omega
  rcases hc with rfl | rfl | rfl | rfl <;>
  · go_enter Try.func42, Try.ntmps42
    go_wp2
    go_ret
    exact ⟨ret_int (by simp [Pl.pw]), rfl⟩

def IRel (t : Int) (x y z : Value) : Prop := ∃ e b r : Int, 0 ≤ e ∧ e ≤ 4 ∧ Pl.Best t (256 * e) b ∧ ((b = 0 ∧ r = 0) ∨ (b ≠ 0 ∧ r = Pl.tg b)) ∧ x = .int .i64 b ∧ y = .int .i64 r ∧ z = .int .i64 e

theorem IRel.take {t e b r m x y z : Int} (hB : Hid (Pl.Best t (256 * e) b)) (hr : Hid ((b = 0 ∧ r = 0) ∨ (b ≠ 0 ∧ r = Pl.tg b))) (h0 : 0 ≤ e) (h1 : e ≤ 3) (hm0 : 1 ≤ m) (hm1 : m ≤ 255)
    (hle : (m + 1) * Pl.pw e - 1 ≤ t) (hmax : m = 255 ∨ t < (m + 2) * Pl.pw e - 1) (hlt : r < (m + 1) * Pl.pw e - 1) (hx : x = 256 * e + m) (hy : y = (m + 1) * Pl.pw e - 1) (hz : z = e + 1) :
    IRel t (.int .i64 x) (.int .i64 y) (.int .i64 z) := by
  refine ⟨e + 1, 256 * e + m, (m + 1) * Pl.pw e - 1, by omega, by omega, hB.out.block_take h0 h1 hm0 hm1 hle hmax ?_, Or.inr ⟨by omega, (Pl.tg_at e m h0 h1 hm0 hm1).symm⟩, by rw [hx], by rw [hy], by rw [hz]⟩
  rcases hr.out with ⟨a, c⟩ | ⟨a, c⟩
  · exact Or.inl a
  · exact Or.inr (by omega)
theorem IRel.keep {t e b r m x y z : Int} (hB : Hid (Pl.Best t (256 * e) b)) (hr : Hid ((b = 0 ∧ r = 0) ∨ (b ≠ 0 ∧ r = Pl.tg b))) (h0 : 0 ≤ e) (h1 : e ≤ 3) (hm0 : 1 ≤ m) (hm1 : m ≤ 255)
    (hmax : m = 255 ∨ t < (m + 2) * Pl.pw e - 1) (hge : (m + 1) * Pl.pw e - 1 ≤ r) (hx : x = b) (hy : y = r) (hz : z = e + 1) :
    IRel t (.int .i64 x) (.int .i64 y) (.int .i64 z) := by
  have hp : 1 ≤ (m + 1) * Pl.pw e - 1 := by
    have hc : e = 0 ∨ e = 1 ∨ e = 2 ∨ e = 3 := by omega
    rcases hc with rfl | rfl | rfl | rfl <;> simp [Pl.pw] <;> omega
  rcases hr.out with ⟨a, c⟩ | ⟨a, c⟩
  · omega
  · exact ⟨e + 1, b, r, by omega, by omega, hB.out.block_keep h0 h1 hm0 hm1 hmax a (by omega), hr.out, by rw [hx], by rw [hy], by rw [hz]⟩

set_option maxHeartbeats 1600000 in
theorem implBitsOf_in (t : Int) (w : World) (h0 : 1 ≤ t) (h1 : t ≤ 2147483646) :
    Calls Try.prog 17 #[.int .i64 t] w fun e w' => (∃ b, Pl.Best t 1024 b ∧ bitsAns b e) ∧ Below w.heap.size w w' := by
  go_enter Try.func17, Try.ntmps17
  have t0 : (decide (t < 1)) = false := by simp; omega
  go_wp2_with (go_at_call 43; refine (isSum_yes _ _ (by omega) (by omega)).mono ?_; rintro e w' ⟨rfl, rfl⟩)
  go_loop [3, 4, 5] (fun x y z => IRel t x y z) (fun _ _ z => (4 - intOf z).toNat)
  case atStart => exact ⟨0, 0, 0, by omega, by omega, Pl.Best.zero t, Or.inl ⟨rfl, rfl⟩, rfl, rfl, rfl⟩
  case round =>
    obtain ⟨e, b, r, he0, he1, hB, hr, rfl, rfl, rfl⟩ := hrel
    have hB' := Lib.hid hB
    have hr' := Lib.hid hr
    clear hB hr
    have hc : e = 4 ∨ e = 0 ∨ e = 1 ∨ e = 2 ∨ e = 3 := by omega
    rcases hc with rfl | rfl | rfl | rfl | rfl
    · have hfin : Pl.Best t 1024 b := hB'.out
      have HF := Lib.hid hfin
      clear hfin
      by_cases hz : b = 0
      · subst hz
        go_wp2
        exact bodyPost_ret (v := ir 4 0) (by simp [results, Try.results17, go_sem]) rfl ⟨⟨0, HF.out, Or.inl ⟨rfl, rfl⟩⟩, (by repeat (first | exact Below.refl _ _ | assumption | refine Below.drew ?_ | refine Below_drewN ?_ _ | refine Below.alloc ?_ (by first | omega | (simp; done) | (simp; omega)) _ | refine Below.setCell ?_ (by first | omega | (simp; done) | (simp; omega)) _ | (refine Below.trans ?_ (Below.mono (by assumption) (by first | omega | (simp; done) | (simp; omega))))))⟩
      · have hz' : (b == 0) = false := by simp [hz]
        have hz2 := Lib.hid hz
        clear hz
        go_wp2
        exact bodyPost_ret (v := ir 0 b) (by simp [results, Try.results17, go_sem]) rfl ⟨⟨b, HF.out, Or.inr ⟨hz2.out, rfl⟩⟩, (by repeat (first | exact Below.refl _ _ | assumption | refine Below.drew ?_ | refine Below_drewN ?_ _ | refine Below.alloc ?_ (by first | omega | (simp; done) | (simp; omega)) _ | refine Below.setCell ?_ (by first | omega | (simp; done) | (simp; omega)) _ | (refine Below.trans ?_ (Below.mono (by assumption) (by first | omega | (simp; done) | (simp; omega))))))⟩
    · by_cases hq : 255 < t
      · go_wp2_with (go_at_call 42; refine (targetFrom_any _ _ _ (by omega) (by omega) (by omega) (by omega)).mono ?_; rintro e w' ⟨rfl, rfl⟩)
        · exact ⟨IRel.take (e := 0) (m := 255) hB' hr' (by omega) (by omega) (by omega) (by omega) (by first | omega | (simp [Pl.pw]; done) | (simp [Pl.pw]; omega) | (simp [Pl.pw] at *; omega)) (by first | omega | (simp [Pl.pw]; done) | (simp [Pl.pw]; omega) | (simp [Pl.pw] at *; omega)) (by first | omega | (simp [Pl.pw]; done) | (simp [Pl.pw]; omega) | (simp [Pl.pw] at *; omega)) (by omega) (by simp) (by omega), by simp [intOf]⟩
        · exact ⟨IRel.keep (e := 0) (m := 255) hB' hr' (by omega) (by omega) (by omega) (by omega) (by first | omega | (simp [Pl.pw]; done) | (simp [Pl.pw]; omega) | (simp [Pl.pw] at *; omega)) (by first | omega | (simp [Pl.pw]; done) | (simp [Pl.pw]; omega) | (simp [Pl.pw] at *; omega)) rfl rfl (by omega), by simp [intOf]⟩
      · go_wp2_with (go_at_call 42; refine (targetFrom_any _ _ _ (by omega) (by omega) (by omega) (by omega)).mono ?_; rintro e w' ⟨rfl, rfl⟩)
        · exact ⟨IRel.take (e := 0) (m := t) hB' hr' (by omega) (by omega) (by omega) (by omega) (by first | omega | (simp [Pl.pw]; done) | (simp [Pl.pw]; omega) | (simp [Pl.pw] at *; omega)) (by first | omega | (simp [Pl.pw]; done) | (simp [Pl.pw]; omega) | (simp [Pl.pw] at *; omega)) (by first | omega | (simp [Pl.pw]; done) | (simp [Pl.pw]; omega) | (simp [Pl.pw] at *; omega)) (by omega) (by simp) (by omega), by simp [intOf]⟩
        · exact ⟨IRel.keep (e := 0) (m := t) hB' hr' (by omega) (by omega) (by omega) (by omega) (by first | omega | (simp [Pl.pw]; done) | (simp [Pl.pw]; omega) | (simp [Pl.pw] at *; omega)) (by first | omega | (simp [Pl.pw]; done) | (simp [Pl.pw]; omega) | (simp [Pl.pw] at *; omega)) rfl rfl (by omega), by simp [intOf]⟩
    · by_cases hq : 255 < ((t + 1) / 128 - 1)
      · go_wp2_with (go_at_call 42; refine (targetFrom_any _ _ _ (by omega) (by omega) (by omega) (by omega)).mono ?_; rintro e w' ⟨rfl, rfl⟩)
        · exact ⟨IRel.take (e := 1) (m := 255) hB' hr' (by omega) (by omega) (by omega) (by omega) (by first | omega | (simp [Pl.pw]; done) | (simp [Pl.pw]; omega) | (simp [Pl.pw] at *; omega)) (by first | omega | (simp [Pl.pw]; done) | (simp [Pl.pw]; omega) | (simp [Pl.pw] at *; omega)) (by first | omega | (simp [Pl.pw]; done) | (simp [Pl.pw]; omega) | (simp [Pl.pw] at *; omega)) (by omega) (by simp) (by omega), by simp [intOf]⟩
        · exact ⟨IRel.keep (e := 1) (m := 255) hB' hr' (by omega) (by omega) (by omega) (by omega) (by first | omega | (simp [Pl.pw]; done) | (simp [Pl.pw]; omega) | (simp [Pl.pw] at *; omega)) (by first | omega | (simp [Pl.pw]; done) | (simp [Pl.pw]; omega) | (simp [Pl.pw] at *; omega)) rfl rfl (by omega), by simp [intOf]⟩
      · by_cases hq1 : ((t + 1) / 128 - 1) < 1
        · have hfin := Pl.Best.rest hB'.out (by omega) (by omega) (by simp [Pl.pw]; omega)
          have HF := Lib.hid hfin
          clear hfin
          by_cases hz : b = 0
          · subst hz
            go_wp2
            exact bodyPost_ret (v := ir 4 0) (by simp [results, Try.results17, go_sem]) rfl ⟨⟨0, HF.out, Or.inl ⟨rfl, rfl⟩⟩, (by repeat (first | exact Below.refl _ _ | assumption | refine Below.drew ?_ | refine Below_drewN ?_ _ | refine Below.alloc ?_ (by first | omega | (simp; done) | (simp; omega)) _ | refine Below.setCell ?_ (by first | omega | (simp; done) | (simp; omega)) _ | (refine Below.trans ?_ (Below.mono (by assumption) (by first | omega | (simp; done) | (simp; omega))))))⟩
          · have hz' : (b == 0) = false := by simp [hz]
            have hz2 := Lib.hid hz
            clear hz
            go_wp2
            exact bodyPost_ret (v := ir 0 b) (by simp [results, Try.results17, go_sem]) rfl ⟨⟨b, HF.out, Or.inr ⟨hz2.out, rfl⟩⟩, (by repeat (first | exact Below.refl _ _ | assumption | refine Below.drew ?_ | refine Below_drewN ?_ _ | refine Below.alloc ?_ (by first | omega | (simp; done) | (simp; omega)) _ | refine Below.setCell ?_ (by first | omega | (simp; done) | (simp; omega)) _ | (refine Below.trans ?_ (Below.mono (by assumption) (by first | omega | (simp; done) | (simp; omega))))))⟩
        · go_wp2_with (go_at_call 42; refine (targetFrom_any _ _ _ (by omega) (by omega) (by omega) (by omega)).mono ?_; rintro e w' ⟨rfl, rfl⟩)
          · exact ⟨IRel.take (e := 1) (m := ((t + 1) / 128 - 1)) hB' hr' (by omega) (by omega) (by omega) (by omega) (by first | omega | (simp [Pl.pw]; done) | (simp [Pl.pw]; omega) | (simp [Pl.pw] at *; omega)) (by first | omega | (simp [Pl.pw]; done) | (simp [Pl.pw]; omega) | (simp [Pl.pw] at *; omega)) (by first | omega | (simp [Pl.pw]; done) | (simp [Pl.pw]; omega) | (simp [Pl.pw] at *; omega)) (by omega) (by simp) (by omega), by simp [intOf]⟩
          · exact ⟨IRel.keep (e := 1) (m := ((t + 1) / 128 - 1)) hB' hr' (by omega) (by omega) (by omega) (by omega) (by first | omega | (simp [Pl.pw]; done) | (simp [Pl.pw]; omega) | (simp [Pl.pw] at *; omega)) (by first | omega | (simp [Pl.pw]; done) | (simp [Pl.pw]; omega) | (simp [Pl.pw] at *; omega)) rfl rfl (by omega), by simp [intOf]⟩
    · by_cases hq : 255 < ((t + 1) / 16384 - 1)
      · go_wp2_with (go_at_call 42; refine (targetFrom_any _ _ _ (by omega) (by omega) (by omega) (by omega)).mono ?_; rintro e w' ⟨rfl, rfl⟩)
        · exact ⟨IRel.take (e := 2) (m := 255) hB' hr' (by omega) (by omega) (by omega) (by omega) (by first | omega | (simp [Pl.pw]; done) | (simp [Pl.pw]; omega) | (simp [Pl.pw] at *; omega)) (by first | omega | (simp [Pl.pw]; done) | (simp [Pl.pw]; omega) | (simp [Pl.pw] at *; omega)) (by first | omega | (simp [Pl.pw]; done) | (simp [Pl.pw]; omega) | (simp [Pl.pw] at *; omega)) (by omega) (by simp) (by omega), by simp [intOf]⟩
        · exact ⟨IRel.keep (e := 2) (m := 255) hB' hr' (by omega) (by omega) (by omega) (by omega) (by first | omega | (simp [Pl.pw]; done) | (simp [Pl.pw]; omega) | (simp [Pl.pw] at *; omega)) (by first | omega | (simp [Pl.pw]; done) | (simp [Pl.pw]; omega) | (simp [Pl.pw] at *; omega)) rfl rfl (by omega), by simp [intOf]⟩
      · by_cases hq1 : ((t + 1) / 16384 - 1) < 1
        · have hfin := Pl.Best.rest hB'.out (by omega) (by omega) (by simp [Pl.pw]; omega)
          have HF := Lib.hid hfin
          clear hfin
          by_cases hz : b = 0
          · subst hz
            go_wp2
            exact bodyPost_ret (v := ir 4 0) (by simp [results, Try.results17, go_sem]) rfl ⟨⟨0, HF.out, Or.inl ⟨rfl, rfl⟩⟩, (by repeat (first | exact Below.refl _ _ | assumption | refine Below.drew ?_ | refine Below_drewN ?_ _ | refine Below.alloc ?_ (by first | omega | (simp; done) | (simp; omega)) _ | refine Below.setCell ?_ (by first | omega | (simp; done) | (simp; omega)) _ | (refine Below.trans ?_ (Below.mono (by assumption) (by first | omega | (simp; done) | (simp; omega))))))⟩
          · have hz' : (b == 0) = false := by simp [hz]
            have hz2 := Lib.hid hz
            clear hz
            go_wp2
            exact bodyPost_ret (v := ir 0 b) (by simp [results, Try.results17, go_sem]) rfl ⟨⟨b, HF.out, Or.inr ⟨hz2.out, rfl⟩⟩, (by repeat (first | exact Below.refl _ _ | assumption | refine Below.drew ?_ | refine Below_drewN ?_ _ | refine Below.alloc ?_ (by first | omega | (simp; done) | (simp; omega)) _ | refine Below.setCell ?_ (by first | omega | (simp; done) | (simp; omega)) _ | (refine Below.trans ?_ (Below.mono (by assumption) (by first | omega | (simp; done) | (simp; omega))))))⟩
        · go_wp2_with (go_at_call 42; refine (targetFrom_any _ _ _ (by omega) (by omega) (by omega) (by omega)).mono ?_; rintro e w' ⟨rfl, rfl⟩)
          · exact ⟨IRel.take (e := 2) (m := ((t + 1) / 16384 - 1)) hB' hr' (by omega) (by omega) (by omega) (by omega) (by first | omega | (simp [Pl.pw]; done) | (simp [Pl.pw]; omega) | (simp [Pl.pw] at *; omega)) (by first | omega | (simp [Pl.pw]; done) | (simp [Pl.pw]; omega) | (simp [Pl.pw] at *; omega)) (by first | omega | (simp [Pl.pw]; done) | (simp [Pl.pw]; omega) | (simp [Pl.pw] at *; omega)) (by omega) (by simp) (by omega), by simp [intOf]⟩
          · exact ⟨IRel.keep (e := 2) (m := ((t + 1) / 16384 - 1)) hB' hr' (by omega) (by omega) (by omega) (by omega) (by first | omega | (simp [Pl.pw]; done) | (simp [Pl.pw]; omega) | (simp [Pl.pw] at *; omega)) (by first | omega | (simp [Pl.pw]; done) | (simp [Pl.pw]; omega) | (simp [Pl.pw] at *; omega)) rfl rfl (by omega), by simp [intOf]⟩
    · by_cases hq : 255 < ((t + 1) / 2097152 - 1)
      · go_wp2_with (go_at_call 42; refine (targetFrom_any _ _ _ (by omega) (by omega) (by omega) (by omega)).mono ?_; rintro e w' ⟨rfl, rfl⟩)
        · exact ⟨IRel.take (e := 3) (m := 255) hB' hr' (by omega) (by omega) (by omega) (by omega) (by first | omega | (simp [Pl.pw]; done) | (simp [Pl.pw]; omega) | (simp [Pl.pw] at *; omega)) (by first | omega | (simp [Pl.pw]; done) | (simp [Pl.pw]; omega) | (simp [Pl.pw] at *; omega)) (by first | omega | (simp [Pl.pw]; done) | (simp [Pl.pw]; omega) | (simp [Pl.pw] at *; omega)) (by omega) (by simp) (by omega), by simp [intOf]⟩
        · exact ⟨IRel.keep (e := 3) (m := 255) hB' hr' (by omega) (by omega) (by omega) (by omega) (by first | omega | (simp [Pl.pw]; done) | (simp [Pl.pw]; omega) | (simp [Pl.pw] at *; omega)) (by first | omega | (simp [Pl.pw]; done) | (simp [Pl.pw]; omega) | (simp [Pl.pw] at *; omega)) rfl rfl (by omega), by simp [intOf]⟩
      · by_cases hq1 : ((t + 1) / 2097152 - 1) < 1
        · have hfin := Pl.Best.rest hB'.out (by omega) (by omega) (by simp [Pl.pw]; omega)
          have HF := Lib.hid hfin
          clear hfin
          by_cases hz : b = 0
          · subst hz
            go_wp2
            exact bodyPost_ret (v := ir 4 0) (by simp [results, Try.results17, go_sem]) rfl ⟨⟨0, HF.out, Or.inl ⟨rfl, rfl⟩⟩, (by repeat (first | exact Below.refl _ _ | assumption | refine Below.drew ?_ | refine Below_drewN ?_ _ | refine Below.alloc ?_ (by first | omega | (simp; done) | (simp; omega)) _ | refine Below.setCell ?_ (by first | omega | (simp; done) | (simp; omega)) _ | (refine Below.trans ?_ (Below.mono (by assumption) (by first | omega | (simp; done) | (simp; omega))))))⟩
          · have hz' : (b == 0) = false := by simp [hz]
            have hz2 := Lib.hid hz
            clear hz
            go_wp2
            exact bodyPost_ret (v := ir 0 b) (by simp [results, Try.results17, go_sem]) rfl ⟨⟨b, HF.out, Or.inr ⟨hz2.out, rfl⟩⟩, (by repeat (first | exact Below.refl _ _ | assumption | refine Below.drew ?_ | refine Below_drewN ?_ _ | refine Below.alloc ?_ (by first | omega | (simp; done) | (simp; omega)) _ | refine Below.setCell ?_ (by first | omega | (simp; done) | (simp; omega)) _ | (refine Below.trans ?_ (Below.mono (by assumption) (by first | omega | (simp; done) | (simp; omega))))))⟩
        · go_wp2_with (go_at_call 42; refine (targetFrom_any _ _ _ (by omega) (by omega) (by omega) (by omega)).mono ?_; rintro e w' ⟨rfl, rfl⟩)
          · exact ⟨IRel.take (e := 3) (m := ((t + 1) / 2097152 - 1)) hB' hr' (by omega) (by omega) (by omega) (by omega) (by first | omega | (simp [Pl.pw]; done) | (simp [Pl.pw]; omega) | (simp [Pl.pw] at *; omega)) (by first | omega | (simp [Pl.pw]; done) | (simp [Pl.pw]; omega) | (simp [Pl.pw] at *; omega)) (by first | omega | (simp [Pl.pw]; done) | (simp [Pl.pw]; omega) | (simp [Pl.pw] at *; omega)) (by omega) (by simp) (by omega), by simp [intOf]⟩
          · exact ⟨IRel.keep (e := 3) (m := ((t + 1) / 2097152 - 1)) hB' hr' (by omega) (by omega) (by omega) (by omega) (by first | omega | (simp [Pl.pw]; done) | (simp [Pl.pw]; omega) | (simp [Pl.pw] at *; omega)) (by first | omega | (simp [Pl.pw]; done) | (simp [Pl.pw]; omega) | (simp [Pl.pw] at *; omega)) rfl rfl (by omega), by simp [intOf]⟩

/-- Both answer the same. -/
theorem bitsAns_same {t a b : Int} {e : Ending} (ha : Pl.Best t 1024 a) (hb : Pl.Best t 1024 b) (h : bitsAns a e) : bitsAns b e := by
  rw [ha.uniq hb] at h; exact h

end Go.Proofs.Ytechmmppdciidaa
