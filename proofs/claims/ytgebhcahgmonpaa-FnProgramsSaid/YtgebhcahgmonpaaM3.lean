/-
  PLAIN FACTS for the laws of chapter 2: what locks open.
-/
import Derived.Test.YtgebhcahgmonpaaP8
namespace Go.Proofs.Ytgebhcahgmonpaa
open Go Go.Am Go.RowKit
set_option linter.unusedVariables false
theorem stepL_push {op : Int} {s : List Int} {t u : Int} (h : 100 ≤ op ∧ op ≤ 1099) (hl : s.length < 8) : step2 op s t u = (0, s ++ [op - 100]) := by
  have hn : needs op = 0 := by unfold needs; rw [if_neg (by omega), if_neg (by omega)]
  have ho : out2 op s t u = (0, s ++ [op - 100]) := by unfold out2; rw [if_pos hn]
  exact step2_fit (by omega) ho (by simp; omega)
theorem stepL_sign {r : List Int} {y x t u : Int} (hl : r.length ≤ 6) : step2 8 (r ++ [y] ++ [x]) t u = (0, r ++ [flagI (decide (inR 0 899 x) && decide (signF x t = y))]) := by
  have ho := out2_two (op := 8) r y x t u rfl
  rw [step2_fit (by simp [needs]) ho (by simp [two2]; omega)]
  simp [two2]
theorem stepL_verify {r : List Int} {x t u : Int} (hl : r.length ≤ 6) (hx : x ≠ 0) : step2 6 (r ++ [x]) t u = (0, r) := by
  have ho := out2_one (op := 6) r x t u rfl
  rw [step2_fit (by simp [needs]) ho (by simp [one2, hx]; omega)]
  simp [one2, hx]
theorem stepL_after {r : List Int} {x t u : Int} (hl : r.length ≤ 6) (hx : ¬ u < x) : step2 9 (r ++ [x]) t u = (0, r) := by
  have ho := out2_one (op := 9) r x t u rfl
  rw [step2_fit (by simp [needs]) ho (by simp [one2, hx]; omega)]
  simp [one2, hx]
theorem stepL_early {r : List Int} {x t u : Int} (hx : u < x) : step2 9 (r ++ [x]) t u = (8, []) := by
  have ho := out2_one (op := 9) r x t u rfl
  rw [step2_fit (by simp [needs]) ho (by simp [one2, hx])]
  simp [one2, hx]
theorem run_go {op : Int} {p s s' : List Int} {t u : Int} (h : step2 op s t u = (0, s')) : run2 t u (op :: p) s = run2 t u p s' := by rw [run2, h, if_pos rfl]
theorem run_stop {op c : Int} {p s : List Int} {t u : Int} (h : step2 op s t u = (c, [])) (hc : c ≠ 0) : run2 t u (op :: p) s = (c, []) := by rw [run2, h, if_neg hc]
theorem run_key (k s t u : Int) (hk : inR 0 899 k) (r : List Int) (p : List Int) (hl : r.length ≤ 5) : run2 t u ((100 + k) :: 8 :: p) (r ++ [s]) = run2 t u p (r ++ [flagI (decide (signF k t = s))]) := by
  have hk' := hk
  unfold inR at hk'
  rw [run_go (stepL_push ⟨by omega, by omega⟩ (by simp; omega)), show 100 + k - 100 = k by omega, run_go (stepL_sign (by omega)), decide_eq_true hk, Bool.true_and]
theorem flag_yes {b : Bool} (h : b = true) : flagI b = 1 := by rw [h]; rfl
theorem flag_no {b : Bool} (h : b = false) : flagI b = 0 := by rw [h]; rfl
/-- What may be run. -/
theorem runC_mk {p s : List Int} {t u : Int} (h1 : p.length ≤ 12) (h2 : opsB p = true) (h3 : s.length ≤ 8) (h4 : allB 0 9999 s = true) (h5 : inR 0 2147483646 t) (h6 : inR 0 9999 u) : runC p s t u = 0 := by
  have e1 : progC p = 0 := by unfold progC; rw [if_neg (by omega), if_pos h2]
  have e2 : stackC s = 0 := by unfold stackC; rw [if_neg (by omega), if_pos h4]
  unfold runC; rw [if_pos e1, if_pos e2, if_pos ⟨h5, h6⟩]
theorem opB_push {k : Int} (hk : 0 ≤ k ∧ k ≤ 999) : opB (100 + k) = true := by
  have h : inR 100 1099 (100 + k) := ⟨by omega, by omega⟩
  rw [opB_eq, decide_eq_true h, Bool.or_true]
theorem signs_in (k t : Int) : allB 0 9999 [signF k t] = true := by have := signF_bd k t; simp [allB]; omega
theorem prog_key {k : Int} (hk : inR 0 899 k) : progC [100 + k, 8] = 0 := by
  unfold inR at hk
  have : opsB [100 + k, 8] = true := by unfold opsB; simp [opB_push (k := k) (by omega)]; rfl
  unfold progC; rw [if_neg (by simp), if_pos this]
theorem opens_key (k s t : Int) (hk : inR 0 899 k) (ht : inR 0 2147483646 t) (hs : inR 0 9999 s) : opensB [100 + k, 8] [s] t 0 = decide (signF k t = s) := by
  have hp := prog_key hk
  have hops : opsB [100 + k, 8] = true := by unfold inR at hk; unfold opsB; simp [opB_push (k := k) (by omega)]; rfl
  have hc : runC [100 + k, 8] [s] t 0 = 0 := runC_mk (by simp) hops (by simp) (by unfold inR at hs; simp [allB]; omega) ht (by unfold inR; omega)
  have hr := run_key k s t 0 hk [] [] (by simp)
  rw [List.nil_append, List.nil_append, run2] at hr
  unfold opensB
  rw [hc, hr]
  by_cases h : signF k t = s
  · rw [decide_eq_true h]; rfl
  · rw [decide_eq_false h]; rfl
theorem opens_none (k t : Int) (hk : inR 0 899 k) (ht : inR 0 2147483646 t) : opensB [100 + k, 8] [] t 0 = false := by
  have hops : opsB [100 + k, 8] = true := by unfold inR at hk; unfold opsB; simp [opB_push (k := k) (by omega)]; rfl
  have hr : run2 t 0 [100 + k, 8] [] = (4, []) := by
    unfold inR at hk
    rw [run_go (stepL_push ⟨by omega, by omega⟩ (by simp)), run_stop (step2_few (by simp [needs])) (by decide)]
  unfold opensB
  rw [hr]
  have : topB (4, []) = false := rfl
  rw [this, Bool.and_false]
theorem prog_pair {a b : Int} (ha : inR 0 899 a) (hb : inR 0 899 b) : opsB [100 + a, 8, 6, 100 + b, 8] = true := by
  unfold inR at ha hb
  unfold opsB; simp [opB_push (k := a) (by omega), opB_push (k := b) (by omega)]; exact ⟨by decide, by decide⟩
theorem opens_pair (a b t : Int) (ha : inR 0 899 a) (hb : inR 0 899 b) (ht : inR 0 2147483646 t) : opensB [100 + a, 8, 6, 100 + b, 8] [signF b t, signF a t] t 0 = true := by
  have ba := signF_bd a t
  have bb := signF_bd b t
  have hc : runC [100 + a, 8, 6, 100 + b, 8] [signF b t, signF a t] t 0 = 0 := runC_mk (by simp) (prog_pair ha hb) (by simp) (by simp [allB]; omega) ht (by unfold inR; omega)
  have h1 := run_key a (signF a t) t 0 ha [signF b t] [6, 100 + b, 8] (by simp)
  rw [flag_yes (by simp), run_go (stepL_verify (by simp) (by decide))] at h1
  have h2 := run_key b (signF b t) t 0 hb [] [] (by simp)
  rw [flag_yes (by simp), List.nil_append, List.nil_append, run2] at h2
  unfold opensB
  rw [hc]
  rw [show ([signF b t, signF a t] : List Int) = [signF b t] ++ [signF a t] from rfl, h1, h2]
  rfl
theorem prog_later {k h : Int} (hk : inR 0 899 k) (hh : inR 0 999 h) : opsB [100 + h, 9, 100 + k, 8] = true := by
  unfold inR at hk hh
  unfold opsB; simp [opB_push (k := k) (by omega), opB_push (k := h) (by omega)]; exact ⟨by decide, by decide⟩
theorem opens_later (k h t : Int) (hk : inR 0 899 k) (hh : inR 0 999 h) (ht : inR 0 2147483646 t) : opensB [100 + h, 9, 100 + k, 8] [signF k t] t h = true := by
  have hh' := hh
  unfold inR at hh'
  have hc : runC [100 + h, 9, 100 + k, 8] [signF k t] t h = 0 := runC_mk (by simp) (prog_later hk hh) (by simp) (signs_in k t) ht (by unfold inR; omega)
  have h1 : run2 t h [100 + h, 9, 100 + k, 8] [signF k t] = run2 t h [100 + k, 8] [signF k t] := by
    rw [run_go (stepL_push ⟨by omega, by omega⟩ (by simp)), show 100 + h - 100 = h by omega, run_go (stepL_after (by simp) (by omega))]
  have h2 := run_key k (signF k t) t h hk [] [] (by simp)
  rw [flag_yes (by simp), List.nil_append, List.nil_append, run2] at h2
  unfold opensB
  rw [hc, h1, h2]; rfl
theorem opens_early (k h t : Int) (hk : inR 0 899 k) (hh : inR 0 999 h) : opensB [100 + h, 9, 100 + k, 8] [signF k t] t (h - 1) = false := by
  unfold inR at hh
  have h1 : run2 t (h - 1) [100 + h, 9, 100 + k, 8] [signF k t] = (8, []) := by
    rw [run_go (stepL_push ⟨by omega, by omega⟩ (by simp)), show 100 + h - 100 = h by omega, run_stop (stepL_early (by omega)) (by decide)]
  unfold opensB
  rw [h1]
  have : topB (8, []) = false := rfl
  rw [this, Bool.and_false]
/-- What a law reads of its bytes. -/
def atF (c : List Int) (i n : Int) : Int :=
  if n ≤ 1 then 0 else if c.length = 0 then (i * 7) % n else
  if 200 < n then ((c.getD (i % c.length).toNat 0 + i / c.length * 3) * 251 + c.getD ((i + 1) % c.length).toNat 0) % n
  else (c.getD (i % c.length).toNat 0 + i / c.length * 3) % n
theorem atF_bd (c : List Int) (i n : Int) (hn : 1 ≤ n) : 0 ≤ atF c i n ∧ atF c i n < n := by
  unfold atF
  split
  · omega
  · split
    · exact ⟨Int.emod_nonneg _ (by omega), Int.emod_lt_of_pos _ (by omega)⟩
    · split
      · exact ⟨Int.emod_nonneg _ (by omega), Int.emod_lt_of_pos _ (by omega)⟩
      · exact ⟨Int.emod_nonneg _ (by omega), Int.emod_lt_of_pos _ (by omega)⟩
def pickF (c : List Int) (a : Int) (zs : List Int) : Int := zs.getD (nextF c a zs.length).toNat 0
theorem pickF_at (c : List Int) (a : Int) (zs : List Int) (hz : zs ≠ []) : (nextF c a zs.length).toNat < zs.length ∧ ((nextF c a zs.length).toNat : Int) = nextF c a zs.length := by
  have hp : 0 < zs.length := List.length_pos_iff.2 hz
  have := nextF_bd c a zs.length (by omega)
  omega
end Go.Proofs.Ytgebhcahgmonpaa
