/-
  PLAIN FACTS ON NUMBERS for chapter 1 (bits, targets, work): no program is imported.
-/
import Derived.IntWalk
import Derived.RowKit
namespace Go.Proofs.Ytechmmppdciidaa.Pl
open Go.RowKit
set_option linter.unusedVariables false

/-- The target of bits. -/
def tg (v : Int) : Int := (v % 256 + 1) * 2 ^ (7 * (v / 256)).toNat - 1
def okP (v : Int) : Prop := 1 ≤ v ∧ v ≤ 1023 ∧ 0 < v % 256
def okB (v : Int) : Bool := decide (1 ≤ v) && decide (v ≤ 1023) && decide (0 < v % 256)
theorem okB_true {v : Int} : okB v = true ↔ okP v := by unfold okB okP; simp [and_assoc]
theorem okB_false {v : Int} : okB v = false ↔ ¬ okP v := by rw [← okB_true]; simp

theorem pow_cases (v : Int) (h0 : 0 ≤ v) (h1 : v ≤ 1023) : (v / 256 = 0 ∧ (2 ^ (7 * (v / 256)).toNat : Int) = 1) ∨ (v / 256 = 1 ∧ (2 ^ (7 * (v / 256)).toNat : Int) = 128) ∨ (v / 256 = 2 ∧ (2 ^ (7 * (v / 256)).toNat : Int) = 16384) ∨ (v / 256 = 3 ∧ (2 ^ (7 * (v / 256)).toNat : Int) = 2097152) := by
  have : v / 256 = 0 ∨ v / 256 = 1 ∨ v / 256 = 2 ∨ v / 256 = 3 := by omega
  rcases this with h | h | h | h <;> rw [h] <;> simp

/-- The target, exponent by exponent. -/
theorem tg_cases (v : Int) (h0 : 0 ≤ v) (h1 : v ≤ 1023) : (v / 256 = 0 ∧ tg v = v % 256) ∨ (v / 256 = 1 ∧ tg v = (v % 256 + 1) * 128 - 1) ∨ (v / 256 = 2 ∧ tg v = (v % 256 + 1) * 16384 - 1) ∨ (v / 256 = 3 ∧ tg v = (v % 256 + 1) * 2097152 - 1) := by
  unfold tg
  rcases pow_cases v h0 h1 with ⟨h, e⟩ | ⟨h, e⟩ | ⟨h, e⟩ | ⟨h, e⟩ <;> rw [e] <;> omega

theorem tg_bd (v : Int) (h0 : 0 ≤ v) (h1 : v ≤ 1023) : 0 ≤ tg v ∧ tg v ≤ 536870911 := by
  rcases tg_cases v h0 h1 with ⟨h, e⟩ | ⟨h, e⟩ | ⟨h, e⟩ | ⟨h, e⟩ <;> rw [e] <;> omega

theorem tg_wrapA (v : Int) (h0 : 0 ≤ v) (h1 : v ≤ 1023) : wrap64 (wrap64 ((v % 256 + 1) * 2 ^ (7 * (v / 256)).toNat) - 1) = tg v := by
  unfold tg wrap64
  rcases pow_cases v h0 h1 with ⟨h, e⟩ | ⟨h, e⟩ | ⟨h, e⟩ | ⟨h, e⟩ <;> rw [e] <;> omega

theorem tg_wrapB (v : Int) (h0 : 0 ≤ v) (h1 : v ≤ 1023) : wrap64 (wrap64 (wrap64 (v % 256 * 2 ^ (7 * (v / 256)).toNat) + wrap64 (2 ^ (7 * (v / 256)).toNat)) - 1) = tg v := by
  unfold tg wrap64
  rcases pow_cases v h0 h1 with ⟨h, e⟩ | ⟨h, e⟩ | ⟨h, e⟩ | ⟨h, e⟩ <;> rw [e] <;> omega

/-- What 'TargetOf' answers. -/
def targetC (v : Int) : Int := if okB v then 0 else 3
def targetV (v : Int) : Int := if okB v then tg v else 0
/-- What 'WorkOf' answers. -/
def workV (v : Int) : Int := if okB v then max 1 (2147483647 / (tg v + 1)) else 0

/-- What the search for bits has found among those below k. -/
def Best (t k b : Int) : Prop :=
  (b = 0 ∧ ∀ j, okP j → j < k → t < tg j) ∨
  (okP b ∧ b < k ∧ tg b ≤ t ∧ ∀ j, okP j → j < k → tg j ≤ t → tg j ≤ tg b ∧ (tg j = tg b → b ≤ j))

theorem Best.uniq {t k a b : Int} (ha : Best t k a) (hb : Best t k b) : a = b := by
  rcases ha with ⟨ha, pa⟩ | ⟨oa, la, ta, pa⟩ <;> rcases hb with ⟨hb, pb⟩ | ⟨ob, lb, tb, pb⟩
  · omega
  · have := pa b ob lb; omega
  · have := pb a oa la; omega
  · have h1 := pa b ob lb tb
    have h2 := pb a oa la ta
    have h3 := h1.2 (by omega)
    have h4 := h2.2 (by omega)
    omega

theorem Best.start (t : Int) : Best t 1 0 := Or.inl ⟨rfl, fun j hj hk => by unfold okP at hj; omega⟩

theorem Best.skip {t k b : Int} (h : Best t k b) (hn : okP k → t < tg k) : Best t (k + 1) b := by
  rcases h with ⟨hb, p⟩ | ⟨ob, lb, tb, p⟩
  · refine Or.inl ⟨hb, fun j hj hk => ?_⟩
    by_cases e : j = k
    · subst e; exact hn hj
    · exact p j hj (by omega)
  · refine Or.inr ⟨ob, by omega, tb, fun j hj hk ht => ?_⟩
    by_cases e : j = k
    · subst e; have := hn hj; omega
    · exact p j hj (by omega) ht

theorem Best.low {t k b : Int} (h : Best t k b) (hb0 : b ≠ 0) (hn : tg k ≤ tg b) : Best t (k + 1) b := by
  rcases h with ⟨hb, p⟩ | ⟨ob, lb, tb, p⟩
  · omega
  · refine Or.inr ⟨ob, by omega, tb, fun j hj hk ht => ?_⟩
    by_cases e : j = k
    · subst e; exact ⟨hn, fun _ => by omega⟩
    · exact p j hj (by omega) ht

theorem Best.take {t k b : Int} (h : Best t k b) (ok : okP k) (ht : tg k ≤ t) (hn : b = 0 ∨ tg b < tg k) : Best t (k + 1) k := by
  refine Or.inr ⟨ok, by omega, ht, fun j hj hk htj => ?_⟩
  by_cases e : j = k
  · subst e; exact ⟨by omega, fun _ => by omega⟩
  · rcases h with ⟨hb, p⟩ | ⟨ob, lb, tb, p⟩
    · have := p j hj (by omega); omega
    · have hq := p j hj (by omega) htj
      have hn' : tg b < tg k := by
        rcases hn with h0 | h0
        · unfold okP at ob; omega
        · exact h0
      exact ⟨by omega, fun h => by omega⟩

theorem Best.zero_or {t k b : Int} (h : Best t k b) : b = 0 ∨ okP b := by
  rcases h with ⟨hb, _⟩ | ⟨ob, _⟩
  · exact Or.inl hb
  · exact Or.inr ob

/-- The powers, as the search shifts by them. -/
def pw (e : Int) : Int := if e = 0 then 1 else if e = 1 then 128 else if e = 2 then 16384 else 2097152

theorem tg_at (e m : Int) (h0 : 0 ≤ e) (h1 : e ≤ 3) (hm0 : 1 ≤ m) (hm1 : m ≤ 255) : tg (256 * e + m) = (m + 1) * pw e - 1 := by
  have hq : (256 * e + m) / 256 = e := by omega
  have hr : (256 * e + m) % 256 = m := by omega
  have he : e = 0 ∨ e = 1 ∨ e = 2 ∨ e = 3 := by omega
  rcases tg_cases (256 * e + m) (by omega) (by omega) with ⟨h, k⟩ | ⟨h, k⟩ | ⟨h, k⟩ | ⟨h, k⟩ <;> rw [k, hr] <;> (obtain rfl := hq.symm.trans h) <;> simp [pw]

theorem Best.block_take {t e m b : Int} (h : Best t (256 * e) b) (h0 : 0 ≤ e) (h1 : e ≤ 3) (hm0 : 1 ≤ m) (hm1 : m ≤ 255)
    (hle : (m + 1) * pw e - 1 ≤ t) (hmax : m = 255 ∨ t < (m + 2) * pw e - 1) (hn : b = 0 ∨ tg b < (m + 1) * pw e - 1) : Best t (256 * (e + 1)) (256 * e + m) := by
  have ec : tg (256 * e + m) = (m + 1) * pw e - 1 := tg_at e m h0 h1 hm0 hm1
  refine Or.inr ⟨by unfold okP; omega, by omega, by omega, fun j hj hk ht => ?_⟩
  by_cases hlow : j < 256 * e
  · rcases h with ⟨hb, p⟩ | ⟨ob, lb, tb, p⟩
    · have := p j hj hlow; omega
    · have q := p j hj hlow ht
      have hn' : tg b < (m + 1) * pw e - 1 := by
        rcases hn with h0' | h0'
        · unfold okP at ob; omega
        · exact h0'
      exact ⟨by omega, fun h => by omega⟩
  · obtain ⟨n, rfl⟩ : ∃ n, j = 256 * e + n := ⟨j - 256 * e, by omega⟩
    unfold okP at hj
    have en := tg_at e n h0 h1 (by omega) (by omega)
    rw [en] at ht ⊢
    rw [ec]
    have he : e = 0 ∨ e = 1 ∨ e = 2 ∨ e = 3 := by omega
    rcases he with rfl | rfl | rfl | rfl <;> simp [pw] at * <;> omega

theorem Best.block_keep {t e m b : Int} (h : Best t (256 * e) b) (h0 : 0 ≤ e) (h1 : e ≤ 3) (hm0 : 1 ≤ m) (hm1 : m ≤ 255)
    (hmax : m = 255 ∨ t < (m + 2) * pw e - 1) (hb0 : b ≠ 0) (hn : (m + 1) * pw e - 1 ≤ tg b) : Best t (256 * (e + 1)) b := by
  rcases h with ⟨hb, p⟩ | ⟨ob, lb, tb, p⟩
  · omega
  refine Or.inr ⟨ob, by omega, tb, fun j hj hk ht => ?_⟩
  by_cases hlow : j < 256 * e
  · exact p j hj hlow ht
  · obtain ⟨n, rfl⟩ : ∃ n, j = 256 * e + n := ⟨j - 256 * e, by omega⟩
    unfold okP at hj
    have en := tg_at e n h0 h1 (by omega) (by omega)
    rw [en] at ht ⊢
    refine ⟨?_, fun _ => by omega⟩
    have he : e = 0 ∨ e = 1 ∨ e = 2 ∨ e = 3 := by omega
    rcases he with rfl | rfl | rfl | rfl <;> simp [pw] at * <;> omega

theorem Best.rest {t e b : Int} (h : Best t (256 * e) b) (h0 : 0 ≤ e) (h1 : e ≤ 3) (hlow : t < 2 * pw e - 1) : Best t 1024 b := by
  have key : ∀ j, okP j → 256 * e ≤ j → t < tg j := by
    intro j hj hk
    obtain ⟨f, n, rfl, hn0, hn1⟩ : ∃ f n, j = 256 * f + n ∧ 1 ≤ n ∧ n ≤ 255 := ⟨j / 256, j % 256, by omega, by unfold okP at hj; omega, by omega⟩
    unfold okP at hj
    rw [tg_at f n (by omega) (by omega) hn0 hn1]
    have he : e = 0 ∨ e = 1 ∨ e = 2 ∨ e = 3 := by omega
    have hf : f = 0 ∨ f = 1 ∨ f = 2 ∨ f = 3 := by omega
    rcases he with rfl | rfl | rfl | rfl <;> rcases hf with rfl | rfl | rfl | rfl <;> simp [pw] at * <;> omega
  rcases h with ⟨hb, p⟩ | ⟨ob, lb, tb, p⟩
  · refine Or.inl ⟨hb, fun j hj hk => ?_⟩
    by_cases hl : j < 256 * e
    · exact p j hj hl
    · exact key j hj (by omega)
  · refine Or.inr ⟨ob, by omega, tb, fun j hj hk ht => ?_⟩
    by_cases hl : j < 256 * e
    · exact p j hj hl ht
    · have := key j hj (by omega); omega

theorem Best.zero (t : Int) : Best t 0 0 := Or.inl ⟨rfl, fun j hj hk => by unfold okP at hj; omega⟩

/-- There is always a best one. -/
theorem Best.exists (t : Int) : ∀ k : Nat, ∃ b, Best t (k + 1) b
  | 0 => ⟨0, Best.start t⟩
  | k + 1 => by
    obtain ⟨b, h⟩ := Best.exists t k
    by_cases hok : okP ((k : Int) + 1)
    · by_cases ht : tg ((k : Int) + 1) ≤ t
      · by_cases hb : b = 0
        · exact ⟨_, h.take hok ht (Or.inl hb)⟩
        · by_cases hg : tg b < tg ((k : Int) + 1)
          · exact ⟨_, h.take hok ht (Or.inr hg)⟩
          · exact ⟨b, h.low hb (by omega)⟩
      · exact ⟨b, h.skip (fun _ => by omega)⟩
    · exact ⟨b, h.skip (fun h => absurd h hok)⟩

/-- The target of bits is told back. -/
theorem Best.back {v b : Int} (hv : okP v) (h : Best (tg v) 1024 b) : okP b ∧ tg b = tg v := by
  rcases h with ⟨_, p⟩ | ⟨ob, lb, tb, p⟩
  · have := p v hv (by unfold okP at hv; omega); omega
  · have := p v hv (by unfold okP at hv; omega) (by omega)
    exact ⟨ob, by omega⟩

theorem tg_pos {v : Int} (hv : okP v) : 1 ≤ tg v ∧ tg v ≤ 536870911 := by
  unfold okP at hv
  rcases tg_cases v (by omega) (by omega) with ⟨h, e⟩ | ⟨h, e⟩ | ⟨h, e⟩ | ⟨h, e⟩ <;> rw [e] <;> omega

/-- Less target is more work. -/
theorem work_le {v u : Int} (hv : okP v) (hu : okP u) (h : tg v ≤ tg u) : workV u ≤ workV v := by
  have a := tg_pos hv
  have b := tg_pos hu
  simp only [workV, okB_true.2 hv, okB_true.2 hu, if_true]
  have k : (2147483647 : Int) / (tg u + 1) ≤ 2147483647 / (tg v + 1) := by
    apply Int.le_ediv_of_mul_le (by omega)
    have h1 := Int.ediv_mul_le (2147483647 : Int) (b := tg u + 1) (by omega)
    have h2 : 0 ≤ (2147483647 : Int) / (tg u + 1) := Int.ediv_nonneg (by omega) (by omega)
    have h3 : (2147483647 : Int) / (tg u + 1) * (tg v + 1) ≤ (2147483647 : Int) / (tg u + 1) * (tg u + 1) := Int.mul_le_mul_of_nonneg_left (by omega) h2
    omega
  omega
theorem work_pos {v : Int} (hv : okP v) : 1 ≤ workV v := by simp only [workV, okB_true.2 hv, if_true]; omega

end Go.Proofs.Ytechmmppdciidaa.Pl
