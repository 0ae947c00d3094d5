/-
  PLAIN FACTS ON NUMBERS for chapter 1 (bits, targets, work): no program is imported.
-/
import Derived.IntWalk
import Derived.RowKit
namespace Go.Proofs.Ytechmmppdciidaa.Pl
open Go.RowKit
set_option linter.unusedVariables false

/-- The target of bits. -/
def tg (v : Int) : Int := (v % 256 + 1) * 2 ^ (7 * (v / 256)).toNat - 1
def okP (v : Int) : Prop := 1 ≤ v ∧ v ≤ 1023 ∧ 0 < v % 256
def okB (v : Int) : Bool := decide (1 ≤ v) && decide (v ≤ 1023) && decide (0 < v % 256)
theorem okB_true {v : Int} : okB v = true ↔ okP v := by unfold okB okP; simp [and_assoc]
theorem okB_false {v : Int} : okB v = false ↔ ¬ okP v := by rw [← okB_true]; simp

theorem pow_cases (v : Int) (h0 : 0 ≤ v) (h1 : v ≤ 1023) : (v / 256 = 0 ∧ (2 ^ (7 * (v / 256)).toNat : Int) = 1) ∨ (v / 256 = 1 ∧ (2 ^ (7 * (v / 256)).toNat : Int) = 128) ∨ (v / 256 = 2 ∧ (2 ^ (7 * (v / 256)).toNat : Int) = 16384) ∨ (v / 256 = 3 ∧ (2 ^ (7 * (v / 256)).toNat : Int) = 2097152) := by
  have : v / 256 = 0 ∨ v / 256 = 1 ∨ v / 256 = 2 ∨ v / 256 = 3 := by omega
  rcases this with h | h | h | h <;> rw [h] <;> simp

/-- The target, exponent by exponent. -/
theorem tg_cases (v : Int) (h0 : 0 ≤ v) (h1 : v ≤ 1023) : (v / 256 = 0 ∧ tg v = v % 256) ∨ (v / 256 = 1 ∧ tg v = (v % 256 + 1) * 128 - 1) ∨ (v / 256 = 2 ∧ tg v = (v % 256 + 1) * 16384 - 1) ∨ (v / 256 = 3 ∧ tg v = (v % 256 + 1) * 2097152 - 1) := by
  unfold tg
  rcases pow_cases v h0 h1 with ⟨h, e⟩ | ⟨h, e⟩ | ⟨h, e⟩ | ⟨h, e⟩ <;> rw [e] <;> omega

theorem tg_bd (v : Int) (h0 : 0 ≤ v) (h1 : v ≤ 1023) : 0 ≤ tg v ∧ tg v ≤ 536870911 := by
  rcases tg_cases v h0 h1 with ⟨h, e⟩ | ⟨h, e⟩ | ⟨h, e⟩ | ⟨h, e⟩ <;> rw [e] <;> omega

theorem tg_wrapA (v : Int) (h0 : 0 ≤ v) (h1 : v ≤ 1023) : wrap64 (wrap64 ((v % 256 + 1) * 2 ^ (7 * (v / 256)).toNat) - 1) = tg v := by
  unfold tg wrap64
  rcases pow_cases v h0 h1 with ⟨h, e⟩ | ⟨h, e⟩ | ⟨h, e⟩ | ⟨h, e⟩ <;> rw [e] <;> omega

theorem tg_wrapB (v : Int) (h0 : 0 ≤ v) (h1 : v ≤ 1023) : wrap64 (wrap64 (wrap64 (v % 256 * 2 ^ (7 * (v / 256)).toNat) + wrap64 (2 ^ (7 * (v / 256)).toNat)) - 1) = tg v := by
  unfold tg wrap64
  rcases pow_cases v h0 h1 with ⟨h, e⟩ | ⟨h, e⟩ | ⟨h, e⟩ | ⟨h, e⟩ <;> rw [e] <;> omega

/-- What 'TargetOf' answers. -/
def targetC (v : Int) : Int := if okB v then 0 else 3
def targetV (v : Int) : Int := if okB v then tg v else 0
/-- What 'WorkOf' answers. -/
def workV (v : Int) : Int := if okB v then max 1 (2147483647 / (tg v + 1)) else 0

/-- What the search for bits has found among those below k. -/
def Best (t k b : Int) : Prop :=
  (b = 0 ∧ ∀ j, okP j → j < k → t < tg j) ∨
  (okP b ∧ b < k ∧ tg b ≤ t ∧ ∀ j, okP j → j < k → tg j ≤ t → tg j ≤ tg b ∧ (tg j = tg b → b ≤ j))

theorem Best.uniq {t k a b : Int} (ha : Best t k a) (hb : Best t k b) : a = b := by
  rcases ha with ⟨ha, pa⟩ | ⟨oa, la, ta, pa⟩ <;> rcases hb with ⟨hb, pb⟩ | ⟨ob, lb, tb, pb⟩
  · omega
  · have := pa b ob lb; omega
  · have := pb a oa la; omega
  · have h1 := pa b ob lb tb
    have h2 := pb a oa la ta
    have h3 := h1.2 (by omega)
    have h4 := h2.2 (by omega)
    omega

theorem Best.start (t : Int) : Best t 1 0 := Or.inl ⟨rfl, fun j hj hk => by unfold okP at hj; omega⟩

theorem Best.skip {t k b : Int} (h : Best t k b) (hn : okP k → t < tg k) : Best t (k + 1) b := by
  rcases h with ⟨hb, p⟩ | ⟨ob, lb, tb, p⟩
  · refine Or.inl ⟨hb, fun j hj hk => ?_⟩
    by_cases e : j = k
    · subst e; exact hn hj
    · exact p j hj (by omega)
  · refine Or.inr ⟨ob, by omega, tb, fun j hj hk ht => ?_⟩
    by_cases e : j = k
    · subst e; have := hn hj; omega
    · exact p j hj (by omega) ht

theorem Best.low {t k b : Int} (h : Best t k b) (hb0 : b ≠ 0) (hn : tg k ≤ tg b) : Best t (k + 1) b := by
  rcases h with ⟨hb, p⟩ | ⟨ob, lb, tb, p⟩
  · omega
  · refine Or.inr ⟨ob, by omega, tb, fun j hj hk ht => ?_⟩
    by_cases e : j = k
    · subst e; exact ⟨hn, fun _ => by omega⟩
    · exact p j hj (by omega) ht

theorem Best.take {t k b : Int} (h : Best t k b) (ok : okP k) (ht : tg k ≤ t) (hn : b = 0 ∨ tg b < tg k) : Best t (k + 1) k := by
  refine Or.inr ⟨ok, by omega, ht, fun j hj hk htj => ?_⟩
  by_cases e : j = k
  · subst e; exact ⟨by omega, fun _ => by omega⟩
  · rcases h with ⟨hb, p⟩ | ⟨ob, lb, tb, p⟩
    · have := p j hj (by omega); omega
    · have hq := p j hj (by omega) htj
      have hn' : tg b < tg k := by
        rcases hn with h0 | h0
        · unfold okP at ob; omega
        · exact h0
      exact ⟨by omega, fun h => by omega⟩

theorem Best.zero_or {t k b : Int} (h : Best t k b) : b = 0 ∨ okP b := by
  rcases h with ⟨hb, _⟩ | ⟨ob, _⟩
  · exact Or.inl hb
  · exact Or.inr ob

/-- The powers, as the search shifts by them. -/
def pw (e : Int) : Int := if e = 0 then 1 else if e = 1 then 128 else if e = 2 then 16384 else 2097152

theorem tg_at (e m : Int) (h0 : 0 ≤ e) (h1 : e ≤ 3) (hm0 : 1 ≤ m) (hm1 : m ≤ 255) : tg (256 * e + m) = (m + 1) * pw e - 1 := by
  have hq : (256 * e + m) / 256 = e := by omega
  have hr : (256 * e + m) % 256 = m := by omega
  have he : e = 0 ∨ e = 1 ∨ e = 2 ∨ e = 3 := by omega
  rcases tg_cases (256 * e + m) (by omega) (by omega) with ⟨h, k⟩ | ⟨h, k⟩ | ⟨h, k⟩ | ⟨h, k⟩ <;> rw [k, hr] <;> (obtain rfl := hq.symm.trans h) <;> simp [pw]

theorem Best.block_take {t e m b : Int} (h : Best t (256 * e) b) (h0 : 0 ≤ e) (h1 : e ≤ 3) (hm0 : 1 ≤ m) (hm1 : m ≤ 255)
    (hle : (m + 1) * pw e - 1 ≤ t) (hmax : m = 255 ∨ t < (m + 2) * pw e - 1) (hn : b = 0 ∨ tg b < (m + 1) * pw e - 1) : Best t (256 * (e + 1)) (256 * e + m) := by
  have ec : tg (256 * e + m) = (m + 1) * pw e - 1 := tg_at e m h0 h1 hm0 hm1
  refine Or.inr ⟨by unfold okP; omega, by omega, by omega, fun j hj hk ht => ?_⟩
  by_cases hlow : j < 256 * e
  · rcases h with ⟨hb, p⟩ | ⟨ob, lb, tb, p⟩
    · have := p j hj hlow; omega
    · have q := p j hj hlow ht
      have hn' : tg b < (m + 1) * pw e - 1 := by
        rcases hn with h0' | h0'
        · unfold okP at ob; omega
        · exact h0'
      exact ⟨by omega, fun h => by omega⟩
  · obtain ⟨n, rfl⟩ : ∃ n, j = 256 * e + n := ⟨j - 256 * e, by omega⟩
    unfold okP at hj
    have en := tg_at e n h0 h1 (by omega) (by omega)
    rw [en] at ht ⊢
    rw [ec]
    have he : e = 0 ∨ e = 1 ∨ e = 2 ∨ e = 3 := by omega
    rcases he with rfl | rfl | rfl | rfl <;> simp [pw] at * <;> omega

theorem Best.block_keep {t e m b : Int} (h : Best t (256 * e) b) (h0 : 0 ≤ e) (h1 : e ≤ 3) (hm0 : 1 ≤ m) (hm1 : m ≤ 255)
    (hmax : m = 255 ∨ t < (m + 2) * pw e - 1) (hb0 : b ≠ 0) (hn : (m + 1) * pw e - 1 ≤ tg b) : Best t (256 * (e + 1)) b := by
  rcases h with ⟨hb, p⟩ | ⟨ob, lb, tb, p⟩
  · omega
  refine Or.inr ⟨ob, by omega, tb, fun j hj hk ht => ?_⟩
  by_cases hlow : j < 256 * e
  · exact p j hj hlow ht
  · obtain ⟨n, rfl⟩ : ∃ n, j = 256 * e + n := ⟨j - 256 * e, by omega⟩
    unfold okP at hj
    have en := tg_at e n h0 h1 (by omega) (by omega)
    rw [en] at ht ⊢
    refine ⟨?_, fun _ => by omega⟩
    have he : e = 0 ∨ e = 1 ∨ e = 2 ∨ e = 3 := by omega
    rcases he with rfl | rfl | rfl | rfl <;> simp [pw] at * <;> omega

theorem Best.rest {t e b : Int} (h : Best t (256 * e) b) (h0 : 0 ≤ e) (h1 : e ≤ 3) (hlow : t < 2 * pw e - 1) : Best t 1024 b := by
  have key : ∀ j, okP j → 256 * e ≤ j → t < tg j := by
    intro j hj hk
    obtain ⟨f, n, rfl, hn0, hn1⟩ : ∃ f n, j = 256 * f + n ∧ 1 ≤ n ∧ n ≤ 255 := ⟨j / 256, j % 256, by omega, by unfold okP at hj; omega, by omega⟩
    unfold okP at hj
    rw [tg_at f n (by omega) (by omega) hn0 hn1]
    have he : e = 0 ∨ e = 1 ∨ e = 2 ∨ e = 3 := by omega
    have hf : f = 0 ∨ f = 1 ∨ f = 2 ∨ f = 3 := by omega
    rcases he with rfl | rfl | rfl | rfl <;> rcases hf with rfl | rfl | rfl | rfl <;> simp [pw] at * <;> omega
  rcases h with ⟨hb, p⟩ | ⟨ob, lb, tb, p⟩
  · refine Or.inl ⟨hb, fun j hj hk => ?_⟩
    by_cases hl : j < 256 * e
    · exact p j hj hl
    · exact key j hj (by omega)
  · refine Or.inr ⟨ob, by omega, tb, fun j hj hk ht => ?_⟩
    by_cases hl : j < 256 * e
    · exact p j hj hl ht
    · have := key j hj (by omega); omega

theorem Best.zero (t : Int) : Best t 0 0 := Or.inl ⟨rfl, fun j hj hk => by unfold okP at hj; omega⟩

end Go.Proofs.Ytechmmppdciidaa.Pl
