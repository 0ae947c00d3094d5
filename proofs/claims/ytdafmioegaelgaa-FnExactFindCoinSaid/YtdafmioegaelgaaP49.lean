/-
  CHAPTER 5: coins in a map.
-/
import Derived.Test.YtdafmioegaelgaaP42
namespace Go.Proofs.Ytdafmioegaelgaa
open Go Go.Am Go.RowKit
set_option linter.unusedVariables false
set_option linter.unusedSimpArgs false
abbrev kvC (c : CoinD) : List KV := [.int c.tx, .int c.out]
def mapF (l : List CoinD) : List (List KV × AV) := l.foldl (fun m c => putM (kvC c) (coinV c) m) []
theorem mapF_succ (l : List CoinD) (k : Nat) (h : k < l.length) : mapF (l.take (k + 1)) = putM (kvC l[k]) (coinV l[k]) (mapF (l.take k)) := by
  unfold mapF; rw [takeS l k h, List.foldl_append]; rfl
abbrev kks : List KK := [.int .i64, .int .i64]
theorem leafM {ks : List KK} {x y : List (List KV × AV)} (h : x = y) : some (AObj.map ks x) = some (AObj.map ks y) := by rw [h]
theorem setOfCoins_ret (l : List CoinD) (n : Nat) (hl : l.length ≤ 1048576) : Ret Try.prog 68 [coinsV l] [] n true (Is (.mp n) [(n, .map kks (mapF l))] (n + 1)) := by
  have hL : (l.map coinRow).length = l.length := by simp
  refine Ret.fn ttOk Try.func68 rfl Try.call68 rfl rfl ?_
  conv => whnf
  repeat' first
    | (refine CondP.yes ?_; conv => whnf)
    | (refine CondP.not ?_; conv => whnf)
    | ((first | refine CondP.dec (fun h => ?_) (fun h => ?_) | refine CondP.ndec (fun h => ?_) (fun h => ?_)) <;> first | (exfalso; first | omega | exact h (by assumption) | exact absurd h (by assumption)) | (conv => whnf))
    | (refine Both.mk ?_ ?_ <;> (conv => whnf))
    | (refine Keep.mk (by repeat' first | exact trivial | rfl | refine And.intro ?_ ?_) ?_; conv => whnf)
    | (refine And.intro (by first | decide | omega) ?_; conv => whnf)
    | fail
  refine LoopP.go (fun k : Nat => k ≤ l.length) (fun k => ⟨[(3, .mp 0), (9, coinsV l), (10, iv l.length), (11, iv k)], [(0, .map kks (mapF (l.take k)))], 1⟩) (fun k => l.length - k) 0 (Nat.zero_le _) ?_ ?_
  · rw [hL]
    exact Weak.of rfl rfl ⟨⟨rfl, rfl⟩, ⟨rfl, rfl⟩, ⟨rfl, rfl⟩, ⟨rfl, rfl⟩, trivial⟩ ⟨⟨rfl, rfl, rfl⟩, trivial⟩
  intro k hk
  conv => whnf
  repeat' first
    | (refine CondP.yes ?_; conv => whnf)
    | (refine CondP.not ?_; conv => whnf)
    | ((first | refine CondP.dec (fun h => ?_) (fun h => ?_) | refine CondP.ndec (fun h => ?_) (fun h => ?_)) <;> first | (exfalso; first | omega | exact h (by assumption) | exact absurd h (by assumption)) | (conv => whnf))
    | (refine Both.mk ?_ ?_ <;> (conv => whnf))
    | (refine Keep.mk (by repeat' first | exact trivial | rfl | refine And.intro ?_ ?_) ?_; conv => whnf)
    | (refine And.intro (by first | decide | omega) ?_; conv => whnf)
    | fail
  · have hlt : k < l.length := by omega
    rw [rowK coinRow l k hlt]
    refine ⟨by rw [hL]; exact ⟨by omega, by omega, rfl⟩, ?_⟩
    conv => whnf
    repeat' first
      | (refine CondP.yes ?_; conv => whnf)
      | (refine CondP.not ?_; conv => whnf)
      | ((first | refine CondP.dec (fun h => ?_) (fun h => ?_) | refine CondP.ndec (fun h => ?_) (fun h => ?_)) <;> first | (exfalso; first | omega | exact h (by assumption) | exact absurd h (by assumption)) | (conv => whnf))
      | (refine Both.mk ?_ ?_ <;> (conv => whnf))
      | (refine Keep.mk (by repeat' first | exact trivial | rfl | refine And.intro ?_ ?_) ?_; conv => whnf)
      | (refine And.intro (by first | decide | omega) ?_; conv => whnf)
      | fail
    first | refine CallP.is (keyOfCoin_ret l[k] _) rfl ?_ | refine CallQ.is (keyOfCoin_ret l[k] _) rfl rfl ?_
    conv => whnf
    repeat' first
      | (refine CondP.yes ?_; conv => whnf)
      | (refine CondP.not ?_; conv => whnf)
      | ((first | refine CondP.dec (fun h => ?_) (fun h => ?_) | refine CondP.ndec (fun h => ?_) (fun h => ?_)) <;> first | (exfalso; first | omega | exact h (by assumption) | exact absurd h (by assumption)) | (conv => whnf))
      | (refine Both.mk ?_ ?_ <;> (conv => whnf))
      | (refine Keep.mk (by repeat' first | exact trivial | rfl | refine And.intro ?_ ?_) ?_; conv => whnf)
      | (refine And.intro (by first | decide | omega) ?_; conv => whnf)
      | fail
    refine ⟨True.intro, ?_⟩
    conv => whnf
    repeat' first
      | (refine CondP.yes ?_; conv => whnf)
      | (refine CondP.not ?_; conv => whnf)
      | ((first | refine CondP.dec (fun h => ?_) (fun h => ?_) | refine CondP.ndec (fun h => ?_) (fun h => ?_)) <;> first | (exfalso; first | omega | exact h (by assumption) | exact absurd h (by assumption)) | (conv => whnf))
      | (refine Both.mk ?_ ?_ <;> (conv => whnf))
      | (refine Keep.mk (by repeat' first | exact trivial | rfl | refine And.intro ?_ ?_) ?_; conv => whnf)
      | (refine And.intro (by first | decide | omega) ?_; conv => whnf)
      | fail
    exact ⟨k + 1, by omega, by omega, Weak.of rfl rfl ⟨⟨rfl, rfl⟩, ⟨rfl, rfl⟩, ⟨rfl, rfl⟩, ⟨leafI (by first | rfl | omega | (simp (disch := omega) only [Int.reduceToNat, IntKind.bits, Nat.min_eq_left, Int.reducePow, IntWalk.i64_in, IntWalk.rem_in, IntWalk.i64_quo, IntWalk.u8_in, IntWalk.u32_in, IntWalk.u64_in]; done) | (simp (disch := omega) only [Int.reduceToNat, IntKind.bits, Nat.min_eq_left, Int.reducePow, IntWalk.i64_in, IntWalk.rem_in, IntWalk.i64_quo, IntWalk.u8_in, IntWalk.u32_in, IntWalk.u64_in]; omega)), rfl⟩, trivial⟩ ⟨⟨leafM (by rw [mapF_succ l k hlt]), rfl, rfl⟩, trivial⟩⟩
  · obtain rfl : k = l.length := by omega
    rw [List.take_length]
    refine FinOk.mk' [0] rfl rfl rfl rfl rfl rfl rfl ⟨?_, ?_, rfl⟩
    · rfl
    · rfl
/-- The coin of a key. -/
def atC (l : List CoinD) (t o : Int) : Option CoinD := l.find? fun c => decide (c.tx = t ∧ c.out = o)
theorem findM_put (k q : List KV) (a : AV) : ∀ (rows : List (List KV × AV)), findM k (putM q a rows) = if q = k then some a else findM k rows
  | [] => by simp [putM, findM]
  | r :: rs => by
    simp only [putM]
    by_cases h : r.1 = q
    · rw [if_pos h]
      by_cases h2 : q = k
      · simp [findM, h2]
      · simp only [findM, if_neg h2]
        rw [if_neg (by rw [h]; exact h2)]
    · rw [if_neg h]
      simp only [findM, findM_put k q a rs]
      by_cases h2 : r.1 = k
      · rw [if_pos h2, if_pos h2, if_neg (fun e => h (h2.trans e.symm))]
      · rw [if_neg h2, if_neg h2]
/-- Rising keys: the last of a key is the first. -/
theorem cgC_apart : ∀ (l : List CoinD) (p : Option CoinD), cgC p l = 0 → (∀ q, p = some q → ∀ c ∈ l, lessP q c) ∧ l.Pairwise lessP
  | [], p, _ => ⟨fun q _ c hc => (by cases hc), .nil⟩
  | c :: r, p, h => by
    rw [cgC] at h
    by_cases h1 : coinC c ≠ 0
    · rw [if_pos h1] at h; exact absurd h h1
    · rw [if_neg h1] at h
      by_cases h2 : ordP p c = true
      · rw [if_pos h2] at h
        obtain ⟨g1, g2⟩ := cgC_apart r (some c) h
        refine ⟨fun q hq x hx => ?_, .cons (g1 c rfl) g2⟩
        subst hq
        have hqc : lessP q c := by simpa [ordP] using h2
        rcases List.mem_cons.1 hx with rfl | hx
        · exact hqc
        · have hcx := g1 c rfl x hx
          unfold lessP at *
          omega
      · rw [if_neg h2] at h; cases h
theorem atC_snoc {l : List CoinD} {c : CoinD} {t o : Int} (h : ∀ x ∈ l, lessP x c) : atC (l ++ [c]) t o = if c.tx = t ∧ c.out = o then some c else atC l t o := by
  unfold atC
  rw [List.find?_append]
  by_cases hc : c.tx = t ∧ c.out = o
  · rw [if_pos hc]
    have : l.find? (fun c => decide (c.tx = t ∧ c.out = o)) = none := by
      rw [List.find?_eq_none]
      intro x hx
      have := h x hx
      unfold lessP at this
      simp; omega
    rw [this]; simp [hc]
  · rw [if_neg hc]
    simp [hc]
theorem mapF_find {l : List CoinD} (h : l.Pairwise lessP) (t o : Int) : ∀ k, k ≤ l.length → findM [.int t, .int o] (mapF (l.take k)) = (atC (l.take k) t o).map coinV
  | 0, _ => by simp [mapF, findM, atC]
  | k + 1, hk => by
    have ih := mapF_find h t o k (by omega)
    rw [mapF_succ l k hk, findM_put, ih, takeS l k hk, atC_snoc fun x hx => by
      obtain ⟨i, hi, rfl⟩ := List.mem_iff_getElem.1 hx
      rw [List.length_take] at hi
      rw [List.getElem_take]
      exact List.pairwise_iff_getElem.1 h i k (by omega) hk (by omega)]
    by_cases hc : l[k].tx = t ∧ l[k].out = o
    · rw [if_pos hc, if_pos (by simp [kvC, hc])]; rfl
    · rw [if_neg hc, if_neg (by simpa [kvC] using hc)]
theorem mapF_at {l : List CoinD} (h : coinsC l = 0) (t o : Int) : findM [.int t, .int o] (mapF l) = (atC l t o).map coinV := by
  have := mapF_find (cgC_apart l none (coinsC_ok h).2.1).2 t o l.length (Nat.le_refl _)
  rwa [List.take_length] at this
end Go.Proofs.Ytdafmioegaelgaa
