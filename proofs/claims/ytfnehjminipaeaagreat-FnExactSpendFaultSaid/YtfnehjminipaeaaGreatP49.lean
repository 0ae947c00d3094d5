/-
  CHAPTER 5: coins in a map.
-/
import Derived.Test.YtfnehjminipaeaaGreatP41
namespace Go.Proofs.YtfnehjminipaeaaGreat
open Go Go.Am Go.RowKit
set_option linter.unusedVariables false
set_option linter.unusedSimpArgs false
abbrev kvC (c : CoinD) : List KV := [.int c.tx, .int c.out]
def mapF (l : List CoinD) : List (List KV × AV) := l.foldl (fun m c => putM (kvC c) (coinV c) m) []
theorem mapF_succ (l : List CoinD) (k : Nat) (h : k < l.length) : mapF (l.take (k + 1)) = putM (kvC l[k]) (coinV l[k]) (mapF (l.take k)) := by
  unfold mapF; rw [takeS l k h, List.foldl_append]; rfl
abbrev kks : List KK := [.int .i64, .int .i64]
theorem leafM {ks : List KK} {x y : List (List KV × AV)} (h : x = y) : some (AObj.map ks x) = some (AObj.map ks y) := by rw [h]
theorem setOfCoins_ret (l : List CoinD) (n : Nat) (hl : l.length ≤ 1048576) : Ret Tryz.prog 72 [coinsV l] [] n true (Is (.mp n) [(n, .map kks (mapF l))] (n + 1)) := by
  have hL : (l.map coinRow).length = l.length := by simp
  refine Ret.fn ttOk Tryz.func72 rfl Tryz.call72 rfl rfl ?_
  refine Goes ?_
  repeat' first | refine W2.m ?_ ?_ | refine W1.m fun h => ?_ | fail
  refine LoopP.go (fun k : Nat => k ≤ l.length) (fun k => ⟨[(3, .mp 0), (9, coinsV l), (10, iv l.length), (11, iv k)], [(0, .map kks (mapF (l.take k)))], 1⟩) (fun k => l.length - k) 0 (Nat.zero_le _) ?_ ?_
  · rw [hL]
    exact Weak.of rfl rfl ⟨⟨rfl, rfl⟩, ⟨rfl, rfl⟩, ⟨rfl, rfl⟩, ⟨rfl, rfl⟩, trivial⟩ ⟨⟨rfl, rfl, rfl⟩, trivial⟩
  intro k hk
  refine Goes ?_
  repeat' first | refine W2.m ?_ ?_ | refine W1.m fun h => ?_ | fail
  · have hlt : k < l.length := by omega
    rw [rowK coinRow l k hlt]
    refine ⟨by rw [hL]; exact ⟨by omega, by omega, rfl⟩, ?_⟩
    refine Goes ?_
    repeat' first | refine W2.m ?_ ?_ | refine W1.m fun h => ?_ | fail
    first | refine CallP.is (keyOfCoin_ret l[k] _) rfl ?_ | refine CallQ.is (keyOfCoin_ret l[k] _) rfl rfl ?_
    refine Goes ?_
    repeat' first | refine W2.m ?_ ?_ | refine W1.m fun h => ?_ | fail
    refine ⟨True.intro, ?_⟩
    refine Goes ?_
    repeat' first | refine W2.m ?_ ?_ | refine W1.m fun h => ?_ | fail
    exact ⟨k + 1, by omega, by omega, Weak.of rfl rfl ⟨⟨rfl, rfl⟩, ⟨rfl, rfl⟩, ⟨rfl, rfl⟩, ⟨leafI numA, rfl⟩, trivial⟩ ⟨⟨leafM (by rw [mapF_succ l k hlt]), rfl, rfl⟩, trivial⟩⟩
  · obtain rfl : k = l.length := by omega
    rw [List.take_length]
    refine FinOk.mk' [0] rfl rfl rfl rfl rfl rfl rfl ⟨?_, ?_, rfl⟩
    · rfl
    · rfl
/-- The coin of a key. -/
def atC (l : List CoinD) (t o : Int) : Option CoinD := l.find? fun c => decide (c.tx = t ∧ c.out = o)
theorem findM_put (k q : List KV) (a : AV) : ∀ (rows : List (List KV × AV)), findM k (putM q a rows) = if q = k then some a else findM k rows
  | [] => by simp [putM, findM]
  | r :: rs => by
    simp only [putM]
    by_cases h : r.1 = q
    · rw [if_pos h]
      by_cases h2 : q = k
      · simp [findM, h2]
      · simp only [findM, if_neg h2]
        rw [if_neg (by rw [h]; exact h2)]
    · rw [if_neg h]
      simp only [findM, findM_put k q a rs]
      by_cases h2 : r.1 = k
      · rw [if_pos h2, if_pos h2, if_neg (fun e => h (h2.trans e.symm))]
      · rw [if_neg h2, if_neg h2]
/-- Rising keys: the last of a key is the first. -/
theorem cgC_apart : ∀ (l : List CoinD) (p : Option CoinD), cgC p l = 0 → (∀ q, p = some q → ∀ c ∈ l, lessP q c) ∧ l.Pairwise lessP
  | [], p, _ => ⟨fun q _ c hc => (by cases hc), .nil⟩
  | c :: r, p, h => by
    rw [cgC] at h
    by_cases h1 : coinC c ≠ 0
    · rw [if_pos h1] at h; exact absurd h h1
    · rw [if_neg h1] at h
      by_cases h2 : ordP p c = true
      · rw [if_pos h2] at h
        obtain ⟨g1, g2⟩ := cgC_apart r (some c) h
        refine ⟨fun q hq x hx => ?_, .cons (g1 c rfl) g2⟩
        subst hq
        have hqc : lessP q c := by simpa [ordP] using h2
        rcases List.mem_cons.1 hx with rfl | hx
        · exact hqc
        · have hcx := g1 c rfl x hx
          unfold lessP at *
          omega
      · rw [if_neg h2] at h; cases h
theorem atC_snoc {l : List CoinD} {c : CoinD} {t o : Int} (h : ∀ x ∈ l, lessP x c) : atC (l ++ [c]) t o = if c.tx = t ∧ c.out = o then some c else atC l t o := by
  unfold atC
  rw [List.find?_append]
  by_cases hc : c.tx = t ∧ c.out = o
  · rw [if_pos hc]
    have : l.find? (fun c => decide (c.tx = t ∧ c.out = o)) = none := by
      rw [List.find?_eq_none]
      intro x hx
      have := h x hx
      unfold lessP at this
      simp; omega
    rw [this]; simp [hc]
  · rw [if_neg hc]
    simp [hc]
theorem mapF_find {l : List CoinD} (h : l.Pairwise lessP) (t o : Int) : ∀ k, k ≤ l.length → findM [.int t, .int o] (mapF (l.take k)) = (atC (l.take k) t o).map coinV
  | 0, _ => by simp [mapF, findM, atC]
  | k + 1, hk => by
    have ih := mapF_find h t o k (by omega)
    rw [mapF_succ l k hk, findM_put, ih, takeS l k hk, atC_snoc fun x hx => by
      obtain ⟨i, hi, rfl⟩ := List.mem_iff_getElem.1 hx
      rw [List.length_take] at hi
      rw [List.getElem_take]
      exact List.pairwise_iff_getElem.1 h i k (by omega) hk (by omega)]
    by_cases hc : l[k].tx = t ∧ l[k].out = o
    · rw [if_pos hc, if_pos (by simp [kvC, hc])]; rfl
    · rw [if_neg hc, if_neg (by simpa [kvC] using hc)]
theorem mapF_at {l : List CoinD} (h : coinsC l = 0) (t o : Int) : findM [.int t, .int o] (mapF l) = (atC l t o).map coinV := by
  have := mapF_find (cgC_apart l none (coinsC_ok h).2.1).2 t o l.length (Nat.le_refl _)
  rwa [List.take_length] at this
def AtQ (l : List CoinD) (t o : Int) (n : Nat) : AV → Hp → Nat → Prop := fun r ho m => ho = [] ∧ m = n ∧ ((∃ (k : Nat) (h : k < l.length), r = iv k ∧ atC l t o = some l[k]) ∨ (r = iv (-1) ∧ atC l t o = none))
theorem atC_here {l : List CoinD} {t o : Int} {k : Nat} (h : k < l.length) (hp : ∀ x ∈ l.take k, ¬ (x.tx = t ∧ x.out = o)) (hk : l[k].tx = t ∧ l[k].out = o) : atC l t o = some l[k] := by
  unfold atC
  conv => lhs; rw [← List.take_append_drop k l]
  rw [List.find?_append, List.find?_eq_none.2 (fun x hx => by simpa using hp x hx), List.drop_eq_getElem_cons h, List.find?_cons_of_pos (by simpa using hk)]
  rfl
theorem atC_no {l : List CoinD} {t o : Int} (hp : ∀ x ∈ l, ¬ (x.tx = t ∧ x.out = o)) : atC l t o = none := List.find?_eq_none.2 fun x hx => by simpa using hp x hx
theorem l5At_ret (l : List CoinD) (t o : Int) (n : Nat) (hl : l.length ≤ 1048576) : Ret Tryz.prog 90 [coinsV l, iv t, iv o] [] n true (AtQ l t o n) := by
  have hL : (l.map coinRow).length = l.length := by simp
  refine Ret.fn ttOk Tryz.func90 rfl Tryz.call90 rfl rfl ?_
  refine Goes ?_
  repeat' first | refine W2.m ?_ ?_ | refine W1.m fun h => ?_ | fail
  refine LoopP.go (fun k : Nat => k ≤ l.length ∧ ∀ x ∈ l.take k, ¬ (x.tx = t ∧ x.out = o)) (fun k => ⟨[(0, coinsV l), (1, iv t), (2, iv o), (7, iv k)], [], 0⟩) (fun k => l.length - k) 0 ⟨Nat.zero_le _, fun x hx => by simp at hx⟩ (Weak.of rfl rfl ktA trivial) ?_
  intro k ⟨hk, hp⟩
  refine Goes ?_
  repeat' first | refine W2.m ?_ ?_ | refine W1.m fun h => ?_ | fail
  · have hlt : k < l.length := by omega
    have next : ¬ (l[k].tx = t ∧ l[k].out = o) → ∀ x ∈ l.take (k + 1), ¬ (x.tx = t ∧ x.out = o) := fun h x hx => by
      rw [takeS l k hlt] at hx
      rcases List.mem_append.1 hx with hx | hx
      · exact hp x hx
      · rw [List.mem_singleton.1 hx]; exact h
    rw [rowK coinRow l k hlt]
    refine ⟨by rw [hL]; exact ⟨by omega, by omega, rfl⟩, ?_⟩
    refine Goes ?_
    repeat' first | refine W2.m ?_ ?_ | refine W1.m fun h => ?_ | fail
    · rename_i hx1
      rw [rowK coinRow l k hlt]
      refine ⟨by rw [hL]; exact ⟨by omega, by omega, rfl⟩, ?_⟩
      refine Goes ?_
      repeat' first | refine W2.m ?_ ?_ | refine W1.m fun h => ?_ | fail
      · exact FinOk.pure rfl rfl rfl ⟨rfl, rfl, .inl ⟨k, hlt, rfl, atC_here hlt hp ⟨by assumption, by assumption⟩⟩⟩
      · exact ⟨k + 1, ⟨by omega, next fun e => absurd e.2 (by assumption)⟩, by omega, (Weak.of rfl rfl ktA trivial)⟩
    · exact ⟨k + 1, ⟨by omega, next fun e => absurd e.1 (by assumption)⟩, by omega, (Weak.of rfl rfl ktA trivial)⟩
  · obtain rfl : k = l.length := by omega
    rw [List.take_length] at hp
    refine FinOk.pure rfl rfl rfl ⟨rfl, rfl, .inr ⟨rfl, atC_no hp⟩⟩
end Go.Proofs.YtfnehjminipaeaaGreat
