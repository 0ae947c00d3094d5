import Derived.Test.YtfnehjminipaeaaGreatP52
import Derived.Test.YtfnehjminipaeaaGreatP44
/-
  CHAPTER 5: answers of coins, compared, marked, and looked through for the marks.
-/
namespace Go.Proofs.YtfnehjminipaeaaGreat
open Go Go.Am Go.RowKit
set_option linter.unusedVariables false
set_option linter.unusedSimpArgs false
theorem psum_bd {α : Type} (g : α → Nat) (c : Nat) : ∀ (xs : List α), (∀ x ∈ xs, g x ≤ c) → psum g xs ≤ xs.length * c
  | [], _ => by simp [psum]
  | x :: r, h => by
    have h1 := psum_bd g c r fun y hy => h y (List.mem_cons_of_mem _ hy)
    have h2 := h x (List.mem_cons_self ..)
    have h3 : psum g (x :: r) = g x + psum g r := by simp [psum]
    rw [h3, List.length_cons, Nat.add_mul]; omega
theorem flatMap' {α : Type} {b : Bool} {e k : Nat} {f : α → List AV} (h : ∀ x, ∀ c ∈ f x, FlatT c) (xs : List α) : flatO (.nest (c := b) e k (xs.map f)) := fun c hc => by
  obtain ⟨r, hr, hcr⟩ := List.mem_flatten.1 hc
  obtain ⟨x, _, rfl⟩ := List.mem_map.1 hr
  exact .inr (h x c hcr)
theorem mkCs_at : ∀ (xs : List CoinD) (m k : Nat) (h : k < xs.length) (h' : k < (mkCs m xs).length), (mkCs m xs)[k] = mkC (nCs m (xs.take k)) xs[k]
  | x :: r, m, 0, _, _ => rfl
  | x :: r, m, k + 1, h, _ => mkCs_at r (m + 5 + x.lock.length) k (by simpa using h) (by rw [mkCs_len]; simpa using h)
theorem heldCoinS_rd (xs : List CoinD) (m n : Nat) (hl : xs.length ≤ 1048576) (hp : psum pCoin xs ≤ 1048576) (hm : m ≤ 1099000000000) : Ret Tryz.prog 159 [coinsV (mkCs m xs), iv m] [] n true (Is (iv (nCs m xs)) [] n) := by
  obtain ⟨ys, hys⟩ : ∃ ys, ys = mkCs m xs := ⟨_, rfl⟩
  have hyl : ys.length = xs.length := by rw [hys, mkCs_len]
  have hL : (ys.map coinRow).length = xs.length := by simp [hyl]
  obtain ⟨cn, hcn⟩ : ∃ cn : Nat → Nat, ∀ k, cn k = nCs m (xs.take k) := ⟨_, fun _ => rfl⟩
  have hcb : ∀ k, k ≤ xs.length → cn k ≤ m + 5 * xs.length + psum pCoin xs := fun k hk => by
    have h1 := nCs_eq (xs.take k) m
    have h2 := psum_le pCoin xs k
    rw [List.length_take] at h1
    rw [hcn]; omega
  have hcs : ∀ k (h : k < xs.length), cn (k + 1) = cn k + 5 + xs[k].lock.length := fun k h => by rw [hcn, hcn, takeS xs k h, (mkCs_app _ _ _).2]
  have hrow : ∀ k (h : k < xs.length), (ys.map coinRow).getD (Int.toNat (k : Int)) [] = [iv (cn k), iv ((cn k + 1 : Nat) : Int), iv ((cn k + 2 : Nat) : Int), il (marks (cn k + 3) xs[k].lock.length), iv ((cn k + 3 + xs[k].lock.length : Nat) : Int), bv (decide (((cn k + 4 + xs[k].lock.length : Nat) : Int).tmod 3 = 0))] := fun k h => by
    subst hys
    rw [rowK coinRow _ k (by omega), mkCs_at xs m k h (by omega), ← hcn]
  rw [← hys]
  have h0 : m = cn 0 := by rw [hcn]; rfl
  refine Ret.fn ttOk Tryz.func159 rfl Tryz.call159 rfl rfl ?_
  refine Goes ?_
  repeat' first | refine W2.m ?_ ?_ | refine W1.m fun h => ?_ | fail
  refine LoopP.go (fun k : Nat => k ≤ xs.length) (fun k => ⟨[(0, coinsV ys), (1, iv (cn k)), (5, iv k)], [], 0⟩) (fun k => xs.length - k) 0 (Nat.zero_le _) ?_ ?_
  · exact Weak.of rfl rfl ⟨⟨rfl, rfl⟩, ⟨leafI (by rw [h0]), rfl⟩, ⟨rfl, rfl⟩, trivial⟩ trivial
  intro k hk
  have hb := hcb k hk
  by_cases hlt : k < xs.length
  · have hb1 := hcb (k + 1) hlt
    have hst := hcs k hlt
    have hps := psum_mem pCoin xs xs[k] (List.getElem_mem hlt)
    simp only [pCoin] at hps
    have w1 : IntKind.i64.wrap ((cn k : Int) + 1) = ((cn k + 1 : Nat) : Int) := by rw [IntWalk.i64_in _ (by omega)]; omega
    have w2 : IntKind.i64.wrap (((cn k + 1 : Nat) : Int) + 1) = ((cn k + 2 : Nat) : Int) := by rw [IntWalk.i64_in _ (by omega)]; omega
    have w3 : IntKind.i64.wrap (((cn k + 2 : Nat) : Int) + 1) = ((cn k + 3 : Nat) : Int) := by rw [IntWalk.i64_in _ (by omega)]; omega
    have w4 : IntKind.i64.wrap (((cn k + 3 + xs[k].lock.length : Nat) : Int) + 1) = ((cn k + 4 + xs[k].lock.length : Nat) : Int) := by rw [IntWalk.i64_in _ (by omega)]; omega
    have w5 : IntKind.i64.wrap (((cn k + 4 + xs[k].lock.length : Nat) : Int) + 1) = ((cn k + 5 + xs[k].lock.length : Nat) : Int) := by rw [IntWalk.i64_in _ (by omega)]; omega
    refine Goes ?_
    repeat' first | refine W2.m ?_ ?_ | refine W1.m fun h => ?_ | fail
    rw [hrow k hlt]
    refine ⟨by rw [hL]; exact ⟨by omega, by omega, rfl⟩, ?_⟩
    refine Goes ?_
    repeat' first | refine W2.m ?_ ?_ | refine W1.m fun h => ?_ | fail
    rw [w1, hrow k hlt]
    refine ⟨by rw [hL]; exact ⟨by omega, by omega, rfl⟩, ?_⟩
    refine Goes ?_
    repeat' first | refine W2.m ?_ ?_ | refine W1.m fun h => ?_ | fail
    rw [w2, hrow k hlt]
    refine ⟨by rw [hL]; exact ⟨by omega, by omega, rfl⟩, ?_⟩
    refine Goes ?_
    repeat' first | refine W2.m ?_ ?_ | refine W1.m fun h => ?_ | fail
    rw [w3, hrow k hlt]
    refine ⟨by rw [hL]; exact ⟨by omega, by omega, rfl⟩, ?_⟩
    refine Goes ?_
    repeat' first | refine W2.m ?_ ?_ | refine W1.m fun h => ?_ | fail
    first | refine CallP.is (heldInt64S_rd xs[k].lock.length (cn k + 3) _ (by omega) (by omega)) rfl ?_ | refine CallQ.is (heldInt64S_rd xs[k].lock.length (cn k + 3) _ (by omega) (by omega)) rfl rfl ?_
    refine Goes ?_
    repeat' first | refine W2.m ?_ ?_ | refine W1.m fun h => ?_ | fail
    rw [hrow k hlt]
    refine ⟨by rw [hL]; exact ⟨by omega, by omega, rfl⟩, ?_⟩
    refine Goes ?_
    repeat' first | refine W2.m ?_ ?_ | refine W1.m fun h => ?_ | fail
    rw [w4, hrow k hlt]
    refine ⟨by rw [hL]; exact ⟨by omega, by omega, rfl⟩, ?_⟩
    refine Goes ?_
    repeat' first | refine W2.m ?_ ?_ | refine W1.m fun h => ?_ | fail
    · exact absurd rfl h
    rw [w5]
    exact ⟨k + 1, by omega, by omega, Weak.of rfl rfl ⟨⟨rfl, rfl⟩, ⟨leafI (by rw [hst]), rfl⟩, ⟨leafI numA, rfl⟩, trivial⟩ trivial⟩
  · obtain rfl : k = xs.length := by omega
    refine Goes ?_
    repeat' first | refine W2.m ?_ ?_ | refine W1.m fun h => ?_ | fail
    refine FinOk.pure rfl rfl rfl ⟨?_, rfl, rfl⟩
    rw [hcn, List.take_length]
theorem eqCoinsResult_yes (z f : Int) (a b : List CoinD) (n : Nat) (ha : FitsC a) (hb : FitsC b) : Ret Tryz.prog 62 [.agg [iv z, iv f, coinsV a, coinsV b], .agg [iv z, iv f, coinsV a, coinsV b]] [] n true (Is (bv true) [] n) := by
  refine Ret.fn ttOk Tryz.func62 rfl Tryz.call62 rfl rfl ?_
  refine Goes ?_
  repeat' first | refine W2.m ?_ ?_ | refine W1.m fun h => ?_ | fail
  first | refine CallP.is (eqCoinS_yes a _ ha) rfl ?_ | refine CallQ.is (eqCoinS_yes a _ ha) rfl rfl ?_
  refine Goes ?_
  repeat' first | refine W2.m ?_ ?_ | refine W1.m fun h => ?_ | fail
  first | refine CallP.is (eqCoinS_yes b _ hb) rfl ?_ | refine CallQ.is (eqCoinS_yes b _ hb) rfl rfl ?_
  refine Goes ?_
  repeat' first | refine W2.m ?_ ?_ | refine W1.m fun h => ?_ | fail
  refine FinOk.pure rfl rfl rfl ⟨?_, rfl, rfl⟩
  rfl
theorem heldCoinsResult_rd (z f : Int) (a b : List CoinD) (m n : Nat) (ha : a.length ≤ 1048576) (hb : b.length ≤ 1048576) (hpa : psum pCoin a ≤ 1048576) (hpb : psum pCoin b ≤ 1048576) (hm : m ≤ 1000000000000) : Ret Tryz.prog 66 [.agg [iv z, iv f, coinsV (mkCs m a), coinsV (mkCs (nCs m a) b)], iv m] [] n true (Is (iv (nCs (nCs m a) b)) [] n) := by
  have h1 := nCs_eq a m
  refine Ret.fn ttOk Tryz.func66 rfl Tryz.call66 rfl rfl ?_
  refine Goes ?_
  repeat' first | refine W2.m ?_ ?_ | refine W1.m fun h => ?_ | fail
  first | refine CallP.is (heldCoinS_rd a m _ ha hpa (by omega)) rfl ?_ | refine CallQ.is (heldCoinS_rd a m _ ha hpa (by omega)) rfl rfl ?_
  refine Goes ?_
  repeat' first | refine W2.m ?_ ?_ | refine W1.m fun h => ?_ | fail
  first | refine CallP.is (heldCoinS_rd b (nCs m a) _ hb hpb (by omega)) rfl ?_ | refine CallQ.is (heldCoinS_rd b (nCs m a) _ hb hpb (by omega)) rfl rfl ?_
  refine Goes ?_
  repeat' first | refine W2.m ?_ ?_ | refine W1.m fun h => ?_ | fail
  refine FinOk.pure rfl rfl rfl ⟨?_, rfl, rfl⟩
  rfl
theorem markCoinsResult_own (z f : Int) (a b : List CoinD) (i j m n : Nat) (hij : i ≠ j) (ha : a.length ≤ 1048576) (hb : b.length ≤ 1048576) (hpa : psum pCoin a ≤ 1048576) (hpb : psum pCoin b ≤ 1048576) (hm : m ≤ 1000000000000) : Ret Tryz.prog 65 [.agg [iv z, iv f, .own i a.length, .own j b.length], iv m] [(i, .nest (c := true) 49 6 (a.map coinT)), (j, .nest (c := true) 49 6 (b.map coinT))] n true (Is (iv (nCs (nCs m a) b)) [(i, .nest (c := true) 49 6 ((mkCs m a).map coinT)), (j, .nest (c := true) 49 6 ((mkCs (nCs m a) b).map coinT))] n) := by
  have h1 := nCs_eq a m
  refine Ret.of_run (tt := tt) ttOk Tryz.func65 rfl Tryz.call65 [i, j] [.nest (c := true) 49 6 (a.map coinT), .nest (c := true) 49 6 (b.map coinT)] [.agg [iv z, iv f, .own 0 a.length, .own 1 b.length], iv m] true n _ rfl (nodup2 hij) (by exact Nat.le_of_ble_eq_true rfl) rfl rfl ?_
  refine Goes ?_
  repeat' first | refine W2.m ?_ ?_ | refine W1.m fun h => ?_ | fail
  refine CallP.heapIs (markCoinS_own a 0 m _ ha hpa (by omega)) rfl ktA rfl ?_
  refine Goes ?_
  repeat' first | refine W2.m ?_ ?_ | refine W1.m fun h => ?_ | fail
  refine CallP.heapIs (markCoinS_own b 1 (nCs m a) _ hb hpb (by omega)) rfl ktA rfl ?_
  refine Goes ?_
  repeat' first | refine W2.m ?_ ?_ | refine W1.m fun h => ?_ | fail
  refine FinOk.mk' [] rfl rfl rfl rfl rfl rfl rfl ⟨?_, ?_, rfl⟩
  · rfl
  · rfl
theorem markCoinS_nil (k0 : Int) (n : Nat) : Ret Tryz.prog 63 [nl, iv k0] [] n true (Is (iv k0) [] n) := by
  refine Ret.fn ttOk Tryz.func63 rfl Tryz.call63 rfl rfl ?_
  refine Goes ?_
  repeat' first | refine W2.m ?_ ?_ | refine W1.m fun h => ?_ | fail
  refine LoopP.go (fun _ : Unit => True) (fun _ => ⟨[(0, nl), (1, iv k0), (5, iv 0)], [], 0⟩) (fun _ => 0) () trivial (Weak.of rfl rfl ktA trivial) ?_
  intro _ _
  refine Goes ?_
  repeat' first | refine W2.m ?_ ?_ | refine W1.m fun h => ?_ | fail
  refine FinOk.pure rfl rfl rfl ⟨?_, rfl, rfl⟩
  rfl
theorem markCoinsResult_nil (z f m : Int) (n : Nat) : Ret Tryz.prog 65 [.agg [iv z, iv f, nl, nl], iv m] [] n true (Is (iv m) [] n) := by
  refine Ret.fn ttOk Tryz.func65 rfl Tryz.call65 rfl rfl ?_
  refine Goes ?_
  repeat' first | refine W2.m ?_ ?_ | refine W1.m fun h => ?_ | fail
  first | refine CallP.is (markCoinS_nil m _) rfl ?_ | refine CallQ.is (markCoinS_nil m _) rfl rfl ?_
  refine Goes ?_
  repeat' first | refine W2.m ?_ ?_ | refine W1.m fun h => ?_ | fail
  first | refine CallP.is (markCoinS_nil m _) rfl ?_ | refine CallQ.is (markCoinS_nil m _) rfl rfl ?_
  refine Goes ?_
  repeat' first | refine W2.m ?_ ?_ | refine W1.m fun h => ?_ | fail
  refine FinOk.pure rfl rfl rfl ⟨?_, rfl, rfl⟩
  rfl
end Go.Proofs.YtfnehjminipaeaaGreat
