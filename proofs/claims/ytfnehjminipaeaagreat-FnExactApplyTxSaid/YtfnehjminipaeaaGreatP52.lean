import Derived.Test.YtfnehjminipaeaaGreatP16
import Derived.Test.YtfnehjminipaeaaGreatAmP
import Derived.Test.YtfnehjminipaeaaGreatAmN
/-
  CHAPTER 3: transactions whose memory is their own: how the laws make them.
-/
namespace Go.Proofs.YtfnehjminipaeaaGreat
open Go Go.Am Go.RowKit
set_option linter.unusedVariables false
set_option linter.unusedSimpArgs false
abbrev tl (zs : List Int) : AV := .tree 2 1 (ivs zs)
abbrev inT (x : InD) : List AV := [iv x.1, iv x.2.1, tl x.2.2]
abbrev outT (y : OutD) : List AV := [iv y.1, tl y.2]
theorem fzTl (zs : List Int) : Fz (tl zs) (il zs) := fzVals (Value.int .i64) zs
theorem fzIn (xs : List InD) : FzR 3 (xs.map inT) (xs.map inRow) := FzR.map (f := inT) (g := inRow) (fun _ => rfl) (fun x => ⟨.val _, .val _, fzTl x.2.2, trivial⟩) xs
theorem fzOut (ys : List OutD) : FzR 2 (ys.map outT) (ys.map outRow) := FzR.map (f := outT) (g := outRow) (fun _ => rfl) (fun y => ⟨.val _, fzTl y.2, trivial⟩) ys
theorem inBIn (xs : List InD) : ∀ c ∈ (xs.map inT).flatten, inB c = true := inB_map (fun x c hc => by simp only [List.mem_cons, List.not_mem_nil, or_false] at hc; rcases hc with rfl | rfl | rfl <;> rfl) xs
theorem inBOut (ys : List OutD) : ∀ c ∈ (ys.map outT).flatten, inB c = true := inB_map (fun x c hc => by simp only [List.mem_cons, List.not_mem_nil, or_false] at hc; rcases hc with rfl | rfl <;> rfl) ys
theorem inBIvs (zs : List Int) : ∀ c ∈ (ivs zs).flatten, inB c = true := inB_vals (Value.int .i64) zs
theorem plIvs (zs : List Int) : ∀ c ∈ (ivs zs).flatten, plainA c = true := plainA_vals (Value.int .i64) zs
theorem inB_fill {α : Type} {f : α → List AV} {z : List AV} (hf : ∀ x, ∀ c ∈ f x, inB c = true) (hz : ∀ c ∈ z, inB c = true) (xs : List α) (k : Nat) : ∀ c ∈ (fillR f z xs k).flatten, inB c = true := by
  intro c hc
  obtain ⟨r, hr, hcr⟩ := List.mem_flatten.1 hc
  unfold fillR at hr
  rcases List.mem_append.1 hr with h | h
  · obtain ⟨x, _, rfl⟩ := List.mem_map.1 h; exact hf x c hcr
  · rw [List.eq_of_mem_replicate h] at hcr; exact hz c hcr
theorem noId_inB {c : AV} (h : inB c = true) (i : Nat) : c.idOf ≠ some i := fun e => by
  cases c <;> simp_all [inB, AV.idOf]
theorem getSnoc {l : List (List AV)} {x : List AV} {j : Nat} (h : l.length = j) : (l ++ List.take 1 [x])[j]? = some x := by
  subst h
  rw [List.getElem?_append_right (Nat.le_refl _), Nat.sub_self]; rfl
theorem setSnoc {l : List (List AV)} {x y : List AV} {j : Nat} (h : l.length = j) : (l ++ List.take 1 [x]).set j y = l ++ [y] := by
  subst h
  rw [List.set_append_right _ _ (Nat.le_refl _), Nat.sub_self]; rfl
theorem toIn_own (x : InD) (n : Nat) (hl : x.2.2.length ≤ 1048576) : Ret Tryz.prog 226 [.agg (inRow x)] [] n true (Is (.agg [iv x.1, iv x.2.1, .own n x.2.2.length]) [(n, .list 2 1 (ivs x.2.2))] (n + 1)) := by
  refine Ret.fn ttOk Tryz.func226 rfl Tryz.call226 rfl rfl ?_
  refine Goes ?_
  repeat' first | refine W2.m ?_ ?_ | refine W1.m fun h => ?_ | fail
  first | refine CallP.is (toInt64S_ret x.2.2 _ hl) rfl ?_ | refine CallQ.is (toInt64S_ret x.2.2 _ hl) rfl rfl ?_
  refine Goes ?_
  repeat' first | refine W2.m ?_ ?_ | refine W1.m fun h => ?_ | fail
  refine FinOk.mk' [3] rfl rfl rfl rfl rfl rfl rfl ⟨?_, ?_, rfl⟩
  · rfl
  · rfl
theorem toOut_own (y : OutD) (n : Nat) (hl : y.2.length ≤ 1048576) : Ret Tryz.prog 227 [.agg (outRow y)] [] n true (Is (.agg [iv y.1, .own n y.2.length]) [(n, .list 2 1 (ivs y.2))] (n + 1)) := by
  refine Ret.fn ttOk Tryz.func227 rfl Tryz.call227 rfl rfl ?_
  refine Goes ?_
  repeat' first | refine W2.m ?_ ?_ | refine W1.m fun h => ?_ | fail
  first | refine CallP.is (toInt64S_ret y.2 _ hl) rfl ?_ | refine CallQ.is (toInt64S_ret y.2 _ hl) rfl rfl ?_
  refine Goes ?_
  repeat' first | refine W2.m ?_ ?_ | refine W1.m fun h => ?_ | fail
  refine FinOk.mk' [3] rfl rfl rfl rfl rfl rfl rfl ⟨?_, ?_, rfl⟩
  · rfl
  · rfl
theorem toInS_own (xs : List InD) (n : Nat) (hl : xs.length ≤ 1048576) (hx : ∀ x ∈ xs, x.2.2.length ≤ 1048576) : Ret Tryz.prog 151 [insV xs] [] n true (Is (.own n xs.length) [(n, .nest (c := true) 54 3 (xs.map inT))] (n + 1)) := by
  have hL : (xs.map inRow).length = xs.length := by simp
  have hB := inB_fill (f := inT) (z := [iv 0, iv 0, nl]) (fun x c hc => inBIn [x] c (by simpa using hc)) (fun c hc => by simp only [List.mem_cons, List.not_mem_nil, or_false] at hc; rcases hc with rfl | rfl | rfl <;> rfl) xs
  refine Ret.fn ttOk Tryz.func151 rfl Tryz.call151 rfl rfl ?_
  refine Goes ?_
  repeat' first | refine W2.m ?_ ?_ | refine W1.m fun h => ?_ | fail
  rw [hL]
  refine ⟨⟨by omega, by omega, by omega, by show _ * 40 ≤ _; omega⟩, ?_⟩
  refine Goes ?_
  repeat' first | refine W2.m ?_ ?_ | refine W1.m fun h => ?_ | fail
  refine LoopP.go (fun k : Nat => k ≤ xs.length) (fun k => ⟨[(0, insV xs), (3, .own 0 xs.length), (4, iv k)], [(0, .nest (c := true) 54 3 (fillR inT [iv 0, iv 0, nl] xs k))], 1⟩) (fun k => xs.length - k) 0 (Nat.zero_le _) ?_ ?_
  · refine (Weak.nest 0 _ _ _ rfl).trans (Weak.of rfl rfl ktA ⟨⟨congrArg some (congrArg _ ?_), rfl, rfl⟩, trivial⟩)
    unfold fillR; simp
  intro k hk
  have hfl := fillR_len inT [iv 0, iv 0, nl] xs k hk
  refine Goes ?_
  repeat' first | refine W2.m ?_ ?_ | refine W1.m fun h => ?_ | fail
  · have hlt : k < xs.length := by omega
    rw [rowK inRow xs k hlt]
    refine ⟨by rw [hL]; exact ⟨by omega, by omega, rfl⟩, ?_⟩
    refine Goes ?_
    repeat' first | refine W2.m ?_ ?_ | refine W1.m fun h => ?_ | fail
    first | refine CallP.is (toIn_own xs[k] _ (hx _ (List.getElem_mem hlt))) rfl ?_ | refine CallQ.is (toIn_own xs[k] _ (hx _ (List.getElem_mem hlt))) rfl rfl ?_
    refine Goes ?_
    repeat' first | refine W2.m ?_ ?_ | refine W1.m fun h => ?_ | fail
    rw [storeRow (by omega) (by rw [fillR_at inT _ xs k hlt]; rfl)]
    refine ⟨k + 1, by omega, by omega, Weak.plant 0 _ 3 k 2 1 _ 1 xs[k].2.2.length _ _ _ [iv xs[k].1, iv xs[k].2.1, .own 1 xs[k].2.2.length] rfl rfl (by simp) ?_ rfl ?_ (hB (k + 1)) (inBIvs _) rfl ⟨⟨rfl, rfl, rfl⟩, ⟨rfl, rfl, rfl⟩, ⟨leafI numA, rfl, rfl⟩, trivial⟩ trivial⟩
    · rw [List.getElem?_set_self (by omega)]; rfl
    · rw [List.set_set]
      exact (fillR_set inT _ xs k hlt).symm
  · obtain rfl : k = xs.length := by omega
    rw [fillR_all]
    refine FinOk.mk' [0] rfl rfl rfl rfl rfl rfl rfl ⟨?_, ?_, rfl⟩
    · rfl
    · rfl
theorem toOutS_own (xs : List OutD) (n : Nat) (hl : xs.length ≤ 1048576) (hx : ∀ x ∈ xs, x.2.length ≤ 1048576) : Ret Tryz.prog 152 [outsV xs] [] n true (Is (.own n xs.length) [(n, .nest (c := true) 44 2 (xs.map outT))] (n + 1)) := by
  have hL : (xs.map outRow).length = xs.length := by simp
  have hB := inB_fill (f := outT) (z := [iv 0, nl]) (fun x c hc => inBOut [x] c (by simpa using hc)) (fun c hc => by simp only [List.mem_cons, List.not_mem_nil, or_false] at hc; rcases hc with rfl | rfl <;> rfl) xs
  refine Ret.fn ttOk Tryz.func152 rfl Tryz.call152 rfl rfl ?_
  refine Goes ?_
  repeat' first | refine W2.m ?_ ?_ | refine W1.m fun h => ?_ | fail
  rw [hL]
  refine ⟨⟨by omega, by omega, by omega, by show _ * 32 ≤ _; omega⟩, ?_⟩
  refine Goes ?_
  repeat' first | refine W2.m ?_ ?_ | refine W1.m fun h => ?_ | fail
  refine LoopP.go (fun k : Nat => k ≤ xs.length) (fun k => ⟨[(0, outsV xs), (3, .own 0 xs.length), (4, iv k)], [(0, .nest (c := true) 44 2 (fillR outT [iv 0, nl] xs k))], 1⟩) (fun k => xs.length - k) 0 (Nat.zero_le _) ?_ ?_
  · refine (Weak.nest 0 _ _ _ rfl).trans (Weak.of rfl rfl ktA ⟨⟨congrArg some (congrArg _ ?_), rfl, rfl⟩, trivial⟩)
    unfold fillR; simp
  intro k hk
  have hfl := fillR_len outT [iv 0, nl] xs k hk
  refine Goes ?_
  repeat' first | refine W2.m ?_ ?_ | refine W1.m fun h => ?_ | fail
  · have hlt : k < xs.length := by omega
    rw [rowK outRow xs k hlt]
    refine ⟨by rw [hL]; exact ⟨by omega, by omega, rfl⟩, ?_⟩
    refine Goes ?_
    repeat' first | refine W2.m ?_ ?_ | refine W1.m fun h => ?_ | fail
    first | refine CallP.is (toOut_own xs[k] _ (hx _ (List.getElem_mem hlt))) rfl ?_ | refine CallQ.is (toOut_own xs[k] _ (hx _ (List.getElem_mem hlt))) rfl rfl ?_
    refine Goes ?_
    repeat' first | refine W2.m ?_ ?_ | refine W1.m fun h => ?_ | fail
    rw [storeRow (by omega) (by rw [fillR_at outT _ xs k hlt]; rfl)]
    refine ⟨k + 1, by omega, by omega, Weak.plant 0 _ 2 k 1 1 _ 1 xs[k].2.length _ _ _ [iv xs[k].1, .own 1 xs[k].2.length] rfl rfl (by simp) ?_ rfl ?_ (hB (k + 1)) (inBIvs _) rfl ⟨⟨rfl, rfl, rfl⟩, ⟨rfl, rfl, rfl⟩, ⟨leafI numA, rfl, rfl⟩, trivial⟩ trivial⟩
    · rw [List.getElem?_set_self (by omega)]; rfl
    · rw [List.set_set]
      exact (fillR_set outT _ xs k hlt).symm
  · obtain rfl : k = xs.length := by omega
    rw [fillR_all]
    refine FinOk.mk' [0] rfl rfl rfl rfl rfl rfl rfl ⟨?_, ?_, rfl⟩
    · rfl
    · rfl
/-- A transaction's own memory. -/
abbrev txO (n : Nat) (t : TxD) : AV := .agg [iv t.1, .own n t.2.1.length, .own (n + 1) t.2.2.length]
abbrev txH (n : Nat) (t : TxD) : Hp := [(n, .nest (c := true) 54 3 (t.2.1.map inT)), (n + 1, .nest (c := true) 44 2 (t.2.2.map outT))]
theorem toTx_own (t : TxD) (n : Nat) (h : Fits t) : Ret Tryz.prog 59 [txV t] [] n true (Is (txO n t) (txH n t) (n + 2)) := by
  refine Ret.fn ttOk Tryz.func59 rfl Tryz.call59 rfl rfl ?_
  refine Goes ?_
  repeat' first | refine W2.m ?_ ?_ | refine W1.m fun h => ?_ | fail
  first | refine CallP.is (toInS_own t.2.1 _ h.ins h.proofs) rfl ?_ | refine CallQ.is (toInS_own t.2.1 _ h.ins h.proofs) rfl rfl ?_
  refine Goes ?_
  repeat' first | refine W2.m ?_ ?_ | refine W1.m fun h => ?_ | fail
  first | refine CallP.is (toOutS_own t.2.2 _ h.outs h.locks) rfl ?_ | refine CallQ.is (toOutS_own t.2.2 _ h.outs h.locks) rfl rfl ?_
  refine Goes ?_
  repeat' first | refine W2.m ?_ ?_ | refine W1.m fun h => ?_ | fail
  refine FinOk.mk' [3, 4] rfl rfl rfl rfl rfl rfl rfl ⟨?_, ?_, rfl⟩
  · rfl
  · rfl
theorem heldInt64S_rd (m k0 n : Nat) (hl : m ≤ 1048576) (hk : k0 ≤ 1099511627776) : Ret Tryz.prog 231 [il (marks k0 m), iv k0] [] n true (Is (iv ((k0 + m : Nat) : Int)) [] n) := by
  have hL : (ivs (marks k0 m)).length = m := by simp [marks_len]
  have hml := marks_len k0 m
  refine Ret.fn ttOk Tryz.func231 rfl Tryz.call231 rfl rfl ?_
  refine Goes ?_
  repeat' first | refine W2.m ?_ ?_ | refine W1.m fun h => ?_ | fail
  refine LoopP.go (fun k : Nat => k ≤ m) (fun k => ⟨[(0, il (marks k0 m)), (1, iv ((k0 + k : Nat) : Int)), (5, iv k)], [], 0⟩) (fun k => m - k) 0 (Nat.zero_le _) ?_ ?_
  · exact (Weak.of rfl rfl ktA trivial)
  intro k hk'
  refine Goes ?_
  repeat' first | refine W2.m ?_ ?_ | refine W1.m fun h => ?_ | fail
  · have hlt : k < m := by omega
    rw [rowK iv1 (marks k0 m) k (by omega)]
    refine ⟨by (first | exact ⟨by omega, by omega, rfl⟩ | (simp only [List.length_map]; exact ⟨by omega, by omega, rfl⟩)), ?_⟩
    refine Goes ?_
    repeat' first | refine W2.m ?_ ?_ | refine W1.m fun h => ?_ | fail
    · exfalso
      rw [marks_at k0 m k (by omega)] at h
      rename_i h0
      exact h rfl
    · exact ⟨k + 1, by omega, by omega, (Weak.of rfl rfl ktA trivial)⟩
  · obtain rfl : k = m := by omega
    refine FinOk.pure rfl rfl rfl ⟨?_, rfl, rfl⟩
    rfl
end Go.Proofs.YtfnehjminipaeaaGreat
/-
  CHAPTER 5: coins whose memory is their own: how the laws make and mark them.
-/
namespace Go.Proofs.YtfnehjminipaeaaGreat
open Go Go.Am Go.RowKit
set_option linter.unusedVariables false
set_option linter.unusedSimpArgs false
abbrev coinT (c : CoinD) : List AV := [iv c.tx, iv c.out, iv c.val, tl c.lock, iv c.h, bv c.base]
theorem fzCoin (xs : List CoinD) : FzR 6 (xs.map coinT) (xs.map coinRow) := FzR.map (f := coinT) (g := coinRow) (fun _ => rfl) (fun x => ⟨.val _, .val _, .val _, fzTl x.lock, .val _, .val _, trivial⟩) xs
theorem inBCoin (xs : List CoinD) : ∀ c ∈ (xs.map coinT).flatten, inB c = true := inB_map (fun x c hc => by simp only [List.mem_cons, List.not_mem_nil, or_false] at hc; rcases hc with rfl | rfl | rfl | rfl | rfl | rfl <;> rfl) xs
theorem toCoin_own (c : CoinD) (n : Nat) (h : pCoin c ≤ 1048576) : Ret Tryz.prog 150 [coinV c] [] n true (Is (.agg [iv c.tx, iv c.out, iv c.val, .own n c.lock.length, iv c.h, bv c.base]) [(n, .list 2 1 (ivs c.lock))] (n + 1)) := by
  refine Ret.fn ttOk Tryz.func150 rfl Tryz.call150 rfl rfl ?_
  refine Goes ?_
  repeat' first | refine W2.m ?_ ?_ | refine W1.m fun h => ?_ | fail
  first | refine CallP.is (toInt64S_ret c.lock _ h) rfl ?_ | refine CallQ.is (toInt64S_ret c.lock _ h) rfl rfl ?_
  refine Goes ?_
  repeat' first | refine W2.m ?_ ?_ | refine W1.m fun h => ?_ | fail
  refine FinOk.mk' [3] rfl rfl rfl rfl rfl rfl rfl ⟨?_, ?_, rfl⟩
  · rfl
  · rfl
abbrev zeroCoin : List AV := [iv 0, iv 0, iv 0, nl, iv 0, bv false]
theorem toCoinS_own (xs : List CoinD) (n : Nat) (hf : FitsC xs) : Ret Tryz.prog 58 [coinsV xs] [] n true (Is (.own n xs.length) [(n, .nest (c := true) 49 6 (xs.map coinT))] (n + 1)) := by
  have hL : (xs.map coinRow).length = xs.length := by simp
  have hl := hf.len
  have hB := inB_fill (f := coinT) (z := zeroCoin) (fun x c hc => inBCoin [x] c (by simpa using hc)) (fun c hc => by simp only [List.mem_cons, List.not_mem_nil, or_false] at hc; rcases hc with rfl | rfl | rfl | rfl | rfl | rfl <;> rfl) xs
  refine Ret.fn ttOk Tryz.func58 rfl Tryz.call58 rfl rfl ?_
  refine Goes ?_
  repeat' first | refine W2.m ?_ ?_ | refine W1.m fun h => ?_ | fail
  rw [hL]
  refine ⟨⟨by omega, by omega, by omega, by show _ * 64 ≤ _; omega⟩, ?_⟩
  refine Goes ?_
  repeat' first | refine W2.m ?_ ?_ | refine W1.m fun h => ?_ | fail
  refine LoopP.go (fun k : Nat => k ≤ xs.length) (fun k => ⟨[(0, coinsV xs), (3, .own 0 xs.length), (4, iv k)], [(0, .nest (c := true) 49 6 (fillR coinT zeroCoin xs k))], 1⟩) (fun k => xs.length - k) 0 (Nat.zero_le _) ?_ ?_
  · refine (Weak.nest 0 _ _ _ rfl).trans (Weak.of rfl rfl ktA ⟨⟨congrArg some (congrArg _ ?_), rfl, rfl⟩, trivial⟩)
    unfold fillR; simp
  intro k hk
  have hfl := fillR_len coinT zeroCoin xs k hk
  refine Goes ?_
  repeat' first | refine W2.m ?_ ?_ | refine W1.m fun h => ?_ | fail
  · have hlt : k < xs.length := by omega
    rw [rowK coinRow xs k hlt]
    refine ⟨by rw [hL]; exact ⟨by omega, by omega, rfl⟩, ?_⟩
    refine Goes ?_
    repeat' first | refine W2.m ?_ ?_ | refine W1.m fun h => ?_ | fail
    first | refine CallP.is (toCoin_own xs[k] _ (hf.locks _ (List.getElem_mem hlt))) rfl ?_ | refine CallQ.is (toCoin_own xs[k] _ (hf.locks _ (List.getElem_mem hlt))) rfl rfl ?_
    refine Goes ?_
    repeat' first | refine W2.m ?_ ?_ | refine W1.m fun h => ?_ | fail
    rw [storeRow (by omega) (by rw [fillR_at coinT _ xs k hlt]; rfl)]
    refine ⟨k + 1, by omega, by omega, Weak.plant 0 _ 6 k 3 1 _ 1 xs[k].lock.length _ _ _ [iv xs[k].tx, iv xs[k].out, iv xs[k].val, .own 1 xs[k].lock.length, iv xs[k].h, bv xs[k].base] rfl rfl (by simp) ?_ rfl ?_ (hB (k + 1)) (inBIvs _) rfl ⟨⟨rfl, rfl, rfl⟩, ⟨rfl, rfl, rfl⟩, ⟨leafI numA, rfl, rfl⟩, trivial⟩ trivial⟩
    · rw [List.getElem?_set_self (by omega)]; rfl
    · rw [List.set_set]
      exact (fillR_set coinT _ xs k hlt).symm
  · obtain rfl : k = xs.length := by omega
    rw [fillR_all]
    refine FinOk.mk' [0] rfl rfl rfl rfl rfl rfl rfl ⟨?_, ?_, rfl⟩
    · rfl
    · rfl
abbrev mkC (m : Nat) (c : CoinD) : CoinD := ⟨(m : Int), ((m + 1 : Nat) : Int), ((m + 2 : Nat) : Int), marks (m + 3) c.lock.length, ((m + 3 + c.lock.length : Nat) : Int), decide (((m + 4 + c.lock.length : Nat) : Int).tmod 3 = 0)⟩
def mkCs (m : Nat) : List CoinD → List CoinD
  | [] => []
  | x :: r => mkC m x :: mkCs (m + 5 + x.lock.length) r
def nCs (m : Nat) : List CoinD → Nat
  | [] => m
  | x :: r => nCs (m + 5 + x.lock.length) r
theorem mkCs_len : ∀ (l : List CoinD) (m : Nat), (mkCs m l).length = l.length
  | [], m => rfl
  | x :: r, m => by simp [mkCs, mkCs_len r]
theorem mkCs_app : ∀ (l : List CoinD) (x : CoinD) (m : Nat), mkCs m (l ++ [x]) = mkCs m l ++ [mkC (nCs m l) x] ∧ nCs m (l ++ [x]) = nCs m l + 5 + x.lock.length
  | [], x, m => ⟨rfl, rfl⟩
  | y :: r, x, m => by
    obtain ⟨h1, h2⟩ := mkCs_app r x (m + 5 + y.lock.length)
    exact ⟨by simp only [List.cons_append, mkCs, nCs, h1], by simp only [List.cons_append, nCs, h2]⟩
theorem nCs_eq : ∀ (l : List CoinD) (m : Nat), nCs m l = m + 5 * l.length + psum pCoin l
  | [], m => by simp [nCs, psum]
  | x :: r, m => by
    rw [nCs, nCs_eq r]
    simp only [psum, List.map_cons, List.sum_cons, List.length_cons, pCoin]
    omega
def mkR (m : Nat) (xs : List CoinD) (k : Nat) : List CoinD := mkCs m (xs.take k) ++ xs.drop k
theorem mkR_zero (m : Nat) (xs : List CoinD) : mkR m xs 0 = xs := by simp [mkR, mkCs]
theorem mkR_all (m : Nat) (xs : List CoinD) : mkR m xs xs.length = mkCs m xs := by simp [mkR]
theorem mkR_len (m : Nat) (xs : List CoinD) (k : Nat) (h : k ≤ xs.length) : (mkR m xs k).length = xs.length := by simp [mkR, mkCs_len]; omega
theorem mkR_at (m : Nat) (xs : List CoinD) (k : Nat) (h : k < xs.length) : (mkR m xs k)[k]? = some xs[k] := by
  rw [mkR, List.getElem?_append_right (by rw [mkCs_len, List.length_take]; omega), mkCs_len, List.length_take, List.getElem?_drop, show k + (k - min k xs.length) = k by omega, List.getElem?_eq_getElem h]
theorem mkR_set (m : Nat) (xs : List CoinD) (k : Nat) (h : k < xs.length) : (mkR m xs k).set k (mkC (nCs m (xs.take k)) xs[k]) = mkR m xs (k + 1) := by
  unfold mkR
  rw [takeS xs k h, (mkCs_app _ _ _).1, List.set_append_right _ _ (by rw [mkCs_len, List.length_take]; omega), mkCs_len, List.length_take, show k - min k xs.length = 0 by omega, List.drop_eq_getElem_cons h, List.set_cons_zero, List.append_assoc]
  rfl
theorem markCoinS_own (xs : List CoinD) (i m n : Nat) (hl : xs.length ≤ 1048576) (hp : psum pCoin xs ≤ 1048576) (hm : m ≤ 1099000000000) :
    Ret Tryz.prog 63 [.own i xs.length, iv m] [(i, .nest (c := true) 49 6 (xs.map coinT))] n true (Is (iv (nCs m xs)) [(i, .nest (c := true) 49 6 ((mkCs m xs).map coinT))] n) := by
  refine Ret.of_run (tt := tt) ttOk Tryz.func63 rfl Tryz.call63 [i] [.nest (c := true) 49 6 (xs.map coinT)] [.own 0 xs.length, iv m] true n _ rfl (nodup1 i) (by exact Nat.le_of_ble_eq_true rfl) rfl rfl ?_
  refine Goes ?_
  repeat' first | refine W2.m ?_ ?_ | refine W1.m fun h => ?_ | fail
  obtain ⟨R, hR⟩ : ∃ R : Nat → List (List AV), ∀ k, R k = (mkR m xs k).map coinT := ⟨_, fun _ => rfl⟩
  obtain ⟨cn, hcn⟩ : ∃ cn : Nat → Nat, ∀ k, cn k = nCs m (xs.take k) := ⟨_, fun _ => rfl⟩
  have hRB : ∀ k, ∀ c ∈ (R k).flatten, inB c = true := fun k => by rw [hR]; exact inBCoin _
  have hRl : ∀ k, k ≤ xs.length → (R k).length = xs.length := fun k hk => by rw [hR, List.length_map, mkR_len m xs k hk]
  have hRa : ∀ k (h : k < xs.length), (R k)[k]? = some (coinT xs[k]) := fun k h => by rw [hR, List.getElem?_map, mkR_at m xs k h]; rfl
  have hRs : ∀ k (h : k < xs.length), (R k).set k (coinT (mkC (cn k) xs[k])) = R (k + 1) := fun k h => by rw [hR, hR, hcn, setM coinT, mkR_set m xs k h]
  have hcb : ∀ k, k ≤ xs.length → cn k ≤ m + 5 * xs.length + psum pCoin xs := fun k hk => by
    have h1 := nCs_eq (xs.take k) m
    have h2 := psum_le pCoin xs k
    rw [List.length_take] at h1
    rw [hcn]; omega
  have hcs : ∀ k (h : k < xs.length), cn (k + 1) = cn k + 5 + xs[k].lock.length := fun k h => by rw [hcn, hcn, takeS xs k h, (mkCs_app _ _ _).2]
  have up : ∀ k (h : k < xs.length), Weak [0] ⟨[(0, .own 0 xs.length), (1, iv (cn k)), (5, iv k)], [(0, .nest (c := true) 49 6 (R k))], 1⟩ ⟨[(0, .own 0 xs.length), (1, iv (cn k)), (5, iv k)], [(0, .nest (c := false) 49 6 ((R k).set k [iv xs[k].tx, iv xs[k].out, iv xs[k].val, .own 1 xs[k].lock.length, iv xs[k].h, bv xs[k].base])), (1, .list 2 1 (ivs xs[k].lock))], 2⟩ := fun k h => by
    refine (Weak.lift 0 _ 6 k 3 _ 1 (R k) (ivs xs[k].lock) (coinT xs[k]) rfl (hRa k h) rfl (plIvs _) rfl).trans ?_
    rw [List.length_map]
    exact Weak.of rfl rfl ⟨⟨rfl, rfl⟩, ⟨rfl, rfl⟩, ⟨rfl, rfl⟩, trivial⟩ ⟨⟨rfl, rfl, ltO_set (hRB k) rfl⟩, ⟨rfl, rfl, rfl⟩, trivial⟩
  have toT : ∀ k, Weak [0] ⟨[(0, .own 0 xs.length), (1, iv (cn k)), (5, iv k)], [(0, .nest (c := true) 49 6 (R k))], 1⟩ (if h : k < xs.length then ⟨[(0, .own 0 xs.length), (1, iv (cn k)), (5, iv k)], [(0, .nest (c := false) 49 6 ((R k).set k [iv xs[k].tx, iv xs[k].out, iv xs[k].val, .own 1 xs[k].lock.length, iv xs[k].h, bv xs[k].base])), (1, .list 2 1 (ivs xs[k].lock))], 2⟩ else ⟨[(0, .own 0 xs.length), (1, iv (cn k)), (5, iv k)], [(0, .nest (c := true) 49 6 (R k))], 1⟩) := fun k => by
    by_cases h : k < xs.length
    · rw [dif_pos h]; exact up k h
    · rw [dif_neg h]; exact fun E a w _ hR => hR
  have h0 : m = cn 0 := by rw [hcn]; rfl
  have hR0 : xs.map coinT = R 0 := by rw [hR, mkR_zero]
  rw [hR0]
  refine LoopP.go (fun k : Nat => k ≤ xs.length) (fun k => if h : k < xs.length then ⟨[(0, .own 0 xs.length), (1, iv (cn k)), (5, iv k)], [(0, .nest (c := false) 49 6 ((R k).set k [iv xs[k].tx, iv xs[k].out, iv xs[k].val, .own 1 xs[k].lock.length, iv xs[k].h, bv xs[k].base])), (1, .list 2 1 (ivs xs[k].lock))], 2⟩ else ⟨[(0, .own 0 xs.length), (1, iv (cn k)), (5, iv k)], [(0, .nest (c := true) 49 6 (R k))], 1⟩) (fun k => xs.length - k) 0 (Nat.zero_le _) (Weak.trans ?_ (toT 0)) ?_
  · exact Weak.of rfl rfl ⟨⟨rfl, rfl⟩, ⟨leafI (by rw [h0]), rfl⟩, ⟨rfl, rfl⟩, trivial⟩ ⟨⟨rfl, rfl, rfl⟩, trivial⟩
  intro k hk
  by_cases hlt : k < xs.length
  · rw [dif_pos hlt]
    have hb := hcb k hk
    have hb1 := hcb (k + 1) hlt
    have hst := hcs k hlt
    have hRk := hRl k hk
    have hps := psum_mem pCoin xs xs[k] (List.getElem_mem hlt)
    simp only [pCoin] at hps
    have w1 : IntKind.i64.wrap ((cn k : Int) + 1) = ((cn k + 1 : Nat) : Int) := by rw [IntWalk.i64_in _ (by omega)]; omega
    have w2 : IntKind.i64.wrap (((cn k + 1 : Nat) : Int) + 1) = ((cn k + 2 : Nat) : Int) := by rw [IntWalk.i64_in _ (by omega)]; omega
    have w3 : IntKind.i64.wrap (((cn k + 2 : Nat) : Int) + 1) = ((cn k + 3 : Nat) : Int) := by rw [IntWalk.i64_in _ (by omega)]; omega
    have w4 : IntKind.i64.wrap (((cn k + 3 + xs[k].lock.length : Nat) : Int) + 1) = ((cn k + 4 + xs[k].lock.length : Nat) : Int) := by rw [IntWalk.i64_in _ (by omega)]; omega
    have w5 : IntKind.i64.wrap (((cn k + 4 + xs[k].lock.length : Nat) : Int) + 1) = ((cn k + 5 + xs[k].lock.length : Nat) : Int) := by rw [IntWalk.i64_in _ (by omega)]; omega
    conv => whnf
    repeat' first
      | (refine AbsK.use (by assumption) ?_; conv => whnf)
      | (refine CondP.yes ?_; conv => whnf)
      | (refine CondP.not ?_; conv => whnf)
      | ((first | refine CondP.dec (fun h => ?_) (fun h => ?_) | refine CondP.ndec (fun h => ?_) (fun h => ?_)) <;> first | (exfalso; first | omega | exact h (by assumption) | exact absurd h (by assumption)) | (conv => whnf))
      | (refine Both.mk ?_ ?_ <;> (conv => whnf))
      | (refine Keep.mk (by repeat' first | exact trivial | rfl | refine And.intro ?_ ?_) ?_; conv => whnf)
      | (refine And.intro (by first | decide | omega) ?_; first | (refine runOps_abs (fun K hK => ?_); conv => whnf) | (conv => whnf))
      | fail
    refine ⟨by rw [List.length_set]; omega, ?_⟩
    rw [setAt (by omega) (row' := [iv (cn k), iv xs[k].out, iv xs[k].val, .own 1 xs[k].lock.length, iv xs[k].h, bv xs[k].base]) rfl]
    try refine runOps_abs (fun K hK => ?_)
    conv => whnf
    repeat' first
      | (refine AbsK.use (by assumption) ?_; conv => whnf)
      | (refine CondP.yes ?_; conv => whnf)
      | (refine CondP.not ?_; conv => whnf)
      | ((first | refine CondP.dec (fun h => ?_) (fun h => ?_) | refine CondP.ndec (fun h => ?_) (fun h => ?_)) <;> first | (exfalso; first | omega | exact h (by assumption) | exact absurd h (by assumption)) | (conv => whnf))
      | (refine Both.mk ?_ ?_ <;> (conv => whnf))
      | (refine Keep.mk (by repeat' first | exact trivial | rfl | refine And.intro ?_ ?_) ?_; conv => whnf)
      | (refine And.intro (by first | decide | omega) ?_; first | (refine runOps_abs (fun K hK => ?_); conv => whnf) | (conv => whnf))
      | fail
    rw [w1]
    refine ⟨by rw [List.length_set]; omega, ?_⟩
    rw [setAt (by omega) (row' := [iv (cn k), iv ((cn k + 1 : Nat) : Int), iv xs[k].val, .own 1 xs[k].lock.length, iv xs[k].h, bv xs[k].base]) rfl]
    try refine runOps_abs (fun K hK => ?_)
    conv => whnf
    repeat' first
      | (refine AbsK.use (by assumption) ?_; conv => whnf)
      | (refine CondP.yes ?_; conv => whnf)
      | (refine CondP.not ?_; conv => whnf)
      | ((first | refine CondP.dec (fun h => ?_) (fun h => ?_) | refine CondP.ndec (fun h => ?_) (fun h => ?_)) <;> first | (exfalso; first | omega | exact h (by assumption) | exact absurd h (by assumption)) | (conv => whnf))
      | (refine Both.mk ?_ ?_ <;> (conv => whnf))
      | (refine Keep.mk (by repeat' first | exact trivial | rfl | refine And.intro ?_ ?_) ?_; conv => whnf)
      | (refine And.intro (by first | decide | omega) ?_; first | (refine runOps_abs (fun K hK => ?_); conv => whnf) | (conv => whnf))
      | fail
    rw [w2]
    refine ⟨by rw [List.length_set]; omega, ?_⟩
    rw [setAt (by omega) (row' := [iv (cn k), iv ((cn k + 1 : Nat) : Int), iv ((cn k + 2 : Nat) : Int), .own 1 xs[k].lock.length, iv xs[k].h, bv xs[k].base]) rfl]
    try refine runOps_abs (fun K hK => ?_)
    conv => whnf
    repeat' first
      | (refine AbsK.use (by assumption) ?_; conv => whnf)
      | (refine CondP.yes ?_; conv => whnf)
      | (refine CondP.not ?_; conv => whnf)
      | ((first | refine CondP.dec (fun h => ?_) (fun h => ?_) | refine CondP.ndec (fun h => ?_) (fun h => ?_)) <;> first | (exfalso; first | omega | exact h (by assumption) | exact absurd h (by assumption)) | (conv => whnf))
      | (refine Both.mk ?_ ?_ <;> (conv => whnf))
      | (refine Keep.mk (by repeat' first | exact trivial | rfl | refine And.intro ?_ ?_) ?_; conv => whnf)
      | (refine And.intro (by first | decide | omega) ?_; first | (refine runOps_abs (fun K hK => ?_); conv => whnf) | (conv => whnf))
      | fail
    rw [w3, getAt (by omega)]
    refine ⟨⟨by rw [List.length_set]; omega, rfl⟩, ?_⟩
    try refine runOps_abs (fun K hK => ?_)
    conv => whnf
    repeat' first
      | (refine AbsK.use (by assumption) ?_; conv => whnf)
      | (refine CondP.yes ?_; conv => whnf)
      | (refine CondP.not ?_; conv => whnf)
      | ((first | refine CondP.dec (fun h => ?_) (fun h => ?_) | refine CondP.ndec (fun h => ?_) (fun h => ?_)) <;> first | (exfalso; first | omega | exact h (by assumption) | exact absurd h (by assumption)) | (conv => whnf))
      | (refine Both.mk ?_ ?_ <;> (conv => whnf))
      | (refine Keep.mk (by repeat' first | exact trivial | rfl | refine And.intro ?_ ?_) ?_; conv => whnf)
      | (refine And.intro (by first | decide | omega) ?_; first | (refine runOps_abs (fun K hK => ?_); conv => whnf) | (conv => whnf))
      | fail
    refine CallP.heapIs (markInt64S_ret xs[k].lock 1 (cn k + 3) 2 (by omega) (by omega)) rfl ktA rfl ?_
    conv => whnf
    repeat' first
      | (refine AbsK.use (by assumption) ?_; conv => whnf)
      | (refine CondP.yes ?_; conv => whnf)
      | (refine CondP.not ?_; conv => whnf)
      | ((first | refine CondP.dec (fun h => ?_) (fun h => ?_) | refine CondP.ndec (fun h => ?_) (fun h => ?_)) <;> first | (exfalso; first | omega | exact h (by assumption) | exact absurd h (by assumption)) | (conv => whnf))
      | (refine Both.mk ?_ ?_ <;> (conv => whnf))
      | (refine Keep.mk (by repeat' first | exact trivial | rfl | refine And.intro ?_ ?_) ?_; conv => whnf)
      | (refine And.intro (by first | decide | omega) ?_; first | (refine runOps_abs (fun K hK => ?_); conv => whnf) | (conv => whnf))
      | fail
    refine ⟨by rw [List.length_set]; omega, ?_⟩
    rw [setAt (by omega) (row' := [iv (cn k), iv ((cn k + 1 : Nat) : Int), iv ((cn k + 2 : Nat) : Int), .own 1 xs[k].lock.length, iv ((cn k + 3 + xs[k].lock.length : Nat) : Int), bv xs[k].base]) rfl]
    try refine runOps_abs (fun K hK => ?_)
    conv => whnf
    repeat' first
      | (refine AbsK.use (by assumption) ?_; conv => whnf)
      | (refine CondP.yes ?_; conv => whnf)
      | (refine CondP.not ?_; conv => whnf)
      | ((first | refine CondP.dec (fun h => ?_) (fun h => ?_) | refine CondP.ndec (fun h => ?_) (fun h => ?_)) <;> first | (exfalso; first | omega | exact h (by assumption) | exact absurd h (by assumption)) | (conv => whnf))
      | (refine Both.mk ?_ ?_ <;> (conv => whnf))
      | (refine Keep.mk (by repeat' first | exact trivial | rfl | refine And.intro ?_ ?_) ?_; conv => whnf)
      | (refine And.intro (by first | decide | omega) ?_; first | (refine runOps_abs (fun K hK => ?_); conv => whnf) | (conv => whnf))
      | fail
    rw [w4]
    refine ⟨by rw [List.length_set]; omega, ?_⟩
    rw [setAt (by omega) (row' := [iv (cn k), iv ((cn k + 1 : Nat) : Int), iv ((cn k + 2 : Nat) : Int), .own 1 xs[k].lock.length, iv ((cn k + 3 + xs[k].lock.length : Nat) : Int), bv (decide (((cn k + 4 + xs[k].lock.length : Nat) : Int).tmod 3 = 0))]) rfl]
    try refine runOps_abs (fun K hK => ?_)
    conv => whnf
    repeat' first
      | (refine AbsK.use (by assumption) ?_; conv => whnf)
      | (refine CondP.yes ?_; conv => whnf)
      | (refine CondP.not ?_; conv => whnf)
      | ((first | refine CondP.dec (fun h => ?_) (fun h => ?_) | refine CondP.ndec (fun h => ?_) (fun h => ?_)) <;> first | (exfalso; first | omega | exact h (by assumption) | exact absurd h (by assumption)) | (conv => whnf))
      | (refine Both.mk ?_ ?_ <;> (conv => whnf))
      | (refine Keep.mk (by repeat' first | exact trivial | rfl | refine And.intro ?_ ?_) ?_; conv => whnf)
      | (refine And.intro (by first | decide | omega) ?_; first | (refine runOps_abs (fun K hK => ?_); conv => whnf) | (conv => whnf))
      | fail
    rw [w5]
    refine ⟨k + 1, by omega, by omega, Weak.trans ?_ (toT (k + 1))⟩
    refine Weak.plant 0 _ 6 k 3 1 _ 1 xs[k].lock.length _ _ _ [iv (cn k), iv ((cn k + 1 : Nat) : Int), iv ((cn k + 2 : Nat) : Int), .own 1 xs[k].lock.length, iv ((cn k + 3 + xs[k].lock.length : Nat) : Int), bv (decide (((cn k + 4 + xs[k].lock.length : Nat) : Int).tmod 3 = 0))] rfl rfl (by simp [marks_len]) ?_ rfl ?_ (hRB (k + 1)) (inBIvs _) rfl ⟨⟨rfl, rfl, rfl⟩, ⟨leafI (by rw [hst]), rfl, rfl⟩, ⟨leafI numA, rfl, rfl⟩, trivial⟩ trivial
    · rw [List.getElem?_set_self (by omega)]
    · rw [List.set_set]
      exact (hRs k hlt).symm
  · rw [dif_neg hlt]
    obtain rfl : k = xs.length := by omega
    refine Goes ?_
    repeat' first | refine W2.m ?_ ?_ | refine W1.m fun h => ?_ | fail
    refine FinOk.mk' [] rfl rfl rfl rfl rfl rfl rfl ⟨?_, ?_, rfl⟩
    · rw [hcn, List.take_length]; rfl
    · rw [hR, mkR_all]; rfl
end Go.Proofs.YtfnehjminipaeaaGreat
