import Derived.Test.YtfnehjminipaeaaGreatLawA
import Derived.Test.YtfnehjminipaeaaGreatP16
import Derived.Test.YtfnehjminipaeaaGreatM1
import Derived.Test.YtfnehjminipaeaaGreatAmG
/-
  A TRANSACTION THAT CAME IN, AS IT IS READ.
-/
namespace Go.Proofs.YtfnehjminipaeaaGreat
open Go Go.Am Go.RowKit Go.ChangeShapes Go.WideShapes Go.ChangeAt Go.Deep
set_option linter.unusedVariables false
section
variable {H : Type} {enc : TypeId × Value → H} {w : World} {base : Nat} {sp : Nat → Bool} {held : Bool}
theorem all3 {Z0 Z1 Z2 : List AV → Prop} : ∀ {ps : List (List AV)}, All2 (fun (Z : List AV → Prop) p => Z p) [Z0, Z1, Z2] ps → ∃ p0 p1 p2, ps = [p0, p1, p2] ∧ Z0 p0 ∧ Z1 p1 ∧ Z2 p2
  | [p0, p1, p2], h => ⟨p0, p1, p2, rfl, h.1, h.2.1, h.2.2.1⟩
  | [], h => h.elim
  | [_], h => h.2.elim
  | [_, _], h => h.2.2.elim
  | _ :: _ :: _ :: _ :: _, h => h.2.2.2.elim
theorem all2 {Z0 Z1 : List AV → Prop} : ∀ {ps : List (List AV)}, All2 (fun (Z : List AV → Prop) p => Z p) [Z0, Z1] ps → ∃ p0 p1, ps = [p0, p1] ∧ Z0 p0 ∧ Z1 p1
  | [p0, p1], h => ⟨p0, p1, rfl, h.1, h.2.1⟩
  | [], h => h.elim
  | [_], h => h.2.elim
  | _ :: _ :: _ :: _, h => h.2.2.elim
theorem info_ints : Tryz.prog.underlying 42 = some (.slice 2) := by kernel_rfl
theorem cells_i64 : Tryz.prog.cellsOf 2 = 1 := by kernel_rfl
abbrev isInt : List AV → Prop := fun us => ∃ z : Int, us = [iv z]
abbrev isInts : List AV → Prop := fun us => ∃ zs : List Int, us = [il zs] ∧ zs.length ≤ maxLen
theorem reads_i : Reads enc Tryz.prog w base sp held 2 isInt := (reads_int info_i64).mono fun us ⟨z, h, _⟩ => ⟨z, h⟩
theorem reads_l : Reads enc Tryz.prog w base sp held 42 isInts := (reads_ints info_ints info_i64 cells_i64).mono fun us ⟨z, h, h2, _⟩ => ⟨z, h, h2⟩
theorem info_In : ∃ f0 f1 f2 : Field, Tryz.prog.underlying 260 = some (.struct #[f0, f1, f2]) ∧ f0.type = 2 ∧ f1.type = 2 ∧ f2.type = 42 ∧ offsB Tryz.prog 0 [f0, f1, f2] (Tryz.prog.cellsOf 260) = true :=
  ⟨_, _, _, Tryz.underlying260, rfl, rfl, rfl, by kernel_rfl⟩
theorem reads_In : Reads enc Tryz.prog w base sp held 260 fun us => ∃ x : InD, us = inRow x ∧ x.2.2.length ≤ maxLen := by
  obtain ⟨f0, f1, f2, hu, h0, h1, h2, ho⟩ := info_In
  refine (reads_struct hu [isInt, isInt, isInts] ho ⟨?_, ?_, ?_, trivial⟩).mono ?_
  · show Reads enc _ w base sp held f0.type isInt; rw [h0]; exact reads_i
  · show Reads enc _ w base sp held f1.type isInt; rw [h1]; exact reads_i
  · show Reads enc _ w base sp held f2.type isInts; rw [h2]; exact reads_l
  rintro us ⟨ps, hp, rfl⟩
  obtain ⟨_, _, _, rfl, ⟨a, rfl⟩, ⟨b, rfl⟩, ⟨c, rfl, hc⟩⟩ := all3 hp
  exact ⟨(a, b, c), rfl, hc⟩
theorem info_Out : ∃ f0 f1 : Field, Tryz.prog.underlying 262 = some (.struct #[f0, f1]) ∧ f0.type = 2 ∧ f1.type = 42 ∧ offsB Tryz.prog 0 [f0, f1] (Tryz.prog.cellsOf 262) = true :=
  ⟨_, _, Tryz.underlying262, rfl, rfl, by kernel_rfl⟩
theorem reads_Out : Reads enc Tryz.prog w base sp held 262 fun us => ∃ x : OutD, us = outRow x ∧ x.2.length ≤ maxLen := by
  obtain ⟨f0, f1, hu, h0, h1, ho⟩ := info_Out
  refine (reads_struct hu [isInt, isInts] ho ⟨?_, ?_, trivial⟩).mono ?_
  · show Reads enc _ w base sp held f0.type isInt; rw [h0]; exact reads_i
  · show Reads enc _ w base sp held f1.type isInts; rw [h1]; exact reads_l
  rintro us ⟨ps, hp, rfl⟩
  obtain ⟨_, _, rfl, ⟨a, rfl⟩, ⟨c, rfl, hc⟩⟩ := all2 hp
  exact ⟨(a, c), rfl, hc⟩
theorem reads_InS : Reads enc Tryz.prog w base sp held 85 fun us => ∃ xs : List InD, us = [insV xs] ∧ xs.length ≤ maxLen ∧ ∀ x ∈ xs, x.2.2.length ≤ maxLen :=
  (reads_slice Tryz.underlying85 (by rw [show Tryz.prog.cellsOf 260 = 3 from by kernel_rfl]; decide) reads_In).mono fun us ⟨rows, h1, h2, h3⟩ => by
    obtain ⟨zs, g1, g2, g3⟩ := rows_of (f := inRow) h3
    exact ⟨zs, by rw [h1, g1], by omega, g2⟩
theorem reads_OutS : Reads enc Tryz.prog w base sp held 86 fun us => ∃ xs : List OutD, us = [outsV xs] ∧ xs.length ≤ maxLen ∧ ∀ x ∈ xs, x.2.length ≤ maxLen :=
  (reads_slice Tryz.underlying86 (by rw [show Tryz.prog.cellsOf 262 = 2 from by kernel_rfl]; decide) reads_Out).mono fun us ⟨rows, h1, h2, h3⟩ => by
    obtain ⟨zs, g1, g2, g3⟩ := rows_of (f := outRow) h3
    exact ⟨zs, by rw [h1, g1], by omega, g2⟩
theorem info_Tx : ∃ f0 f1 f2 : Field, Tryz.prog.underlying 88 = some (.struct #[f0, f1, f2]) ∧ f0.type = 2 ∧ f1.type = 85 ∧ f2.type = 86 ∧ offsB Tryz.prog 0 [f0, f1, f2] (Tryz.prog.cellsOf 88) = true :=
  ⟨_, _, _, Tryz.underlying88, rfl, rfl, rfl, by kernel_rfl⟩
theorem reads_Tx : Reads enc Tryz.prog w base sp held 88 fun us => ∃ t : TxD, us = txC t ∧ Mem t := by
  obtain ⟨f0, f1, f2, hu, h0, h1, h2, ho⟩ := info_Tx
  refine (reads_struct hu [isInt, fun us => ∃ xs : List InD, us = [insV xs] ∧ xs.length ≤ maxLen ∧ ∀ x ∈ xs, x.2.2.length ≤ maxLen, fun us => ∃ xs : List OutD, us = [outsV xs] ∧ xs.length ≤ maxLen ∧ ∀ x ∈ xs, x.2.length ≤ maxLen] ho ⟨?_, ?_, ?_, trivial⟩).mono ?_
  · show Reads enc _ w base sp held f0.type isInt; rw [h0]; exact reads_i
  · show Reads enc _ w base sp held f1.type _; rw [h1]; exact reads_InS
  · show Reads enc _ w base sp held f2.type _; rw [h2]; exact reads_OutS
  rintro us ⟨ps, hp, rfl⟩
  obtain ⟨_, _, _, rfl, ⟨a, rfl⟩, ⟨b, rfl, hb1, hb2⟩, ⟨c, rfl, hc1, hc2⟩⟩ := all3 hp
  exact ⟨(a, b, c), rfl, Nat.le_trans hb1 (by decide), Nat.le_trans hc1 (by decide), fun x hx => Nat.le_trans (hb2 x hx) (by decide), fun x hx => Nat.le_trans (hc2 x hx) (by decide)⟩
/-- A struct that came in. -/
theorem reads_agg {t : TypeId} {Z : List AV → Prop} (hr : Reads enc Tryz.prog w base sp held t Z) {vs : Array Value} {d : DataW H} {ps : List MemPlace} (h : DataW.Trod enc Tryz.prog w base sp held t (.agg vs) d ps) : ∃ us, Z us ∧ VRel w (fun b => b < w.heap.size) (fun _ => none) (.agg vs) (.agg us) := by
  obtain ⟨fuel, hf⟩ := h
  obtain ⟨us, h1, h2⟩ := hr _ _ _ hf
  refine ⟨us, h1, ?_⟩
  have hv : (Value.agg vs) = .agg vs.toList.toArray := by simp
  rw [hv]
  exact .one (.agg vs.toList us (All2.mono (fun _ _ h => .rd h) (by simpa [Value.cells] using h2)))
theorem tx_came {vs : Array Value} {d : DataW H} {ps : List MemPlace} (h : DataW.Trod enc Tryz.prog w base sp held 88 (.agg vs) d ps) : ∃ t : TxD, Mem t ∧ VRel w (fun b => b < w.heap.size) (fun _ => none) (.agg vs) (txV t) := by
  obtain ⟨us, ⟨t, rfl, hm⟩, hv⟩ := reads_agg reads_Tx h
  exact ⟨t, hm, hv⟩
end
end Go.Proofs.YtfnehjminipaeaaGreat
/-
  PLAIN FACTS for chapter 5: coins.
-/
namespace Go.Am
open Go.RowKit
set_option linter.unusedVariables false

structure CoinD where
  tx : Int
  out : Int
  val : Int
  lock : List Int
  h : Int
  base : Bool
deriving DecidableEq
theorem coin_eq {a b : CoinD} : a = b ↔ a.tx = b.tx ∧ a.out = b.out ∧ a.val = b.val ∧ a.lock = b.lock ∧ a.h = b.h ∧ a.base = b.base := by
  cases a; cases b; simp
abbrev coinRow (c : CoinD) : List AV := [iv c.tx, iv c.out, iv c.val, il c.lock, iv c.h, bv c.base]
abbrev coinV (c : CoinD) : AV := .agg (coinRow c)
abbrev coinsV (l : List CoinD) : AV := .lst (l.map coinRow)
def coinC (c : CoinD) : Int := if inR 0 2147483646 c.tx ∧ inR 0 3 c.out ∧ inR 0 1000000 c.val ∧ inR 0 9999 c.h then progC c.lock else 3
/-- Whose key comes first. -/
def lessP (a b : CoinD) : Prop := a.tx < b.tx ∨ a.tx = b.tx ∧ a.out < b.out
instance (a b : CoinD) : Decidable (lessP a b) := inferInstanceAs (Decidable (_ ∨ _ ∧ _))
def ordP : Option CoinD → CoinD → Bool
  | none, _ => true
  | some q, c => decide (lessP q c)
def cgC (p : Option CoinD) : List CoinD → Int
  | [] => 0
  | c :: r => if coinC c ≠ 0 then coinC c else if ordP p c = true then cgC (some c) r else 1
abbrev valsC (l : List CoinD) : List Int := l.map (·.val)
def coinsC (l : List CoinD) : Int := if 40 < l.length then 2 else if cgC none l ≠ 0 then cgC none l else if inR 0 1000000 (sumV (valsC l)) then 0 else 7
def prevC (l : List CoinD) (k : Nat) : Option CoinD := (l.take k).getLast?
theorem prevC_zero (l : List CoinD) : prevC l 0 = none := by simp [prevC]
theorem prevC_succ (l : List CoinD) (k : Nat) (h : k < l.length) : prevC l (k + 1) = some l[k] := by
  rw [prevC, takeS l k h, List.getLast?_append]; rfl
theorem cgC_at (l : List CoinD) (k : Nat) (h : k < l.length) : cgC (prevC l k) (l.drop k) = if coinC l[k] ≠ 0 then coinC l[k] else if ordP (prevC l k) l[k] = true then cgC (prevC l (k + 1)) (l.drop (k + 1)) else 1 := by
  rw [prevC_succ l k h, List.drop_eq_getElem_cons h, cgC]
theorem cgC_end (l : List CoinD) : cgC (prevC l l.length) (l.drop l.length) = 0 := by rw [List.drop_length, cgC]
theorem coinC_val {c : CoinD} (h : ¬ coinC c ≠ 0) : inR 0 1000000 c.val := by
  unfold coinC at h
  split at h
  · rename_i h'; exact h'.2.2.1
  · simp at h
def cmpI (a b : Int) : Int := if a < b then -1 else if b < a then 1 else 0
def cmpC (a b : CoinD) : Int := if cmpI a.tx b.tx ≠ 0 then cmpI a.tx b.tx else cmpI a.out b.out
theorem cmpC_less (a b : CoinD) : ¬ 0 ≤ cmpC a b ↔ lessP a b := by
  unfold cmpC cmpI lessP
  repeat' split
  all_goals omega
/-- How much there is of it. -/
abbrev pCoin (c : CoinD) : Nat := c.lock.length
structure FitsC (l : List CoinD) : Prop where
  len : l.length ≤ 1048576
  locks : ∀ c ∈ l, pCoin c ≤ 1048576
structure MemC (l : List CoinD) : Prop where
  len : l.length ≤ 9223372036854775807
  locks : ∀ c ∈ l, pCoin c ≤ 9223372036854775807
end Go.Am
/-
  COINS THAT CAME IN, AS THEY ARE READ.
-/
namespace Go.Proofs.YtfnehjminipaeaaGreat
open Go Go.Am Go.RowKit Go.ChangeShapes Go.WideShapes Go.ChangeAt Go.Deep
set_option linter.unusedVariables false
section
variable {H : Type} {enc : TypeId × Value → H} {w : World} {base : Nat} {sp : Nat → Bool} {held : Bool}
theorem all6 {Z0 Z1 Z2 Z3 Z4 Z5 : List AV → Prop} {ps : List (List AV)} (h : All2 (fun (Z : List AV → Prop) p => Z p) [Z0, Z1, Z2, Z3, Z4, Z5] ps) : ∃ p0 p1 p2 p3 p4 p5, ps = [p0, p1, p2, p3, p4, p5] ∧ Z0 p0 ∧ Z1 p1 ∧ Z2 p2 ∧ Z3 p3 ∧ Z4 p4 ∧ Z5 p5 := by
  match ps, h with
  | [p0, p1, p2, p3, p4, p5], h => exact ⟨p0, p1, p2, p3, p4, p5, rfl, h.1, h.2.1, h.2.2.1, h.2.2.2.1, h.2.2.2.2.1, h.2.2.2.2.2.1⟩
abbrev isBool : List AV → Prop := fun us => ∃ z : Bool, us = [bv z]
theorem info_bool : Tryz.prog.underlying 4 = some .bool := by kernel_rfl
theorem reads_b : Reads enc Tryz.prog w base sp held 4 isBool := reads_bool info_bool
/-- A value of one cell that came in. -/
theorem reads_cell {t : TypeId} {Z : List AV → Prop} (hr : Reads enc Tryz.prog w base sp held t Z) {v : Value} {d : DataW H} {ps : List MemPlace} (hv : v.cells.toList = [v]) (h : DataW.Trod enc Tryz.prog w base sp held t v d ps) : ∃ us, Z us ∧ All2 (Rd w (Old w)) [v] us := by
  obtain ⟨fuel, hf⟩ := h
  obtain ⟨us, h1, h2⟩ := hr _ _ _ hf
  exact ⟨us, h1, by simpa [hv] using h2⟩
theorem info_Coin : ∃ f0 f1 f2 f3 f4 f5 : Field, Tryz.prog.underlying 198 = some (.struct #[f0, f1, f2, f3, f4, f5]) ∧ f0.type = 2 ∧ f1.type = 2 ∧ f2.type = 2 ∧ f3.type = 42 ∧ f4.type = 2 ∧ f5.type = 4 ∧ offsB Tryz.prog 0 [f0, f1, f2, f3, f4, f5] (Tryz.prog.cellsOf 198) = true :=
  ⟨_, _, _, _, _, _, Tryz.underlying198, rfl, rfl, rfl, rfl, rfl, rfl, by kernel_rfl⟩
theorem reads_Coin : Reads enc Tryz.prog w base sp held 198 fun us => ∃ x : CoinD, us = coinRow x ∧ pCoin x ≤ maxLen := by
  obtain ⟨f0, f1, f2, f3, f4, f5, hu, h0, h1, h2, h3, h4, h5, ho⟩ := info_Coin
  refine (reads_struct hu [isInt, isInt, isInt, isInts, isInt, isBool] ho ⟨?_, ?_, ?_, ?_, ?_, ?_, trivial⟩).mono ?_
  · show Reads enc _ w base sp held f0.type isInt; rw [h0]; exact reads_i
  · show Reads enc _ w base sp held f1.type isInt; rw [h1]; exact reads_i
  · show Reads enc _ w base sp held f2.type isInt; rw [h2]; exact reads_i
  · show Reads enc _ w base sp held f3.type isInts; rw [h3]; exact reads_l
  · show Reads enc _ w base sp held f4.type isInt; rw [h4]; exact reads_i
  · show Reads enc _ w base sp held f5.type isBool; rw [h5]; exact reads_b
  rintro us ⟨ps, hp, rfl⟩
  obtain ⟨_, _, _, _, _, _, rfl, ⟨a, rfl⟩, ⟨b, rfl⟩, ⟨c, rfl⟩, ⟨d, rfl, hd⟩, ⟨e, rfl⟩, ⟨f, rfl⟩⟩ := all6 hp
  exact ⟨⟨a, b, c, d, e, f⟩, rfl, hd⟩
theorem reads_CoinS : Reads enc Tryz.prog w base sp held 84 fun us => ∃ xs : List CoinD, us = [coinsV xs] ∧ MemC xs :=
  (reads_slice Tryz.underlying84 (by rw [show Tryz.prog.cellsOf 198 = 6 from by kernel_rfl]; decide) reads_Coin).mono fun us ⟨rows, h1, h2, h3⟩ => by
    obtain ⟨zs, g1, g2, g3⟩ := rows_of (f := coinRow) h3
    exact ⟨zs, by rw [h1, g1], by have : maxLen ≤ 9223372036854775807 := by decide
                                  omega, fun x hx => Nat.le_trans (g2 x hx) (by decide)⟩
theorem coins_came {a : Option Addr} {len cap : Nat} {d : DataW H} {ps : List MemPlace} (h : DataW.Trod enc Tryz.prog w base sp held 84 (.slice a len cap) d ps) : ∃ l : List CoinD, MemC l ∧ VRel w (fun b => b < w.heap.size) (fun _ => none) (.slice a len cap) (coinsV l) := by
  obtain ⟨us, ⟨l, rfl, hm⟩, hv⟩ := reads_cell reads_CoinS rfl h
  exact ⟨l, hm, .one (.cell (.rd hv.1))⟩
end
end Go.Proofs.YtfnehjminipaeaaGreat
/-
  CHAPTER 5: coins, how the laws copy, compare and measure them, by the reading.
-/
namespace Go.Proofs.YtfnehjminipaeaaGreat
open Go Go.Am Go.RowKit
set_option linter.unusedVariables false
set_option linter.unusedSimpArgs false
theorem toCoin_fr (c : CoinD) (n : Nat) (h : pCoin c ≤ 1048576) : Ret Tryz.prog 150 [coinV c] [] n true (Is (coinV c) [] n) := by
  refine Ret.fn ttOk Tryz.func150 rfl Tryz.call150 rfl rfl ?_
  refine Goes ?_
  repeat' first | refine W2.m ?_ ?_ | refine W1.m fun h => ?_ | fail
  first | refine CallP.is (toInt64S_fr c.lock _ h) rfl ?_ | refine CallQ.is (toInt64S_fr c.lock _ h) rfl rfl ?_
  refine Goes ?_
  repeat' first | refine W2.m ?_ ?_ | refine W1.m fun h => ?_ | fail
  refine FinOk.pure rfl rfl rfl ⟨?_, rfl, rfl⟩
  rfl
theorem toCoinS_ret (xs : List CoinD) (n : Nat) (hf : FitsC xs) : Ret Tryz.prog 58 [coinsV xs] [] n true (Is (.own n xs.length) [(n, .list 49 6 (xs.map coinRow))] (n + 1)) := by
  have hL : (xs.map coinRow).length = xs.length := by simp
  have hl := hf.len
  refine Ret.fn ttOk Tryz.func58 rfl Tryz.call58 rfl rfl ?_
  refine Goes ?_
  repeat' first | refine W2.m ?_ ?_ | refine W1.m fun h => ?_ | fail
  rw [hL]
  refine ⟨⟨by omega, by omega, by omega, by show _ * 64 ≤ _; omega⟩, ?_⟩
  refine Goes ?_
  repeat' first | refine W2.m ?_ ?_ | refine W1.m fun h => ?_ | fail
  refine LoopP.go (fun k : Nat => k ≤ xs.length) (fun k => ⟨[(0, coinsV xs), (3, .own 0 xs.length), (4, iv k)], [(0, .list 49 6 (fillR coinRow [iv 0, iv 0, iv 0, nl, iv 0, bv false] xs k))], 1⟩) (fun k => xs.length - k) 0 (Nat.zero_le _) ?_ ?_
  · refine Weak.of rfl rfl ktA ⟨⟨leafO ?_, rfl, rfl⟩, trivial⟩
    unfold fillR; simp
  intro k hk
  have hfl := fillR_len coinRow [iv 0, iv 0, iv 0, nl, iv 0, bv false] xs k hk
  refine Goes ?_
  repeat' first | refine W2.m ?_ ?_ | refine W1.m fun h => ?_ | fail
  · have hlt : k < xs.length := by omega
    rw [rowK coinRow xs k hlt]
    refine ⟨by rw [hL]; exact ⟨by omega, by omega, rfl⟩, ?_⟩
    refine Goes ?_
    repeat' first | refine W2.m ?_ ?_ | refine W1.m fun h => ?_ | fail
    first | refine CallP.is (toCoin_fr xs[k] _ (hf.locks _ (List.getElem_mem hlt))) rfl ?_ | refine CallQ.is (toCoin_fr xs[k] _ (hf.locks _ (List.getElem_mem hlt))) rfl rfl ?_
    refine Goes ?_
    repeat' first | refine W2.m ?_ ?_ | refine W1.m fun h => ?_ | fail
    refine ⟨k + 1, by omega, by omega, Weak.of rfl rfl ktA ⟨⟨leafO ?_, rfl, rfl⟩, trivial⟩⟩
    exact setRowR coinRow [iv 0, iv 0, iv 0, nl, iv 0, bv false] xs k hlt _ rfl _ rfl
  · obtain rfl : k = xs.length := by omega
    rw [fillR_all]
    refine FinOk.mk' [0] rfl rfl rfl rfl rfl rfl rfl ⟨?_, ?_, rfl⟩
    · rfl
    · rfl
theorem toCoinS_fr (xs : List CoinD) (n : Nat) (hf : FitsC xs) : Ret Tryz.prog 58 [coinsV xs] [] n true (Is (coinsV xs) [] n) :=
  Ret.freeze (by rintro _ _ _ ⟨rfl, rfl, rfl⟩; exact ⟨_, frCell (look_cons_eq _ _ _) (by simp), rfl, rfl, rfl⟩) (toCoinS_ret xs n hf)
theorem szCoin_ret (x : CoinD) (l : Int) (n : Nat) (h0 : 0 ≤ l) (h1 : l ≤ 1048576) (hl : x.lock.length ≤ 9223372036854775807) : Ret Tryz.prog 147 [coinV x, iv l] [] n true (Is (iv (leftI l x.lock.length)) [] n) := by
  refine Ret.fn ttOk Tryz.func147 rfl Tryz.call147 rfl rfl ?_
  refine Goes ?_
  repeat' first | refine W2.m ?_ ?_ | refine W1.m fun h => ?_ | fail
  first | refine CallP.is (szInt64S_ret x.lock l _ h0 h1 hl) rfl ?_ | refine CallQ.is (szInt64S_ret x.lock l _ h0 h1 hl) rfl rfl ?_
  refine Goes ?_
  repeat' first | refine W2.m ?_ ?_ | refine W1.m fun h => ?_ | fail
  · have h' : leftI l x.lock.length < 0 := h
    refine FinOk.pure rfl rfl rfl ⟨?_, rfl, rfl⟩
    rw [(leftI_neg h' h0).1]
  · refine FinOk.pure rfl rfl rfl ⟨?_, rfl, rfl⟩
    rfl
theorem szCoinS_ret (xs : List CoinD) (l : Int) (n : Nat) (h0 : 0 ≤ l) (h1 : l ≤ 1048576) (hm : MemC xs) : Ret Tryz.prog 56 [coinsV xs, iv l] [] n true (Is (iv (leftI l (xs.length + psum pCoin xs : Nat))) [] n) := by
  have hL : (xs.map coinRow).length = xs.length := by simp
  have hl := hm.len
  have he : IntKind.i64.wrap (l - (xs.map coinRow).length) = l - xs.length := by rw [hL, IntWalk.i64_in _ (by omega)]
  refine Ret.fn ttOk Tryz.func56 rfl Tryz.call56 rfl rfl ?_
  refine Goes ?_
  repeat' first | refine W2.m ?_ ?_ | refine W1.m fun h => ?_ | fail
  · rw [he] at h
    refine FinOk.pure rfl rfl rfl ⟨?_, rfl, rfl⟩
    unfold leftI; rw [if_neg (by omega)]
  rw [he] at h ⊢
  refine LoopP.go (fun k : Nat => k ≤ xs.length ∧ (xs.length + psum pCoin (xs.take k) : Nat) ≤ l) (fun k => ⟨[(0, coinsV xs), (1, iv (l - (xs.length + psum pCoin (xs.take k) : Nat))), (5, iv k)], [], 0⟩) (fun k => xs.length - k) 0 ⟨Nat.zero_le _, by simp [psum]; omega⟩ ?_ ?_
  · exact Weak.of rfl rfl ⟨⟨rfl, rfl⟩, ⟨leafI (by simp [psum]), rfl⟩, ⟨rfl, rfl⟩, trivial⟩ trivial
  intro k ⟨hk, hp⟩
  refine Goes ?_
  repeat' first | refine W2.m ?_ ?_ | refine W1.m fun h => ?_ | fail
  · have hlt : k < xs.length := by omega
    have hst : psum pCoin (xs.take (k + 1)) = psum pCoin (xs.take k) + xs[k].lock.length := psum_take pCoin xs k hlt
    have hle := psum_le pCoin xs (k + 1)
    rw [rowK coinRow xs k hlt]
    refine ⟨by rw [hL]; exact ⟨by omega, by omega, rfl⟩, ?_⟩
    refine Goes ?_
    repeat' first | refine W2.m ?_ ?_ | refine W1.m fun h => ?_ | fail
    first | refine CallP.is (szCoin_ret xs[k] _ _ (by omega) (by omega) (hm.locks _ (List.getElem_mem hlt))) rfl ?_ | refine CallQ.is (szCoin_ret xs[k] _ _ (by omega) (by omega) (hm.locks _ (List.getElem_mem hlt))) rfl rfl ?_
    refine Goes ?_
    repeat' first | refine W2.m ?_ ?_ | refine W1.m fun h => ?_ | fail
    · obtain ⟨g1, g2⟩ := leftI_neg h (by omega)
      refine FinOk.pure rfl rfl rfl ⟨?_, rfl, rfl⟩
      unfold leftI; rw [if_neg (by omega)]
    · obtain ⟨g1, g2⟩ := leftI_pos h
      rw [g1]
      exact ⟨k + 1, ⟨by omega, by omega⟩, by omega, Weak.of rfl rfl ⟨⟨rfl, rfl⟩, ⟨leafI (by rw [hst]; omega), rfl⟩, ⟨leafI numA, rfl⟩, trivial⟩ trivial⟩
  · obtain rfl : k = xs.length := by omega
    rw [List.take_length] at hp ⊢
    refine FinOk.pure rfl rfl rfl ⟨?_, rfl, rfl⟩
    unfold leftI; rw [if_pos (by omega)]
def sizeC (l : List CoinD) : Nat := l.length + psum pCoin l
theorem fitsC_of {l : List CoinD} (h : sizeC l ≤ 1048576) : FitsC l := by
  unfold sizeC at h
  exact ⟨by omega, fun c hc => by have := psum_mem pCoin l c hc; omega⟩
theorem eqCoin_ret (a b : CoinD) (n : Nat) (hl : pCoin a ≤ 1048576) : Ret Tryz.prog 153 [coinV a, coinV b] [] n true (Is (bv (decide (a = b))) [] n) := by
  refine Ret.fn ttOk Tryz.func153 rfl Tryz.call153 rfl rfl ?_
  refine Goes ?_
  repeat' first | refine W2.m ?_ ?_ | refine W1.m fun h => ?_ | fail
  · have h' : ¬ a.tx = b.tx := h
    refine FinOk.pure rfl rfl rfl ⟨?_, rfl, rfl⟩; refine bvI ?_; simp [coin_eq, h']
  · have h' : ¬ a.out = b.out := h
    refine FinOk.pure rfl rfl rfl ⟨?_, rfl, rfl⟩; refine bvI ?_; simp [coin_eq, h']
  · have h' : ¬ a.val = b.val := h
    refine FinOk.pure rfl rfl rfl ⟨?_, rfl, rfl⟩; refine bvI ?_; simp [coin_eq, h']
  have g1 : a.tx = b.tx := Decidable.not_not.1 (by assumption)
  have g2 : a.out = b.out := Decidable.not_not.1 (by assumption)
  have g3 : a.val = b.val := Decidable.not_not.1 (by assumption)
  first | refine CallP.is (eqInt64S_ret a.lock b.lock _ hl) rfl ?_ | refine CallQ.is (eqInt64S_ret a.lock b.lock _ hl) rfl rfl ?_
  refine Goes ?_
  repeat' first | refine W2.m ?_ ?_ | refine W1.m fun h => ?_ | fail
  · have h' : ¬ a.lock = b.lock := h
    refine FinOk.pure rfl rfl rfl ⟨?_, rfl, rfl⟩; refine bvI ?_; simp [coin_eq, h']
  · have h' : ¬ a.h = b.h := h
    refine FinOk.pure rfl rfl rfl ⟨?_, rfl, rfl⟩; refine bvI ?_; simp [coin_eq, h']
  · have g4 : a.lock = b.lock := by assumption
    have g5 : a.h = b.h := Decidable.not_not.1 (by assumption)
    have g6 := h
    refine FinOk.pure rfl rfl rfl ⟨?_, rfl, rfl⟩; refine bvI ?_; revert g6; cases h6 : a.base <;> cases h7 : b.base <;> simp [coin_eq, g1, g2, g3, g4, g5, h6, h7]
  · have g4 : a.lock = b.lock := by assumption
    have g5 : a.h = b.h := Decidable.not_not.1 (by assumption)
    have g6 := h
    refine FinOk.pure rfl rfl rfl ⟨?_, rfl, rfl⟩; refine bvI ?_; revert g6; cases h6 : a.base <;> cases h7 : b.base <;> simp [coin_eq, g1, g2, g3, g4, g5, h6, h7]
theorem eqCoinS_ret (a b : List CoinD) (n : Nat) (hf : FitsC a) : Ret Tryz.prog 60 [coinsV a, coinsV b] [] n true (Is (bv (decide (a = b))) [] n) := by
  have hL : (a.map coinRow).length = a.length := by simp
  have hM : (b.map coinRow).length = b.length := by simp
  have hl := hf.len
  refine Ret.fn ttOk Tryz.func60 rfl Tryz.call60 rfl rfl ?_
  refine Goes ?_
  repeat' first | refine W2.m ?_ ?_ | refine W1.m fun h => ?_ | fail
  · refine FinOk.pure rfl rfl rfl ⟨?_, rfl, rfl⟩
    refine bvI ?_
    have : a ≠ b := fun e => h (by rw [e])
    simp [this]
  · have hab : a.length = b.length := by omega
    refine LoopP.go (fun k : Nat => k ≤ a.length ∧ a.take k = b.take k) (fun k => ⟨[(0, coinsV a), (1, coinsV b), (5, iv k)], [], 0⟩) (fun k => a.length - k) 0 ⟨Nat.zero_le _, rfl⟩ (Weak.of rfl rfl ktA trivial) ?_
    intro k ⟨hk, hp⟩
    refine Goes ?_
    repeat' first | refine W2.m ?_ ?_ | refine W1.m fun h => ?_ | fail
    · have hka : k < a.length := by omega
      have hkb : k < b.length := by omega
      rw [rowK coinRow a k hka]
      refine ⟨by rw [hL]; exact ⟨by omega, by omega, rfl⟩, ?_⟩
      refine Goes ?_
      repeat' first | refine W2.m ?_ ?_ | refine W1.m fun h => ?_ | fail
      rw [rowK coinRow b k hkb]
      refine ⟨by rw [hM]; exact ⟨by omega, by omega, rfl⟩, ?_⟩
      refine Goes ?_
      repeat' first | refine W2.m ?_ ?_ | refine W1.m fun h => ?_ | fail
      first | refine CallP.is (eqCoin_ret a[k] b[k] _ (hf.locks _ (List.getElem_mem hka))) rfl ?_ | refine CallQ.is (eqCoin_ret a[k] b[k] _ (hf.locks _ (List.getElem_mem hka))) rfl rfl ?_
      refine Goes ?_
      repeat' first | refine W2.m ?_ ?_ | refine W1.m fun h => ?_ | fail
      · refine FinOk.pure rfl rfl rfl ⟨?_, rfl, rfl⟩
        refine bvI ?_
        have : a ≠ b := fun e => h (by subst e; rfl)
        simp [this]
      · have he : a[k] = b[k] := by assumption
        exact ⟨k + 1, ⟨by omega, by rw [takeS a k hka, takeS b k hkb, hp, he]⟩, by omega, (Weak.of rfl rfl ktA trivial)⟩
    · refine FinOk.pure rfl rfl rfl ⟨?_, rfl, rfl⟩
      refine bvI ?_
      rw [List.take_of_length_le (by omega), List.take_of_length_le (by omega)] at hp
      simp [hp]
theorem eqCoinS_yes (a : List CoinD) (n : Nat) (hf : FitsC a) : Ret Tryz.prog 60 [coinsV a, coinsV a] [] n true (Is (bv true) [] n) := by
  have := eqCoinS_ret a a n hf
  rwa [decide_eq_true rfl] at this
end Go.Proofs.YtfnehjminipaeaaGreat
/-
  OWN LISTS OF OWN LISTS: a plain own list is one.
-/
namespace Go.Am
open Go.RowKit
set_option linter.unusedVariables false
set_option linter.unusedSimpArgs false
theorem flatten_lenW {s : Nat} : ∀ {rows : List (List AV)}, (∀ r ∈ rows, r.length = s) → rows.flatten.length = rows.length * s
  | [], _ => by simp
  | r :: rs, h => by
    rw [List.flatten_cons, List.length_append, flatten_lenW fun x hx => h x (List.mem_cons_of_mem _ hx), h r (List.mem_cons_self ..), List.length_cons, Nat.add_mul]
    omega
/-- A plain own list may be read as one that may hold own lists. -/
theorem Weak.nest {fx : List Nat} {tm : List (Nat × AV)} {hp : Hp} {nx : Nat} (id e s : Nat) (rows : List (List AV)) (hl : look hp id = some (.list e s rows)) :
    Weak fx ⟨tm, hp, nx⟩ ⟨tm, (id, .nest (c := true) e s rows) :: hp, nx⟩ := by
  rintro E a w _ ⟨hsz, hd, ι, S, hC, hTm⟩
  obtain ⟨hid0, huse0, hob⟩ := hC.obj id _ hl
  refine ⟨hsz, hd, ι, S, ⟨hC.frame, hC.sub, hC.lt, hC.dis, hC.own, hC.inj, hC.new, ?_, hC.stay, hC.fxs⟩, hTm⟩
  intro i o h
  by_cases hii : id = i
  · subst hii
    rw [look_cons_eq] at h
    simp only [Option.some.injEq] at h
    subst h
    refine ⟨hid0, ?_, ?_⟩
    · intro h0; cases h0
    · cases hob with
      | nil _ _ h' h2 => exact .nest0 e s h' h2
      | list g cap _ _ _ vs h' hs hr hle hm hb hn hc => exact .nest g cap e s rows vs h' hs hr hle hm hb hn fun j v c hv ha => .inr (.rd (hc j v c hv ha))
  · rw [look_cons_ne _ _ hii] at h
    exact hC.obj i o h
end Go.Am
