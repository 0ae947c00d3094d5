/-
  CHAPTER 8: Vals, how the laws copy, compare and measure them; SameVals, both sides; its law.
-/
import Derived.Test.YtffjfadmhpfmbaaP16
import Derived.Test.YtffjfadmhpfmbaaS1
import Derived.Test.YtffjfadmhpfmbaaP1
namespace Go.Proofs.Ytffjfadmhpfmbaa
open Go Go.Am Go.RowKit
set_option linter.unusedVariables false
set_option linter.unusedSimpArgs false
structure ValD where
  kind : Int
  num : Int
  text : ByteArray
abbrev valR (x : ValD) : List AV := [iv x.kind, iv x.num, sv x.text]
abbrev valsV (xs : List ValD) : AV := .lst (xs.map valR)
def sizeVl (x : ValD) : Nat := x.text.size
structure MemVs (xs : List ValD) : Prop where
  len : xs.length ≤ 9223372036854775807
  vals : ∀ x ∈ xs, x.text.size ≤ 9223372036854775807 ∧ isI64 x.kind ∧ isI64 x.num
structure FitsVs (xs : List ValD) : Prop where
  len : xs.length ≤ 1048576
  vals : ∀ x ∈ xs, x.text.size ≤ 1048576
theorem fitsVs_of {xs : List ValD} (h : xs.length + psum sizeVl xs ≤ 1048576) : FitsVs xs :=
  ⟨by omega, fun x hx => by have := psum_mem sizeVl xs x hx; unfold sizeVl at *; omega⟩
theorem toVal_fr (x : ValD) (n : Nat) : Ret Try.prog 22 [.agg (valR x)] [] n true (Is (.agg (valR x)) [] n) := by
  refine Ret.fn ttOk Try.func22 rfl Try.call22 rfl rfl ?_
  refine Goes ?_
  repeat' first | refine W2.m ?_ ?_ | refine W1.m fun h => ?_ | fail
  refine FinOk.pure rfl rfl rfl ⟨?_, rfl, rfl⟩
  rfl
theorem szVal_ret (x : ValD) (l : Int) (n : Nat) (h0 : 0 ≤ l) (h1 : l ≤ 1048576) (hm : x.text.size ≤ 9223372036854775807) : Ret Try.prog 21 [.agg (valR x), iv l] [] n true (Is (iv (leftI l (sizeVl x))) [] n) := by
  have e1 : IntKind.i64.wrap (l - (x.text.size : Int)) = l - x.text.size := IntWalk.i64_in _ (by omega)
  refine Ret.fn ttOk Try.func21 rfl Try.call21 rfl rfl ?_
  refine Goes ?_
  repeat' first | refine W2.m ?_ ?_ | refine W1.m fun h => ?_ | fail
  · rw [e1] at h
    refine FinOk.pure rfl rfl rfl ⟨?_, rfl, rfl⟩
    unfold leftI sizeVl; rw [if_neg (by omega)]
  · rw [e1] at h
    refine FinOk.pure rfl rfl rfl ⟨?_, rfl, rfl⟩
    rw [e1]
    unfold leftI sizeVl; rw [if_pos (by omega)]
theorem eqVal_yes (x : ValD) (n : Nat) : Ret Try.prog 24 [.agg (valR x), .agg (valR x)] [] n true (Is (bv true) [] n) := by
  refine Ret.fn ttOk Try.func24 rfl Try.call24 rfl rfl ?_
  refine Goes ?_
  repeat' first | refine W2.m ?_ ?_ | refine W1.m fun h => ?_ | fail
  simp only [beq_self_eq_true, Bool.not_true]
  refine Goes ?_
  repeat' first | refine W2.m ?_ ?_ | refine W1.m fun h => ?_ | fail
  refine FinOk.pure rfl rfl rfl ⟨?_, rfl, rfl⟩
  rfl
theorem toValS_ret (xs : List ValD) (n : Nat) (hl : xs.length ≤ 1048576) (hx : ∀ x ∈ xs, ∀ n, Ret Try.prog 22 [.agg (valR x)] [] n true (Is (.agg (valR x)) [] n)) : Ret Try.prog 12 [.lst (xs.map valR)] [] n true (Is (.own n xs.length) [(n, .list 47 3 (xs.map valR))] (n + 1)) := by
  have hL : (xs.map valR).length = xs.length := by simp
  refine Ret.fn ttOk Try.func12 rfl Try.call12 rfl rfl ?_
  refine Goes ?_
  repeat' first | refine W2.m ?_ ?_ | refine W1.m fun h => ?_ | fail
  rw [hL]
  refine ⟨⟨by omega, by omega, by omega, by show _ * 32 ≤ _; omega⟩, ?_⟩
  refine Goes ?_
  repeat' first | refine W2.m ?_ ?_ | refine W1.m fun h => ?_ | fail
  refine LoopP.go (fun k : Nat => k ≤ xs.length) (fun k => ⟨[(0, .lst (xs.map valR)), (3, .own 0 xs.length), (4, iv k)], [(0, .list 47 3 (fillR valR [iv 0, iv 0, sv ⟨#[]⟩] xs k))], 1⟩) (fun k => xs.length - k) 0 (Nat.zero_le _) ?_ ?_
  · refine Weak.of rfl rfl ktA ⟨⟨leafO ?_, rfl, rfl⟩, trivial⟩
    unfold fillR; simp
  intro k hk
  have hfl := fillR_len valR [iv 0, iv 0, sv ⟨#[]⟩] xs k hk
  refine Goes ?_
  repeat' first | refine W2.m ?_ ?_ | refine W1.m fun h => ?_ | fail
  · have hlt : k < xs.length := by omega
    rw [rowK valR xs k hlt]
    refine ⟨by rw [hL]; exact ⟨by omega, by omega, rfl⟩, ?_⟩
    refine Goes ?_
    repeat' first | refine W2.m ?_ ?_ | refine W1.m fun h => ?_ | fail
    first | refine CallP.is (hx xs[k] (List.getElem_mem hlt) _) rfl ?_ | refine CallQ.is (hx xs[k] (List.getElem_mem hlt) _) rfl rfl ?_
    refine Goes ?_
    repeat' first | refine W2.m ?_ ?_ | refine W1.m fun h => ?_ | fail
    refine ⟨k + 1, by omega, by omega, Weak.of rfl rfl ktA ⟨⟨leafO ?_, rfl, rfl⟩, trivial⟩⟩
    exact setRowR valR [iv 0, iv 0, sv ⟨#[]⟩] xs k hlt _ rfl _ rfl
  · obtain rfl : k = xs.length := by omega
    rw [fillR_all]
    refine FinOk.mk' [0] rfl rfl rfl rfl rfl rfl rfl ⟨?_, ?_, rfl⟩
    · rfl
    · rfl
theorem toValS_fr (xs : List ValD) (n : Nat) (hl : xs.length ≤ 1048576) (hx : ∀ x ∈ xs, ∀ n, Ret Try.prog 22 [.agg (valR x)] [] n true (Is (.agg (valR x)) [] n)) : Ret Try.prog 12 [.lst (xs.map valR)] [] n true (Is (.lst (xs.map valR)) [] n) :=
  Ret.freeze (by rintro _ _ _ ⟨rfl, rfl, rfl⟩; exact ⟨_, frCell (look_cons_eq _ _ _) (by simp), rfl, rfl, rfl⟩) (toValS_ret xs n hl hx)
theorem szValS_ret (xs : List ValD) (l : Int) (n : Nat) (h0 : 0 ≤ l) (h1 : l ≤ 1048576) (hl : xs.length ≤ 9223372036854775807) (hx : ∀ x ∈ xs, ∀ (l : Int) (n : Nat), 0 ≤ l → l ≤ 1048576 → Ret Try.prog 21 [.agg (valR x), iv l] [] n true (Is (iv (leftI l (sizeVl x))) [] n)) : Ret Try.prog 10 [.lst (xs.map valR), iv l] [] n true (Is (iv (leftI l (xs.length + psum sizeVl xs : Nat))) [] n) := by
  have hL : (xs.map valR).length = xs.length := by simp
  have he : IntKind.i64.wrap (l - (xs.map valR).length) = l - xs.length := by rw [hL, IntWalk.i64_in _ (by omega)]
  refine Ret.fn ttOk Try.func10 rfl Try.call10 rfl rfl ?_
  refine Goes ?_
  repeat' first | refine W2.m ?_ ?_ | refine W1.m fun h => ?_ | fail
  · rw [he] at h
    refine FinOk.pure rfl rfl rfl ⟨?_, rfl, rfl⟩
    unfold leftI; rw [if_neg (by omega)]
  rw [he] at h ⊢
  refine LoopP.go (fun k : Nat => k ≤ xs.length ∧ (xs.length + psum sizeVl (xs.take k) : Nat) ≤ l) (fun k => ⟨[(0, .lst (xs.map valR)), (1, iv (l - (xs.length + psum sizeVl (xs.take k) : Nat))), (5, iv k)], [], 0⟩) (fun k => xs.length - k) 0 ⟨Nat.zero_le _, by simp [psum]; omega⟩ ?_ ?_
  · exact Weak.of rfl rfl ⟨⟨rfl, rfl⟩, ⟨leafI (by simp [psum]), rfl⟩, ⟨rfl, rfl⟩, trivial⟩ trivial
  intro k ⟨hk, hp⟩
  refine Goes ?_
  repeat' first | refine W2.m ?_ ?_ | refine W1.m fun h => ?_ | fail
  · have hlt : k < xs.length := by omega
    have hst : psum sizeVl (xs.take (k + 1)) = psum sizeVl (xs.take k) + sizeVl xs[k] := psum_take sizeVl xs k hlt
    have hle := psum_le sizeVl xs (k + 1)
    rw [rowK valR xs k hlt]
    refine ⟨by rw [hL]; exact ⟨by omega, by omega, rfl⟩, ?_⟩
    refine Goes ?_
    repeat' first | refine W2.m ?_ ?_ | refine W1.m fun h => ?_ | fail
    first | refine CallP.is (hx xs[k] (List.getElem_mem hlt) _ _ (by omega) (by omega)) rfl ?_ | refine CallQ.is (hx xs[k] (List.getElem_mem hlt) _ _ (by omega) (by omega)) rfl rfl ?_
    refine Goes ?_
    repeat' first | refine W2.m ?_ ?_ | refine W1.m fun h => ?_ | fail
    · obtain ⟨g1, g2⟩ := leftI_neg h (by omega)
      refine FinOk.pure rfl rfl rfl ⟨?_, rfl, rfl⟩
      unfold leftI; rw [if_neg (by omega)]
    · obtain ⟨g1, g2⟩ := leftI_pos h
      rw [g1]
      exact ⟨k + 1, ⟨by omega, by omega⟩, by omega, Weak.of rfl rfl ⟨⟨rfl, rfl⟩, ⟨leafI (by rw [hst]; omega), rfl⟩, ⟨leafI numA, rfl⟩, trivial⟩ trivial⟩
  · obtain rfl : k = xs.length := by omega
    rw [List.take_length] at hp ⊢
    refine FinOk.pure rfl rfl rfl ⟨?_, rfl, rfl⟩
    unfold leftI; rw [if_pos (by omega)]
theorem eqValS_yes (a : List ValD) (n : Nat) (hl : a.length ≤ 1048576) (hx : ∀ x ∈ a, ∀ n, Ret Try.prog 24 [.agg (valR x), .agg (valR x)] [] n true (Is (bv true) [] n)) : Ret Try.prog 14 [.lst (a.map valR), .lst (a.map valR)] [] n true (Is (bv true) [] n) := by
  have hL : (a.map valR).length = a.length := by simp
  refine Ret.fn ttOk Try.func14 rfl Try.call14 rfl rfl ?_
  refine Goes ?_
  repeat' first | refine W2.m ?_ ?_ | refine W1.m fun h => ?_ | fail
  refine LoopP.go (fun k : Nat => k ≤ a.length) (fun k => ⟨[(0, .lst (a.map valR)), (1, .lst (a.map valR)), (5, iv k)], [], 0⟩) (fun k => a.length - k) 0 (Nat.zero_le _) (Weak.of rfl rfl ktA trivial) ?_
  intro k hk
  refine Goes ?_
  repeat' first | refine W2.m ?_ ?_ | refine W1.m fun h => ?_ | fail
  · have hka : k < a.length := by omega
    rw [rowK valR a k hka]
    refine ⟨by rw [hL]; exact ⟨by omega, by omega, rfl⟩, ?_⟩
    refine Goes ?_
    repeat' first | refine W2.m ?_ ?_ | refine W1.m fun h => ?_ | fail
    rw [rowK valR a k hka]
    refine ⟨by rw [hL]; exact ⟨by omega, by omega, rfl⟩, ?_⟩
    refine Goes ?_
    repeat' first | refine W2.m ?_ ?_ | refine W1.m fun h => ?_ | fail
    first | refine CallP.is (hx a[k] (List.getElem_mem hka) _) rfl ?_ | refine CallQ.is (hx a[k] (List.getElem_mem hka) _) rfl rfl ?_
    refine Goes ?_
    repeat' first | refine W2.m ?_ ?_ | refine W1.m fun h => ?_ | fail
    exact ⟨k + 1, by omega, by omega, (Weak.of rfl rfl ktA trivial)⟩
  · refine FinOk.pure rfl rfl rfl ⟨?_, rfl, rfl⟩
    rfl
/-- A Val's fields. -/
def keyV (x : ValD) : List KV := [.int x.kind, .int x.num, .str x.text.toList]
def sameV (a b : List ValD) : Bool := decide (a.map keyV = b.map keyV)
theorem sameV_len {a b : List ValD} (h : a.length ≠ b.length) : sameV a b = false := decide_eq_false fun e => h (by simpa using congrArg List.length e)
theorem sameV_ne {a b : List ValD} {k : Nat} (hka : k < a.length) (hkb : k < b.length) (h : ¬ keyV a[k] = keyV b[k]) : sameV a b = false := decide_eq_false fun e => h (by
  have := congrArg (fun l => l[k]?) e
  simpa [hka, hkb] using this)
theorem sameV_take {a b : List ValD} {k : Nat} (hka : k < a.length) (hkb : k < b.length) (hp : (a.take k).map keyV = (b.take k).map keyV) (h : keyV a[k] = keyV b[k]) : (a.take (k + 1)).map keyV = (b.take (k + 1)).map keyV := by
  rw [takeS a k hka, takeS b k hkb, List.map_append, List.map_append, hp]
  simp [h]
theorem sameV_all {a b : List ValD} {k : Nat} (hk : k = a.length) (hk' : a.length = b.length) (hp : (a.take k).map keyV = (b.take k).map keyV) : sameV a b = true := by
  rw [List.take_of_length_le (by omega), List.take_of_length_le (by omega)] at hp
  exact decide_eq_true hp
theorem slEqualVal_ret (a b : List ValD) (n : Nat) (hl : a.length ≤ 1048576) : Ret Try.prog 23 [.lst (a.map valR), .lst (b.map valR)] [] n true (Is (bv (sameV a b)) [] n) := by
  have hLa : (a.map valR).length = a.length := by simp
  have hLb : (b.map valR).length = b.length := by simp
  refine Ret.fn ttOk Try.func23 rfl Try.call23 rfl rfl ?_
  refine Goes ?_
  repeat' first | refine W2.m ?_ ?_ | refine W1.m fun h => ?_ | fail
  · refine FinOk.pure rfl rfl rfl ⟨?_, rfl, rfl⟩
    rw [sameV_len (by omega)]
  have hab : a.length = b.length := by omega
  refine LoopP.go (fun k : Nat => k ≤ a.length ∧ (a.take k).map keyV = (b.take k).map keyV) (fun k => ⟨[(0, .lst (a.map valR)), (1, .lst (b.map valR)), (12, iv a.length), (13, iv k)], [], 0⟩) (fun k => a.length - k) 0 ⟨Nat.zero_le _, rfl⟩ ?_ ?_
  · rw [hLa]; exact (Weak.of rfl rfl ktA trivial)
  intro k ⟨hk, hp⟩
  refine Goes ?_
  repeat' first | refine W2.m ?_ ?_ | refine W1.m fun h => ?_ | fail
  · have hka : k < a.length := by omega
    have hkb : k < b.length := by omega
    rw [rowK valR a k hka]
    refine ⟨by rw [hLa]; exact ⟨by omega, by omega, rfl⟩, ?_⟩
    refine Goes ?_
    repeat' first | refine W2.m ?_ ?_ | refine W1.m fun h => ?_ | fail
    rw [rowK valR b k hkb]
    refine ⟨by rw [hLb]; exact ⟨by omega, by omega, rfl⟩, ?_⟩
    refine Goes ?_
    repeat' first | refine W2.m ?_ ?_ | refine W1.m fun h => ?_ | fail
    · have h' : ¬ keyV a[k] = keyV b[k] := h
      refine FinOk.pure rfl rfl rfl ⟨?_, rfl, rfl⟩
      rw [sameV_ne hka hkb h']
    · have h' : keyV a[k] = keyV b[k] := Decidable.not_not.1 h
      exact ⟨k + 1, ⟨by omega, sameV_take hka hkb hp h'⟩, by omega, (Weak.of rfl rfl ktA trivial)⟩
  · refine FinOk.pure rfl rfl rfl ⟨?_, rfl, rfl⟩
    rw [sameV_all (by omega) hab hp]
theorem implSameVals_ret (a b : List ValD) (n : Nat) (hl : a.length ≤ 1048576) : Ret Try.prog 13 [valsV a, valsV b] [] n true (Is (bv (sameV a b)) [] n) := by
  refine Ret.fn ttOk Try.func13 rfl Try.call13 rfl rfl ?_
  refine Goes ?_
  repeat' first | refine W2.m ?_ ?_ | refine W1.m fun h => ?_ | fail
  first | refine CallP.is (slEqualVal_ret a b _ hl) rfl ?_ | refine CallQ.is (slEqualVal_ret a b _ hl) rfl rfl ?_
  refine Goes ?_
  repeat' first | refine W2.m ?_ ?_ | refine W1.m fun h => ?_ | fail
  refine FinOk.pure rfl rfl rfl ⟨?_, rfl, rfl⟩
  rfl
theorem specSameVals_ret (a b : List ValD) (n : Nat) (hl : a.length ≤ 1048576) : Ret Try.prog 11 [valsV a, valsV b] [] n true (Is (bv (sameV a b)) [] n) := by
  have hLa : (a.map valR).length = a.length := by simp
  have hLb : (b.map valR).length = b.length := by simp
  refine Ret.fn ttOk Try.func11 rfl Try.call11 rfl rfl ?_
  refine Goes ?_
  repeat' first | refine W2.m ?_ ?_ | refine W1.m fun h => ?_ | fail
  · refine FinOk.pure rfl rfl rfl ⟨?_, rfl, rfl⟩
    rw [sameV_len (by omega)]
  have hab : a.length = b.length := by omega
  refine LoopP.go (fun k : Nat => k ≤ a.length ∧ (a.take k).map keyV = (b.take k).map keyV) (fun k => ⟨[(0, valsV a), (1, valsV b), (5, iv k)], [], 0⟩) (fun k => a.length - k) 0 ⟨Nat.zero_le _, rfl⟩ (Weak.of rfl rfl ktA trivial) ?_
  intro k ⟨hk, hp⟩
  refine Goes ?_
  repeat' first | refine W2.m ?_ ?_ | refine W1.m fun h => ?_ | fail
  · have hka : k < a.length := by omega
    have hkb : k < b.length := by omega
    rw [rowK valR a k hka]
    refine ⟨by rw [hLa]; exact ⟨by omega, by omega, rfl⟩, ?_⟩
    refine Goes ?_
    repeat' first | refine W2.m ?_ ?_ | refine W1.m fun h => ?_ | fail
    rw [rowK valR b k hkb]
    refine ⟨by rw [hLb]; exact ⟨by omega, by omega, rfl⟩, ?_⟩
    refine Goes ?_
    repeat' first | refine W2.m ?_ ?_ | refine W1.m fun h => ?_ | fail
    · have h' : ¬ keyV a[k] = keyV b[k] := h
      refine FinOk.pure rfl rfl rfl ⟨?_, rfl, rfl⟩
      rw [sameV_ne hka hkb h']
    · have h' : keyV a[k] = keyV b[k] := Decidable.not_not.1 h
      exact ⟨k + 1, ⟨by omega, sameV_take hka hkb hp h'⟩, by omega, (Weak.of rfl rfl ktA trivial)⟩
  · refine FinOk.pure rfl rfl rfl ⟨?_, rfl, rfl⟩
    rw [sameV_all (by omega) hab hp]
theorem lawSameVals (a b : List ValD) (n : Nat) (ha : MemVs a) (hb : MemVs b) : Ret Try.prog 4 [valsV a, valsV b] [] n true (fun r _ _ => r = bv true) := by
  refine Ret.fn ttOk Try.func4 rfl Try.call4 rfl rfl ?_
  refine Goes ?_
  repeat' first | refine W2.m ?_ ?_ | refine W1.m fun h => ?_ | fail
  first | refine CallP.is (szValS_ret a 1048576 _ (by decide) (by decide) ha.len fun x hx l n p q => szVal_ret x l n p q (ha.vals x hx).1) rfl ?_ | refine CallQ.is (szValS_ret a 1048576 _ (by decide) (by decide) ha.len fun x hx l n p q => szVal_ret x l n p q (ha.vals x hx).1) rfl rfl ?_
  refine Goes ?_
  repeat' first | refine W2.m ?_ ?_ | refine W1.m fun h => ?_ | fail
  · exact FinOk.pure rfl rfl rfl rfl
  obtain ⟨g1, g2⟩ := leftI_pos h
  rw [g1]
  first | refine CallP.is (szValS_ret b _ _ (by omega) (by omega) hb.len fun x hx l n p q => szVal_ret x l n p q (hb.vals x hx).1) rfl ?_ | refine CallQ.is (szValS_ret b _ _ (by omega) (by omega) hb.len fun x hx l n p q => szVal_ret x l n p q (hb.vals x hx).1) rfl rfl ?_
  refine Goes ?_
  repeat' first | refine W2.m ?_ ?_ | refine W1.m fun h => ?_ | fail
  · exact FinOk.pure rfl rfl rfl rfl
  obtain ⟨g3, g4⟩ := leftI_pos h
  have fa : FitsVs a := fitsVs_of (by omega)
  have fb : FitsVs b := fitsVs_of (by omega)
  have ta := fun n => toValS_fr a n fa.len fun x _ n => toVal_fr x n
  have tb := fun n => toValS_fr b n fb.len fun x _ n => toVal_fr x n
  first | refine CallP.is (ta _) rfl ?_ | refine CallQ.is (ta _) rfl rfl ?_
  refine Goes ?_
  repeat' first | refine W2.m ?_ ?_ | refine W1.m fun h => ?_ | fail
  first | refine CallP.is (tb _) rfl ?_ | refine CallQ.is (tb _) rfl rfl ?_
  refine Goes ?_
  repeat' first | refine W2.m ?_ ?_ | refine W1.m fun h => ?_ | fail
  first | refine CallP.is (specSameVals_ret a b _ fa.len) rfl ?_ | refine CallQ.is (specSameVals_ret a b _ fa.len) rfl rfl ?_
  refine Goes ?_
  repeat' first | refine W2.m ?_ ?_ | refine W1.m fun h => ?_ | fail
  first | refine CallP.is (ta _) rfl ?_ | refine CallQ.is (ta _) rfl rfl ?_
  refine Goes ?_
  repeat' first | refine W2.m ?_ ?_ | refine W1.m fun h => ?_ | fail
  first | refine CallP.is (tb _) rfl ?_ | refine CallQ.is (tb _) rfl rfl ?_
  refine Goes ?_
  repeat' first | refine W2.m ?_ ?_ | refine W1.m fun h => ?_ | fail
  first | refine CallP.is (implSameVals_ret a b _ fa.len) rfl ?_ | refine CallQ.is (implSameVals_ret a b _ fa.len) rfl rfl ?_
  refine Goes ?_
  repeat' first | refine W2.m ?_ ?_ | refine W1.m fun h => ?_ | fail
  · exfalso; simp at h
  first | refine CallQ.is (ta _) rfl rfl ?_ | refine CallP.is (ta _) rfl ?_
  refine Goes ?_
  repeat' first | refine W2.m ?_ ?_ | refine W1.m fun h => ?_ | fail
  first | refine CallP.is (eqValS_yes a _ fa.len fun x _ n => eqVal_yes x n) rfl ?_ | refine CallQ.is (eqValS_yes a _ fa.len fun x _ n => eqVal_yes x n) rfl rfl ?_
  refine Goes ?_
  repeat' first | refine W2.m ?_ ?_ | refine W1.m fun h => ?_ | fail
  first | refine CallQ.is (tb _) rfl rfl ?_ | refine CallP.is (tb _) rfl ?_
  refine Goes ?_
  repeat' first | refine W2.m ?_ ?_ | refine W1.m fun h => ?_ | fail
  first | refine CallP.is (eqValS_yes b _ fb.len fun x _ n => eqVal_yes x n) rfl ?_ | refine CallQ.is (eqValS_yes b _ fb.len fun x _ n => eqVal_yes x n) rfl rfl ?_
  refine Goes ?_
  repeat' first | refine W2.m ?_ ?_ | refine W1.m fun h => ?_ | fail
  exact FinOk.pure rfl rfl rfl rfl
end Go.Proofs.Ytffjfadmhpfmbaa
