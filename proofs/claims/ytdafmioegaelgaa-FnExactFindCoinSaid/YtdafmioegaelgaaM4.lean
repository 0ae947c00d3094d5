/-
  PLAIN FACTS for chapter 3: encodings, transactions.
-/
import Derived.Test.YtdafmioegaelgaaM2
namespace Go.Am
open Go.RowKit
set_option linter.unusedVariables false
abbrev InD := Int × Int × List Int
abbrev OutD := Int × List Int
abbrev TxD := Int × List InD × List OutD
abbrev inRow (x : InD) : List AV := [iv x.1, iv x.2.1, il x.2.2]
abbrev outRow (y : OutD) : List AV := [iv y.1, il y.2]
abbrev insV (xs : List InD) : AV := .lst (xs.map inRow)
abbrev outsV (ys : List OutD) : AV := .lst (ys.map outRow)
abbrev txC (t : TxD) : List AV := [iv t.1, insV t.2.1, outsV t.2.2]
abbrev txV (t : TxD) : AV := .agg (txC t)
/-- A number, encoded. -/
def putN (n : Int) : List Int := if n < 253 then [n] else [253, n % 256, n / 256]
theorem putN_u8 {n : Int} (h : inR 0 65535 n) : ∀ z ∈ putN n, isU8 z := by
  intro z hz
  unfold putN at hz
  unfold inR at h
  unfold isU8
  split at hz <;> simp only [List.mem_cons, List.not_mem_nil, or_false] at hz
  · omega
  · rcases hz with rfl | rfl | rfl <;> omega
theorem putN_len (n : Int) : 1 ≤ (putN n).length ∧ (putN n).length ≤ 3 := by unfold putN; split <;> simp
/-- A sum or an amount, in its two halves. -/
def bigN (v : Int) : List Int := putN (v % 65536) ++ putN (v / 65536)
def numsN (zs : List Int) : List Int := (zs.map putN).flatten
def listN (zs : List Int) : List Int := putN zs.length ++ numsN zs
def packI (x : InD) : List Int := bigN x.1 ++ putN x.2.1 ++ listN x.2.2
def packO (y : OutD) : List Int := bigN y.1 ++ listN y.2
def insN (xs : List InD) : List Int := (xs.map packI).flatten
def outsN (ys : List OutD) : List Int := (ys.map packO).flatten
def packT (t : TxD) : List Int := putN t.1 ++ putN t.2.1.length ++ insN t.2.1 ++ putN t.2.2.length ++ outsN t.2.2
def smallL (m : Nat) (zs : List Int) : Prop := zs.length ≤ m ∧ ∀ z ∈ zs, inR 0 65535 z
def okI (x : InD) : Prop := inR 0 2147483646 x.1 ∧ inR 0 3 x.2.1 ∧ smallL 8 x.2.2
def okO (y : OutD) : Prop := inR 0 2147483646 y.1 ∧ smallL 12 y.2
def okT (t : TxD) : Prop := inR 0 65535 t.1 ∧ t.2.1.length ≤ 4 ∧ t.2.2.length ≤ 4 ∧ (∀ x ∈ t.2.1, okI x) ∧ (∀ y ∈ t.2.2, okO y)
theorem flatten_len {α : Type} (f : α → List Int) (m : Nat) : ∀ (l : List α), (∀ x ∈ l, (f x).length ≤ m) → ((l.map f).flatten).length ≤ m * l.length
  | [], _ => by simp
  | x :: r, h => by
    have h1 := h x (List.mem_cons_self ..)
    have h2 := flatten_len f m r fun y hy => h y (List.mem_cons_of_mem _ hy)
    simp only [List.map_cons, List.flatten_cons, List.length_append, List.length_cons, Nat.mul_succ]; omega
theorem numsN_len (zs : List Int) : (numsN zs).length ≤ 3 * zs.length := flatten_len putN 3 zs fun x _ => (putN_len x).2
theorem listN_len (zs : List Int) : (listN zs).length ≤ 3 + 3 * zs.length := by
  have h1 := (putN_len zs.length).2
  have h2 := numsN_len zs
  simp only [listN, List.length_append]; omega
theorem bigN_len (v : Int) : (bigN v).length ≤ 6 := by
  have h1 := (putN_len (v % 65536)).2
  have h2 := (putN_len (v / 65536)).2
  simp only [bigN, List.length_append]; omega
theorem packI_len {x : InD} (h : okI x) : (packI x).length ≤ 36 := by
  have h1 := bigN_len x.1
  have h2 := (putN_len x.2.1).2
  have h3 := listN_len x.2.2
  have h4 := h.2.2.1
  simp only [packI, List.length_append]; omega
theorem packO_len {y : OutD} (h : okO y) : (packO y).length ≤ 45 := by
  have h1 := bigN_len y.1
  have h3 := listN_len y.2
  have h4 := h.2.1
  simp only [packO, List.length_append]; omega
theorem insN_len {xs : List InD} (h : ∀ x ∈ xs, okI x) : (insN xs).length ≤ 36 * xs.length := flatten_len packI 36 xs fun x hx => packI_len (h x hx)
theorem outsN_len {ys : List OutD} (h : ∀ x ∈ ys, okO x) : (outsN ys).length ≤ 45 * ys.length := flatten_len packO 45 ys fun x hx => packO_len (h x hx)
theorem packT_len {t : TxD} (h : okT t) : (packT t).length ≤ 400 := by
  have h1 := (putN_len t.1).2
  have h2 := (putN_len t.2.1.length).2
  have h3 := (putN_len t.2.2.length).2
  have h4 := insN_len h.2.2.2.1
  have h5 := outsN_len h.2.2.2.2
  have h6 := h.2.1
  have h7 := h.2.2.1
  simp only [packT, List.length_append]; omega
theorem numsN_take {zs : List Int} {k : Nat} (h : k < zs.length) : numsN (zs.take (k + 1)) = numsN (zs.take k) ++ putN zs[k] := by unfold numsN; rw [takeS zs k h, List.map_append, List.flatten_append]; simp only [List.map_cons, List.map_nil, List.flatten_cons, List.flatten_nil, List.append_nil]
theorem insN_take {xs : List InD} {k : Nat} (h : k < xs.length) : insN (xs.take (k + 1)) = insN (xs.take k) ++ packI xs[k] := by unfold insN; rw [takeS xs k h, List.map_append, List.flatten_append]; simp only [List.map_cons, List.map_nil, List.flatten_cons, List.flatten_nil, List.append_nil]
theorem outsN_take {xs : List OutD} {k : Nat} (h : k < xs.length) : outsN (xs.take (k + 1)) = outsN (xs.take k) ++ packO xs[k] := by unfold outsN; rw [takeS xs k h, List.map_append, List.flatten_append]; simp only [List.map_cons, List.map_nil, List.flatten_cons, List.flatten_nil, List.append_nil]
theorem mem_flat {α : Type} {p : Int → Prop} {f : α → List Int} {l : List α} (h : ∀ x ∈ l, ∀ z ∈ f x, p z) : ∀ z ∈ (l.map f).flatten, p z := by
  intro z hz
  simp only [List.mem_flatten, List.mem_map] at hz
  obtain ⟨_, ⟨x, hx, rfl⟩, hz⟩ := hz
  exact h x hx z hz
theorem mem_app {p : Int → Prop} {a b : List Int} (h : ∀ z ∈ a, p z) (k : ∀ z ∈ b, p z) : ∀ z ∈ a ++ b, p z := fun z hz => (List.mem_append.1 hz).elim (h z) (k z)
theorem bigN_u8 {v : Int} (h : inR 0 2147483646 v) : ∀ z ∈ bigN v, isU8 z := by
  unfold inR at h
  exact mem_app (putN_u8 ⟨by omega, by omega⟩) (putN_u8 ⟨by omega, by omega⟩)
theorem listN_u8 {m : Nat} (hm : m ≤ 65535) {zs : List Int} (h : smallL m zs) : ∀ z ∈ listN zs, isU8 z := mem_app (putN_u8 ⟨by omega, by have := h.1; omega⟩) (mem_flat fun x hx => putN_u8 (h.2 x hx))
theorem packT_u8 {t : TxD} (h : okT t) : ∀ z ∈ packT t, isU8 z := by
  obtain ⟨h1, h2, h3, h4, h5⟩ := h
  refine mem_app (mem_app (mem_app (mem_app (putN_u8 h1) (putN_u8 ⟨by omega, by omega⟩)) (mem_flat fun x hx => ?_)) (putN_u8 ⟨by omega, by omega⟩)) (mem_flat fun y hy => ?_)
  · have := h4 x hx
    refine mem_app (mem_app (bigN_u8 this.1) (putN_u8 ?_)) (listN_u8 (by decide) this.2.2)
    have := this.2.1; unfold inR at this ⊢; omega
  · have := h5 y hy
    exact mem_app (bigN_u8 this.1) (listN_u8 (by decide) this.2)
end Go.Am
