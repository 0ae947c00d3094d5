/-
  PLAIN FACTS for chapter 3: what is read of an encoding, against what is written.
-/
import Derived.Test.YtdafmioegaelgaaM7
import Derived.Test.YtdafmioegaelgaaM5
namespace Go.Am
open Go.RowKit
set_option linter.unusedVariables false
abbrev Par (α : Type) := List Int → Option (α × Nat)
/-- One behind the other. -/
def pThen {α β γ : Type} (p : Par α) (q : Par β) (f : α → β → γ) : Par γ := fun d => match p d with
  | none => none
  | some (a, u) => match q (d.drop u) with
    | none => none
    | some (b, w) => some (f a b, u + w)
def pMany {α : Type} (p : Par α) : Nat → Par (List α)
  | 0 => fun _ => some ([], 0)
  | k + 1 => pThen p (pMany p k) List.cons
/-- A count, at most m, and so many. -/
def pCnt {α : Type} (p : Par α) (m : Nat) : Par (List α) := fun d => match rdV d with
  | none => none
  | some (n, u) => if (m : Int) < n then none else match pMany p n.toNat (d.drop u) with
    | none => none
    | some (l, w) => some (l, u + w)
def pBig : Par Int := pThen rdV rdV fun a b => a + 65536 * b
def pIn : Par InD := pThen pBig (pThen rdV (pCnt rdV 8) Prod.mk) fun a b => (a, b.1, b.2)
def pOut : Par OutD := pThen pBig (pCnt rdV 12) Prod.mk
def pTx : Par TxD := pThen rdV (pThen (pCnt pIn 4) (pCnt pOut 4) Prod.mk) fun a b => (a, b.1, b.2)
/-- What is read was written so. -/
def Wrote {α : Type} (p : Par α) (f : α → List Int) : Prop := ∀ d, (∀ z ∈ d, isU8 z) → ∀ x u, p d = some (x, u) → f x = d.take u ∧ u ≤ d.length
theorem drop_u8 {d : List Int} (h : ∀ z ∈ d, isU8 z) (u : Nat) : ∀ z ∈ d.drop u, isU8 z := fun z hz => h z (List.mem_of_mem_drop hz)
theorem wrote_rdV : Wrote rdV putN := fun d hd x u h => ⟨rdV_put hd h, (rdV_len h).2.2⟩
theorem then_some {α β γ : Type} {p : Par α} {q : Par β} {f : α → β → γ} {d : List Int} {c : γ} {n : Nat} (h : pThen p q f d = some (c, n)) : ∃ a u b w, p d = some (a, u) ∧ q (d.drop u) = some (b, w) ∧ c = f a b ∧ n = u + w := by
  unfold pThen at h
  cases hp : p d with
  | none => simp [hp] at h
  | some x =>
    obtain ⟨a, u⟩ := x
    simp only [hp] at h
    cases hq : q (d.drop u) with
    | none => simp [hq] at h
    | some y =>
      obtain ⟨b, w⟩ := y
      simp only [hq, Option.some.injEq, Prod.mk.injEq] at h
      exact ⟨a, u, b, w, rfl, hq, h.1.symm, h.2.symm⟩
theorem wrote_then {α β γ : Type} {p : Par α} {q : Par β} {f : α → β → γ} {fp : α → List Int} {fq : β → List Int} {g : γ → List Int} (hp : Wrote p fp) (hq : Wrote q fq) (hg : ∀ d, (∀ z ∈ d, isU8 z) → ∀ a u b w, p d = some (a, u) → q (d.drop u) = some (b, w) → g (f a b) = fp a ++ fq b) : Wrote (pThen p q f) g := by
  intro d hd c n h
  obtain ⟨a, u, b, w, h1, h2, rfl, rfl⟩ := then_some h
  obtain ⟨e1, l1⟩ := hp d hd a u h1
  obtain ⟨e2, l2⟩ := hq _ (drop_u8 hd u) b w h2
  rw [List.length_drop] at l2
  exact ⟨by rw [hg d hd a u b w h1 h2, e1, e2, List.take_add], by omega⟩
theorem wrote_many {α : Type} {p : Par α} {f : α → List Int} (hp : Wrote p f) : ∀ k, Wrote (pMany p k) fun xs => (xs.map f).flatten
  | 0 => fun d hd x u h => by
    simp only [pMany, Option.some.injEq, Prod.mk.injEq] at h
    obtain ⟨rfl, rfl⟩ := h
    exact ⟨rfl, Nat.zero_le _⟩
  | k + 1 => wrote_then hp (wrote_many hp k) fun d hd a u b w h1 h2 => by simp
theorem many_len {α : Type} {p : Par α} : ∀ {k : Nat} {d : List Int} {x : List α} {u : Nat}, pMany p k d = some (x, u) → x.length = k
  | 0, d, x, u, h => by
    simp only [pMany, Option.some.injEq, Prod.mk.injEq] at h
    rw [← h.1]; rfl
  | k + 1, d, x, u, h => by
    obtain ⟨a, v, b, w, h1, h2, rfl, rfl⟩ := then_some h
    rw [List.length_cons, many_len h2]
theorem cnt_some {α : Type} {p : Par α} {m : Nat} {d : List Int} {x : List α} {n : Nat} (h : pCnt p m d = some (x, n)) : ∃ k u w, rdV d = some (k, u) ∧ k ≤ m ∧ pMany p k.toNat (d.drop u) = some (x, w) ∧ n = u + w := by
  unfold pCnt at h
  cases hp : rdV d with
  | none => simp [hp] at h
  | some y =>
    obtain ⟨k, u⟩ := y
    simp only [hp] at h
    split at h
    · cases h
    rename_i hk
    cases hq : pMany p k.toNat (d.drop u) with
    | none => simp [hq] at h
    | some z =>
      obtain ⟨b, w⟩ := z
      simp only [hq, Option.some.injEq, Prod.mk.injEq] at h
      obtain ⟨rfl, rfl⟩ := h
      exact ⟨k, u, w, rfl, by omega, hq, rfl⟩
theorem wrote_cnt {α : Type} {p : Par α} {f : α → List Int} (hp : Wrote p f) (m : Nat) : Wrote (pCnt p m) fun xs => putN xs.length ++ (xs.map f).flatten := by
  intro d hd x n h
  obtain ⟨k, u, w, h1, h2, h3, rfl⟩ := cnt_some h
  obtain ⟨e1, l1⟩ := wrote_rdV d hd k u h1
  obtain ⟨e2, l2⟩ := wrote_many hp _ _ (drop_u8 hd u) x w h3
  rw [List.length_drop] at l2
  have hk := rdV_bd hd h1
  unfold inR at hk
  have hl := many_len h3
  dsimp only at e2
  exact ⟨by show putN x.length ++ (x.map f).flatten = _; rw [e2, show ((x.length : Nat) : Int) = k by omega, e1, List.take_add], by omega⟩
theorem wrote_big : Wrote pBig bigN := wrote_then wrote_rdV wrote_rdV fun d hd a u b w h1 h2 => by
  have ha := rdV_bd hd h1
  have hb := rdV_bd (drop_u8 hd u) h2
  unfold inR at ha hb
  unfold bigN
  rw [show (a + 65536 * b) % 65536 = a by omega, show (a + 65536 * b) / 65536 = b by omega]
theorem wrote_In : Wrote pIn packI := wrote_then wrote_big (wrote_then (g := fun y : Int × List Int => putN y.1 ++ listN y.2) wrote_rdV (wrote_cnt wrote_rdV 8) fun d hd a u b w h1 h2 => rfl) fun d hd a u b w h1 h2 => by
  unfold packI; rw [List.append_assoc]
theorem wrote_Out : Wrote pOut packO := wrote_then wrote_big (wrote_cnt wrote_rdV 12) fun d hd a u b w h1 h2 => rfl
theorem wrote_Tx : Wrote pTx packT := wrote_then wrote_rdV (wrote_then (g := fun y : List InD × List OutD => (putN y.1.length ++ insN y.1) ++ (putN y.2.length ++ outsN y.2)) (wrote_cnt wrote_In 4) (wrote_cnt wrote_Out 4) fun d hd a u b w h1 h2 => rfl) fun d hd a u b w h1 h2 => by
  unfold packT; simp only [List.append_assoc]
/-- What was written is read so. -/
def Reads1 {α : Type} (p : Par α) (f : α → List Int) (ok : α → Prop) : Prop := ∀ x, ok x → ∀ r, p (f x ++ r) = some (x, (f x).length)
theorem reads1_rdV : Reads1 rdV putN (inR 0 65535) := fun x h r => put_rdV h r
theorem then_of {α β γ : Type} {p : Par α} {q : Par β} {f : α → β → γ} {d : List Int} {a : α} {u : Nat} {b : β} {w : Nat} (h1 : p d = some (a, u)) (h2 : q (d.drop u) = some (b, w)) : pThen p q f d = some (f a b, u + w) := by
  unfold pThen; simp only [h1, h2]
theorem reads1_then {α β γ : Type} {p : Par α} {q : Par β} {f : α → β → γ} {fp : α → List Int} {fq : β → List Int} {okp : α → Prop} {okq : β → Prop} (hp : Reads1 p fp okp) (hq : Reads1 q fq okq) {a : α} {b : β} (ha : okp a) (hb : okq b) (r : List Int) : pThen p q f ((fp a ++ fq b) ++ r) = some (f a b, (fp a ++ fq b).length) := by
  rw [List.append_assoc, List.length_append]
  exact then_of (hp a ha _) (by rw [List.drop_left]; exact hq b hb r)
theorem reads1_many {α : Type} {p : Par α} {f : α → List Int} {ok : α → Prop} (hp : Reads1 p f ok) : ∀ (xs : List α), (∀ x ∈ xs, ok x) → ∀ r, pMany p xs.length ((xs.map f).flatten ++ r) = some (xs, ((xs.map f).flatten).length)
  | [], _, r => rfl
  | x :: xs, h, r => by
    have h1 := hp x (h x (List.mem_cons_self ..))
    have h2 := reads1_many hp xs fun y hy => h y (List.mem_cons_of_mem _ hy)
    simp only [List.map_cons, List.flatten_cons, List.length_cons, List.length_append, List.append_assoc]
    exact then_of (h1 _) (by rw [List.drop_left]; exact h2 r)
theorem reads1_cnt {α : Type} {p : Par α} {f : α → List Int} {ok : α → Prop} (hp : Reads1 p f ok) {m : Nat} (hm : m ≤ 65535) : Reads1 (pCnt p m) (fun xs => putN xs.length ++ (xs.map f).flatten) (fun xs => xs.length ≤ m ∧ ∀ x ∈ xs, ok x) := by
  rintro xs ⟨h1, h2⟩ r
  have h3 := put_rdV (v := xs.length) ⟨by omega, by omega⟩ ((xs.map f).flatten ++ r)
  have h4 := reads1_many hp xs h2 r
  unfold pCnt
  simp only [List.append_assoc, h3]
  rw [if_neg (by omega), List.drop_left, Int.toNat_natCast, h4, List.length_append]
theorem reads1_big : Reads1 pBig bigN (inR 0 2147483646) := by
  intro v h r
  unfold inR at h
  have := reads1_then (f := fun a b => a + 65536 * b) reads1_rdV reads1_rdV (a := v % 65536) (b := v / 65536) ⟨by omega, by omega⟩ ⟨by omega, by omega⟩ r
  rw [show v % 65536 + 65536 * (v / 65536) = v by omega] at this
  exact this
theorem reads1_list {m : Nat} (hm : m ≤ 65535) : Reads1 (pCnt rdV m) listN (smallL m) := fun x h r => reads1_cnt reads1_rdV hm x h r
theorem reads1_In : Reads1 pIn packI okI := by
  rintro ⟨x1, x2, x3⟩ ⟨h1, h2, h3⟩ r
  have h2' : inR 0 65535 x2 := by unfold inR at h2 ⊢; dsimp only at h2; omega
  have := reads1_then (f := fun (a : Int) (b : Int × List Int) => ((a, b.1, b.2) : InD)) (q := pThen rdV (pCnt rdV 8) Prod.mk) (fq := fun y : Int × List Int => putN y.1 ++ listN y.2) (okq := fun y => inR 0 65535 y.1 ∧ smallL 8 y.2) reads1_big (fun y hy r => reads1_then reads1_rdV (reads1_list (by decide)) hy.1 hy.2 r) (a := x1) (b := (x2, x3)) h1 ⟨h2', h3⟩ r
  unfold pIn packI
  rw [List.append_assoc (bigN _)]
  exact this
theorem reads1_Out : Reads1 pOut packO okO := fun y h r => reads1_then reads1_big (reads1_list (by decide)) h.1 h.2 r
theorem reads1_Tx : Reads1 pTx packT okT := by
  rintro ⟨x1, x2, x3⟩ ⟨h1, h2, h3, h4, h5⟩ r
  have := reads1_then (f := fun (a : Int) (b : List InD × List OutD) => ((a, b.1, b.2) : TxD)) (q := pThen (pCnt pIn 4) (pCnt pOut 4) Prod.mk) (fq := fun y : List InD × List OutD => (putN y.1.length ++ insN y.1) ++ (putN y.2.length ++ outsN y.2)) (okq := fun y => (y.1.length ≤ 4 ∧ ∀ x ∈ y.1, okI x) ∧ (y.2.length ≤ 4 ∧ ∀ x ∈ y.2, okO x)) reads1_rdV (fun y hy r => reads1_then (reads1_cnt reads1_In (by decide)) (reads1_cnt reads1_Out (by decide)) hy.1 hy.2 r) (a := x1) (b := (x2, x3)) h1 ⟨⟨h2, h4⟩, ⟨h3, h5⟩⟩ r
  unfold pTx packT
  simp only [List.append_assoc] at this ⊢
  exact this
end Go.Am
