/-
  FUNCTIONS: from what a body asks to what is said of the function.
-/
import Derived.Test.YtdnanpokaanhdaaDoorAmA
namespace Go.Am
open Go.RowKit
set_option linter.unusedVariables false
set_option linter.unusedSimpArgs false

variable {E : Env} {s : St} {a : Act} {w : World} {ι : Loc} {S : Nat → Prop} {tt : Tab}

def enumL {α : Type} : Nat → List α → List (Nat × α)
  | _, [] => []
  | k, a :: r => (k, a) :: enumL (k + 1) r
theorem look_enumL {α : Type} : ∀ (l : List α) (k i : Nat), look (enumL k l) i = if k ≤ i then l[i - k]? else none
  | [], k, i => by simp [enumL, look]
  | a :: r, k, i => by
    simp only [enumL, look_cons, look_enumL r (k + 1) i]
    by_cases h : k = i
    · subst h; simp
    · rw [if_neg h]
      by_cases h2 : k + 1 ≤ i
      · rw [if_pos h2, if_pos (by omega)]
        have : i - k = (i - (k + 1)) + 1 := by omega
        rw [this, List.getElem?_cons_succ]
      · rw [if_neg h2, if_neg (by omega)]
def upTo : Nat → Nat → List Nat
  | _, 0 => []
  | k, n + 1 => k :: upTo (k + 1) n
theorem mem_upTo : ∀ (n k i : Nat), memB i (upTo k n) = true ↔ k ≤ i ∧ i < k + n
  | 0, k, i => by simp [upTo, memB]
  | n + 1, k, i => by
    rw [upTo, memB_cons]
    by_cases h : i = k
    · simp [h]
    · rw [if_neg h, mem_upTo n (k + 1) i]; omega
def idx (i : Nat) : List Nat → Nat
  | [] => 0
  | k :: r => bif Nat.beq i k then 0 else idx i r + 1
theorem idx_cons (i k : Nat) (r : List Nat) : idx i (k :: r) = if i = k then 0 else idx i r + 1 := by
  simp only [idx]
  cases hb : Nat.beq i k with
  | true => rw [if_pos (Nat.eq_of_beq_eq_true hb)]; rfl
  | false => rw [if_neg (fun e => by subst e; simp at hb)]; rfl
theorem idx_get : ∀ (l : List Nat) (i : Nat), memB i l = true → l[idx i l]? = some i
  | [], i, h => by simp [memB] at h
  | k :: r, i, h => by
    rw [memB_cons] at h
    rw [idx_cons]
    by_cases hk : i = k
    · simp [hk]
    · rw [if_neg hk] at h ⊢
      rw [List.getElem?_cons_succ]
      exact idx_get r i h
def nodupB : List Nat → Bool
  | [] => true
  | k :: r => !memB k r && nodupB r
theorem get_idx : ∀ (l : List Nat) (j i : Nat), nodupB l = true → l[j]? = some i → idx i l = j
  | [], j, i, _, h => by simp at h
  | k :: r, 0, i, _, h => by simp at h; rw [idx_cons, if_pos h.symm]
  | k :: r, j + 1, i, hn, h => by
    simp only [nodupB, Bool.and_eq_true, Bool.not_eq_true'] at hn
    rw [List.getElem?_cons_succ] at h
    have hm : i ∈ r := List.mem_of_getElem? h
    have hne : i ≠ k := fun e => by subst e; rw [(memB_iff i r).2 hm] at hn; simp at hn
    rw [idx_cons, if_neg hne, get_idx r j i hn.2 h]

def tau (σ news : List Nat) (n : Nat) (i : Nat) : Nat := match σ[i]? with
  | some c => c
  | none => n + idx i news
def tauInv (σ news : List Nat) (n : Nat) (c : Nat) : Option Nat := bif memB c σ then some (idx c σ) else if n ≤ c then news[c - n]? else none

theorem memB_append (i : Nat) : ∀ (l m : List Nat), memB i (l ++ m) = (memB i l || memB i m)
  | [], m => by simp [memB]
  | k :: l, m => by
    rw [List.cons_append, memB_cons, memB_cons, memB_append i l m]
    split <;> simp

theorem tau_inv {σ news : List Nat} {n : Nat} (hσ : nodupB σ = true) (hσn : ∀ c, memB c σ = true → c < n) (hnews : ∀ i, memB i news = true → σ.length ≤ i) {i : Nat} (hi : memB i (upTo 0 σ.length ++ news) = true) : tauInv σ news n (tau σ news n i) = some i := by
  rw [memB_append, Bool.or_eq_true, mem_upTo] at hi
  unfold tau tauInv
  cases hs : σ[i]? with
  | some c =>
    simp only
    have hm : memB c σ = true := (memB_iff c σ).2 (List.mem_of_getElem? hs)
    rw [hm, get_idx σ i c hσ hs]; rfl
  | none =>
    simp only
    have hge : σ.length ≤ i := by simpa using hs
    have hin : memB i news = true := by
      rcases hi with h | h
      · omega
      · exact h
    have hm : memB (n + idx i news) σ = false := by
      cases h : memB (n + idx i news) σ with
      | false => rfl
      | true => have := hσn _ h; omega
    rw [hm]
    simp only [cond_false]
    rw [if_pos (by omega), Nat.add_sub_cancel_left]
    exact idx_get news i hin
theorem inv_tau {σ news : List Nat} {n c i : Nat} (hnd : nodupB news = true) (hnews : ∀ i, memB i news = true → σ.length ≤ i) (h : tauInv σ news n c = some i) : memB i (upTo 0 σ.length ++ news) = true ∧ tau σ news n i = c := by
  unfold tauInv at h
  cases hm : memB c σ with
  | true =>
    simp [hm] at h
    subst h
    have hg := idx_get σ c hm
    refine ⟨?_, ?_⟩
    · rw [memB_append, Bool.or_eq_true, mem_upTo]
      have := (List.getElem?_eq_some_iff.1 hg).1
      exact .inl ⟨Nat.zero_le _, by omega⟩
    · unfold tau; rw [hg]
  | false =>
    simp only [hm, cond_false] at h
    split at h
    · rename_i hle
      have hin : memB i news = true := (memB_iff i news).2 (List.mem_of_getElem? h)
      have hge := hnews i hin
      refine ⟨by rw [memB_append, hin]; simp, ?_⟩
      unfold tau
      rw [List.getElem?_eq_none hge]
      simp only
      rw [get_idx news _ i hnd h]; omega
    · cases h

def hpOf (τ : Nat → Nat) : List Nat → List AObj → Hp
  | c :: cs, o :: os => (c, renO τ o) :: hpOf τ cs os
  | _, _ => []
theorem look_hpOf (τ : Nat → Nat) : ∀ (cs : List Nat) (os : List AObj) (c : Nat) (o : AObj), look (hpOf τ cs os) c = some o → ∃ (j : Nat) (o' : AObj), cs[j]? = some c ∧ os[j]? = some o' ∧ o = renO τ o'
  | [], os, c, o, h => by simp [hpOf, look] at h
  | _ :: _, [], c, o, h => by simp [hpOf, look] at h
  | k :: cs, ob :: os, c, o, h => by
    simp only [hpOf, look_cons] at h
    split at h
    · rename_i e
      simp at h
      exact ⟨0, ob, by simp [e], rfl, h.symm⟩
    · obtain ⟨j, o', h1, h2, h3⟩ := look_hpOf τ cs os c o h
      exact ⟨j + 1, o', by simpa using h1, by simpa using h2, h3⟩
theorem hpOf_look (τ : Nat → Nat) : ∀ (cs : List Nat) (os : List AObj) (j : Nat) (c : Nat) (o : AObj), nodupB cs = true → cs[j]? = some c → os[j]? = some o → look (hpOf τ cs os) c = some (renO τ o)
  | [], os, j, c, o, _, h, _ => by simp at h
  | _ :: _, [], j, c, o, _, _, h => by simp at h
  | k :: cs, ob :: os, 0, c, o, _, h, h' => by
    simp at h h'
    subst h h'
    simp [hpOf, look_cons]
  | k :: cs, ob :: os, j + 1, c, o, hn, h, h' => by
    simp only [nodupB, Bool.and_eq_true, Bool.not_eq_true'] at hn
    rw [List.getElem?_cons_succ] at h h'
    have hne : k ≠ c := fun e => by subst e; rw [(memB_iff k cs).2 (List.mem_of_getElem? h)] at hn; simp at hn
    simp only [hpOf, look_cons]
    rw [if_neg hne]
    exact hpOf_look τ cs os j c o hn.2 h h'

/-- The objects of some numbers. -/
def expo (hp : Hp) : List Nat → Option Hp
  | [] => some []
  | i :: r => match look hp i with
    | some o => match expo hp r with
      | some h => some ((i, o) :: h)
      | none => none
    | none => none
theorem look_expo {hp : Hp} : ∀ {l : List Nat} {h : Hp}, expo hp l = some h → ∀ i, look h i = if memB i l = true then look hp i else none
  | [], h, e, i => by simp [expo] at e; subst e; simp [look, memB]
  | k :: r, h, e, i => by
    simp only [expo] at e
    cases ho : look hp k with
    | none => simp [ho] at e
    | some o =>
      cases hr : expo hp r with
      | none => simp [ho, hr] at e
      | some h' =>
        simp [ho, hr] at e
        subst e
        rw [look_cons, memB_cons, look_expo hr i]
        by_cases hk : k = i
        · subst hk; simp [ho]
        · have hk' : ¬ i = k := fun e => hk e.symm
          rw [if_neg hk]; simp only [if_neg hk']
def renH (τ : Nat → Nat) : Hp → Hp
  | [] => []
  | (i, o) :: r => (τ i, renO τ o) :: renH τ r
theorem look_renH {τ : Nat → Nat} : ∀ (h : Hp) (c : Nat) (o : AObj), look (renH τ h) c = some o → ∃ i o', (i, o') ∈ h ∧ c = τ i ∧ o = renO τ o'
  | [], c, o, h => by simp [renH, look] at h
  | (i, ob) :: r, c, o, h => by
    simp only [renH, look_cons] at h
    split at h
    · rename_i e
      simp at h
      exact ⟨i, ob, List.mem_cons_self .., e.symm, h.symm⟩
    · obtain ⟨i', o', h1, h2, h3⟩ := look_renH r c o h
      exact ⟨i', o', List.mem_cons_of_mem _ h1, h2, h3⟩
theorem renH_look {τ : Nat → Nat} : ∀ (h : Hp) (i : Nat) (o : AObj), (∀ j o', (j, o') ∈ h → τ j = τ i → j = i) → look h i = some o → look (renH τ h) (τ i) = some (renO τ o)
  | [], i, o, _, h => by simp [look] at h
  | (k, ob) :: r, i, o, hinj, h => by
    rw [look_cons] at h
    simp only [renH, look_cons]
    by_cases hk : k = i
    · subst hk; simp at h; subst h; simp
    · rw [if_neg hk] at h
      rw [if_neg (fun e => hk (hinj k ob (List.mem_cons_self ..) e))]
      exact renH_look r i o (fun j o' hj => hinj j o' (List.mem_cons_of_mem _ hj)) h
theorem expo_mem {hp : Hp} : ∀ {l : List Nat} {h : Hp}, expo hp l = some h → ∀ i o, (i, o) ∈ h → memB i l = true ∧ look hp i = some o
  | [], h, e, i, o, hm => by simp [expo] at e; subst e; cases hm
  | k :: r, h, e, i, o, hm => by
    simp only [expo] at e
    cases ho : look hp k with
    | none => simp [ho] at e
    | some o0 =>
      cases hr : expo hp r with
      | none => simp [ho, hr] at e
      | some h' =>
        simp [ho, hr] at e
        subst e
        rw [memB_cons]
        rcases List.mem_cons.1 hm with he | hm
        · cases he; simp [ho]
        · have := expo_mem hr i o hm
          refine ⟨?_, this.2⟩
          split <;> first | rfl | exact this.1

def fxOf (st : Bool) : Nat → List AObj → List Nat
  | _, [] => []
  | k, .box _ :: r => k :: fxOf st (k + 1) r
  | k, .list .. :: r => match st with
    | true => k :: fxOf st (k + 1) r
    | false => fxOf st (k + 1) r
  | k, .nest .. :: r => match st with
    | true => k :: fxOf st (k + 1) r
    | false => fxOf st (k + 1) r
  | k, .map .. :: r => match st with
    | true => k :: fxOf st (k + 1) r
    | false => fxOf st (k + 1) r
  | k, .ranged .. :: r => match st with
    | true => k :: fxOf st (k + 1) r
    | false => fxOf st (k + 1) r
  | k, .clo .. :: r => match st with
    | true => k :: fxOf st (k + 1) r
    | false => fxOf st (k + 1) r
def fixedO (st : Bool) : AObj → Bool
  | .box _ => true
  | .list .. => st
  | .nest .. => st
  | .map .. => st
  | .ranged .. => st
  | .clo .. => st
theorem mem_fxOf {st : Bool} : ∀ (l : List AObj) (k j : Nat) (o : AObj), l[j]? = some o → fixedO st o = true → memB (k + j) (fxOf st k l) = true
  | [], k, j, o, h, _ => by simp at h
  | x :: r, k, 0, o, h, hf => by
    simp at h
    subst h
    cases x with
    | box cs => simp [fxOf, memB_cons]
    | list => simp only [fixedO] at hf; subst hf; simp [fxOf, memB_cons]
    | nest => simp only [fixedO] at hf; subst hf; simp [fxOf, memB_cons]
    | map => simp only [fixedO] at hf; subst hf; simp [fxOf, memB_cons]
    | ranged => simp only [fixedO] at hf; subst hf; simp [fxOf, memB_cons]
    | clo => simp only [fixedO] at hf; subst hf; simp [fxOf, memB_cons]
  | x :: r, k, j + 1, o, h, hf => by
    have ih := mem_fxOf r (k + 1) j o (by simpa using h) hf
    have e : k + (j + 1) = k + 1 + j := by omega
    rw [e]
    cases x with
    | box cs => simp only [fxOf, memB_cons]; split <;> first | rfl | exact ih
    | list => cases st with
      | true => simp only [fxOf, memB_cons]; split <;> first | rfl | exact ih
      | false => exact ih
    | nest => cases st with
      | true => simp only [fxOf, memB_cons]; split <;> first | rfl | exact ih
      | false => exact ih
    | map => cases st with
      | true => simp only [fxOf, memB_cons]; split <;> first | rfl | exact ih
      | false => exact ih
    | ranged => cases st with
      | true => simp only [fxOf, memB_cons]; split <;> first | rfl | exact ih
      | false => exact ih
    | clo => cases st with
      | true => simp only [fxOf, memB_cons]; split <;> first | rfl | exact ih
      | false => exact ih

structure FinOk (tt : Tab) (rs : List ResultVar) (fx : List Nat) (σ : List Nat) (n : Nat) (Q : AV → Hp → Nat → Prop) (s0 : St) : Prop where
  fin : ∃ s, Weak fx s0 s ∧ ∃ (news : List Nat) (vs : List AV) (ho : Hp), resA tt s rs = some vs ∧ (vs.all (!AV.isTup ·)) = true ∧ expo s.hp (upTo 0 σ.length ++ news) = some ho ∧ (news.all (Nat.ble σ.length ·)) = true ∧ nodupB news = true ∧
    (vs.all (idsA (upTo 0 σ.length ++ news))) = true ∧ (ho.all fun x => idsO (upTo 0 σ.length ++ news) x.2) = true ∧ Q (renV (tau σ news n) (oneOf vs)) (renH (tau σ news n) ho) (n + news.length)
theorem FinOk.mk' {tt : Tab} {rs : List ResultVar} {fx : List Nat} {σ : List Nat} {n : Nat} {Q : AV → Hp → Nat → Prop} {s : St} (news : List Nat) {vs : List AV} {ho : Hp} (h1 : resA tt s rs = some vs) (h2 : (vs.all (!AV.isTup ·)) = true) (h3 : expo s.hp (upTo 0 σ.length ++ news) = some ho)
    (h4 : (news.all (Nat.ble σ.length ·)) = true) (h5 : nodupB news = true) (h6 : (vs.all (idsA (upTo 0 σ.length ++ news))) = true) (h7 : (ho.all fun x => idsO (upTo 0 σ.length ++ news) x.2) = true) (hQ : Q (renV (tau σ news n) (oneOf vs)) (renH (tau σ news n) ho) (n + news.length)) :
    FinOk tt rs fx σ n Q s := ⟨s, fun _ _ _ _ h => h, news, vs, ho, h1, h2, h3, h4, h5, h6, h7, hQ⟩
/-- The end may be told otherwise. -/
theorem FinOk.weak {tt : Tab} {rs : List ResultVar} {fx : List Nat} {σ : List Nat} {n : Nat} {Q : AV → Hp → Nat → Prop} {s s' : St} (hW : Weak fx s s') (h : FinOk tt rs fx σ n Q s') : FinOk tt rs fx σ n Q s := by
  obtain ⟨s2, h2, h3⟩ := h.fin
  exact ⟨s2, fun E a w he hR => h2 E a w he (hW E a w he hR), h3⟩
theorem renC_none (τ : Nat → Nat) {c : AV} (h : idsC [] c = true) : renC τ c = c := by
  cases c <;> first | rfl | simp [idsC, memB] at h
theorem FinOk.pure {tt : Tab} {rs : List ResultVar} {fx : List Nat} {n : Nat} {Q : AV → Hp → Nat → Prop} {s : St} {v : AV} (h1 : resA tt s rs = some [v]) (h2 : v.isTup = false) (h6 : idsA [] v = true) (hQ : Q v [] n) : FinOk tt rs fx [] n Q s := by
  refine ⟨s, fun _ _ _ _ h => h, [], [v], [], h1, by simp [h2], rfl, rfl, rfl, by simpa [upTo] using h6, rfl, ?_⟩
  have e : renV (tau [] [] n) (oneOf [v]) = v := by
    simp only [oneOf]
    cases v with
    | tup vs => simp [AV.isTup] at h2
    | agg cs =>
      simp only [renV, renA]
      congr 1
      have : cs.map (renC (tau [] [] n)) = cs.map id := List.map_congr_left fun c hc => renC_none _ (List.all_eq_true.1 h6 c hc)
      rw [this, List.map_id]
    | own i len => simp [idsA, idsC, memB] at h6
    | pt i r o => simp [idsA, idsC, memB] at h6
    | sb i r o l => simp [idsA, idsC, memB] at h6
    | mp i => simp [idsA, idsC, memB] at h6
    | clo i => simp [idsA, idsC, memB] at h6
    | _ => rfl
  rw [e]
  exact hQ
def Fin (tt : Tab) (rs : List ResultVar) (fx : List Nat) (σ : List Nat) (n : Nat) (Q : AV → Hp → Nat → Prop) (e : Exit) (s : St) : Prop := match e with
  | .normal => FinOk tt rs fx σ n Q s
  | .ret => FinOk tt rs fx σ n Q s
  | _ => False

theorem fx_fixed {st : Bool} (objs : List AObj) (id : Nat) (h : memB id (fxOf st 0 objs) = false) : ∀ o, objs[id]? = some o → fixedO st o = false := by
  intro o ho
  cases hf : fixedO st o with
  | false => rfl
  | true => have := mem_fxOf objs 0 id o ho hf; rw [Nat.zero_add, h] at this; cases this

theorem params_ok {P : Program} {w : World} {A : Nat → Prop} {ι : Loc} {nt nx : Nat} {args : List AV} {vs : List Value} (hlen : args.length ≤ nt) (hrel : All2 (VRel w A ι) vs args) (hu : ∀ x ∈ args, x.uses (· < nx)) :
    TmOk ι A (enumL 0 args) nt nx w (vs.toArray ++ Array.replicate (nt - vs.toArray.size) undef) := by
  refine ⟨fun t v h => ?_⟩
  rw [look_enumL, if_pos (Nat.zero_le _), Nat.sub_zero] at h
  have hlt : t < args.length := (List.getElem?_eq_some_iff.1 h).1
  have hlt' : t < vs.length := by rw [hrel.length]; exact hlt
  refine ⟨by omega, hu v (List.mem_of_getElem? h), ?_⟩
  have : (vs.toArray ++ Array.replicate (nt - vs.toArray.size) undef).getD t undef = vs[t] := by
    rw [Array.getD_eq_getD_getElem?, Array.getElem?_append_left (by simpa using hlt')]
    simp [hlt']
  rw [this]
  exact hrel.at (List.getElem?_eq_getElem hlt') h

theorem idsV_uses {ks : List Nat} {K : Nat → Prop} (hK : ∀ i, memB i ks = true → K i) {a : AV} (h : idsV ks a = true) : a.uses K := by
  cases a with
  | own i len => exact hK i h
  | pt i r o => exact hK i h
  | sb i r o l => exact hK i h
  | mp i => exact hK i h
  | clo i => exact hK i h
  | agg cs => exact fun c hc i hi => hK i (idsC_id (List.all_eq_true.1 h c hc) i hi)
  | tup vs =>
    intro v hv
    have hv' := List.all_eq_true.1 h v hv
    refine ⟨fun i hi => ?_, fun cs e c hc i hi => ?_⟩
    · cases v with
      | agg cs => simp [AV.idOf] at hi
      | own j len => exact hK i (idsC_id (ks := ks) (a := .own j len) hv' i hi)
      | pt j r o => exact hK i (idsC_id (ks := ks) (a := .pt j r o) hv' i hi)
      | sb j r o l => exact hK i (idsC_id (ks := ks) (a := .sb j r o l) hv' i hi)
      | mp j => exact hK i (idsC_id (ks := ks) (a := .mp j) hv' i hi)
      | clo j => exact hK i (idsC_id (ks := ks) (a := .clo j) hv' i hi)
      | _ => simp [AV.idOf] at hi
    · subst e
      exact hK i (idsC_id (List.all_eq_true.1 hv' c hc) i hi)
  | _ => trivial
theorem idsO_uses {ks : List Nat} {K : Nat → Prop} (hK : ∀ i, memB i ks = true → K i) {o : AObj} (h : idsO ks o = true) : o.uses K := by
  cases o with
  | box cs => exact fun c hc i hi => hK i (idsC_id (List.all_eq_true.1 h c hc) i hi)
  | list => trivial
  | map => trivial
  | ranged => trivial
  | clo f fs cs =>
    have h : (fs.all (idsC ks) && cs.all (idsC ks)) = true := h
    simp only [Bool.and_eq_true] at h
    exact ⟨fun c hc i hi => hK i (idsC_id (List.all_eq_true.1 h.1 c hc) i hi), fun c hc i hi => hK i (idsC_id (List.all_eq_true.1 h.2 c hc) i hi)⟩
  | @nest b e s rows =>
    intro h0 c hc i hi
    subst h0
    exact hK i (idsC_id (idsN (ks := ks) (rows := rows) h hc) i hi)

theorem renC_id {τ : Nat → Nat} {c : AV} {i : Nat} (h : (renC τ c).idOf = some i) : ∃ j, c.idOf = some j ∧ i = τ j := by
  cases c with
  | own j len => simp only [renC, AV.idOf, Option.some.injEq] at h; exact ⟨j, rfl, h.symm⟩
  | pt j r o => simp only [renC, AV.idOf, Option.some.injEq] at h; exact ⟨j, rfl, h.symm⟩
  | sb j r o l => simp only [renC, AV.idOf, Option.some.injEq] at h; exact ⟨j, rfl, h.symm⟩
  | mp j => simp only [renC, AV.idOf, Option.some.injEq] at h; exact ⟨j, rfl, h.symm⟩
  | clo j => simp only [renC, AV.idOf, Option.some.injEq] at h; exact ⟨j, rfl, h.symm⟩
  | _ => simp [renC, AV.idOf] at h
theorem renO_uses {τ : Nat → Nat} {ks : List Nat} {K : Nat → Prop} (hK : ∀ i, memB i ks = true → K (τ i)) {o : AObj} (h : idsO ks o = true) : (renO τ o).uses K := by
  cases o with
  | box cs =>
    intro c hc i hi
    simp only [List.mem_map] at hc
    obtain ⟨c0, hc0, rfl⟩ := hc
    obtain ⟨j, hj, rfl⟩ := renC_id hi
    exact hK j (idsC_id (List.all_eq_true.1 h c0 hc0) j hj)
  | list => trivial
  | map => trivial
  | ranged => trivial
  | clo f fs cs =>
    have h : (fs.all (idsC ks) && cs.all (idsC ks)) = true := h
    simp only [Bool.and_eq_true] at h
    refine ⟨fun c hc i hi => ?_, fun c hc i hi => ?_⟩
    · simp only [List.mem_map] at hc
      obtain ⟨c0, hc0, rfl⟩ := hc
      obtain ⟨j, hj, rfl⟩ := renC_id hi
      exact hK j (idsC_id (List.all_eq_true.1 h.1 c0 hc0) j hj)
    · simp only [List.mem_map] at hc
      obtain ⟨c0, hc0, rfl⟩ := hc
      obtain ⟨j, hj, rfl⟩ := renC_id hi
      exact hK j (idsC_id (List.all_eq_true.1 h.2 c0 hc0) j hj)
  | @nest b e s rows =>
    cases b with
    | true => intro h0; cases h0
    | false =>
      intro _ c hc i hi
      simp only [← List.map_flatten, List.mem_map] at hc
      obtain ⟨c0, hc0, rfl⟩ := hc
      obtain ⟨j, hj, rfl⟩ := renC_id hi
      exact hK j (idsC_id (idsN (ks := ks) (rows := rows) h hc0) j hj)
theorem renA_uses {τ : Nat → Nat} {ks : List Nat} {K : Nat → Prop} (hK : ∀ i, memB i ks = true → K (τ i)) {a : AV} (h : idsA ks a = true) (ht : ∀ vs, a ≠ .tup vs) : (renA τ a).uses K := by
  cases a with
  | own i len => exact hK i h
  | pt i r o => exact hK i h
  | sb i r o l => exact hK i h
  | mp i => exact hK i h
  | clo i => exact hK i h
  | agg cs =>
    intro c hc i hi
    simp only [List.mem_map] at hc
    obtain ⟨c0, hc0, rfl⟩ := hc
    obtain ⟨j, hj, rfl⟩ := renC_id hi
    exact hK j (idsC_id (List.all_eq_true.1 h c0 hc0) j hj)
  | tup vs => exact absurd rfl (ht vs)
  | _ => trivial

/-- What came in holds something that stays, unless nothing came in. -/
def stayB (st : Bool) (objs : List AObj) : Bool := match fxOf st 0 objs with
  | [] => objs.isEmpty
  | _ :: _ => true
/-- **What is said of a function holds if its body asks no more.** -/
theorem Ret.of_runS {P : Program} {f : FuncId} {fn : Func} {c : Code} (hT : TabOk P tt) (hf : P.funcs[f]? = some fn) (hb : fn.body = some c) (hent : ∀ args w, (callFunc f args).run P w = .ok (.enter f args) w)
    (σ : List Nat) (objs : List AObj) (args : List AV) (st : Bool) (n : Nat) (Q : AV → Hp → Nat → Prop) (hlen : σ.length = objs.length) (hnd : nodupB σ = true) (hargs : args.length ≤ fn.ntmps)
    (ha : (args.all fun x => idsV (upTo 0 σ.length) x && !x.isTup) = true) (ho : (objs.all (idsO (upTo 0 σ.length))) = true)
    (fx : List Nat) (hfx1 : ∀ i, memB i fx = false → memB i (fxOf st 0 objs) = false) (hfx2 : fx = [] → objs = [])
    (s0 : St) (hs0 : Weak fx ⟨enumL 0 args, enumL 0 objs, objs.length⟩ s0) (h : ∀ (E : Env) (a : Act) (w : World), E.P = P → E.nt = fn.ntmps → E.fx = fx → Rel E s0 a w → c.wp P (fun e a' w' => ∃ s', Rel E s' a' w' ∧ Fin tt fn.results.toList fx σ n Q e s') a w) :
    Ret P f (args.map (renV (tau σ [] n))) (hpOf (tau σ [] n) σ objs) n st Q := by
  refine ⟨hent, ?_⟩
  intro w ι A vs hC hout hrel hu huo
  refine calls_of_wp hf hb ?_
  have hin : ∀ (j c : Nat), σ[j]? = some c → ∃ o, objs[j]? = some o ∧ look (hpOf (tau σ [] n) σ objs) c = some (renO (tau σ [] n) o) := by
    intro j c hj
    have hlt : j < objs.length := by rw [← hlen]; exact (List.getElem?_eq_some_iff.1 hj).1
    exact ⟨_, List.getElem?_eq_getElem hlt, hpOf_look _ σ objs j c _ hnd hj (List.getElem?_eq_getElem hlt)⟩
  have hσn : ∀ c, memB c σ = true → c < n := by
    intro c hc
    obtain ⟨o, _, hl⟩ := hin _ c (idx_get σ c hc)
    exact (hC.obj c _ hl).1
  -- the numbers within
  let ιr : Loc := fun k => match σ[k.id]? with | some c => ι ⟨c, k.path⟩ | none => none
  have hιr : ∀ (i : Nat) (p : List Nat), memB i (upTo 0 σ.length) = true → ιr ⟨i, p⟩ = ι ⟨tau σ [] n i, p⟩ := by
    intro i p hi
    rw [mem_upTo] at hi
    have hlt : i < σ.length := by omega
    show (match σ[i]? with | some c => ι ⟨c, p⟩ | none => none) = ι ⟨(match σ[i]? with | some c => c | none => n + idx i []), p⟩
    rw [List.getElem?_eq_getElem hlt]
  have hιr2 : ∀ (i : Key) p, ιr i = some p → ∃ c : Nat, σ[i.id]? = some c ∧ ι ⟨c, i.path⟩ = some p := by
    intro i p h
    have h' : (match σ[i.id]? with | some c => ι ⟨c, i.path⟩ | none => none) = some p := h
    cases hs : σ[i.id]? with
    | none => rw [hs] at h'; cases h'
    | some c => rw [hs] at h'; exact ⟨c, rfl, h'⟩
  let fix : Loc := fun i => match objs[i.id]? with | some o => bif fixedO st o then ιr i else none | none => none
  have hfix : ∀ (i : Key) p, fix i = some p → ιr i = some p := by
    intro i p h
    have h' : (match objs[i.id]? with | some o => bif fixedO st o then ιr i else none | none => none) = some p := h
    cases hs : objs[i.id]? with
    | none => rw [hs] at h'; cases h'
    | some o =>
      rw [hs] at h'
      simp only at h'
      cases hf' : fixedO st o with
      | true => rw [hf'] at h'; exact h'
      | false => rw [hf'] at h'; cases h'
  let E : Env := ⟨P, w, Mut ι, A, fn.ntmps, fix, fx⟩
  have hCr : Core E ιr A (enumL 0 objs) objs.length w := by
    refine ⟨Frame.refl _ _, fun b hb => .inl hb, hC.lt, ?_, ?_, ?_, ?_, ?_, fun id p => hfix ⟨id, []⟩ p, ?_⟩
    · rintro b hb ⟨i, c, s', e⟩
      obtain ⟨c0, _, e'⟩ := hιr2 i _ e
      exact hC.dis b hb ⟨⟨c0, i.path⟩, c, s', e'⟩
    · intro i g c s' e
      obtain ⟨c0, _, e'⟩ := hιr2 i _ e
      exact ⟨(hC.own _ g c s' e').1, .inr ⟨_, c, s', e'⟩⟩
    · intro i j g c d s1 s2 e1 e2
      obtain ⟨c1, h1, e1'⟩ := hιr2 i _ e1
      obtain ⟨c2, h2, e2'⟩ := hιr2 j _ e2
      have := hC.inj ⟨c1, i.path⟩ ⟨c2, j.path⟩ g _ _ _ _ e1' e2'
      simp only [Key.mk.injEq] at this
      obtain ⟨rfl, hpp⟩ := this
      have e3 := (get_idx σ i.id c1 hnd h1).symm.trans (get_idx σ j.id c1 hnd h2)
      cases i; cases j; simp_all
    · intro i hi
      show (match σ[i.id]? with | some c => ι ⟨c, i.path⟩ | none => none) = none
      rw [List.getElem?_eq_none (by omega)]
    · intro i o hl
      rw [look_enumL, if_pos (Nat.zero_le _), Nat.sub_zero] at hl
      have hlt : i < objs.length := (List.getElem?_eq_some_iff.1 hl).1
      have hids := List.all_eq_true.1 ho o (List.mem_of_getElem? hl)
      have hlt2 : i < σ.length := by omega
      have hσi := List.getElem?_eq_getElem hlt2
      have hk := hpOf_look (tau σ [] n) σ objs i _ o hnd hσi hl
      obtain ⟨_, _, hob⟩ := hC.obj _ _ hk
      have et : tau σ [] n i = σ[i] := by unfold tau; rw [hσi]
      refine ⟨hlt, idsO_uses (fun j hj => by rw [mem_upTo] at hj; omega) hids, ?_⟩
      rw [← et] at hob
      exact hob.unren hιr (by rw [mem_upTo]; omega) hids
    · refine ⟨?_, ?_⟩
      · intro i hi
        show (match objs[i.id]? with | some o => bif fixedO st o then ιr i else none | none => none) = none
        cases hs : objs[i.id]? with
        | none => rfl
        | some o => simp only; rw [fx_fixed objs i.id (hfx1 _ hi) o hs]; rfl
      · rintro hfx g ⟨i, c, s, e⟩
        have h0 : objs = [] := hfx2 hfx
        subst h0
        have hs0 : σ = [] := List.eq_nil_of_length_eq_zero (by simpa using hlen)
        subst hs0
        rw [hout i rfl] at e
        cases e
  have hrelr : All2 (VRel w A ιr) vs args := All2.of (all2_map_r.1 hrel).length fun i v x hv hx => by
    have := List.all_eq_true.1 ha x (List.mem_of_getElem? hx)
    simp only [Bool.and_eq_true, Bool.not_eq_true'] at this
    exact ((all2_map_r.1 hrel).at hv hx).unren hιr this.1 (fun us e => by subst e; simp [AV.isTup] at this)
  have hvl : vs.length = args.length := hrelr.length
  have hur : ∀ x ∈ args, x.uses (· < objs.length) := by
    intro x hx
    have := List.all_eq_true.1 ha x hx
    simp only [Bool.and_eq_true] at this
    exact idsV_uses (fun j hj => by rw [mem_upTo] at hj; omega) this.1
  have hR : Rel E ⟨enumL 0 args, enumL 0 objs, objs.length⟩ ⟨vs.toArray ++ Array.replicate (fn.ntmps - vs.toArray.size) undef, []⟩ w :=
    ⟨by simp [E]; omega, rfl, ιr, A, hCr, params_ok (P := P) hargs hrelr hur⟩
  refine wp_mono (h E _ w rfl rfl rfl (hs0 E _ w rfl hR)) ?_
  rintro e a' w' ⟨s', ⟨hs', hd', ι', S', hC', hTm'⟩, hfin⟩
  have key : FinOk tt fn.results.toList fx σ n Q s' → a'.defers = [] ∧ ∃ v, (results fn a'.tmps).run P w' = .ok v w' ∧ (fun (e : Ending) (w' : World) => ∃ v r ho m ι' S', e = .returned v ∧ Q r ho m ∧ n ≤ m ∧ Core ⟨P, w, Mut ι, A, 0, fun _ => none, [0]⟩ ι' S' ho m w' ∧ (∀ (k : Key), look ho k.id = none → ι' k = none) ∧
      VRel w' S' ι' v r ∧ r.uses (inH ho) ∧ (∀ id o, look ho id = some o → o.uses (inH ho)) ∧ (∀ id, inH (hpOf (tau σ [] n) σ objs) id → inH ho id) ∧ (∀ id, inH ho id → inH (hpOf (tau σ [] n) σ objs) id ∨ n ≤ id) ∧
      (∀ (id : Nat) o p, look (hpOf (tau σ [] n) σ objs) id = some o → (st = true ∨ ∃ cs, o = .box cs) → ι ⟨id, []⟩ = some p → ι' ⟨id, []⟩ = some p)) (.returned v) w' := by
    intro hk
    obtain ⟨s2, hW2, news, us, hx, hres, hnt, hexp, hge, hndn, hids, hidso, hQ⟩ := hk.fin
    have hR2 := hW2 E a' w' rfl ⟨hs', hd', ι', S', hC', hTm'⟩
    clear hk hs' hd' hC' hTm' hW2
    revert hR2 hres hexp
    generalize s2 = s'
    intro hres hexp hR2
    obtain ⟨hs', hd', ι', S', hC', hTm'⟩ := hR2
    have hge' : ∀ i, memB i news = true → σ.length ≤ i := fun i hi => Nat.le_of_ble_eq_true (List.all_eq_true.1 hge i ((memB_iff i news).1 hi))
    let dom := upTo 0 σ.length ++ news
    let τ := tau σ news n
    let ιo : Loc := fun c => match tauInv σ news n c.id with | some i => ι' ⟨i, c.path⟩ | none => none
    have hιo : ∀ (i : Nat) (p : List Nat), memB i dom = true → ιo ⟨τ i, p⟩ = ι' ⟨i, p⟩ := by
      intro i p hi
      show (match tauInv σ news n (tau σ news n i) with | some i => ι' ⟨i, p⟩ | none => none) = ι' ⟨i, p⟩
      rw [tau_inv hnd hσn hge' hi]
    have hιo2 : ∀ (c : Key) p, ιo c = some p → ∃ i : Nat, memB i dom = true ∧ τ i = c.id ∧ ι' ⟨i, c.path⟩ = some p := by
      intro c p h
      have h' : (match tauInv σ news n c.id with | some i => ι' ⟨i, c.path⟩ | none => none) = some p := h
      cases hs : tauInv σ news n c.id with
      | none => rw [hs] at h'; cases h'
      | some i =>
        rw [hs] at h'
        have := inv_tau hndn hge' hs
        exact ⟨i, this.1, this.2, h'⟩
    have hinj : ∀ i j, memB i dom = true → memB j dom = true → τ i = τ j → i = j := by
      intro i j hi hj e
      have h1 := tau_inv hnd hσn hge' hi
      have h2 := tau_inv hnd hσn hge' hj
      have e' : tau σ news n i = tau σ news n j := e
      rw [e', h2] at h1
      exact (Option.some.inj h1).symm
    have hlook : ∀ i, memB i dom = true → ∃ o, look s'.hp i = some o ∧ look (renH τ hx) (τ i) = some (renO τ o) ∧ idsO dom o = true := by
      intro i hi
      have hl := look_expo hexp i
      rw [if_pos hi] at hl
      cases ho' : look s'.hp i with
      | none =>
        exfalso
        have : ∀ (l : List Nat) (hh : Hp), expo s'.hp l = some hh → memB i l = true → False := by
          intro l
          induction l with
          | nil => intro hh _ hm; simp [memB] at hm
          | cons k r ih =>
            intro hh he hm
            simp only [expo] at he
            cases hk' : look s'.hp k with
            | none => simp [hk'] at he
            | some ok =>
              cases hr' : expo s'.hp r with
              | none => simp [hk', hr'] at he
              | some hh' =>
                rw [memB_cons] at hm
                by_cases hik : i = k
                · subst hik; rw [hk'] at ho'; cases ho'
                · rw [if_neg hik] at hm; exact ih hh' hr' hm
        exact this _ _ hexp hi
      | some o =>
        rw [ho'] at hl
        have hm : ∃ o', (i, o') ∈ hx ∧ o' = o := by
          have : ∀ (h : Hp), look h i = some o → (i, o) ∈ h := by
            intro h
            induction h with
            | nil => intro e; simp [look] at e
            | cons x r ih =>
              obtain ⟨k, ok⟩ := x
              intro e
              rw [look_cons] at e
              split at e
              · rename_i hk'; simp at e; subst hk' e; exact List.mem_cons_self ..
              · exact List.mem_cons_of_mem _ (ih e)
          exact ⟨o, this hx hl, rfl⟩
        obtain ⟨o', hm, rfl⟩ := hm
        exact ⟨o', rfl, renH_look hx i o' (fun j o' hj e => hinj j i (expo_mem hexp j o' hj).1 hi e) hl, List.all_eq_true.1 hidso (i, o') hm⟩
    have hlook2 : ∀ c o, look (renH τ hx) c = some o → ∃ i o', memB i dom = true ∧ c = τ i ∧ look s'.hp i = some o' ∧ o = renO τ o' ∧ idsO dom o' = true := by
      intro c o hl
      obtain ⟨i, o', hm, rfl, rfl⟩ := look_renH hx c o hl
      have := expo_mem hexp i o' hm
      exact ⟨i, o', this.1, rfl, this.2, rfl, List.all_eq_true.1 hidso (i, o') hm⟩
    have hτlt : ∀ i, memB i dom = true → τ i < n + news.length := by
      intro i hi
      show (match σ[i]? with | some c => c | none => n + idx i news) < n + news.length
      cases hs : σ[i]? with
      | some c => have := hσn c ((memB_iff c σ).2 (List.mem_of_getElem? hs)); simp only; omega
      | none =>
        have hge2 : σ.length ≤ i := by simpa using hs
        have hi' : memB i (upTo 0 σ.length ++ news) = true := hi
        rw [memB_append, Bool.or_eq_true, mem_upTo] at hi'
        have hin' : memB i news = true := by
          rcases hi' with h | h
          · omega
          · exact h
        have := (List.getElem?_eq_some_iff.1 (idx_get news i hin')).1
        simp only; omega
    have hCo : Core ⟨P, w, Mut ι, A, 0, fun _ => none, [0]⟩ ιo S' (renH τ hx) (n + news.length) w' := by
      refine ⟨hC'.frame, hC'.sub, hC'.lt, ?_, ?_, ?_, ?_, ?_, fun _ _ h => (by cases h), ⟨fun _ _ => rfl, fun e => by cases e⟩⟩
      · rintro b hb ⟨c, c', s2, e⟩
        obtain ⟨i, _, _, e'⟩ := hιo2 c _ e
        exact hC'.dis b hb ⟨_, c', s2, e'⟩
      · intro c g c' s2 e
        obtain ⟨i, _, _, e'⟩ := hιo2 c _ e
        exact hC'.own _ g c' s2 e'
      · intro c1 c2 g c d s1 s2 e1 e2
        obtain ⟨i, _, t1, e1'⟩ := hιo2 c1 _ e1
        obtain ⟨j, _, t2, e2'⟩ := hιo2 c2 _ e2
        have := hC'.inj ⟨i, c1.path⟩ ⟨j, c2.path⟩ g _ _ _ _ e1' e2'
        simp only [Key.mk.injEq] at this
        obtain ⟨rfl, hpp⟩ := this
        have e3 := t1.symm.trans t2
        cases c1; cases c2; simp_all
      · intro c hc
        cases hv : ιo c with
        | none => rfl
        | some p =>
          obtain ⟨i, hi, t, _⟩ := hιo2 c p hv
          have := hτlt i hi
          omega
      · intro c o hl
        obtain ⟨i, o', hi, rfl, hl', rfl, hid⟩ := hlook2 c o hl
        obtain ⟨_, _, hob⟩ := hC'.obj i o' hl'
        exact ⟨hτlt i hi, renO_uses hτlt hid, hob.ren hιo hi hid⟩
    obtain ⟨us', hrun, hru⟩ := resA_ok hT hC' hTm' fn.results.toList us hres hnt
    have hdomin : ∀ i, memB i dom = true → inH (renH τ hx) (τ i) := by
      intro i hi
      obtain ⟨o, _, hl, _⟩ := hlook i hi
      unfold inH; rw [hl]; simp
    have hres' : (results fn a'.tmps).run P w' = .ok (if h : us'.toArray.size = 1 then us'.toArray[0] else .tuple us'.toArray) w' := by
      have hrun' : (fn.results.toList.mapM (resSem a'.tmps)).run P w' = .ok us' w' := hrun
      have e1 : (fn.results.mapM (resSem a'.tmps)).run P w' = .ok us'.toArray w' := by
        rw [Array.mapM_eq_mapM_toList]
        simp [hrun']
      have e2 : results fn a'.tmps = (do let vs ← fn.results.mapM (resSem a'.tmps); pure (if h : vs.size = 1 then vs[0] else .tuple vs)) := by
        unfold results
        congr 1
      rw [e2]
      simp only [Sem.run_bind, e1, Result.andThen_ok, Sem.run_pure]
    refine ⟨hd', _, hres', _, renV τ (oneOf us), renH τ hx, n + news.length, ιo, S', rfl, hQ, Nat.le_add_right _ _, hCo, ?_, ?_, ?_, ?_, ?_, ?_, ?_⟩
    · intro c hl
      cases hv : ιo c with
      | none => rfl
      | some p =>
        obtain ⟨i, hi, t, _⟩ := hιo2 c p hv
        have := hdomin i hi
        rw [t] at this
        exact absurd hl this
    · match us', us, hru, hids, hnt with
      | [], [], _, _, _ => exact .tup [] [] trivial
      | [u], [x], hru, hids, _ =>
        have hids' : idsA dom x = true := by simpa [dom] using hids
        have : ARel w' S' ιo u (renA τ x) := ARel.ren hιo hru.1 hids'
        have e : renV τ (oneOf [x]) = renA τ x := by
          simp only [oneOf]
          cases x with
          | tup vs => cases hru.1 with | cell h => exact absurd rfl (h.not_agg.2 _)
          | _ => rfl
        rw [e]
        exact .one this
      | u :: u' :: ur, x :: x' :: xr, hru, hids, _ =>
        have e : (if h : (u :: u' :: ur).toArray.size = 1 then (u :: u' :: ur).toArray[0] else Value.tuple (u :: u' :: ur).toArray) = .tuple (u :: u' :: ur).toArray := by
          rw [dif_neg (by simp)]
        rw [e]
        exact .tup _ _ (all2_map_r.2 (All2.of hru.length fun i v y hv hy => ARel.ren hιo (hru.at hv hy) (List.all_eq_true.1 hids y (List.mem_of_getElem? hy))))
    · match us, hids, hnt with
      | [], _, _ => intro v hv; cases hv
      | [x], hids, hnt =>
        have hids' : idsA dom x = true := by simpa [dom] using hids
        have ht : ∀ vs, x ≠ .tup vs := by rintro vs rfl; simp [AV.isTup] at hnt
        have e : renV τ (oneOf [x]) = renA τ x := by
          simp only [oneOf]
          cases x with
          | tup vs => exact absurd rfl (ht vs)
          | _ => rfl
        rw [e]
        exact renA_uses hdomin hids' ht
      | x :: x' :: xr, hids, hnt =>
        intro v hv
        simp only [List.mem_map] at hv
        obtain ⟨y, hy, rfl⟩ := hv
        have hidy := List.all_eq_true.1 hids y hy
        have hty : ∀ vs, y ≠ .tup vs := by
          rintro vs rfl
          have := List.all_eq_true.1 hnt _ hy
          simp [AV.isTup] at this
        have hu' := renA_uses (τ := τ) (K := inH (renH τ hx)) hdomin hidy hty
        exact ⟨AV.uses_id hu', fun cs e => AV.uses_agg hu' cs e⟩
    · intro c o hl
      obtain ⟨i, o', hi, rfl, hl', rfl, hid⟩ := hlook2 c o hl
      exact renO_uses hdomin hid
    · intro c hc
      cases hl : look (hpOf (tau σ [] n) σ objs) c with
      | none => exact absurd hl hc
      | some o =>
        obtain ⟨j, o', h1, h2, _⟩ := look_hpOf _ σ objs c o hl
        have hj : memB j dom = true := by
          show memB j (upTo 0 σ.length ++ news) = true
          rw [memB_append, Bool.or_eq_true, mem_upTo]
          have := (List.getElem?_eq_some_iff.1 h1).1
          exact .inl ⟨Nat.zero_le _, by omega⟩
        have := hdomin j hj
        have e : τ j = c := by show tau σ news n j = c; unfold tau; rw [h1]
        rwa [e] at this
    · intro c hc
      cases hl : look (renH τ hx) c with
      | none => exact absurd hl hc
      | some o =>
        obtain ⟨i, o', hi, rfl, _⟩ := hlook2 c o hl
        cases hs : σ[i]? with
        | some c' =>
          left
          have e : τ i = c' := by show tau σ news n i = c'; unfold tau; rw [hs]
          rw [e]
          obtain ⟨o2, _, hl2⟩ := hin i c' hs
          unfold inH; rw [hl2]; simp
        | none =>
          right
          show n ≤ tau σ news n i
          unfold tau; rw [hs]; simp
    · intro c o p hl hst hp
      obtain ⟨j, o', h1, h2, rfl⟩ := look_hpOf _ σ objs c o hl
      have hlt := (List.getElem?_eq_some_iff.1 h1).1
      have hj : memB j dom = true := by
        show memB j (upTo 0 σ.length ++ news) = true
        rw [memB_append, Bool.or_eq_true, mem_upTo]
        exact .inl ⟨Nat.zero_le _, by omega⟩
      have e : τ j = c := by show tau σ news n j = c; unfold tau; rw [h1]
      have ec : (⟨c, []⟩ : Key) = ⟨τ j, []⟩ := by rw [e]
      rw [ec, hιo j _ hj]
      have hfo : fixedO st o' = true := by
        rcases hst with rfl | ⟨cs, hcs⟩
        · cases o' <;> rfl
        · cases o' with
          | box => rfl
          | list => simp [renO] at hcs
          | map => simp [renO] at hcs
          | ranged => simp [renO] at hcs
          | clo => simp [renO] at hcs
          | @nest b _ _ _ => cases b <;> simp [renO] at hcs
      have hfj : fix ⟨j, []⟩ = ιr ⟨j, []⟩ := by
        show (match objs[j]? with | some o => bif fixedO st o then ιr ⟨j, []⟩ else none | none => none) = ιr ⟨j, []⟩
        rw [h2]; simp only; rw [hfo]; rfl
      have hir : ιr ⟨j, []⟩ = ι ⟨c, []⟩ := by
        show (match σ[j]? with | some c' => ι ⟨c', []⟩ | none => none) = ι ⟨c, []⟩
        rw [h1]
      exact hC'.stay j p (by show fix ⟨j, []⟩ = some p; rw [hfj, hir, hp])
  cases e with
  | normal => exact key hfin
  | ret => exact key hfin
  | _ => exact hfin.elim

/-- **What is said of a function holds if its body asks no more.** -/
theorem Ret.of_runG {P : Program} {f : FuncId} {fn : Func} {c : Code} (hT : TabOk P tt) (hf : P.funcs[f]? = some fn) (hb : fn.body = some c) (hent : ∀ args w, (callFunc f args).run P w = .ok (.enter f args) w)
    (σ : List Nat) (objs : List AObj) (args : List AV) (st : Bool) (n : Nat) (Q : AV → Hp → Nat → Prop) (hlen : σ.length = objs.length) (hnd : nodupB σ = true) (hargs : args.length ≤ fn.ntmps)
    (ha : (args.all fun x => idsV (upTo 0 σ.length) x && !x.isTup) = true) (ho : (objs.all (idsO (upTo 0 σ.length))) = true)
    (fx : List Nat) (hfx1 : ∀ i, memB i fx = false → memB i (fxOf st 0 objs) = false) (hfx2 : fx = [] → objs = [])
    (s0 : St) (hs0 : Weak fx ⟨enumL 0 args, enumL 0 objs, objs.length⟩ s0) (h : run tt P fn.ntmps fx c s0 (Fin tt fn.results.toList fx σ n Q)) :
    Ret P f (args.map (renV (tau σ [] n))) (hpOf (tau σ [] n) σ objs) n st Q :=
  Ret.of_runS hT hf hb hent σ objs args st n Q hlen hnd hargs ha ho fx hfx1 hfx2 s0 hs0 fun E a w e1 e2 e3 hR => by
    subst e1 e3
    rw [← e2] at h
    exact run_sound (E := E) hT c _ _ h a w hR
/-- **What is said of a function holds if its body asks no more.** -/
theorem Ret.of_run {P : Program} {f : FuncId} {fn : Func} {c : Code} (hT : TabOk P tt) (hf : P.funcs[f]? = some fn) (hb : fn.body = some c) (hent : ∀ args w, (callFunc f args).run P w = .ok (.enter f args) w)
    (σ : List Nat) (objs : List AObj) (args : List AV) (st : Bool) (n : Nat) (Q : AV → Hp → Nat → Prop) (hlen : σ.length = objs.length) (hnd : nodupB σ = true) (hargs : args.length ≤ fn.ntmps)
    (ha : (args.all fun x => idsV (upTo 0 σ.length) x && !x.isTup) = true) (ho : (objs.all (idsO (upTo 0 σ.length))) = true)
    (h : run tt P fn.ntmps (fxOf st 0 objs) c ⟨enumL 0 args, enumL 0 objs, objs.length⟩ (Fin tt fn.results.toList (fxOf st 0 objs) σ n Q)) (hz : stayB st objs = true := by rfl) :
    Ret P f (args.map (renV (tau σ [] n))) (hpOf (tau σ [] n) σ objs) n st Q :=
  Ret.of_runG hT hf hb hent σ objs args st n Q hlen hnd hargs ha ho (fxOf st 0 objs) (fun _ h => h) (fun hfx => by
    unfold stayB at hz
    rw [hfx] at hz
    simpa using hz) _ (fun _ _ _ _ h => h) h
/-- The same where all that came in are lists that move: a number that is no object's stands for what is not to be given away. -/
theorem Ret.of_runM {P : Program} {f : FuncId} {fn : Func} {c : Code} (hT : TabOk P tt) (hf : P.funcs[f]? = some fn) (hb : fn.body = some c) (hent : ∀ args w, (callFunc f args).run P w = .ok (.enter f args) w)
    (σ : List Nat) (objs : List AObj) (args : List AV) (st : Bool) (n : Nat) (Q : AV → Hp → Nat → Prop) (hlen : σ.length = objs.length) (hnd : nodupB σ = true) (hargs : args.length ≤ fn.ntmps)
    (ha : (args.all fun x => idsV (upTo 0 σ.length) x && !x.isTup) = true) (ho : (objs.all (idsO (upTo 0 σ.length))) = true)
    (h : run tt P fn.ntmps (4294967296 :: fxOf st 0 objs) c ⟨enumL 0 args, enumL 0 objs, objs.length⟩ (Fin tt fn.results.toList (4294967296 :: fxOf st 0 objs) σ n Q)) :
    Ret P f (args.map (renV (tau σ [] n))) (hpOf (tau σ [] n) σ objs) n st Q :=
  Ret.of_runG hT hf hb hent σ objs args st n Q hlen hnd hargs ha ho (4294967296 :: fxOf st 0 objs) (fun i h => by
    rw [memB_cons] at h
    split at h
    · cases h
    · exact h) (fun h => by cases h) _ (fun _ _ _ _ h => h) h
theorem AObj.usesUp {K K' : Nat → Prop} (h : ∀ i, K i → K' i) {o : AObj} (ho : o.uses K) : o.uses K' := by
  cases o with
  | box cs => exact fun c hc id hi => h _ (ho c hc id hi)
  | nest e s rows => exact fun hb c hc id hi => h _ (ho hb c hc id hi)
  | clo f fs cs => exact ⟨fun c hc id hi => h _ (ho.1 c hc id hi), fun c hc id hi => h _ (ho.2 c hc id hi)⟩
  | _ => trivial
/-- A number may be left out. -/
theorem Weak.up {fx : List Nat} {tm : List (Nat × AV)} {hp : Hp} {nx : Nat} : Weak fx ⟨tm, hp, nx⟩ ⟨tm, hp, nx + 1⟩ := by
  rintro E a w _ ⟨hsz, hd, ι, S, hC, hTm⟩
  exact ⟨hsz, hd, ι, S, ⟨hC.frame, hC.sub, hC.lt, hC.dis, hC.own, hC.inj, fun k hk => hC.new k (Nat.le_of_succ_le hk), fun id o h => let ⟨h1, h2, h3⟩ := hC.obj id o h; ⟨Nat.lt_succ_of_lt h1, AObj.usesUp (fun i hi => Nat.lt_succ_of_lt hi) h2, h3⟩, hC.stay, hC.fxs⟩,
    ⟨fun t v hv => let ⟨h1, h2, h3⟩ := hTm.tm t v hv; ⟨h1, AV.uses_mono (fun i hi => Nat.lt_succ_of_lt hi) h2, h3⟩⟩⟩
/-- The same with loops: a number that is left out stands for what is not to be given away. -/
theorem Ret.of_runX {P : Program} {f : FuncId} {fn : Func} {c : Code} (hT : TabOk P tt) (hf : P.funcs[f]? = some fn) (hb : fn.body = some c) (hent : ∀ args w, (callFunc f args).run P w = .ok (.enter f args) w)
    (σ : List Nat) (objs : List AObj) (args : List AV) (st : Bool) (n : Nat) (Q : AV → Hp → Nat → Prop) (hlen : σ.length = objs.length) (hnd : nodupB σ = true) (hargs : args.length ≤ fn.ntmps)
    (ha : (args.all fun x => idsV (upTo 0 σ.length) x && !x.isTup) = true) (ho : (objs.all (idsO (upTo 0 σ.length))) = true)
    (h : run tt P fn.ntmps (objs.length :: fxOf st 0 objs) c ⟨enumL 0 args, enumL 0 objs, objs.length + 1⟩ (Fin tt fn.results.toList (objs.length :: fxOf st 0 objs) σ n Q)) :
    Ret P f (args.map (renV (tau σ [] n))) (hpOf (tau σ [] n) σ objs) n st Q :=
  Ret.of_runG hT hf hb hent σ objs args st n Q hlen hnd hargs ha ho (objs.length :: fxOf st 0 objs) (fun i h => by
    rw [memB_cons] at h
    split at h
    · cases h
    · exact h) (fun h => by cases h) _ Weak.up h
end Go.Am
