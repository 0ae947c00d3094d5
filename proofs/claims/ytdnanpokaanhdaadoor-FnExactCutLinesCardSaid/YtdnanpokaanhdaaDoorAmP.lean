/-
  OWN LISTS OF OWN LISTS: words for the walk.
-/
import Derived.Test.YtdnanpokaanhdaaDoorAmO
namespace Go.Am
open Go.RowKit
set_option linter.unusedVariables false
set_option linter.unusedSimpArgs false
theorem flat_at {α : Type} {s : Nat} : ∀ (rows : List (List α)) (k o : Nat) (row : List α), (∀ r ∈ rows, r.length = s) → rows[k]? = some row → o < s → rows.flatten[k * s + o]? = row[o]?
  | [], k, o, row, _, h, _ => by simp at h
  | r :: rs, 0, o, row, hr, h, ho => by
    simp only [List.getElem?_cons_zero, Option.some.injEq] at h
    subst h
    have := hr r (List.mem_cons_self ..)
    rw [List.flatten_cons, Nat.zero_mul, Nat.zero_add, List.getElem?_append_left (by omega)]
  | r :: rs, k + 1, o, row, hr, h, ho => by
    have hl := hr r (List.mem_cons_self ..)
    rw [List.getElem?_cons_succ] at h
    rw [List.flatten_cons, Nat.add_mul, Nat.one_mul, List.getElem?_append_right (by omega), show k * s + s + o - r.length = k * s + o by omega]
    exact flat_at rs k o row (fun x hx => hr x (List.mem_cons_of_mem _ hx)) h ho
theorem flat_set {α : Type} {s : Nat} (x : α) : ∀ (rows : List (List α)) (k o : Nat) (row : List α), (∀ r ∈ rows, r.length = s) → rows[k]? = some row → o < s → (rows.set k (row.set o x)).flatten = rows.flatten.set (k * s + o) x
  | [], k, o, row, _, h, _ => by simp at h
  | r :: rs, 0, o, row, hr, h, ho => by
    simp only [List.getElem?_cons_zero, Option.some.injEq] at h
    subst h
    have := hr r (List.mem_cons_self ..)
    rw [List.set_cons_zero, List.flatten_cons, List.flatten_cons, Nat.zero_mul, Nat.zero_add, List.set_append_left _ _ (by omega)]
  | r :: rs, k + 1, o, row, hr, h, ho => by
    have hl := hr r (List.mem_cons_self ..)
    rw [List.getElem?_cons_succ] at h
    rw [List.set_cons_succ, List.flatten_cons, List.flatten_cons, Nat.add_mul, Nat.one_mul, List.set_append_right _ _ (by omega), show k * s + s + o - r.length = k * s + o by omega, flat_set x rs k o row (fun x hx => hr x (List.mem_cons_of_mem _ hx)) h ho]
theorem set_rows {α : Type} {s : Nat} {rows : List (List α)} {k o : Nat} {row : List α} {x : α} (hr : ∀ r ∈ rows, r.length = s) (h : rows[k]? = some row) : ∀ r ∈ rows.set k (row.set o x), r.length = s := by
  intro r hr'
  rcases List.mem_or_eq_of_mem_set hr' with h' | rfl
  · exact hr r h'
  · rw [List.length_set]; exact hr row (List.mem_of_getElem? h)
/-- The same objects, one of them told otherwise. -/
theorem Weak.retell {fx : List Nat} {tm : List (Nat × AV)} {hp : Hp} {nx : Nat} (id : Nat) (o o' : AObj) (hl : look hp id = some o) (h : ∀ (w : World) (S : Nat → Prop) (ι : Loc), o.uses (· < nx) → ObjOk w S ι id o → o'.uses (· < nx) ∧ ObjOk w S ι id o') :
    Weak fx ⟨tm, hp, nx⟩ ⟨tm, (id, o') :: hp, nx⟩ := by
  rintro E a w _ ⟨hsz, hd, ι, S, hC, hTm⟩
  refine ⟨hsz, hd, ι, S, ⟨hC.frame, hC.sub, hC.lt, hC.dis, hC.own, hC.inj, hC.new, ?_, hC.stay, hC.fxs⟩, hTm⟩
  intro i ob hi
  by_cases hii : id = i
  · subst hii
    rw [look_cons_eq] at hi
    simp only [Option.some.injEq] at hi
    subst hi
    obtain ⟨g1, g2, g3⟩ := hC.obj id _ hl
    exact ⟨g1, h w S ι g2 g3⟩
  · rw [look_cons_ne _ _ hii] at hi
    exact hC.obj i ob hi
/-- Nothing within leads to an object of its own. -/
theorem Weak.close {fx : List Nat} {tm : List (Nat × AV)} {hp : Hp} {nx : Nat} {b : Bool} (id e s : Nat) (rows : List (List AV)) (hl : look hp id = some (.nest (c := b) e s rows)) (hin : ∀ c ∈ rows.flatten, inB c = true) :
    Weak fx ⟨tm, hp, nx⟩ ⟨tm, (id, .nest (c := true) e s rows) :: hp, nx⟩ := by
  refine Weak.retell id _ _ hl fun w S ι hu hob => ⟨fun h0 => (by cases h0), ?_⟩
  cases hob with
  | nest0 _ _ h hs => exact .nest0 e s h hs
  | nest g cap _ _ _ vs h hs hr hle hm hw hn hc => exact .nest g cap e s rows vs h hs hr hle hm hw hn fun i v c hv ha => .inr (CRel.tr (hc i v c hv ha) (hin c (List.mem_of_getElem? ha)))
/-- A list of lists that are only read, or of numbers. -/
theorem Weak.plain {fx : List Nat} {tm : List (Nat × AV)} {hp : Hp} {nx : Nat} {b : Bool} (id e s : Nat) (rows : List (List AV)) (hl : look hp id = some (.nest (c := b) e s rows)) (hin : ∀ c ∈ rows.flatten, plainA c = true) :
    Weak fx ⟨tm, hp, nx⟩ ⟨tm, (id, .list e s rows) :: hp, nx⟩ := by
  refine Weak.retell id _ _ hl fun w S ι hu hob => ⟨trivial, ?_⟩
  cases hob with
  | nest0 _ _ h hs => exact .nil e s h hs
  | nest g cap _ _ _ vs h hs hr hle hm hw hn hc =>
    refine .list g cap e s rows vs h hs hr hle hm hw hn fun i v c hv ha => ?_
    have hp := hin c (List.mem_of_getElem? ha)
    rcases hc i v c hv ha with ⟨_, hx⟩ | hx
    · exact plainA_rd hx hp
    · cases hx with
      | rd hx => exact hx
      | _ => simp [plainA] at hp
/-- The rows of an object have its width. -/
theorem nest_rows {E : Env} {s : St} {a : Act} {w : World} {i e sz : Nat} {b : Bool} {rows : List (List AV)} (hR : Rel E s a w) (hl : look s.hp i = some (.nest (c := b) e sz rows)) : ∀ r ∈ rows, r.length = sz := by
  obtain ⟨_, _, ι, S, hC, _⟩ := hR
  obtain ⟨_, _, hob⟩ := hC.obj i _ hl
  cases hob with
  | nest0 => intro r hr; cases hr
  | nest g cap _ _ _ vs h hs hr hle hm hw hn hc => exact hr
/-- An inner list is given a number of its own. -/
theorem Weak.liftN {fx : List Nat} {tm : List (Nat × AV)} {hp : Hp} {nx : Nat} {b : Bool} (i e s k o e2 s2 : Nat) (rows rows2 : List (List AV)) (row : List AV) (hl : look hp i = some (.nest (c := b) e s rows)) (hrow : rows[k]? = some row) (hq : row[o]? = some (.tree e2 s2 rows2)) :
    Weak fx ⟨tm, hp, nx⟩ ⟨tm, (i, .nest (c := false) e s (rows.set k (row.set o (.own nx rows2.length)))) :: (nx, .nest (c := true) e2 s2 rows2) :: hp, nx + 1⟩ := by
  intro E a w he hR
  have hr := nest_rows hR hl
  have ho : o < s := by
    rw [← hr row (List.mem_of_getElem? hrow)]
    exact (List.getElem?_eq_some_iff.1 hq).1
  exact Weak.unfold i e s (k * s + o) e2 s2 rows _ rows2 hl (by rw [flat_at rows k o row hr hrow ho]; exact hq) (flat_set _ rows k o row hr hrow ho) (by rw [List.length_set]) (set_rows hr hrow) E a w he hR
theorem Weak.lift {fx : List Nat} {tm : List (Nat × AV)} {hp : Hp} {nx : Nat} {b : Bool} (i e s k o e2 s2 : Nat) (rows rows2 : List (List AV)) (row : List AV) (hl : look hp i = some (.nest (c := b) e s rows)) (hrow : rows[k]? = some row) (hq : row[o]? = some (.tree e2 s2 rows2)) (hpl : ∀ c ∈ rows2.flatten, plainA c = true) (hi : Nat.beq i nx = false) :
    Weak fx ⟨tm, hp, nx⟩ ⟨tm, (i, .nest (c := false) e s (rows.set k (row.set o (.own nx rows2.length)))) :: (nx, .list e2 s2 rows2) :: hp, nx + 1⟩ := by
  have hne : ¬ i = nx := fun e => by subst e; simp at hi
  refine (Weak.liftN i e s k o e2 s2 rows rows2 row hl hrow hq).trans ((Weak.plain nx e2 s2 rows2 (by rw [look_cons_ne _ _ hne]; exact look_cons_eq _ _ _) hpl).trans ?_)
  intro E a w he hR
  refine Forget.rel ?_ hR
  refine ⟨fun t v h => h, fun j o h => ?_, Nat.le_refl _⟩
  simp only [look_cons] at h ⊢
  by_cases h1 : nx = j
  · subst h1; simp only [if_neg hne, if_true] at h ⊢; exact h
  · by_cases h2 : i = j
    · subst h2; simp only [if_true, if_neg h1] at h ⊢; exact h
    · simp only [if_neg h1, if_neg h2] at h ⊢; exact h
def offC (n : Nat) : AV → Bool
  | .own i _ => !Nat.beq i n
  | .pt i _ _ => !Nat.beq i n
  | .sb i _ _ _ => !Nat.beq i n
  | .mp i => !Nat.beq i n
  | .clo i => !Nat.beq i n
  | _ => true
def offV (n : Nat) : AV → Bool
  | .agg cs => cs.all (offC n)
  | .tup _ => false
  | a => offC n a
def offO (n : Nat) : AObj → Bool
  | .box cs => cs.all (offC n)
  | .list _ _ _ => true
  | .map _ _ => true
  | .ranged _ _ _ => true
  | .clo _ fs cs => fs.all (offC n) && cs.all (offC n)
  | @AObj.nest b _ _ rows => b || rows.all fun r => r.all (offC n)
theorem offC_id {n : Nat} {a : AV} (h : offC n a = true) : ∀ i, a.idOf = some i → i ≠ n := by
  intro i hi e
  subst e
  cases a <;> simp [AV.idOf] at hi <;> subst hi <;> simp [offC] at h
theorem offV_uses {n : Nat} {a : AV} (h : offV n a = true) : a.uses (· ≠ n) := by
  cases a with
  | agg cs => exact fun c hc i hi => offC_id (List.all_eq_true.1 h c hc) i hi
  | tup vs => simp [offV] at h
  | own i len => exact offC_id (a := .own i len) h i rfl
  | pt i r o => exact offC_id (a := .pt i r o) h i rfl
  | sb i r o l => exact offC_id (a := .sb i r o l) h i rfl
  | mp i => exact offC_id (a := .mp i) h i rfl
  | clo i => exact offC_id (a := .clo i) h i rfl
  | _ => trivial
theorem offO_uses {n : Nat} {o : AObj} (h : offO n o = true) : o.uses (· ≠ n) := by
  cases o with
  | box cs => exact fun c hc i hi => offC_id (List.all_eq_true.1 h c hc) i hi
  | list => trivial
  | map => trivial
  | ranged => trivial
  | clo f fs cs =>
    have h : (fs.all (offC n) && cs.all (offC n)) = true := h
    simp only [Bool.and_eq_true] at h
    exact ⟨fun c hc i hi => offC_id (List.all_eq_true.1 h.1 c hc) i hi, fun c hc i hi => offC_id (List.all_eq_true.1 h.2 c hc) i hi⟩
  | @nest b e s rows =>
    intro h0 c hc i hi
    subst h0
    have h : (rows.all fun r => r.all (offC n)) = true := h
    obtain ⟨r, hr, hcr⟩ := List.mem_flatten.1 hc
    exact offC_id (List.all_eq_true.1 (List.all_eq_true.1 h r hr) c hcr) i hi
def keepTn (n : Nat) (tm : List (Nat × AV)) (nx : Nat) : List (Nat × AV) → Prop
  | [] => True
  | (t, v) :: r => (look tm t = some v ∧ ltV nx v = true ∧ offV n v = true) ∧ keepTn n tm nx r
def keepHn (n : Nat) (hp : Hp) (nx : Nat) : Hp → Prop
  | [] => True
  | (i, o) :: r => (look hp i = some o ∧ (Nat.blt i nx && !Nat.beq i n && ltO nx o && offO n o) = true) ∧ keepHn n hp nx r
theorem keepTn_look {n : Nat} {tm : List (Nat × AV)} {nx : Nat} : ∀ {tm' : List (Nat × AV)}, keepTn n tm nx tm' → ∀ t v, look tm' t = some v → look tm t = some v ∧ v.uses (· ≠ n)
  | [], _, t, v, e => by simp [look] at e
  | (k, u) :: r, h, t, v, e => by
    rw [look_cons] at e
    split at e
    · rename_i hk; simp at e; subst hk e; exact ⟨h.1.1, offV_uses h.1.2.2⟩
    · exact keepTn_look h.2 t v e
theorem keepTn_keep {n : Nat} {tm : List (Nat × AV)} {nx : Nat} : ∀ {tm' : List (Nat × AV)}, keepTn n tm nx tm' → ∀ t v, look tm' t = some v → ltV nx v = true
  | [], _, t, v, e => by simp [look] at e
  | (k, u) :: r, h, t, v, e => by
    rw [look_cons] at e
    split at e
    · rename_i hk; simp at e; subst hk e; exact h.1.2.1
    · exact keepTn_keep h.2 t v e
theorem keepHn_look {n : Nat} {hp : Hp} {nx : Nat} : ∀ {hp' : Hp}, keepHn n hp nx hp' → ∀ j o, look hp' j = some o → look hp j = some o ∧ j ≠ n ∧ o.uses (· ≠ n) ∧ j < nx ∧ o.uses (· < nx)
  | [], _, t, v, e => by simp [look] at e
  | (k, u) :: r, h, t, v, e => by
    rw [look_cons] at e
    split at e
    · rename_i hk
      simp at e
      subst hk e
      have h2 := h.1.2
      simp only [Bool.and_eq_true, Bool.not_eq_true'] at h2
      exact ⟨h.1.1, fun e => (by subst e; simp at h2), offO_uses h2.2, Nat.le_of_ble_eq_true h2.1.1.1, ltO_uses h2.1.2⟩
    · exact keepHn_look h.2 t v e
/-- The newest numbers are forgotten. -/
theorem Rel.lower {E : Env} {tm : List (Nat × AV)} {hp : Hp} {nx nx' : Nat} {a : Act} {w : World} (hn : Nat.ble nx' nx = true) (hf : allLt nx' E.fx = true) (ht : ∀ t v, look tm t = some v → v.uses (· < nx')) (hh : ∀ i o, look hp i = some o → i < nx' ∧ o.uses (· < nx')) (hR : Rel E ⟨tm, hp, nx⟩ a w) : Rel E ⟨tm, hp, nx'⟩ a w := by
  obtain ⟨hs, hd, ι, S, hC, hTm⟩ := hR
  let ι' : Loc := fun k => if k.id < nx' then ι k else none
  have up : ∀ (i : Key) p, ι' i = some p → ι i = some p ∧ i.id < nx' := by
    intro i p h
    have h' : (if i.id < nx' then ι i else none) = some p := h
    split at h'
    · exact ⟨h', by assumption⟩
    · cases h'
  have dn : ∀ (i : Key) p, i.id < nx' → ι i = some p → ι' i = some p := by
    intro i p h h'
    show (if i.id < nx' then ι i else none) = some p
    rw [if_pos h]; exact h'
  have hL : Later w w S S ι ι' (· < nx') := ⟨fun b hb => ⟨hb, rfl⟩, fun i p => dn ⟨i, []⟩ p⟩
  refine ⟨hs, hd, ι', S, ⟨hC.frame, hC.sub, hC.lt, ?_, ?_, ?_, ?_, ?_, ?_, hC.fxs⟩, ⟨fun t v h => ?_⟩⟩
  · rintro b hb ⟨i, c, s, e⟩; exact hC.dis b hb ⟨i, c, s, (up i _ e).1⟩
  · intro i g c s e; exact hC.own i g c s (up i _ e).1
  · intro i j g c d s r e1 e2; exact hC.inj i j g _ _ _ _ (up i _ e1).1 (up j _ e2).1
  · intro i hi; show (if i.id < nx' then ι i else none) = none; rw [if_neg (Nat.not_lt.2 hi)]
  · intro i o h
    obtain ⟨_, _, hob⟩ := hC.obj i o h
    obtain ⟨h2, h3⟩ := hh i o h
    exact ⟨h2, h3, hob.mono hL h2 h3 (fun _ k q hk hq => dn k q (by rw [hk]; exact h2) hq) (fun _ _ _ _ _ _ => rfl)⟩
  · intro i p h
    have h' := hC.stay i p h
    refine dn ⟨i, []⟩ p ?_ h'
    refine allLt_mem hf i ?_
    cases hm : memB i E.fx with
    | true => rfl
    | false => rw [hC.fxs.1 ⟨i, []⟩ hm] at h; cases h
  · obtain ⟨g1, g2, g3⟩ := hTm.tm t v h
    exact ⟨g1, ht t v h, g3.mono hL (ht t v h)⟩
/-- An own list that only a cell names becomes an inner list of that cell; what is no longer named is forgotten. -/
theorem Weak.plantN {fx : List Nat} {tm tm' : List (Nat × AV)} {hp hp' : Hp} {nx nx' : Nat} {b1 b2 : Bool} (i e s k o n e2 s2 len : Nat) (rows rows' rows2 : List (List AV)) (row : List AV) (hl : look hp i = some (.nest (c := b1) e s rows)) (hln : look hp n = some (.nest (c := b2) e2 s2 rows2)) (hlen : len = rows2.length)
    (hrow : rows[k]? = some row) (hq : row[o]? = some (.own n len)) (hr : rows' = rows.set k (row.set o (.tree e2 s2 rows2))) (hin : ∀ c ∈ rows'.flatten, inB c = true) (hin2 : ∀ c ∈ rows2.flatten, inB c = true)
    (hb : (!memB n fx && !Nat.beq n i && allLt nx' fx && Nat.ble nx' nx && Nat.blt i nx') = true) (ht : keepTn n tm nx' tm') (hh : keepHn n hp nx' hp') : Weak fx ⟨tm, hp, nx⟩ ⟨tm', (i, .nest (c := true) e s rows') :: hp', nx'⟩ := by
  subst hr hlen
  simp only [Bool.and_eq_true, Bool.not_eq_true'] at hb
  obtain ⟨⟨⟨⟨hfn, hni⟩, hfx⟩, hnx⟩, hix⟩ := hb
  have hni' : n ≠ i := fun e => by subst e; simp at hni
  intro E a w he hR
  have hrr := nest_rows hR hl
  have ho : o < s := by
    rw [← hrr row (List.mem_of_getElem? hrow)]
    exact (List.getElem?_eq_some_iff.1 hq).1
  have hone : ∀ c ∈ (rows.set k (row.set o (.tree e2 s2 rows2))).flatten, c.idOf ≠ some n := fun c hc e' => by
    have := hin c hc
    cases c <;> simp [inB, AV.idOf] at this e'
  have h1 := Weak.fold (tm' := tm') (hp' := hp') i e s (k * s + o) n e2 s2 rows _ rows2 hfn hni' hl hln (by rw [flat_at rows k o row hrr hrow ho]; exact hq) (flat_set _ rows k o row hrr hrow ho) (by rw [List.length_set]) (set_rows hrr hrow) hin2 hone
    (fun t v h => keepTn_look ht t v h) (fun j o h => let ⟨a1, a2, a3, _, _⟩ := keepHn_look hh j o h; ⟨a1, a2, a3⟩) E a w he hR
  have h2 := Weak.close (fx := fx) i e s _ (look_cons_eq _ _ _) hin E a w he h1
  have h3 : Rel E ⟨tm', (i, .nest (c := true) e s (rows.set k (row.set o (.tree e2 s2 rows2)))) :: hp', nx⟩ a w := by
    refine Forget.rel ?_ h2
    refine ⟨fun t v h => h, fun j ob h => ?_, Nat.le_refl _⟩
    simp only [look_cons] at h ⊢
    by_cases hj : i = j
    · subst hj; simp only [if_true] at h ⊢; exact h
    · simp only [if_neg hj] at h ⊢; exact h
  refine Rel.lower hnx (by rw [he]; exact hfx) (fun t v h => ltV_uses (keepTn_keep ht t v h)) (fun j ob h => ?_) h3
  rw [look_cons] at h
  split at h
  · rename_i e'
    subst e'
    simp only [Option.some.injEq] at h
    subst h
    exact ⟨Nat.le_of_ble_eq_true hix, fun h0 => by cases h0⟩
  · obtain ⟨_, _, _, a4, a5⟩ := keepHn_look hh j ob h
    exact ⟨a4, a5⟩
theorem Weak.plant {fx : List Nat} {tm tm' : List (Nat × AV)} {hp hp' : Hp} {nx nx' : Nat} {b1 : Bool} (i e s k o n e2 s2 len : Nat) (rows rows' rows2 : List (List AV)) (row : List AV) (hl : look hp i = some (.nest (c := b1) e s rows)) (hln : look hp n = some (.list e2 s2 rows2)) (hlen : len = rows2.length)
    (hrow : rows[k]? = some row) (hq : row[o]? = some (.own n len)) (hr : rows' = rows.set k (row.set o (.tree e2 s2 rows2))) (hin : ∀ c ∈ rows'.flatten, inB c = true) (hin2 : ∀ c ∈ rows2.flatten, inB c = true)
    (hb : (!memB n fx && !Nat.beq n i && allLt nx' fx && Nat.ble nx' nx && Nat.blt i nx') = true) (ht : keepTn n tm nx' tm') (hh : keepHn n hp nx' hp') : Weak fx ⟨tm, hp, nx⟩ ⟨tm', (i, .nest (c := true) e s rows') :: hp', nx'⟩ := by
  have hni : n ≠ i := fun e => by subst e; simp at hb
  have hnn : ∀ j, look hp' j = none ∨ j ≠ n := fun j => by
    cases hj : look hp' j with
    | none => exact .inl rfl
    | some o => exact .inr (keepHn_look hh j o hj).2.1
  refine (Weak.nest n e2 s2 rows2 hln).trans (Weak.plantN i e s k o n e2 s2 len rows rows' rows2 row (by rw [look_cons_ne _ _ hni]; exact hl) (look_cons_eq _ _ _) hlen hrow hq hr hin hin2 hb ht ?_)
  clear hnn
  revert hh
  generalize hp' = l
  intro hh
  induction l with
  | nil => trivial
  | cons x r ih =>
    obtain ⟨j, ob⟩ := x
    obtain ⟨⟨h1, h2⟩, h3⟩ := hh
    refine ⟨⟨?_, h2⟩, ih h3⟩
    have : n ≠ j := fun e => by subst e; simp at h2
    rw [look_cons_ne _ _ this]; exact h1
/-! ### what is only read -/
theorem FzR.of {s : Nat} {rows rows' : List (List AV)} (hr : ∀ r ∈ rows', r.length = s) (h : All2 (All2 Fz) rows rows') : FzR s rows rows' := by
  refine ⟨h.length.symm, hr, ?_⟩
  clear hr
  have : All2 Fz rows.flatten rows'.flatten := by
    induction rows generalizing rows' with
    | nil => cases rows' with | nil => trivial | cons => exact h.elim
    | cons r rs ih => cases rows' with
      | nil => exact h.elim
      | cons r' rs' => rw [List.flatten_cons, List.flatten_cons]; exact All2.append h.1 (ih h.2)
  exact fun i a b ha hb => this.at ha hb
theorem all2_map {α : Type} {f g : α → List AV} (h : ∀ x, All2 Fz (f x) (g x)) : ∀ (xs : List α), All2 (All2 Fz) (xs.map f) (xs.map g)
  | [] => trivial
  | x :: r => ⟨h x, all2_map h r⟩
theorem FzR.map {α : Type} {s : Nat} {f g : α → List AV} (hg : ∀ x, (g x).length = s) (h : ∀ x, All2 Fz (f x) (g x)) (xs : List α) : FzR s (xs.map f) (xs.map g) :=
  FzR.of (fun r hr => by obtain ⟨x, _, rfl⟩ := List.mem_map.1 hr; exact hg x) (all2_map h xs)
theorem Fz.treeOf {e s : Nat} {rows rows' : List (List AV)} (h : FzR s rows rows') : Fz (.tree e s rows) (.lst rows') := .tree e s rows rows' h.len h.row h.cell
/-- An inner list of numbers. -/
theorem fzVals {e : Nat} (f : Int → Value) (zs : List Int) : Fz (.tree e 1 (zs.map fun z => [.val (f z)])) (.lst (zs.map fun z => [.val (f z)])) :=
  Fz.treeOf (FzR.map (f := fun z => [.val (f z)]) (g := fun z => [.val (f z)]) (fun _ => rfl) (fun z => ⟨.val _, trivial⟩) zs)
theorem frNest {ho : Hp} {b : Bool} {id e s len : Nat} {rows rows' : List (List AV)} (h : look ho id = some (.nest (c := b) e s rows)) (hz : FzR s rows rows') (hl : len = rows.length) : FrC ho (.own id len) (.lst rows') := by
  have := FrC.nest (ho := ho) id len e s rows rows' h (by omega) hz
  rwa [List.take_of_length_le (by rw [hz.len]; omega)] at this
theorem frNestH {hi ho : Hp} {b : Bool} {id e s len : Nat} {rows rows' : List (List AV)} (h0 : look hi id = none) (h : look ho id = some (.nest (c := b) e s rows)) (hz : FzR s rows rows') (hl : len = rows.length) : FrCH hi ho (.own id len) (.lst rows') := by
  have := FrCH.nest (hi := hi) (ho := ho) id len e s rows rows' h0 h (by omega) hz
  rwa [List.take_of_length_le (by rw [hz.len]; omega)] at this
theorem cvcNest {hp hi : Hp} {b : Bool} {id e s len : Nat} {rows rows' : List (List AV)} (h : look hp id = some (.nest (c := b) e s rows)) (h1 : look hi id = none) (hz : FzR s rows rows') (hl : len = rows.length) : CvC hp hi false (.own id len) (.lst rows') := by
  have := CvC.nest (hp := hp) (hi := hi) (share := false) id len e s rows rows' h h1 (by omega) rfl hz
  rwa [List.take_of_length_le (by rw [hz.len]; omega)] at this
theorem cvNest {hp hi : Hp} {b : Bool} {id e s len : Nat} {rows rows' : List (List AV)} (h : look hp id = some (.nest (c := b) e s rows)) (h1 : look hi id = none) (hz : FzR s rows rows') (hl : len = rows.length) : Cv hp hi false (.own id len) (.lst rows') :=
  .cell (fun _ e => by cases e) (fun _ e => by cases e) (cvcNest h h1 hz hl)
theorem inB_map {α : Type} {f : α → List AV} (h : ∀ x, ∀ c ∈ f x, inB c = true) (xs : List α) : ∀ c ∈ (xs.map f).flatten, inB c = true := by
  intro c hc
  obtain ⟨r, hr, hcr⟩ := List.mem_flatten.1 hc
  obtain ⟨x, _, rfl⟩ := List.mem_map.1 hr
  exact h x c hcr
theorem inB_vals {α : Type} (f : α → Value) (xs : List α) : ∀ c ∈ (xs.map fun z => [AV.val (f z)]).flatten, inB c = true := inB_map (fun x c hc => by simp at hc; subst hc; rfl) xs
theorem plainA_vals {α : Type} (f : α → Value) (xs : List α) : ∀ c ∈ (xs.map fun z => [AV.val (f z)]).flatten, plainA c = true := by
  intro c hc
  obtain ⟨r, hr, hcr⟩ := List.mem_flatten.1 hc
  obtain ⟨x, _, rfl⟩ := List.mem_map.1 hr
  simp at hcr; subst hcr; rfl
/-! ### what follows a region, by name: so that it is not gone through with it -/
structure AbsK (K0 K : St → Prop) : Prop where
  h : ∀ s, K0 s → K s
theorem AbsK.use {K0 K : St → Prop} {s : St} (h : AbsK K0 K) (k : K0 s) : K s := h.h s k
theorem runOps_abs {tt : Tab} {P : Program} {nt : Nat} {fx : List Nat} {ops : Array Oper} {l : List Oper} {s : St} {K0 : St → Prop} (h : ∀ K, AbsK K0 K → runOps tt P nt fx ops l s K) : runOps tt P nt fx ops l s K0 := h K0 ⟨fun _ k => k⟩
/-! ### one row of a list -/
theorem setAt {R : List (List AV)} {k o s : Nat} {row cs row' : List AV} (hk : k < R.length) (h : row.take o ++ cs ++ row.drop (o + s) = row') :
    (R.set k row).set (Int.toNat (k : Int)) (((R.set k row).getD (Int.toNat (k : Int)) []).take o ++ cs ++ ((R.set k row).getD (Int.toNat (k : Int)) []).drop (o + s)) = R.set k row' := by
  have e : (R.set k row).getD (Int.toNat (k : Int)) [] = row := by
    rw [show Int.toNat (k : Int) = k from rfl, List.getD_eq_getElem?_getD, List.getElem?_set_self hk]; rfl
  rw [e, h, show Int.toNat (k : Int) = k from rfl, List.set_set]
theorem getAt {R : List (List AV)} {k : Nat} {row : List AV} (hk : k < R.length) : (R.set k row).getD (Int.toNat (k : Int)) [] = row := by
  rw [show Int.toNat (k : Int) = k from rfl, List.getD_eq_getElem?_getD, List.getElem?_set_self hk]; rfl
/-- A whole row that is stored. -/
theorem storeRow {R : List (List AV)} {k s : Nat} {cs : List AV} (hk : k < R.length) (hr : (R.getD k []).length = s) :
    R.set (Int.toNat (k : Int)) ((R.getD (Int.toNat (k : Int)) []).take 0 ++ cs ++ (R.getD (Int.toNat (k : Int)) []).drop (0 + s)) = R.set k cs := by
  rw [show Int.toNat (k : Int) = k from rfl, List.take_zero, List.nil_append, List.drop_of_length_le (by omega), List.append_nil]
theorem all_inB {n : Nat} {R : List (List AV)} (h : ∀ c ∈ R.flatten, inB c = true) : (R.all fun r => r.all (ltC n)) = true :=
  List.all_eq_true.2 fun r hr => List.all_eq_true.2 fun c hc => by
    have := h c (List.mem_flatten.2 ⟨r, hr, hc⟩)
    cases c <;> first | rfl | simp [inB] at this
theorem ltO_set {n e s k : Nat} {R : List (List AV)} {row : List AV} (h : ∀ c ∈ R.flatten, inB c = true) (hr : row.all (ltC n) = true) : ltO n (.nest (c := false) e s (R.set k row)) = true := by
  show (false || (R.set k row).all fun r => r.all (ltC n)) = true
  rw [Bool.false_or]
  refine List.all_eq_true.2 fun r hr' => ?_
  rcases List.mem_or_eq_of_mem_set hr' with h' | rfl
  · exact List.all_eq_true.1 (all_inB h) r h'
  · exact hr
theorem inB_set {k : Nat} {R : List (List AV)} {row : List AV} (h : ∀ c ∈ R.flatten, inB c = true) (hr : row.all inB = true) : ∀ c ∈ (R.set k row).flatten, inB c = true := by
  intro c hc
  obtain ⟨r, hr', hcr⟩ := List.mem_flatten.1 hc
  rcases List.mem_or_eq_of_mem_set hr' with h' | rfl
  · exact h c (List.mem_flatten.2 ⟨r, h', hcr⟩)
  · exact List.all_eq_true.1 hr c hcr
end Go.Am
