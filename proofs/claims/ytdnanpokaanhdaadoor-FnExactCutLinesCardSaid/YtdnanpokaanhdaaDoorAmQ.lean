/-
  REGIONS THAT DRAW THEIR ORDER: one walk in the order of the text serves every order.
-/
import Derived.Test.YtdnanpokaanhdaaDoorAmQ0
import Derived.Orders
namespace Go.Am
open Go.RowKit
set_option linter.unusedVariables false
set_option linter.unusedSimpArgs false

variable {E : Env} {s : St} {a : Act} {w : World} {ι : Loc} {S : Nat → Prop} {tt : Tab}

/-! ### any order, by what holds between the operations -/
theorem count_false_zero {l : List Bool} (h : l.count false = 0) : ∀ j, j < l.length → l[j]? = some true := by
  intro j hj
  have hn := List.count_eq_zero.1 h
  rw [List.getElem?_eq_getElem hj]
  cases e : l[j] with
  | true => rfl
  | false => exact absurd (e ▸ List.getElem_mem hj) hn
theorem getD_true_iff {l : Array Bool} {j : Nat} (h : j < l.size) : l.getD j true = l.getD j false := by
  rw [Array.getD_eq_getD_getElem?, Array.getD_eq_getD_getElem?, Array.getElem?_eq_getElem h]; rfl
theorem getD_set_self {l : Array Bool} {i : Nat} (h : i < l.size) : (l.setIfInBounds i true).getD i false = true := by
  simp [Array.getD_eq_getD_getElem?, h]
theorem getD_set_other {l : Array Bool} {i j : Nat} (h : j ≠ i) : (l.setIfInBounds i true).getD j false = l.getD j false := by
  simp only [Array.getD_eq_getD_getElem?]
  rw [Array.getElem?_setIfInBounds_ne (fun e => h e.symm)]

/-- What has come up has all that it waits for behind it. -/
def Down (ops : Array Oper) (listed : Array Bool) : Prop := ∀ k o, ops[k]? = some o → listed.getD k false = true → ∀ e ∈ o.after, Region.binds .any e = true → listed.getD e.on false = true
theorem wpAny_inv {P : Program} {ops : Array Oper} {Q : Exit → Act → World → Prop} (I : Array Bool → Act → World → Prop)
    (hback : ∀ i o, ops[i]? = some o → ∀ e ∈ o.after, Region.binds .any e = true → e.on < i)
    (hstep : ∀ listed a w i o, listed.size = ops.size → Down ops listed → I listed a w → ops[i]? = some o → listed.getD i false = false → (∀ e ∈ o.after, Region.binds .any e = true → listed.getD e.on false = true) →
      wpOp P ops Q i (fun a' w' => I (listed.setIfInBounds i true) a' w') a w)
    (hend : ∀ listed a w, listed.size = ops.size → I listed a w → (∀ j, j < ops.size → listed.getD j false = true) → Q .normal a w) :
    ∀ (fuel : Nat) (listed : Array Bool) (a : Act) (w : World), listed.size = ops.size → Down ops listed → listed.toList.count false ≤ fuel → I listed a w → wpAny P .any ops Q fuel listed a w := by
  have prog : ∀ listed : Array Bool, listed.size = ops.size → Region.ready .any ops listed = [] → ∀ j, j < ops.size → listed.getD j false = true := by
    intro listed hsz hr j
    induction j using Nat.strongRecOn with
    | _ j ih =>
      intro hj
      cases hl : listed.getD j false with
      | true => rfl
      | false =>
        exfalso
        have : j ∈ Region.ready .any ops listed := mem_ready.2 ⟨by rw [getD_true_iff (by omega)]; exact hl, ops[j], Array.getElem?_eq_getElem hj, fun e he hb => by
          have hlt := hback j _ (Array.getElem?_eq_getElem hj) e he hb
          exact ih e.on hlt (by omega)⟩
        rw [hr] at this; cases this
  intro fuel
  induction fuel with
  | zero =>
    intro listed a w hsz hD hc hI
    have hall : ∀ j, j < ops.size → listed.getD j false = true := fun j hj => by
      have := count_false_zero (Nat.le_zero.1 hc) j (by simpa [hsz] using hj)
      rw [Array.getD_eq_getD_getElem?]
      rw [Array.getElem?_toList] at this
      rw [this]; rfl
    refine ⟨?_, hend listed a w hsz hI hall⟩
    cases hr : Region.ready .any ops listed with
    | nil => rfl
    | cons x r =>
      have hx : x ∈ Region.ready .any ops listed := by rw [hr]; exact List.mem_cons_self ..
      obtain ⟨h1, o, ho, _⟩ := mem_ready.1 hx
      have hlt : x < ops.size := (Array.getElem?_eq_some_iff.1 ho).1
      rw [getD_true_iff (by omega), hall x hlt] at h1; cases h1
  | succ fuel ih =>
    intro listed a w hsz hD hc hI
    refine ⟨fun hr => hend listed a w hsz hI (prog listed hsz hr), fun i hi => ?_⟩
    obtain ⟨h1, o, ho, ha⟩ := mem_ready.1 hi
    have hlt : i < ops.size := (Array.getElem?_eq_some_iff.1 ho).1
    rw [getD_true_iff (by omega)] at h1
    have hD' : Down ops (listed.setIfInBounds i true) := by
      intro k q hq hk e he hb
      by_cases hki : k = i
      · subst hki
        rw [ho] at hq; cases hq
        have := ha e he hb
        by_cases hei : e.on = k
        · rw [hei]; exact getD_set_self (by omega)
        · rw [getD_set_other hei]; exact this
      · rw [getD_set_other hki] at hk
        have := hD k q hq hk e he hb
        by_cases hei : e.on = i
        · rw [hei]; exact getD_set_self (by omega)
        · rw [getD_set_other hei]; exact this
    refine wpOp_mono (fun a' w' hI' => ih _ a' w' (by simp [hsz]) hD' ?_ hI') (hstep listed a w i o hsz hD hI ho h1 ha)
    have hil : i < listed.toList.length := by simpa [hsz] using hlt
    have hv : listed.toList[i] = false := by
      have : listed[i]'(by omega) = false := by
        rw [Array.getD_eq_getD_getElem?, Array.getElem?_eq_getElem (by omega)] at h1; exact h1
      simpa using this
    rw [Array.toList_setIfInBounds, List.count_set hil, hv]
    have hpos : 0 < listed.toList.count false := List.count_pos_iff.2 (hv ▸ List.getElem_mem hil)
    simp only [beq_self_eq_true, if_true]
    have : (true == false) = false := rfl
    rw [this]; simp only [Bool.false_eq_true, if_false]; omega

theorem memB_ons {o : Oper} {k : Nat} (h : memB k (onsL o.after.toList) = true) : ∃ e ∈ o.after, Region.binds .any e = true ∧ e.on = k := by
  have key : ∀ l : List Edge, memB k (onsL l) = true → ∃ e ∈ l, Region.binds .any e = true ∧ e.on = k := by
    intro l
    induction l with
    | nil => intro h; simp [onsL, memB] at h
    | cons e r ih =>
      intro h
      simp only [onsL] at h
      cases hb : Region.binds .any e with
      | true =>
        rw [hb] at h
        simp only [memB_cons] at h
        split at h
        · rename_i hk; exact ⟨e, List.mem_cons_self .., hb, hk.symm⟩
        · obtain ⟨e', h1, h2⟩ := ih h; exact ⟨e', List.mem_cons_of_mem _ h1, h2⟩
      | false =>
        rw [hb] at h
        obtain ⟨e', h1, h2⟩ := ih h; exact ⟨e', List.mem_cons_of_mem _ h1, h2⟩
  obtain ⟨e, h1, h2⟩ := key _ h
  exact ⟨e, by simpa using h1, h2⟩
theorem memB_app (i : Nat) : ∀ (l m : List Nat), memB i (l ++ m) = true → memB i l = true ∨ memB i m = true
  | [], m, h => .inr h
  | k :: l, m, h => by
    rw [List.cons_append, memB_cons] at h
    rw [memB_cons]
    split at h
    · rename_i e; rw [if_pos e]; exact .inl rfl
    · rename_i e; rw [if_neg e]; exact memB_app i l m h
theorem cover_on {ops : Array Oper} {listed : Array Bool} (hD : Down ops listed) : ∀ (i : Nat) (acc : List Nat), i ≤ ops.size → coverGo (ops.toList.take i).reverse i acc = true → (∀ k, memB k acc = true → listed.getD k false = true) → ∀ j, j < i → listed.getD j false = true
  | 0, _, _, _, _, j, hj => by omega
  | i + 1, acc, hi, hc, hacc, j, hj => by
    have hlt : i < ops.toList.length := by simpa using (show i < ops.size by omega)
    rw [List.take_succ_eq_append_getElem hlt, List.reverse_append] at hc
    simp only [List.reverse_cons, List.reverse_nil, List.nil_append, List.cons_append, coverGo, Bool.and_eq_true] at hc
    have hli := hacc i hc.1
    by_cases e : j = i
    · subst e; exact hli
    · refine cover_on hD i _ (by omega) hc.2 (fun k hk => ?_) j (by omega)
      rcases memB_app k _ _ hk with h | h
      · obtain ⟨e, h1, h2, h3⟩ := memB_ons h
        have ho : ops[i]? = some ops.toList[i] := by
          rw [← Array.getElem?_toList, List.getElem?_eq_getElem hlt]
        have := hD i _ ho hli e h1 h2
        rw [h3] at this; exact this
      · exact hacc k h

theorem close_on {ops : Array Oper} {listed : Array Bool} (hD : Down ops listed) : ∀ (i : Nat) (acc : List Nat), i ≤ ops.size → (∀ k, memB k acc = true → listed.getD k false = true) → ∀ k, memB k (closeGo (ops.toList.take i).reverse i acc) = true → listed.getD k false = true
  | 0, acc, _, hacc, k, hk => by
    have : closeGo (ops.toList.take 0).reverse 0 acc = acc := by simp [closeGo]
    rw [this] at hk; exact hacc k hk
  | i + 1, acc, hi, hacc, k, hk => by
    have hlt : i < ops.toList.length := by simpa using (show i < ops.size by omega)
    rw [List.take_succ_eq_append_getElem hlt, List.reverse_append] at hk
    simp only [List.reverse_cons, List.reverse_nil, List.nil_append, List.cons_append, closeGo] at hk
    cases hm : memB i acc with
    | false => rw [hm] at hk; exact close_on hD i acc (by omega) hacc k hk
    | true =>
      rw [hm] at hk
      refine close_on hD i _ (by omega) (fun j hj => ?_) k hk
      rcases memB_app j _ _ hj with h | h
      · obtain ⟨e, h1, h2, h3⟩ := memB_ons h
        have ho : ops[i]? = some ops.toList[i] := by
          rw [← Array.getElem?_toList, List.getElem?_eq_getElem hlt]
        have := hD i _ ho (hacc i hm) e h1 h2
        rw [h3] at this; exact this
      · exact hacc j h
/-! ### the walk in the order of the text, laid out -/
inductive QVal (tt : Tab) (hq : Hp) (o : Oper) (tm : List (Nat × AV)) : AV → Prop
  | ok {v : AV} (h : stepA tt o.op ⟨tm, hq, 0⟩ = .ok v) : QVal tt hq o tm v
  | cond {v : AV} {p : Prop} (h : stepA tt o.op ⟨tm, hq, 0⟩ = .cond p v) (hp : p) : QVal tt hq o tm v
  | lst {len e sz : Nat} {rows : List (List AV)} (h : stepA tt o.op ⟨tm, hq, 0⟩ = .newL0 len (.list e sz rows)) : QVal tt hq o tm (.lst (rows.take len))
  | pick {v : AV} {b : Bool} {c x y : Operand} (ho : o.op = .pick c x y) (h : stepA tt o.op ⟨tm, hq, 0⟩ = .pick b x y) (hx : opnd tm (if b then x else y) = some v) : QVal tt hq o tm v
def QCall (P : Program) (tt : Tab) (hq : Hp) (o : Oper) (s : St) (v : AV) (s1 : St) : Prop :=
  ∃ f avs args share ho, stepA tt o.op ⟨s.tm, hq, 0⟩ = .call f avs ∧ isCallB o = true ∧ All2 (Cv s.hp [] share) avs args ∧ Ret P f args [] s.nx true (Is v ho s1.nx) ∧ s.nx ≤ s1.nx ∧ newH s.nx ho = true ∧ (share = false → flatV v = true ∧ flatH ho) ∧ s1.hp = ho ++ s.hp
/-- A call that changes no memory that the walk knows. -/
def QNeu (P : Program) (tt : Tab) (hq : Hp) (o : Oper) (s : St) (v : AV) : Prop :=
  ∃ f avs, stepA tt o.op ⟨s.tm, hq, 0⟩ = .call f avs ∧ (∀ hp, All2 (Cv hp [] true) avs avs) ∧ ∀ n, Ret P f avs [] n true (Is v [] n)
def QNew (tt : Tab) (hq : Hp) (o : Oper) (s : St) (v : AV) (s1 : St) : Prop :=
  ∃ ob, stepA tt o.op ⟨s.tm, hq, 0⟩ = .newP ob ∧ isAllocB o = true ∧ v = .pt s.nx 0 0 ∧ s1.hp = (s.nx, ob) :: s.hp ∧ s1.nx = s.nx + 1
def QStep (P : Program) (tt : Tab) (nt : Nat) (hq : Hp) (md : Bool) (ops : Array Oper) (o : Oper) (s s1 : St) : Prop :=
  ∃ d v, o.dst = some d ∧ d < nt ∧ s1.tm = (d, v) :: s.tm ∧
    (((∃ j want ob, o.guard = some (j, want) ∧ guardA ops s.tm j = some ob ∧ ob ≠ some want) ∧ v = .tup [] ∧ s1.hp = s.hp ∧ s1.nx = s.nx) ∨
     ((∀ j want, o.guard = some (j, want) → guardA ops s.tm j = some (some want)) ∧ (((QVal tt hq o s.tm v ∨ QNeu P tt hq o s v) ∧ s1.hp = s.hp ∧ s1.nx = s.nx) ∨ (md = false ∧ QCall P tt hq o s v s1) ∨ (md = true ∧ QNew tt hq o s v s1))))

theorem byGuard_cases {ops : Array Oper} {o : Oper} {X Y : Prop} (h : byGuard ops o s X Y) :
    ((∀ j want, o.guard = some (j, want) → guardA ops s.tm j = some (some want)) ∧ X) ∨ ((∃ j want ob, o.guard = some (j, want) ∧ guardA ops s.tm j = some ob ∧ ob ≠ some want) ∧ Y) := by
  unfold byGuard at h
  cases hg : o.guard with
  | none => simp only [hg] at h; exact .inl ⟨fun j want e => by (cases e), h⟩
  | some jw =>
    obtain ⟨j, want⟩ := jw
    simp only [hg] at h
    cases hga : guardA ops s.tm j with
    | none => simp [hga] at h
    | some ob =>
      simp only [hga] at h
      cases ob with
      | none => exact .inr ⟨⟨j, want, none, rfl, hga, by simp⟩, h⟩
      | some b =>
        simp only at h
        have yes : ∀ {b want : Bool}, b = want → guardA ops s.tm j = some (some b) → ∀ j' want', some (j, want) = some (j', want') → guardA ops s.tm j' = some (some want') := by
          rintro b want rfl hg j' want' e; cases e; exact hg
        cases want with
        | true => cases b with
          | true => exact .inl ⟨yes rfl hga, h.t rfl⟩
          | false => exact .inr ⟨⟨j, true, some false, rfl, hga, by simp⟩, h.f rfl⟩
        | false => cases b with
          | true => exact .inr ⟨⟨j, false, some true, rfl, hga, by simp⟩, h.t rfl⟩
          | false => exact .inl ⟨yes rfl hga, h.f rfl⟩

theorem qOpA_step {P : Program} {nt : Nat} {hq : Hp} {md : Bool} {o : Oper} {K : St → Prop} (h : qOpA tt P nt hq md o s K) :
    ∃ d v s1, o.dst = some d ∧ d < nt ∧ s1.tm = (d, v) :: s.tm ∧ (((QVal tt hq o s.tm v ∨ QNeu P tt hq o s v) ∧ s1.hp = s.hp ∧ s1.nx = s.nx) ∨ (md = false ∧ QCall P tt hq o s v s1) ∨ (md = true ∧ QNew tt hq o s v s1)) ∧ K s1 := by
  unfold qOpA at h
  obtain ⟨tm, hp, nx⟩ := s
  simp only at h
  cases hd : o.dst with
  | none => simp [hd] at h
  | some d =>
    simp only [hd] at h
    cases hb : Nat.blt d nt with
    | false => simp [hb] at h
    | true =>
      have hlt : d < nt := Nat.le_of_ble_eq_true hb
      simp only [hb, cond_true] at h
      cases hs : stepA tt o.op ⟨tm, hq, 0⟩ with
      | ok v => simp only [hs] at h; exact ⟨d, v, ⟨(d, v) :: tm, hp, nx⟩, rfl, hlt, rfl, .inl ⟨.inl (.ok hs), rfl, rfl⟩, h⟩
      | cond p v => simp only [hs] at h; exact ⟨d, v, ⟨(d, v) :: tm, hp, nx⟩, rfl, hlt, rfl, .inl ⟨.inl (.cond hs h.1), rfl, rfl⟩, h.2⟩
      | newL0 len ob =>
        cases ob with
        | box cs => simp [hs] at h
        | map => simp [hs] at h
        | ranged => simp [hs] at h
        | clo => simp [hs] at h
        | nest => simp [hs] at h
        | list e sz rows => simp only [hs] at h; exact ⟨d, _, ⟨(d, .lst (rows.take len)) :: tm, hp, nx⟩, rfl, hlt, rfl, .inl ⟨.inl (.lst hs), rfl, rfl⟩, h⟩
      | pick b x0 y0 =>
        simp only [hs] at h
        cases hop : o.op with
        | pick c x y =>
          have hxy : x0 = x ∧ y0 = y := by
            rw [hop] at hs
            simp only [stepA] at hs
            split at hs
            · simp only [SR.pick.injEq] at hs; exact ⟨hs.2.1.symm, hs.2.2.symm⟩
            · cases hs
          obtain ⟨rfl, rfl⟩ := hxy
          simp only [hop] at h
          cases b with
          | true =>
            have h' := h.t rfl
            cases hx : opnd tm x0 with
            | none => simp [hx] at h'
            | some v => simp only [hx] at h'; exact ⟨d, v, ⟨(d, v) :: tm, hp, nx⟩, rfl, hlt, rfl, .inl ⟨.inl (.pick hop hs hx), rfl, rfl⟩, h'⟩
          | false =>
            have h' := h.f rfl
            cases hx : opnd tm y0 with
            | none => simp [hx] at h'
            | some v => simp only [hx] at h'; exact ⟨d, v, ⟨(d, v) :: tm, hp, nx⟩, rfl, hlt, rfl, .inl ⟨.inl (.pick hop hs hx), rfl, rfl⟩, h'⟩
        | _ => simp [hop] at h
      | call n args =>
        simp only [hs] at h
        cases hc : isCallB o with
        | false => simp [hc] at h
        | true =>
          simp only [hc, cond_true] at h
          cases md with
          | true =>
            obtain ⟨v, h1, h2, h3⟩ := h.call
            exact ⟨d, v, ⟨(d, v) :: tm, hp, nx⟩, rfl, hlt, rfl, .inl ⟨.inr ⟨n, args, hs, h1, h2⟩, rfl, rfl⟩, h3⟩
          | false =>
          obtain ⟨as, share, v, ho, m, h1, h2, h3, h4, h5⟩ := h.call
          simp only [Bool.and_eq_true] at h3
          exact ⟨d, v, ⟨(d, v) :: tm, ho ++ hp, m⟩, rfl, hlt, rfl, .inr (.inl ⟨rfl, n, args, as, share, ho, hs, hc, h1, h2, Nat.le_of_ble_eq_true h3.1, h3.2, h4, rfl⟩), h5⟩
      | newP ob =>
        simp only [hs] at h
        cases hc : (md && isAllocB o) with
        | false => simp [hc] at h
        | true =>
          simp only [hc, cond_true] at h
          simp only [Bool.and_eq_true] at hc
          exact ⟨d, _, ⟨(d, .pt nx 0 0) :: tm, (nx, ob) :: hp, nx + 1⟩, rfl, hlt, rfl, .inr (.inr ⟨hc.1, ob, hs, hc.2, rfl, rfl, rfl⟩), h⟩
      | _ => simp [hs] at h

theorem qOps_chain {P : Program} {nt : Nat} {hq : Hp} {md : Bool} {ops : Array Oper} {K : St → Prop} : ∀ (l : List Oper) (s : St), qOps tt P nt hq md ops l s K →
    ∃ f : Nat → St, f 0 = s ∧ (∀ i o, l[i]? = some o → QStep P tt nt hq md ops o (f i) (f (i + 1))) ∧ K (f l.length)
  | [], s, h => ⟨fun _ => s, rfl, fun i o h => by simp at h, h⟩
  | o :: r, s, h => by
    simp only [qOps] at h
    have key : ∀ s1, QStep P tt nt hq md ops o s s1 → qOps tt P nt hq md ops r s1 K → ∃ f : Nat → St, f 0 = s ∧ (∀ i q, (o :: r)[i]? = some q → QStep P tt nt hq md ops q (f i) (f (i + 1))) ∧ K (f (o :: r).length) := by
      intro s1 h1 h2
      obtain ⟨f, f0, fs, fk⟩ := qOps_chain r s1 h2
      refine ⟨fun i => match i with | 0 => s | i + 1 => f i, rfl, fun i q hq => ?_, fk⟩
      cases i with
      | zero => simp at hq; subst hq; show QStep P tt nt _ md ops o s (f 0); rw [f0]; exact h1
      | succ i => simp at hq; exact fs i q hq
    rcases byGuard_cases h with ⟨hg, h⟩ | ⟨hg, h⟩
    · obtain ⟨d, v, s1, h1, h2, h3, h4, h5⟩ := qOpA_step h
      exact key s1 ⟨d, v, h1, h2, h3, .inr ⟨hg, h4⟩⟩ h5
    · unfold skipQ at h
      obtain ⟨tm, hp, nx⟩ := s
      cases hd : o.dst with
      | none => simp [hd] at h
      | some d =>
        simp only [hd] at h
        cases hb : Nat.blt d nt with
        | false => simp [hb] at h
        | true => rw [hb] at h; exact key ⟨(d, .tup []) :: tm, hp, nx⟩ ⟨d, _, hd, Nat.le_of_ble_eq_true hb, rfl, .inl ⟨hg, rfl, rfl, rfl⟩⟩ h

/-! ### what the walk lays where -/
structure Chain (P : Program) (tt : Tab) (nt : Nat) (hq : Hp) (md : Bool) (ops : Array Oper) (n : Nat) (f : Nat → St) : Prop where
  le : n ≤ ops.size
  step : ∀ i o, i < n → ops[i]? = some o → QStep P tt nt hq md ops o (f i) (f (i + 1))
  pair : ∀ i j o q, i < n → j < n → ops[i]? = some o → ops[j]? = some q → pairB i o j q = true
  guard : ∀ i o, i < n → ops[i]? = some o → guardB o i = true
  call : ∀ i o, i < n → ops[i]? = some o → movB md o = true → ∀ j q, j < i → ops[j]? = some q → movB md q = true → memB j (closeGo (ops.toList.take i).reverse i (onsL o.after.toList)) = true

variable {P : Program} {nt n : Nat} {hq : Hp} {md : Bool} {ops : Array Oper} {f : Nat → St}

theorem Chain.dst (h : Chain P tt nt hq md ops n f) {i : Nat} (hi : i < n) : ∃ o d v, ops[i]? = some o ∧ o.dst = some d ∧ d < nt ∧ (f (i + 1)).tm = (d, v) :: (f i).tm := by
  have hlt : i < ops.size := Nat.lt_of_lt_of_le hi h.le
  have ho := Array.getElem?_eq_getElem hlt
  obtain ⟨d, v, h1, h2, h3, _⟩ := h.step i _ hi ho
  exact ⟨_, d, v, ho, h1, h2, h3⟩
theorem Chain.ne (h : Chain P tt nt hq md ops n f) {i j : Nat} (hi : i < n) (hj : j < n) (hij : i ≠ j) {o q : Oper} (ho : ops[i]? = some o) (hq' : ops[j]? = some q) : o.dst ≠ q.dst := by
  have := h.pair i j o q hi hj ho hq'
  unfold pairB at this
  cases hd : q.dst with
  | none => simp [hd] at this
  | some e =>
    simp only [hd] at this
    have hb : Nat.beq i j = false := by
      cases hb : Nat.beq i j with
      | true => exact absurd (Nat.eq_of_beq_eq_true hb) hij
      | false => rfl
    rw [hb] at this
    simp only [cond_false, Bool.and_eq_true] at this
    cases hd' : o.dst with
    | none => simp [hd'] at this
    | some d =>
      simp only [hd'] at this
      intro e'
      cases e'
      simp at this
/-- A temporary that is no result of the first i. -/
theorem Chain.old (h : Chain P tt nt hq md ops n f) : ∀ (i : Nat), i ≤ n → ∀ t, (∀ j o, j < i → ops[j]? = some o → o.dst ≠ some t) → look (f i).tm t = look (f 0).tm t
  | 0, _, t, _ => rfl
  | i + 1, hi, t, ht => by
    obtain ⟨o, d, v, ho, hd, _, htm⟩ := h.dst (i := i) (by omega)
    have hne : d ≠ t := fun e => ht i o (by omega) ho (by rw [hd, e])
    rw [htm, look_cons_ne _ _ hne]
    exact h.old i (by omega) t fun j q hj hq' => ht j q (by omega) hq'
/-- The result of operation j stays. -/
theorem Chain.stay (h : Chain P tt nt hq md ops n f) {j : Nat} {q : Oper} {t : Nat} (hj : j < n) (hq' : ops[j]? = some q) (hd : q.dst = some t) : ∀ (i : Nat), j < i → i ≤ n → look (f i).tm t = look (f (j + 1)).tm t
  | 0, h1, _ => by omega
  | i + 1, h1, h2 => by
    by_cases e : i = j
    · subst e; rfl
    · obtain ⟨o, d, v, ho, hd', _, htm⟩ := h.dst (i := i) (by omega)
      have hne : d ≠ t := fun e' => h.ne (i := i) (j := j) (by omega) hj e ho hq' (by rw [hd', hd, e'])
      rw [htm, look_cons_ne _ _ hne]
      exact h.stay hj hq' hd i (by omega) (by omega)
/-- Where no call is between, memory is as it was. -/
theorem Chain.hpStay (h : Chain P tt nt hq md ops n f) {k : Nat} : ∀ (i : Nat), k ≤ i → i ≤ n → (∀ j o, k ≤ j → j < i → ops[j]? = some o → movB md o = false) → (f i).hp = (f k).hp ∧ (f i).nx = (f k).nx
  | i, h1, h2, h3 => by
    by_cases e : i = k
    · subst e; exact ⟨rfl, rfl⟩
    · obtain ⟨i, rfl⟩ : ∃ m, i = m + 1 := ⟨i - 1, by omega⟩
      have ih := h.hpStay i (by omega) (by omega) (fun j o hj hj' ho => h3 j o hj (by omega) ho)
      have ho := Array.getElem?_eq_getElem (Nat.lt_of_lt_of_le (show i < n by omega) h.le)
      obtain ⟨d, v, _, _, _, hc⟩ := h.step i _ (by omega) ho
      have hno := h3 i _ (by omega) (by omega) ho
      rcases hc with ⟨_, _, e1, e2⟩ | ⟨_, ⟨_, e1, e2⟩ | ⟨rfl, _, _, _, _, _, _, hcb, _⟩ | ⟨rfl, _, _, hcb, _⟩⟩
      · exact ⟨e1.trans ih.1, e2.trans ih.2⟩
      · exact ⟨e1.trans ih.1, e2.trans ih.2⟩
      · have : isCallB _ = false := hno
        rw [this] at hcb; cases hcb
      · have : isAllocB _ = false := hno
        rw [this] at hcb; cases hcb
theorem newH_look : ∀ {h : Hp} {n : Nat}, newH n h = true → ∀ {id : Nat}, id < n → look h id = none
  | [], _, _, _, _ => rfl
  | (k, o) :: r, n, hn, id, hid => by
    simp only [newH, Bool.and_eq_true] at hn
    have := Nat.le_of_ble_eq_true hn.1
    rw [look_cons_ne _ _ (by omega)]
    exact newH_look hn.2 hid
theorem Chain.sub (h : Chain P tt nt hq md ops n f) : ∀ (i : Nat), i ≤ n → (f 0).nx ≤ (f i).nx ∧ ∀ id, id < (f 0).nx → look (f i).hp id = look (f 0).hp id
  | 0, _ => ⟨Nat.le_refl _, fun _ _ => rfl⟩
  | i + 1, hi => by
    have ih := h.sub i (by omega)
    have ho := Array.getElem?_eq_getElem (Nat.lt_of_lt_of_le (show i < n by omega) h.le)
    obtain ⟨d, v, _, _, _, hc⟩ := h.step i _ (by omega) ho
    rcases hc with ⟨_, _, e1, e2⟩ | ⟨_, ⟨_, e1, e2⟩ | ⟨_, _, _, _, _, ho', _, _, _, _, hle, hnew, _, e1⟩ | ⟨_, ob, _, _, _, e1, e2⟩⟩
    · rw [e1, e2]; exact ih
    · rw [e1, e2]; exact ih
    · refine ⟨Nat.le_trans ih.1 hle, fun id hid => ?_⟩
      rw [e1, look_append, newH_look hnew (by omega)]
      exact ih.2 id hid
    · rw [e1, e2]
      refine ⟨by omega, fun id hid => ?_⟩
      rw [look_cons_ne _ _ (by omega)]
      exact ih.2 id hid

/-! ### calls that change objects, one after another -/
def QHp (P : Program) (tt : Tab) (fx : List Nat) (hp0 : Hp) (o : Oper) (s : St) (d : Nat) (v : AV) (ov ov1 : Hp) : Prop :=
  ptrCallB tt o = true ∧ ∃ fn avs hi ho, stepA tt o.op ⟨s.tm, [], 0⟩ = .call fn avs ∧ (∀ id ob, look hi id = some ob → look (ov ++ s.hp) id = some ob ∧ ∃ o', look hp0 id = some o') ∧ (∀ id ob, look ho id = some ob → ∃ o', look hi id = some o') ∧
    (∀ tm hp nx, (∀ id ob, look hi id = some ob → look hp id = some ob) → CallP P fx fn avs ⟨tm, hp, nx⟩ (some d) fun s' => s' = ⟨(d, v) :: tm, ho ++ hp, nx⟩) ∧ ov1 = ho ++ ov
def HStep (P : Program) (tt : Tab) (nt : Nat) (fx : List Nat) (hp0 : Hp) (ops : Array Oper) (o : Oper) (s s1 : St) (ov ov1 : Hp) : Prop :=
  ∃ d v, o.dst = some d ∧ d < nt ∧ s1.tm = (d, v) :: s.tm ∧
    (((∃ j want ob, o.guard = some (j, want) ∧ guardA ops s.tm j = some ob ∧ ob ≠ some want) ∧ v = .tup [] ∧ s1.hp = s.hp ∧ s1.nx = s.nx ∧ ov1 = ov) ∨
     ((∀ j want, o.guard = some (j, want) → guardA ops s.tm j = some (some want)) ∧
       ((ptrCallB tt o = false ∧ (QVal tt [] o s.tm v ∨ QNeu P tt [] o s v) ∧ s1.hp = s.hp ∧ s1.nx = s.nx ∧ ov1 = ov) ∨ (QNew tt [] o s v s1 ∧ ov1 = ov) ∨ (QHp P tt fx hp0 o s d v ov ov1 ∧ s1.hp = s.hp ∧ s1.nx = s.nx))))
theorem hOpA_step {P : Program} {nt : Nat} {fx : List Nat} {hp0 ov : Hp} {o : Oper} {K : St → Hp → Prop} (h : hOpA tt P nt fx hp0 ov o s K) :
    ∃ d v s1 ov1, o.dst = some d ∧ d < nt ∧ s1.tm = (d, v) :: s.tm ∧ ((ptrCallB tt o = false ∧ (QVal tt [] o s.tm v ∨ QNeu P tt [] o s v) ∧ s1.hp = s.hp ∧ s1.nx = s.nx ∧ ov1 = ov) ∨ (QNew tt [] o s v s1 ∧ ov1 = ov) ∨ (QHp P tt fx hp0 o s d v ov ov1 ∧ s1.hp = s.hp ∧ s1.nx = s.nx)) ∧ K s1 ov1 := by
  unfold hOpA at h
  cases hp : ptrCallB tt o with
  | false =>
    simp only [hp] at h
    obtain ⟨d, v, s1, h1, h2, h3, h4, h5⟩ := qOpA_step h
    refine ⟨d, v, s1, ov, h1, h2, h3, ?_, h5⟩
    rcases h4 with ⟨h4, e1, e2⟩ | ⟨e, _⟩ | ⟨_, h4⟩
    · exact .inl ⟨rfl, h4, e1, e2, rfl⟩
    · cases e
    · exact .inr (.inl ⟨h4, rfl⟩)
  | true =>
    simp only [hp] at h
    obtain ⟨tm, hpp, nx⟩ := s
    simp only at h
    cases hd : o.dst with
    | none => simp [hd] at h
    | some d =>
      simp only [hd] at h
      cases hb : Nat.blt d nt with
      | false => simp [hb] at h
      | true =>
        simp only [hb, cond_true] at h
        cases hs : stepA tt o.op ⟨tm, [], 0⟩ with
        | call n args =>
          simp only [hs] at h
          obtain ⟨hi, v, ho, h1, h2, h3, h4⟩ := h.call
          exact ⟨d, v, ⟨(d, v) :: tm, hpp, nx⟩, ho ++ ov, rfl, Nat.le_of_ble_eq_true hb, rfl, .inr (.inr ⟨⟨hp, n, args, hi, ho, hs, h1, h2, h3, rfl⟩, rfl, rfl⟩), h4⟩
        | _ => simp [hs] at h
theorem qOpsH_chain {P : Program} {nt : Nat} {fx : List Nat} {hp0 : Hp} {ops : Array Oper} {K : St → Prop} : ∀ (l : List Oper) (ov : Hp) (s : St), qOpsH tt P nt fx hp0 ops l ov s K →
    ∃ (f : Nat → St) (g : Nat → Hp), f 0 = s ∧ g 0 = ov ∧ (∀ i o, l[i]? = some o → HStep P tt nt fx hp0 ops o (f i) (f (i + 1)) (g i) (g (i + 1))) ∧ K ⟨(f l.length).tm, g l.length ++ (f l.length).hp, (f l.length).nx⟩
  | [], ov, s, h => ⟨fun _ => s, fun _ => ov, rfl, rfl, fun i o h => by simp at h, h⟩
  | o :: r, ov, s, h => by
    simp only [qOpsH] at h
    have key : ∀ s1 ov1, HStep P tt nt fx hp0 ops o s s1 ov ov1 → qOpsH tt P nt fx hp0 ops r ov1 s1 K → ∃ (f : Nat → St) (g : Nat → Hp), f 0 = s ∧ g 0 = ov ∧ (∀ i q, (o :: r)[i]? = some q → HStep P tt nt fx hp0 ops q (f i) (f (i + 1)) (g i) (g (i + 1))) ∧ K ⟨(f (o :: r).length).tm, g (o :: r).length ++ (f (o :: r).length).hp, (f (o :: r).length).nx⟩ := by
      intro s1 ov1 h1 h2
      obtain ⟨f, g, f0, g0, fs, fk⟩ := qOpsH_chain r ov1 s1 h2
      refine ⟨fun i => match i with | 0 => s | i + 1 => f i, fun i => match i with | 0 => ov | i + 1 => g i, rfl, rfl, fun i q hq => ?_, fk⟩
      cases i with
      | zero => simp at hq; subst hq; show HStep P tt nt fx hp0 ops o s (f 0) ov (g 0); rw [f0, g0]; exact h1
      | succ i => simp at hq; exact fs i q hq
    rcases byGuard_cases h with ⟨hg, h⟩ | ⟨hg, h⟩
    · obtain ⟨d, v, s1, ov1, h1, h2, h3, h4, h5⟩ := hOpA_step h
      exact key s1 ov1 ⟨d, v, h1, h2, h3, .inr ⟨hg, h4⟩⟩ h5
    · unfold skipQ at h
      obtain ⟨tm, hp, nx⟩ := s
      cases hd : o.dst with
      | none => simp [hd] at h
      | some d =>
        simp only [hd] at h
        cases hb : Nat.blt d nt with
        | false => simp [hb] at h
        | true => rw [hb] at h; exact key ⟨(d, .tup []) :: tm, hp, nx⟩ ov ⟨d, _, hd, Nat.le_of_ble_eq_true hb, rfl, .inl ⟨hg, rfl, rfl, rfl, rfl⟩⟩ h
structure HChain (P : Program) (tt : Tab) (nt : Nat) (fx : List Nat) (ops : Array Oper) (n : Nat) (f : Nat → St) (g : Nat → Hp) : Prop where
  le : n ≤ ops.size
  zero : g 0 = []
  step : ∀ i o, i < n → ops[i]? = some o → HStep P tt nt fx (f 0).hp ops o (f i) (f (i + 1)) (g i) (g (i + 1))
  pair : ∀ i j o q, i < n → j < n → ops[i]? = some o → ops[j]? = some q → pairB i o j q = true
  guard : ∀ i o, i < n → ops[i]? = some o → guardB o i = true
  call : ∀ i o, i < n → ops[i]? = some o → movB true o = true → ∀ j q, j < i → ops[j]? = some q → movB true q = true → memB j (closeGo (ops.toList.take i).reverse i (onsL o.after.toList)) = true
  ptr : ∀ i o, i < n → ops[i]? = some o → ptrCallB tt o = true → ∀ j q, j < i → ops[j]? = some q → ptrCallB tt q = true → memB j (closeGo (ops.toList.take i).reverse i (onsL o.after.toList)) = true
section
variable {fx : List Nat} {g : Nat → Hp}
theorem HChain.dst (h : HChain P tt nt fx ops n f g) {i : Nat} (hi : i < n) : ∃ o d v, ops[i]? = some o ∧ o.dst = some d ∧ d < nt ∧ (f (i + 1)).tm = (d, v) :: (f i).tm := by
  have hlt : i < ops.size := Nat.lt_of_lt_of_le hi h.le
  have ho := Array.getElem?_eq_getElem hlt
  obtain ⟨d, v, h1, h2, h3, _⟩ := h.step i _ hi ho
  exact ⟨_, d, v, ho, h1, h2, h3⟩
theorem HChain.ne (h : HChain P tt nt fx ops n f g) {i j : Nat} (hi : i < n) (hj : j < n) (hij : i ≠ j) {o q : Oper} (ho : ops[i]? = some o) (hq' : ops[j]? = some q) : o.dst ≠ q.dst := by
  have := h.pair i j o q hi hj ho hq'
  unfold pairB at this
  cases hd : q.dst with
  | none => simp [hd] at this
  | some e =>
    simp only [hd] at this
    have hb : Nat.beq i j = false := by
      cases hb : Nat.beq i j with
      | true => exact absurd (Nat.eq_of_beq_eq_true hb) hij
      | false => rfl
    rw [hb] at this
    simp only [cond_false, Bool.and_eq_true] at this
    cases hd' : o.dst with
    | none => simp [hd'] at this
    | some d =>
      simp only [hd'] at this
      intro e'
      cases e'
      simp at this
theorem HChain.old (h : HChain P tt nt fx ops n f g) : ∀ (i : Nat), i ≤ n → ∀ t, (∀ j o, j < i → ops[j]? = some o → o.dst ≠ some t) → look (f i).tm t = look (f 0).tm t
  | 0, _, t, _ => rfl
  | i + 1, hi, t, ht => by
    obtain ⟨o, d, v, ho, hd, _, htm⟩ := h.dst (i := i) (by omega)
    have hne : d ≠ t := fun e => ht i o (by omega) ho (by rw [hd, e])
    rw [htm, look_cons_ne _ _ hne]
    exact h.old i (by omega) t fun j q hj hq' => ht j q (by omega) hq'
theorem HChain.stay (h : HChain P tt nt fx ops n f g) {j : Nat} {q : Oper} {t : Nat} (hj : j < n) (hq' : ops[j]? = some q) (hd : q.dst = some t) : ∀ (i : Nat), j < i → i ≤ n → look (f i).tm t = look (f (j + 1)).tm t
  | 0, h1, _ => by omega
  | i + 1, h1, h2 => by
    by_cases e : i = j
    · subst e; rfl
    · obtain ⟨o, d, v, ho, hd', _, htm⟩ := h.dst (i := i) (by omega)
      have hne : d ≠ t := fun e' => h.ne (i := i) (j := j) (by omega) hj e ho hq' (by rw [hd', hd, e'])
      rw [htm, look_cons_ne _ _ hne]
      exact h.stay hj hq' hd i (by omega) (by omega)
theorem HChain.hpStay (h : HChain P tt nt fx ops n f g) {k : Nat} : ∀ (i : Nat), k ≤ i → i ≤ n → (∀ j o, k ≤ j → j < i → ops[j]? = some o → movB true o = false) → (f i).hp = (f k).hp ∧ (f i).nx = (f k).nx
  | i, h1, h2, h3 => by
    by_cases e : i = k
    · subst e; exact ⟨rfl, rfl⟩
    · obtain ⟨i, rfl⟩ : ∃ m, i = m + 1 := ⟨i - 1, by omega⟩
      have ih := h.hpStay i (by omega) (by omega) (fun j o hj hj' ho => h3 j o hj (by omega) ho)
      have ho := Array.getElem?_eq_getElem (Nat.lt_of_lt_of_le (show i < n by omega) h.le)
      obtain ⟨d, v, _, _, _, hc⟩ := h.step i _ (by omega) ho
      have hno := h3 i _ (by omega) (by omega) ho
      rcases hc with ⟨_, _, e1, e2, _⟩ | ⟨_, ⟨_, _, e1, e2, _⟩ | ⟨⟨_, _, hcb, _⟩, _⟩ | ⟨_, e1, e2⟩⟩
      · exact ⟨e1.trans ih.1, e2.trans ih.2⟩
      · exact ⟨e1.trans ih.1, e2.trans ih.2⟩
      · have : isAllocB _ = false := hno
        rw [this] at hcb; cases hcb
      · exact ⟨e1.trans ih.1, e2.trans ih.2⟩
theorem HChain.ovStay (h : HChain P tt nt fx ops n f g) {k : Nat} : ∀ (i : Nat), k ≤ i → i ≤ n → (∀ j o, k ≤ j → j < i → ops[j]? = some o → ptrCallB tt o = false) → g i = g k
  | i, h1, h2, h3 => by
    by_cases e : i = k
    · subst e; rfl
    · obtain ⟨i, rfl⟩ : ∃ m, i = m + 1 := ⟨i - 1, by omega⟩
      have ih := h.ovStay i (by omega) (by omega) (fun j o hj hj' ho => h3 j o hj (by omega) ho)
      have ho := Array.getElem?_eq_getElem (Nat.lt_of_lt_of_le (show i < n by omega) h.le)
      obtain ⟨d, v, _, _, _, hc⟩ := h.step i _ (by omega) ho
      have hno := h3 i _ (by omega) (by omega) ho
      rcases hc with ⟨_, _, _, _, e⟩ | ⟨_, ⟨_, _, _, _, e⟩ | ⟨_, e⟩ | ⟨⟨hcb, _⟩, _⟩⟩
      · exact e.trans ih
      · exact e.trans ih
      · exact e.trans ih
      · rw [hno] at hcb; cases hcb
theorem HChain.sub (h : HChain P tt nt fx ops n f g) : ∀ (i : Nat), i ≤ n → (f 0).nx ≤ (f i).nx ∧ ∀ id, id < (f 0).nx → look (f i).hp id = look (f 0).hp id
  | 0, _ => ⟨Nat.le_refl _, fun _ _ => rfl⟩
  | i + 1, hi => by
    have ih := h.sub i (by omega)
    have ho := Array.getElem?_eq_getElem (Nat.lt_of_lt_of_le (show i < n by omega) h.le)
    obtain ⟨d, v, _, _, _, hc⟩ := h.step i _ (by omega) ho
    rcases hc with ⟨_, _, e1, e2, _⟩ | ⟨_, ⟨_, _, e1, e2, _⟩ | ⟨⟨_, _, _, _, e1, e2⟩, _⟩ | ⟨_, e1, e2⟩⟩
    · rw [e1, e2]; exact ih
    · rw [e1, e2]; exact ih
    · rw [e1, e2]
      refine ⟨by omega, fun id hid => ?_⟩
      rw [look_cons_ne _ _ (by omega)]
      exact ih.2 id hid
    · rw [e1, e2]; exact ih
theorem HChain.ovKeys (h : HChain P tt nt fx ops n f g) : ∀ (i : Nat), i ≤ n → ∀ id o, look (g i) id = some o → ∃ o', look (f 0).hp id = some o'
  | 0, _, id, o, e => by rw [h.zero] at e; simp [look] at e
  | i + 1, hi, id, o, e => by
    have ih := h.ovKeys i (by omega)
    have ho := Array.getElem?_eq_getElem (Nat.lt_of_lt_of_le (show i < n by omega) h.le)
    obtain ⟨d, v, _, _, _, hc⟩ := h.step i _ (by omega) ho
    rcases hc with ⟨_, _, _, _, e'⟩ | ⟨_, ⟨_, _, _, _, e'⟩ | ⟨_, e'⟩ | ⟨⟨_, _, _, hi', hoo, _, h1, h2, _, e'⟩, _⟩⟩
    · rw [e'] at e; exact ih id o e
    · rw [e'] at e; exact ih id o e
    · rw [e'] at e; exact ih id o e
    · rw [e', look_append] at e
      cases hl : look hoo id with
      | some x =>
        obtain ⟨y, hy⟩ := h2 id x hl
        exact (h1 id y hy).2
      | none => rw [hl] at e; exact ih id o e
end
end Go.Am
