/-
  WORDS FOR THE WALK: calls, loops, weaker readings.
-/
import Derived.Test.YtdnanpokaanhdaaDoorAmB
namespace Go.Am
open Go.RowKit
set_option linter.unusedVariables false
set_option linter.unusedSimpArgs false

abbrev iv (n : Int) : AV := .val (.int .i64 n)
abbrev bv (b : Bool) : AV := .val (.bool b)
abbrev nl : AV := .val (.slice none 0 0)

/-! ### calls -/
def noIds : List AV → Bool
  | [] => true
  | a :: r => idsA [] a && !a.isTup && noIds r
theorem noIds_cv {hp hi : Hp} {share : Bool} : ∀ {avs : List AV}, noIds avs = true → All2 (Cv hp hi share) avs avs
  | [], _ => trivial
  | a :: r, h => by
    simp only [noIds, Bool.and_eq_true, Bool.not_eq_true'] at h
    refine ⟨?_, noIds_cv h.2⟩
    have ht : ∀ vs, a ≠ .tup vs := by rintro vs rfl; simp [AV.isTup] at h
    cases a with
    | agg cs =>
      refine .agg cs cs (All2.of rfl fun i x y hx hy => ?_)
      rw [hx] at hy; cases hy
      exact .refl x (fun id hid => by have := idsC_id (List.all_eq_true.1 h.1.1 x (List.mem_of_getElem? hx)) id hid; simp [memB] at this) (.inr (.inr trivial))
    | tup vs => exact absurd rfl (ht vs)
    | own i len => simp [idsA, idsC, memB] at h
    | pt i r o => simp [idsA, idsC, memB] at h
    | sb i r o l => simp [idsA, idsC, memB] at h
    | mp i => simp [idsA, idsC, memB] at h
    | clo i => simp [idsA, idsC, memB] at h
    | _ => exact .cell (fun _ e => by cases e) (fun _ e => by cases e) (.refl _ (fun id hid => by simp [AV.idOf] at hid) (.inr (.inr trivial)))

/-- A call of a function that takes what is only read. -/
theorem CallP.pure {P : Program} {fx : List Nat} {f : FuncId} {avs : List AV} {tm : List (Nat × AV)} {hp : Hp} {nx : Nat} {dst : Option Nat} {K : St → Prop} {Q : AV → Hp → Nat → Prop} (hret : Ret P f avs [] nx true Q) (hn : noIds avs = true)
    (h : ∀ r ho m, Q r ho m → K ⟨setD dst r tm, ho ++ hp, m⟩) : CallP P fx f avs ⟨tm, hp, nx⟩ dst K :=
  CallP.plain ⟨avs, [], true, true, Q, noIds_cv hn, fun id o h => by simp [look] at h, hret, fun id h => by simp [killIds, memB] at h, fun r ho m hq => ⟨fun e => (by cases e), h r ho m hq⟩⟩
theorem CallP.is {P : Program} {fx : List Nat} {f : FuncId} {avs : List AV} {tm : List (Nat × AV)} {hp : Hp} {nx : Nat} {dst : Option Nat} {K : St → Prop} {r : AV} {ho : Hp} {m : Nat} (hret : Ret P f avs [] nx true (Is r ho m)) (hn : noIds avs = true)
    (h : K ⟨setD dst r tm, ho ++ hp, m⟩) : CallP P fx f avs ⟨tm, hp, nx⟩ dst K :=
  CallP.pure hret hn (by rintro _ _ _ ⟨rfl, rfl, rfl⟩; exact h)

/-- Arguments that the run made, as they are read. -/
def cvC (hp : Hp) : AV → AV
  | .own id len => match look hp id with
    | some (.list _ _ rows) => .lst (rows.take len)
    | _ => .own id len
  | .val (.slice none 0 0) => .lst []
  | a => a
def cvA (hp : Hp) : AV → AV
  | .agg cs => .agg (cs.map (cvC hp))
  | a => cvC hp a
def sideC (hp : Hp) : AV → Prop
  | .own id len => match look hp id with
    | some (.list _ _ rows) => len ≤ rows.length
    | _ => False
  | .pt _ _ _ => False
  | .sb _ _ _ _ => False
  | .mp _ => False
  | .clo _ => False
  | _ => True
def sideL (hp : Hp) : List AV → Prop
  | [] => True
  | c :: r => sideC hp c ∧ sideL hp r
def sideA (hp : Hp) : List AV → Prop
  | [] => True
  | .agg cs :: r => sideL hp cs ∧ sideA hp r
  | .tup _ :: _ => False
  | a :: r => sideC hp a ∧ sideA hp r
theorem cvC_val {hp : Hp} {v : Value} (h : v ≠ .slice none 0 0) : cvC hp (.val v) = .val v := by
  unfold cvC
  split
  · rename_i e; cases e
  · rename_i e; cases e; exact absurd rfl h
  · rfl
theorem sideC_cv {hp : Hp} {a : AV} (h : sideC hp a) : CvC hp [] false a (cvC hp a) := by
  cases a with
  | own id len =>
    simp only [sideC] at h
    cases hl : look hp id with
    | none => simp [hl] at h
    | some o =>
      cases o with
      | box cs => simp [hl] at h
      | map => simp [hl] at h
      | ranged => simp [hl] at h
      | clo => simp [hl] at h
      | nest e s rows => simp [hl] at h
      | list e s rows =>
        simp only [hl] at h
        simp only [cvC, hl]
        exact .own id len e s rows hl rfl h rfl
  | pt => exact h.elim
  | sb => exact h.elim
  | mp => exact h.elim
  | clo => exact h.elim
  | val v =>
    by_cases e : v = .slice none 0 0
    · subst e; exact .nil
    · rw [cvC_val e]; exact .refl _ (fun id hid => by simp [AV.idOf] at hid) (.inr (.inr trivial))
  | _ => exact .refl _ (fun id hid => by simp [AV.idOf] at hid) (.inr (.inr trivial))
theorem sideL_cv {hp : Hp} : ∀ {cs : List AV}, sideL hp cs → All2 (CvC hp [] false) cs (cs.map (cvC hp))
  | [], _ => trivial
  | c :: r, h => ⟨sideC_cv h.1, sideL_cv h.2⟩
theorem sideA_cv {hp : Hp} : ∀ {avs : List AV}, sideA hp avs → All2 (Cv hp [] false) avs (avs.map (cvA hp))
  | [], _ => trivial
  | a :: r, h => by
    cases a with
    | agg cs => exact ⟨.agg _ _ (sideL_cv h.1), sideA_cv h.2⟩
    | tup vs => exact h.elim
    | _ => exact ⟨.cell (fun _ e => by cases e) (fun _ e => by cases e) (sideC_cv h.1), sideA_cv h.2⟩

theorem flatH_look {h : Hp} (hf : flatH h) : ∀ id o, look h id = some o → flatO o := by
  induction h with
  | nil => intro id o e; simp [look] at e
  | cons x r ih =>
    obtain ⟨k, ob⟩ := x
    intro id o e
    rw [look_cons] at e
    split at e
    · simp at e; subst e; exact hf.1
    · exact ih hf.2 id o e
/-- A call with arguments that the run made: they are read as lists; the answer leads to no list but its own. -/
theorem CallP.conv {P : Program} {fx : List Nat} {f : FuncId} {avs : List AV} {tm : List (Nat × AV)} {hp : Hp} {nx : Nat} {dst : Option Nat} {K : St → Prop} {Q : AV → Hp → Nat → Prop} {args : List AV} (hret : Ret P f args [] nx true Q) (ha : avs.map (cvA hp) = args) (hs : sideA hp avs)
    (h : ∀ r ho m, Q r ho m → (flatV r = true ∧ flatH ho) ∧ K ⟨setD dst r tm, ho ++ hp, m⟩) : CallP P fx f avs ⟨tm, hp, nx⟩ dst K :=
  CallP.plain ⟨args, [], true, false, Q, by rw [← ha]; exact sideA_cv hs, fun id o h => by simp [look] at h, hret, fun id h => by simp [killIds, memB] at h, fun r ho m hq => ⟨fun _ => ⟨(h r ho m hq).1.1, flatH_look (h r ho m hq).1.2⟩, (h r ho m hq).2⟩⟩
theorem CallP.convIs {P : Program} {fx : List Nat} {f : FuncId} {avs : List AV} {tm : List (Nat × AV)} {hp : Hp} {nx : Nat} {dst : Option Nat} {K : St → Prop} {args : List AV} {r : AV} {ho : Hp} {m : Nat} (hret : Ret P f args [] nx true (Is r ho m)) (ha : avs.map (cvA hp) = args) (hs : sideA hp avs)
    (hf : flatV r = true) (hfh : flatH ho) (h : K ⟨setD dst r tm, ho ++ hp, m⟩) : CallP P fx f avs ⟨tm, hp, nx⟩ dst K :=
  CallP.conv hret ha hs (by rintro _ _ _ ⟨rfl, rfl, rfl⟩; exact ⟨⟨hf, hfh⟩, h⟩)

/-- Within a region that draws its order. -/
theorem CallQ.is {P : Program} {f : FuncId} {avs : List AV} {tm : List (Nat × AV)} {hp : Hp} {nx d : Nat} {K : St → Prop} {v : AV} {ho : Hp} {m : Nat} (hret : Ret P f avs [] nx true (Is v ho m)) (hn : noIds avs = true) (hk : (Nat.ble nx m && newH nx ho) = true)
    (h : K ⟨(d, v) :: tm, ho ++ hp, m⟩) : CallQ P f avs ⟨tm, hp, nx⟩ d K := ⟨⟨avs, true, v, ho, m, noIds_cv hn, hret, hk, fun e => (by cases e), h⟩⟩
theorem CallQ.convIs {P : Program} {f : FuncId} {avs : List AV} {tm : List (Nat × AV)} {hp : Hp} {nx d : Nat} {K : St → Prop} {args : List AV} {v : AV} {ho : Hp} {m : Nat} (hret : Ret P f args [] nx true (Is v ho m)) (ha : avs.map (cvA hp) = args) (hs : sideA hp avs)
    (hf : flatV v = true) (hfh : flatH ho) (hk : (Nat.ble nx m && newH nx ho) = true) (h : K ⟨(d, v) :: tm, ho ++ hp, m⟩) : CallQ P f avs ⟨tm, hp, nx⟩ d K := ⟨⟨args, false, v, ho, m, by rw [← ha]; exact sideA_cv hs, hret, hk, fun _ => ⟨hf, hfh⟩, h⟩⟩

def keys : Hp → List Nat
  | [] => []
  | (i, _) :: r => i :: keys r
theorem memB_keys {i : Nat} : ∀ {h : Hp}, memB i (keys h) = true ↔ inH h i
  | [] => by simp [keys, memB, inH, look]
  | (k, o) :: r => by
    unfold inH
    simp only [keys, memB_cons, look_cons]
    by_cases hk : i = k
    · subst hk; simp
    · rw [if_neg hk, if_neg (fun e => hk e.symm)]; exact memB_keys
def partH (hp : Hp) (ks : List Nat) : Hp → Prop
  | [] => True
  | (i, o) :: r => look hp i = some o ∧ idsO ks o = true ∧ partH hp ks r
theorem partH_look {hp : Hp} {ks : List Nat} {K : Nat → Prop} (hK : ∀ i, memB i ks = true → K i) : ∀ {hi : Hp}, partH hp ks hi → ∀ id o, look hi id = some o → look hp id = some o ∧ o.uses K
  | [], _, id, o, e => by simp [look] at e
  | (k, ob) :: r, h, id, o, e => by
    rw [look_cons] at e
    split at e
    · rename_i hk; simp at e; subst hk e; exact ⟨h.1, idsO_uses hK h.2.1⟩
    · exact partH_look hK h.2.2 id o e
def idsL (ks : List Nat) : List AV → Bool
  | [] => true
  | a :: r => idsA ks a && !a.isTup && idsL ks r
theorem idsL_cv {hp hi : Hp} : ∀ {avs : List AV}, idsL (keys hi) avs = true → All2 (Cv hp hi true) avs avs
  | [], _ => trivial
  | a :: r, h => by
    simp only [idsL, Bool.and_eq_true, Bool.not_eq_true'] at h
    refine ⟨?_, idsL_cv h.2⟩
    have ht : ∀ vs, a ≠ .tup vs := by rintro vs rfl; simp [AV.isTup] at h
    cases a with
    | agg cs =>
      refine .agg cs cs (All2.of rfl fun i x y hx hy => ?_)
      rw [hx] at hy; cases hy
      exact .refl x (fun id hid => memB_keys.1 (idsC_id (List.all_eq_true.1 h.1.1 x (List.mem_of_getElem? hx)) id hid)) (.inr (.inr trivial))
    | tup vs => exact absurd rfl (ht vs)
    | own i len => exact .cell (fun _ e => by cases e) (fun _ e => by cases e) (.refl _ (fun id hid => memB_keys.1 (idsC_id (a := .own i len) h.1.1 id hid)) (.inr (.inr trivial)))
    | pt i r o => exact .cell (fun _ e => by cases e) (fun _ e => by cases e) (.refl _ (fun id hid => memB_keys.1 (idsC_id (a := .pt i r o) h.1.1 id hid)) (.inr (.inr trivial)))
    | sb i r o l => exact .cell (fun _ e => by cases e) (fun _ e => by cases e) (.refl _ (fun id hid => memB_keys.1 (idsC_id (a := .sb i r o l) h.1.1 id hid)) (.inr (.inr trivial)))
    | mp i => exact .cell (fun _ e => by cases e) (fun _ e => by cases e) (.refl _ (fun id hid => memB_keys.1 (idsC_id (a := .mp i) h.1.1 id hid)) (.inr (.inr trivial)))
    | clo i => exact .cell (fun _ e => by cases e) (fun _ e => by cases e) (.refl _ (fun id hid => memB_keys.1 (idsC_id (a := .clo i) h.1.1 id hid)) (.inr (.inr trivial)))
    | _ => exact .cell (fun _ e => by cases e) (fun _ e => by cases e) (.refl _ (fun id hid => by simp [AV.idOf] at hid) (.inr (.inr trivial)))
def offFx (fx : List Nat) : List Nat → Bool
  | [] => true
  | k :: r => !memB k fx && offFx fx r
theorem offFx_ok {fx : List Nat} : ∀ {ks : List Nat}, offFx fx ks = true → ∀ id, memB id ks = true → memB id fx = false
  | [], _, id, h => by simp [memB] at h
  | k :: r, ho, id, h => by
    simp only [offFx, Bool.and_eq_true, Bool.not_eq_true'] at ho
    rw [memB_cons] at h
    split at h
    · rename_i e; subst e; exact ho.1
    · exact offFx_ok ho.2 id h
/-- A call of a function that writes into objects of the run. -/
theorem CallP.heap {P : Program} {fx : List Nat} {f : FuncId} {avs : List AV} {tm : List (Nat × AV)} {hp : Hp} {nx : Nat} {dst : Option Nat} {K : St → Prop} {Q : AV → Hp → Nat → Prop} {hi : Hp} {st : Bool} (hret : Ret P f avs hi nx st Q) (hn : idsL (keys hi) avs = true) (hp' : partH hp (keys hi) hi) (hx : offFx fx (killIds st hi) = true)
    (h : ∀ r ho m, Q r ho m → K ⟨setD dst r (killTx (killIds st hi) tm), ho ++ killHx (killIds st hi) hp, m⟩) : CallP P fx f avs ⟨tm, hp, nx⟩ dst K :=
  CallP.plain ⟨avs, hi, st, true, Q, idsL_cv hn, partH_look (fun i hi' => memB_keys.1 hi') hp', hret, offFx_ok hx, fun r ho m hq => ⟨fun e => (by cases e), h r ho m hq⟩⟩
theorem CallP.heapIs {P : Program} {fx : List Nat} {f : FuncId} {avs : List AV} {tm : List (Nat × AV)} {hp : Hp} {nx : Nat} {dst : Option Nat} {K : St → Prop} {hi : Hp} {st : Bool} {r : AV} {ho : Hp} {m : Nat} (hret : Ret P f avs hi nx st (Is r ho m)) (hn : idsL (keys hi) avs = true) (hp' : partH hp (keys hi) hi) (hx : offFx fx (killIds st hi) = true)
    (h : K ⟨setD dst r (killTx (killIds st hi) tm), ho ++ killHx (killIds st hi) hp, m⟩) : CallP P fx f avs ⟨tm, hp, nx⟩ dst K :=
  CallP.heap hret hn hp' hx (by rintro _ _ _ ⟨rfl, rfl, rfl⟩; exact h)

/-! ### weaker readings -/
def ltC (n : Nat) : AV → Bool
  | .own i _ => Nat.blt i n
  | .pt i _ _ => Nat.blt i n
  | .sb i _ _ _ => Nat.blt i n
  | .mp i => Nat.blt i n
  | .clo i => Nat.blt i n
  | _ => true
def ltV (n : Nat) : AV → Bool
  | .agg cs => cs.all (ltC n)
  | .tup _ => false
  | a => ltC n a
def ltO (n : Nat) : AObj → Bool
  | .box cs => cs.all (ltC n)
  | .list _ _ _ => true
  | .map _ _ => true
  | .ranged _ _ _ => true
  | .clo _ fs cs => fs.all (ltC n) && cs.all (ltC n)
  | @AObj.nest b _ _ rows => b || rows.all fun r => r.all (ltC n)
theorem ltC_id {n : Nat} {a : AV} (h : ltC n a = true) : ∀ i, a.idOf = some i → i < n := by
  intro i hi
  cases a <;> simp [AV.idOf] at hi <;> subst hi <;> exact Nat.le_of_ble_eq_true h
theorem ltV_uses {n : Nat} {a : AV} (h : ltV n a = true) : a.uses (· < n) := by
  cases a with
  | own i len => exact Nat.le_of_ble_eq_true h
  | pt i r o => exact Nat.le_of_ble_eq_true h
  | sb i r o l => exact Nat.le_of_ble_eq_true h
  | mp i => exact Nat.le_of_ble_eq_true h
  | clo i => exact Nat.le_of_ble_eq_true h
  | agg cs => exact fun c hc i hi => ltC_id (List.all_eq_true.1 h c hc) i hi
  | tup vs => simp [ltV] at h
  | _ => trivial
theorem ltO_uses {n : Nat} {o : AObj} (h : ltO n o = true) : o.uses (· < n) := by
  cases o with
  | box cs => exact fun c hc i hi => ltC_id (List.all_eq_true.1 h c hc) i hi
  | list => trivial
  | map => trivial
  | ranged => trivial
  | clo f fs cs =>
    have h : (fs.all (ltC n) && cs.all (ltC n)) = true := h
    simp only [Bool.and_eq_true] at h
    exact ⟨fun c hc i hi => ltC_id (List.all_eq_true.1 h.1 c hc) i hi, fun c hc i hi => ltC_id (List.all_eq_true.1 h.2 c hc) i hi⟩
  | @nest b e s rows =>
    intro h0 c hc i hi
    subst h0
    have h : (rows.all fun r => r.all (ltC n)) = true := h
    obtain ⟨r, hr, hcr⟩ := List.mem_flatten.1 hc
    exact ltC_id (List.all_eq_true.1 (List.all_eq_true.1 h r hr) c hcr) i hi
/-- What a weaker reading keeps. -/
def keepT (tm : List (Nat × AV)) (n : Nat) : List (Nat × AV) → Prop
  | [] => True
  | (t, v) :: r => (look tm t = some v ∧ ltV n v = true) ∧ keepT tm n r
def keepH (hp : Hp) (n : Nat) : Hp → Prop
  | [] => True
  | (i, o) :: r => (look hp i = some o ∧ Nat.blt i n = true ∧ ltO n o = true) ∧ keepH hp n r
theorem keepT_look {tm : List (Nat × AV)} {n : Nat} : ∀ {tm' : List (Nat × AV)}, keepT tm n tm' → ∀ t v, look tm' t = some v → look tm t = some v ∧ v.uses (· < n)
  | [], _, t, v, e => by simp [look] at e
  | (k, u) :: r, h, t, v, e => by
    rw [look_cons] at e
    split at e
    · rename_i hk; simp at e; subst hk e; exact ⟨h.1.1, ltV_uses h.1.2⟩
    · exact keepT_look h.2 t v e
theorem keepH_look {hp : Hp} {n : Nat} : ∀ {hp' : Hp}, keepH hp n hp' → ∀ i o, look hp' i = some o → look hp i = some o ∧ i < n ∧ o.uses (· < n)
  | [], _, t, v, e => by simp [look] at e
  | (k, u) :: r, h, t, v, e => by
    rw [look_cons] at e
    split at e
    · rename_i hk; simp at e; subst hk e; exact ⟨h.1.1, Nat.le_of_ble_eq_true h.1.2.1, ltO_uses h.1.2.2⟩
    · exact keepH_look h.2 t v e

def allLt (n : Nat) : List Nat → Bool
  | [] => true
  | k :: r => Nat.blt k n && allLt n r
theorem allLt_mem {n : Nat} : ∀ {l : List Nat}, allLt n l = true → ∀ i, memB i l = true → i < n
  | [], _, i, h => by simp [memB] at h
  | k :: r, ha, i, h => by
    simp only [allLt, Bool.and_eq_true] at ha
    rw [memB_cons] at h
    split at h
    · rename_i e; subst e; exact Nat.le_of_ble_eq_true ha.1
    · exact allLt_mem ha.2 i h
/-- Some temporaries and the newest objects are forgotten. -/
theorem Weak.of {fx : List Nat} {tm tm' : List (Nat × AV)} {hp hp' : Hp} {nx nx' : Nat} (hn : Nat.ble nx' nx = true) (hf : allLt nx' fx = true) (ht : keepT tm nx' tm') (hh : keepH hp nx' hp') : Weak fx ⟨tm, hp, nx⟩ ⟨tm', hp', nx'⟩ := by
  rintro E a w rfl ⟨hs, hd, ι, S, hC, hTm⟩
  let ι' : Loc := fun k => if k.id < nx' then ι k else none
  have up : ∀ (i : Key) p, ι' i = some p → ι i = some p ∧ i.id < nx' := by
    intro i p h
    have h' : (if i.id < nx' then ι i else none) = some p := h
    split at h'
    · exact ⟨h', by assumption⟩
    · cases h'
  have dn : ∀ (i : Key) p, i.id < nx' → ι i = some p → ι' i = some p := by
    intro i p h h'
    show (if i.id < nx' then ι i else none) = some p
    rw [if_pos h]; exact h'
  have hL : Later w w S S ι ι' (· < nx') := ⟨fun b hb => ⟨hb, rfl⟩, fun i p => dn ⟨i, []⟩ p⟩
  refine ⟨hs, hd, ι', S, ⟨hC.frame, hC.sub, hC.lt, ?_, ?_, ?_, ?_, ?_, ?_, hC.fxs⟩, ⟨fun t v h => ?_⟩⟩
  · rintro b hb ⟨i, c, s, e⟩; exact hC.dis b hb ⟨i, c, s, (up i _ e).1⟩
  · intro i g c s e; exact hC.own i g c s (up i _ e).1
  · intro i j g c d s r e1 e2; exact hC.inj i j g _ _ _ _ (up i _ e1).1 (up j _ e2).1
  · intro i hi; show (if i.id < nx' then ι i else none) = none; rw [if_neg (Nat.not_lt.2 hi)]
  · intro i o h
    obtain ⟨h1, h2, h3⟩ := keepH_look hh i o h
    obtain ⟨_, _, hob⟩ := hC.obj i o h1
    exact ⟨h2, h3, hob.mono hL h2 h3 (fun _ k q hk hq => dn k q (by rw [hk]; exact h2) hq) (fun _ _ _ _ _ _ => rfl)⟩
  · intro i p h
    have h' := hC.stay i p h
    refine dn ⟨i, []⟩ p ?_ h'
    refine allLt_mem hf i ?_
    cases hm : memB i E.fx with
    | true => rfl
    | false => rw [hC.fxs.1 ⟨i, []⟩ hm] at h; cases h
  · obtain ⟨h1, h2⟩ := keepT_look ht t v h
    obtain ⟨g1, g2, g3⟩ := hTm.tm t v h1
    exact ⟨g1, h2, g3.mono hL h2⟩

/-- What a weaker reading with other numbers keeps: number i is the old σ[i]. -/
def renT (σ : List Nat) (tm : List (Nat × AV)) : List (Nat × AV) → Prop
  | [] => True
  | (t, v) :: r => (look tm t = some (renV (tau σ [] 0) v) ∧ (idsV (upTo 0 σ.length) v && !v.isTup) = true) ∧ renT σ tm r
def renHp (σ : List Nat) (hp : Hp) : Hp → Prop
  | [] => True
  | (i, o) :: r => (look hp (tau σ [] 0 i) = some (renO (tau σ [] 0) o) ∧ memB i (upTo 0 σ.length) = true ∧ idsO (upTo 0 σ.length) o = true) ∧ renHp σ hp r
def fixR (σ : List Nat) : List Nat → Bool
  | [] => true
  | i :: r => (match σ[i]? with | some c => Nat.beq c i | none => false) && fixR σ r
theorem renT_look {σ : List Nat} {tm : List (Nat × AV)} : ∀ {tm' : List (Nat × AV)}, renT σ tm tm' → ∀ t v, look tm' t = some v → look tm t = some (renV (tau σ [] 0) v) ∧ (idsV (upTo 0 σ.length) v && !v.isTup) = true
  | [], _, t, v, e => by simp [look] at e
  | (k, u) :: r, h, t, v, e => by
    rw [look_cons] at e
    split at e
    · rename_i hk; simp at e; subst hk e; exact h.1
    · exact renT_look h.2 t v e
theorem renHp_look {σ : List Nat} {hp : Hp} : ∀ {hp' : Hp}, renHp σ hp hp' → ∀ i o, look hp' i = some o → look hp (tau σ [] 0 i) = some (renO (tau σ [] 0) o) ∧ memB i (upTo 0 σ.length) = true ∧ idsO (upTo 0 σ.length) o = true
  | [], _, t, v, e => by simp [look] at e
  | (k, u) :: r, h, t, v, e => by
    rw [look_cons] at e
    split at e
    · rename_i hk; simp at e; subst hk e; exact h.1
    · exact renHp_look h.2 t v e
theorem fixR_at {σ : List Nat} : ∀ {fx : List Nat}, fixR σ fx = true → ∀ i, memB i fx = true → σ[i]? = some i
  | [], _, i, h => by simp [memB] at h
  | k :: r, hf, i, h => by
    simp only [fixR, Bool.and_eq_true] at hf
    rw [memB_cons] at h
    split at h
    · rename_i e
      subst e
      cases hs : σ[i]? with
      | none => simp [hs] at hf
      | some c => simp only [hs] at hf; rw [Nat.eq_of_beq_eq_true hf.1]
    · exact fixR_at hf.2 i h
/-- The objects take other numbers; what is not named is forgotten. -/
theorem Weak.ren {fx : List Nat} {tm tm' : List (Nat × AV)} {hp hp' : Hp} {nx : Nat} (σ : List Nat) (hnd : nodupB σ = true) (hf : fixR σ fx = true) (ht : renT σ tm tm') (hh : renHp σ hp hp') : Weak fx ⟨tm, hp, nx⟩ ⟨tm', hp', σ.length⟩ := by
  rintro E a w rfl ⟨hs, hd, ι, S, hC, hTm⟩
  let ι' : Loc := fun i => match σ[i.id]? with | some c => ι ⟨c, i.path⟩ | none => none
  have up : ∀ (i : Key) p, ι' i = some p → ∃ c : Nat, σ[i.id]? = some c ∧ ι ⟨c, i.path⟩ = some p := by
    intro i p h
    have h' : (match σ[i.id]? with | some c => ι ⟨c, i.path⟩ | none => none) = some p := h
    cases hs : σ[i.id]? with
    | none => rw [hs] at h'; cases h'
    | some c => rw [hs] at h'; exact ⟨c, rfl, h'⟩
  have hτ : ∀ (i : Nat) (p : List Nat), memB i (upTo 0 σ.length) = true → ι' ⟨i, p⟩ = ι ⟨tau σ [] 0 i, p⟩ := by
    intro i p hi
    rw [mem_upTo] at hi
    have hlt : i < σ.length := by omega
    show (match σ[i]? with | some c => ι ⟨c, p⟩ | none => none) = ι ⟨(match σ[i]? with | some c => c | none => 0 + idx i []), p⟩
    rw [List.getElem?_eq_getElem hlt]
  have hlt : ∀ i, memB i (upTo 0 σ.length) = true → i < σ.length := fun i hi => by rw [mem_upTo] at hi; omega
  refine ⟨hs, hd, ι', S, ⟨hC.frame, hC.sub, hC.lt, ?_, ?_, ?_, ?_, ?_, ?_, hC.fxs⟩, ⟨fun t v h => ?_⟩⟩
  · rintro b hb ⟨i, c, s, e⟩
    obtain ⟨c', _, e'⟩ := up i _ e
    exact hC.dis b hb ⟨_, c, s, e'⟩
  · intro i g c s e
    obtain ⟨c', _, e'⟩ := up i _ e
    exact hC.own _ g c s e'
  · intro i j g c d s r e1 e2
    obtain ⟨c1, h1, e1'⟩ := up i _ e1
    obtain ⟨c2, h2, e2'⟩ := up j _ e2
    have := hC.inj ⟨c1, i.path⟩ ⟨c2, j.path⟩ g _ _ _ _ e1' e2'
    simp only [Key.mk.injEq] at this
    obtain ⟨rfl, hpp⟩ := this
    have e3 := (get_idx σ i.id c1 hnd h1).symm.trans (get_idx σ j.id c1 hnd h2)
    cases i; cases j; simp_all
  · intro i hi
    show (match σ[i.id]? with | some c => ι ⟨c, i.path⟩ | none => none) = none
    rw [List.getElem?_eq_none hi]
  · intro i o h
    obtain ⟨h1, h2, h3⟩ := renHp_look hh i o h
    obtain ⟨_, _, hob⟩ := hC.obj _ _ h1
    exact ⟨hlt i h2, idsO_uses (fun j hj => hlt j hj) h3, hob.unren hτ h2 h3⟩
  · intro i p h
    have hm : memB i E.fx = true := by
      cases hm : memB i E.fx with
      | true => rfl
      | false => rw [hC.fxs.1 ⟨i, []⟩ hm] at h; cases h
    have := fixR_at hf i hm
    show (match σ[i]? with | some c => ι ⟨c, []⟩ | none => none) = some p
    rw [this]; exact hC.stay i p h
  · obtain ⟨h1, h2⟩ := renT_look ht t v h
    simp only [Bool.and_eq_true, Bool.not_eq_true'] at h2
    obtain ⟨g1, g2, g3⟩ := hTm.tm t _ h1
    exact ⟨g1, idsV_uses (fun j hj => hlt j hj) h2.1, g3.unren hτ h2.1 (by rintro vs rfl; simp [AV.isTup] at h2)⟩

theorem Weak.trans {fx : List Nat} {a b c : St} (h : Weak fx a b) (k : Weak fx b c) : Weak fx a c := fun E x w e hR => k E x w e (h E x w e hR)
/-- A list's end is forgotten. -/
theorem Weak.trunc {fx : List Nat} {tm : List (Nat × AV)} {hp : Hp} {nx : Nat} (id e s : Nat) (rows rows' : List (List AV)) (m : Nat) (hk : look hp id = some (.list e s rows)) (hr : rows' = rows.take m) : Weak fx ⟨tm, hp, nx⟩ ⟨tm, (id, .list e s rows') :: hp, nx⟩ := by
  subst hr
  rintro E a w rfl ⟨hs, hd, ι, S, hC, hTm⟩
  refine ⟨hs, hd, ι, S, ⟨hC.frame, hC.sub, hC.lt, hC.dis, hC.own, hC.inj, hC.new, ?_, hC.stay, hC.fxs⟩, hTm⟩
  intro i o hl
  rw [look_cons] at hl
  split at hl
  · rename_i hi
    subst hi
    simp only [Option.some.injEq] at hl
    subst hl
    obtain ⟨h1, h2, h3⟩ := hC.obj _ _ hk
    refine ⟨h1, trivial, ?_⟩
    clear hk
    cases h3 with
    | nil e s h hs => simp only [List.take_nil]; exact .nil e s h hs
    | list g cap e s rows vs h hs hr hl hm hw hn hc =>
      refine .list g cap e s _ vs h hs (fun r hr' => hr r (List.mem_of_mem_take hr')) (by rw [List.length_take]; omega) hm hw hn fun j v b hv hb => hc j v b hv ?_
      rw [flatten_take _ _ hr, List.getElem?_take] at hb
      split at hb
      · exact hb
      · cases hb
  · exact hC.obj i o hl
theorem Ret.mono {P : Program} {f : FuncId} {args : List AV} {hi : Hp} {n : Nat} {st : Bool} {Q Q' : AV → Hp → Nat → Prop} (hQ : ∀ r ho m, Q r ho m → Q' r ho m) (h : Ret P f args hi n st Q) : Ret P f args hi n st Q' :=
  ⟨h.enter, fun w ι A vs h1 h2 h3 h4 h5 => (h.calls w ι A vs h1 h2 h3 h4 h5).mono fun e w' ⟨v, r, ho, m, ι', S', a1, a2, a3⟩ => ⟨v, r, ho, m, ι', S', a1, hQ _ _ _ a2, a3⟩⟩
/-- A loop, by what holds of its states. -/
theorem LoopP.of {fx : List Nat} {body : St → (Exit → St → Prop) → Prop} {s : St} {Q : Exit → St → Prop} {α : Type} (I : α → Prop) (T : α → St) (μ : α → Nat) (x0 : α) (h0 : I x0) (hw : Weak fx s (T x0))
    (hr : ∀ x, I x → body (T x) fun e s' => match e with
      | .normal => ∃ y, I y ∧ μ y < μ x ∧ Weak fx s' (T y)
      | e => Q e s') (hmono : ∀ s (Q Q' : Exit → St → Prop), (∀ e s, Q e s → Q' e s) → body s Q → body s Q') : LoopP fx body s Q := by
  refine ⟨⟨{x : α // I x}, fun x => T x.1, fun x => μ x.1, ⟨x0, h0⟩, hw, fun x => ?_⟩⟩
  refine hmono _ _ _ ?_ (hr x.1 x.2)
  intro e s h
  cases e with
  | normal => obtain ⟨y, hy, hlt, hk⟩ := h; exact ⟨⟨y, hy⟩, hlt, hk⟩
  | _ => exact h

theorem CallP.mono {P : Program} {fx : List Nat} {f : FuncId} {avs : List AV} {s : St} {dst : Option Nat} {K K' : St → Prop} (hK : ∀ s, K s → K' s) (h : CallP P fx f avs s dst K) : CallP P fx f avs s dst K' := by
  obtain ⟨gv, avs1, hg, hw⟩ := h.call
  exact ⟨gv, avs1, hg, hw.mono fun s1 ⟨s2, h2, hk⟩ => ⟨s2, h2, hK _ hk⟩⟩
theorem CondP.mono {b : Bool} {X Y X' Y' : Prop} (hx : X → X') (hy : Y → Y') (h : CondP b X Y) : CondP b X' Y' := ⟨fun e => hx (h.t e), fun e => hy (h.f e)⟩
theorem runOp_mono {tt : Tab} {P : Program} {nt : Nat} {fx : List Nat} {o : Oper} {s : St} {K K' : St → Prop} (hK : ∀ s, K s → K' s) (h : runOp tt P nt fx o s K) : runOp tt P nt fx o s K' := by
  unfold runOp at *
  obtain ⟨tm, hp, nx⟩ := s
  simp only at *
  cases hd : o.dst with
  | some d =>
    simp only [hd] at *
    cases hb : Nat.blt d nt with
    | false => simp [hb] at h
    | true =>
      simp only [hb, cond_true] at *
      cases hs : stepA tt o.op ⟨tm, hp, nx⟩ with
      | ok v => simp only [hs] at *; exact hK _ h
      | cond p v => simp only [hs] at *; exact ⟨h.1, hK _ h.2⟩
      | newP ob => simp only [hs] at *; exact hK _ h
      | newM ob => simp only [hs] at *; exact hK _ h
      | newC ob => simp only [hs] at *; exact hK _ h
      | each id kk left => simp only [hs] at h ⊢; exact ⟨fun h0 => hK _ (h.1 h0), fun j hj => hK _ (h.2 j hj)⟩
      | newL0 len ob => simp only [hs] at *; exact hK _ h
      | newL p len ob => simp only [hs] at *; exact ⟨h.1, hK _ h.2⟩
      | setV p id v ob => simp only [hs] at *; exact ⟨h.1, hK _ h.2⟩
      | kill p id v ob =>
        simp only [hs] at *
        cases hm : memB id fx with
        | true => simp [hm] at h
        | false => simp only [hm, cond_false] at *; exact ⟨h.1, hK _ h.2⟩
      | call n args => simp only [hs] at *; exact h.mono hK
      | pick b x y =>
        simp only [hs] at *
        refine h.mono ?_ ?_
        · cases opnd tm x with
          | none => exact id
          | some v => exact hK _
        · cases opnd tm y with
          | none => exact id
          | some v => exact hK _
      | _ => simp [hs] at h
  | none =>
    simp only [hd] at *
    cases hs : stepA tt o.op ⟨tm, hp, nx⟩ with
    | ok v => simp only [hs] at *; exact hK _ h
    | setB id ob => simp only [hs] at *; exact hK _ h
    | set p id ob => simp only [hs] at *; exact ⟨h.1, hK _ h.2⟩
    | setV p id v ob => simp only [hs] at *; exact ⟨h.1, hK _ h.2⟩
    | call n args => simp only [hs] at *; exact h.mono hK
    | _ => simp [hs] at h
theorem byGuard_mono {ops : Array Oper} {o : Oper} {s : St} {X Y X' Y' : Prop} (hx : X → X') (hy : Y → Y') (h : byGuard ops o s X Y) : byGuard ops o s X' Y' := by
  unfold byGuard at *
  cases hg : o.guard with
  | none => simp only [hg] at *; exact hx h
  | some jw =>
    obtain ⟨j, want⟩ := jw
    simp only [hg] at *
    cases hga : guardA ops s.tm j with
    | none => simp [hga] at h
    | some b =>
      simp only [hga] at *
      cases b with
      | none => exact hy h
      | some b => cases want with
        | true => exact h.mono hx hy
        | false => exact h.mono hy hx
theorem skipA_mono {nt : Nat} {o : Oper} {s : St} {K K' : St → Prop} (hK : ∀ s, K s → K' s) (h : skipA nt o s K) : skipA nt o s K' := by
  unfold skipA at *
  obtain ⟨tm, hp, nx⟩ := s
  cases hd : o.dst with
  | some d =>
    simp only [hd] at *
    cases hb : Nat.blt d nt with
    | false => simp [hb] at h
    | true => simp only [hb, cond_true] at *; exact hK _ h
  | none => simp only [hd] at *; exact hK _ h
theorem runOps_mono {tt : Tab} {P : Program} {nt : Nat} {fx : List Nat} {ops : Array Oper} {K K' : St → Prop} (hK : ∀ s, K s → K' s) : ∀ (l : List Oper) (s : St), runOps tt P nt fx ops l s K → runOps tt P nt fx ops l s K'
  | [], s, h => hK s h
  | o :: r, s, h => by
    have ih := runOps_mono (tt := tt) (P := P) (nt := nt) (fx := fx) (ops := ops) hK r
    simp only [runOps] at *
    exact byGuard_mono (runOp_mono fun s' h' => ih s' h') (skipA_mono fun s' h' => ih s' h') h
theorem CallQ.mono {P : Program} {f : FuncId} {avs : List AV} {s : St} {d : Nat} {K K' : St → Prop} (hK : ∀ s, K s → K' s) (h : CallQ P f avs s d K) : CallQ P f avs s d K' := by
  obtain ⟨as, share, v, ho, m, h1, h2, h3, h4, h5⟩ := h.call
  exact ⟨as, share, v, ho, m, h1, h2, h3, h4, hK _ h5⟩
theorem qOpA_mono {tt : Tab} {P : Program} {nt : Nat} {hq : Hp} {md : Bool} {o : Oper} {s : St} {K K' : St → Prop} (hK : ∀ s, K s → K' s) (h : qOpA tt P nt hq md o s K) : qOpA tt P nt hq md o s K' := by
  unfold qOpA at *
  obtain ⟨tm, hp, nx⟩ := s
  simp only at *
  cases hd : o.dst with
  | none => simp [hd] at h
  | some d =>
    simp only [hd] at *
    cases hb : Nat.blt d nt with
    | false => simp [hb] at h
    | true =>
      simp only [hb, cond_true] at *
      cases hs : stepA tt o.op ⟨tm, hq, 0⟩ with
      | ok v => simp only [hs] at *; exact hK _ h
      | cond p v => simp only [hs] at *; exact ⟨h.1, hK _ h.2⟩
      | newL0 len ob =>
        cases ob with
        | box cs => simp [hs] at h
        | map => simp [hs] at h
        | ranged => simp [hs] at h
        | clo => simp [hs] at h
        | nest => simp [hs] at h
        | list e sz rows => simp only [hs] at *; exact hK _ h
      | pick b x0 y0 =>
        simp only [hs] at *
        cases hop : o.op with
        | pick c x y =>
          simp only [hop] at *
          refine h.mono ?_ ?_
          · cases opnd tm x with
            | none => exact id
            | some v => exact hK _
          · cases opnd tm y with
            | none => exact id
            | some v => exact hK _
        | _ => simp [hop] at h
      | call n args =>
        simp only [hs] at *
        cases hc : isCallB o with
        | false => simp [hc] at h
        | true =>
          simp only [hc, cond_true] at *
          cases md with
          | true => obtain ⟨v, h1, h2, h3⟩ := h.call; exact ⟨⟨v, h1, h2, hK _ h3⟩⟩
          | false => exact CallQ.mono hK h
      | newP ob =>
        simp only [hs] at *
        cases hc : (md && isAllocB o) with
        | false => simp [hc] at h
        | true => simp only [hc, cond_true] at *; exact hK _ h
      | _ => simp [hs] at h
theorem skipQ_mono {nt : Nat} {o : Oper} {s : St} {K K' : St → Prop} (hK : ∀ s, K s → K' s) (h : skipQ nt o s K) : skipQ nt o s K' := by
  unfold skipQ at *
  obtain ⟨tm, hp, nx⟩ := s
  cases hd : o.dst with
  | some d =>
    simp only [hd] at *
    cases hb : Nat.blt d nt with
    | false => simp [hb] at h
    | true => simp only [hb, cond_true] at *; exact hK _ h
  | none => simp [hd] at h
theorem qOps_mono {tt : Tab} {P : Program} {nt : Nat} {hq : Hp} {md : Bool} {ops : Array Oper} {K K' : St → Prop} (hK : ∀ s, K s → K' s) : ∀ (l : List Oper) (s : St), qOps tt P nt hq md ops l s K → qOps tt P nt hq md ops l s K'
  | [], s, h => hK s h
  | o :: r, s, h => by
    have ih := qOps_mono (tt := tt) (P := P) (nt := nt) (hq := hq) (md := md) (ops := ops) hK r
    simp only [qOps] at *
    exact byGuard_mono (qOpA_mono fun s' h' => ih s' h') (skipQ_mono fun s' h' => ih s' h') h
theorem hOpA_mono {tt : Tab} {P : Program} {nt : Nat} {fx : List Nat} {hp0 ov : Hp} {o : Oper} {s : St} {K K' : St → Hp → Prop} (hK : ∀ s ov, K s ov → K' s ov) (h : hOpA tt P nt fx hp0 ov o s K) : hOpA tt P nt fx hp0 ov o s K' := by
  unfold hOpA at *
  cases hp : ptrCallB tt o with
  | false => simp only [hp] at *; exact qOpA_mono (fun s' h' => hK s' _ h') h
  | true =>
    simp only [hp] at *
    obtain ⟨tm, hpp, nx⟩ := s
    simp only at *
    cases hd : o.dst with
    | none => simp [hd] at h
    | some d =>
      simp only [hd] at *
      cases hb : Nat.blt d nt with
      | false => simp [hb] at h
      | true =>
        simp only [hb, cond_true] at *
        cases hs : stepA tt o.op ⟨tm, [], 0⟩ with
        | call n args =>
          simp only [hs] at *
          obtain ⟨hi, v, ho, h1, h2, h3, h4⟩ := h.call
          exact ⟨⟨hi, v, ho, h1, h2, h3, hK _ _ h4⟩⟩
        | _ => simp [hs] at h
theorem qOpsH_mono {tt : Tab} {P : Program} {nt : Nat} {fx : List Nat} {hp0 : Hp} {ops : Array Oper} {K K' : St → Prop} (hK : ∀ s, K s → K' s) : ∀ (l : List Oper) (ov : Hp) (s : St), qOpsH tt P nt fx hp0 ops l ov s K → qOpsH tt P nt fx hp0 ops l ov s K'
  | [], ov, s, h => hK _ h
  | o :: r, ov, s, h => by
    have ih := qOpsH_mono (tt := tt) (P := P) (nt := nt) (fx := fx) (hp0 := hp0) (ops := ops) hK r
    simp only [qOpsH] at *
    exact byGuard_mono (hOpA_mono fun s' ov' h' => ih ov' s' h') (skipQ_mono fun s' h' => ih _ s' h') h
theorem allR_mono {p q : Nat → Prop} (h : ∀ i, p i → q i) : ∀ {l : List Nat}, allR l p → allR l q
  | [], _ => trivial
  | [k], hp => h k hp
  | k :: k' :: r, hp => ⟨h k hp.l, allR_mono h (l := k' :: r) hp.r⟩
theorem bruteA_mono {tt : Tab} {P : Program} {nt : Nat} {fx : List Nat} {ops : Array Oper} {K K' : St → Prop} (hK : ∀ s, K s → K' s) : ∀ (f : Nat) (listed : List Bool) (s : St), bruteA tt P nt fx ops f listed s K → bruteA tt P nt fx ops f listed s K'
  | 0, listed, s, h => by
    simp only [bruteA] at *
    cases hr : readyL listed 0 ops.toList listed with
    | nil => simp only [hr] at *; exact hK _ h
    | cons i r => simp [hr] at h
  | f + 1, listed, s, h => by
    simp only [bruteA] at *
    cases hr : readyL listed 0 ops.toList listed with
    | nil => simp only [hr] at *; exact hK _ h
    | cons i0 r =>
      simp only [hr] at *
      refine allR_mono (fun i hi => ?_) h
      cases ho : ops.toList[i]? with
      | none => simp [ho] at hi
      | some o =>
        simp only [ho] at hi ⊢
        exact byGuard_mono (runOp_mono fun s' h' => bruteA_mono hK f _ s' h') (skipA_mono fun s' h' => bruteA_mono hK f _ s' h') hi
theorem preOps_mono {tt : Tab} {nt : Nat} {hq : Hp} {K K' : List (Nat × AV) → Prop} (hK : ∀ tm, K tm → K' tm) : ∀ (l : List Oper) (bs : List Bool) (tm : List (Nat × AV)), preOps tt nt hq l bs tm K → preOps tt nt hq l bs tm K'
  | [], bs, tm, h => by simp only [preOps] at *; exact hK _ h
  | o :: r, [], tm, h => by simp only [preOps] at *; exact hK _ h
  | o :: r, b :: bs, tm, h => by
    cases b with
    | false => simp only [preOps] at *; exact preOps_mono hK r bs tm h
    | true =>
      simp only [preOps] at *
      cases hd : o.dst with
      | none => simp [hd] at h
      | some d =>
        simp only [hd] at *
        cases hb : Nat.blt d nt with
        | false => simp [hb] at h
        | true =>
          simp only [hb, cond_true] at *
          cases hs : stepA tt o.op ⟨tm, hqo o hq, 0⟩ with
          | ok v => simp only [hs] at *; exact preOps_mono hK r bs _ h
          | cond p v => simp only [hs] at *; exact ⟨h.1, preOps_mono hK r bs _ h.2⟩
          | _ => simp [hs] at h
theorem preStep_mono {tt : Tab} {P : Program} {nt : Nat} {fx : List Nat} {ops : Array Oper} {o : Oper} {s : St} {K K' : St → Prop} (hK : ∀ s, K s → K' s) (h : preStep tt P nt fx ops o s K) : preStep tt P nt fx ops o s K' := by
  unfold preStep at *
  cases hl : litB ops.toList o with
  | false => rw [hl] at h; exact runOp_mono hK h
  | true =>
    rw [hl] at h
    simp only [cond_true] at *
    obtain ⟨tm, hp, nx⟩ := s
    unfold litOp at *
    simp only at *
    cases hd : o.dst with
    | none => simp [hd] at h
    | some d =>
      simp only [hd] at *
      cases hb : Nat.blt d nt with
      | false => simp [hb] at h
      | true =>
        simp only [hb, cond_true] at *
        cases hs : stepA tt o.op ⟨tm, hp, 0⟩ with
        | newL0 len ob =>
          cases ob with
          | box cs => simp [hs] at h
          | map => simp [hs] at h
          | ranged => simp [hs] at h
          | clo => simp [hs] at h
          | nest => simp [hs] at h
          | list e sz rows => simp only [hs] at *; exact hK _ h
        | _ => simp [hs] at h
theorem Keep.mono {X Y Y' : Prop} (h : Y → Y') (k : Keep X Y) : Keep X Y' := ⟨k.l, h k.r⟩
theorem brutePre_mono {tt : Tab} {P : Program} {nt : Nat} {fx : List Nat} {ops : Array Oper} {tm0 : List (Nat × AV)} {sel : List Bool} {hq : Hp} {K K' : St → Prop} (hK : ∀ s, K s → K' s) : ∀ (f : Nat) (listed : List Bool) (s : St), brutePre tt P nt fx ops tm0 sel hq f listed s K → brutePre tt P nt fx ops tm0 sel hq f listed s K'
  | 0, listed, s, h => by
    simp only [brutePre] at *
    cases hr : readyL listed 0 ops.toList listed with
    | nil => simp only [hr] at *; exact hK _ h
    | cons i r => simp [hr] at h
  | f + 1, listed, s, h => by
    simp only [brutePre] at *
    cases hr : readyL listed 0 ops.toList listed with
    | nil => simp only [hr] at *; exact hK _ h
    | cons i0 r =>
      simp only [hr] at *
      refine allR_mono (fun i hi => ?_) h
      cases ho : ops.toList[i]? with
      | none => simp [ho] at hi
      | some o =>
        simp only [ho] at hi ⊢
        exact byGuard_mono (preStep_mono fun s' h' => h'.mono (brutePre_mono hK f _ s')) (skipA_mono fun s' h' => h'.mono (brutePre_mono hK f _ s')) hi
theorem runDraw_mono {tt : Tab} {P : Program} {nt : Nat} {fx : List Nat} {ops : Array Oper} {s : St} {K K' : St → Prop} (hK : ∀ s, K s → K' s) (h : runDraw tt P nt fx ops s K) : runDraw tt P nt fx ops s K' := by
  unfold runDraw at *
  simp only at *
  generalize cutFar tt ops.toList = t at *
  cases hb : ((anyB (oneMd (ops.toList.take t)) ops.toList t && (noPtr tt (ops.toList.take t) || guB ops.toList)) && !twoB ops.toList) with
  | false =>
    rw [hb] at h
    simp only [cond_false] at *
    cases hbh : heapB tt ops.toList t with
    | true => rw [hbh] at h; exact qOpsH_mono (fun s' h' => bruteA_mono hK _ _ s' h') _ _ s h
    | false =>
    rw [hbh] at h
    simp only [cond_false] at *
    unfold runRest at *
    cases hb2 : useB tt ops.toList with
    | false => rw [hb2] at h; exact bruteA_mono hK _ _ s h
    | true =>
      rw [hb2] at h
      simp only [cond_true] at *
      refine preDyn_mono (fun sel tm h' => ?_) h
      cases hb3 : preB ops.toList sel with
      | false => rw [hb3] at h'; exact bruteA_mono hK _ _ s h'
      | true => rw [hb3] at h'; exact brutePre_mono hK _ _ _ h'
  | true => rw [hb] at h; exact qOps_mono (fun s' h' => bruteA_mono hK _ _ s' h') _ s h

theorem LoopP.mono {fx : List Nat} {body : St → (Exit → St → Prop) → Prop} {s : St} {Q Q' : Exit → St → Prop} (hQ : ∀ e s, Q e s → Q' e s) (hb : ∀ s (Q Q' : Exit → St → Prop), (∀ e s, Q e s → Q' e s) → body s Q → body s Q') (h : LoopP fx body s Q) : LoopP fx body s Q' := by
  obtain ⟨α, T, μ, x0, hw, hr⟩ := h.inv
  refine ⟨α, T, μ, x0, hw, fun x => hb _ _ _ ?_ (hr x)⟩
  intro e s h
  cases e with
  | normal => exact h
  | _ => exact hQ _ _ h
theorem run_mono {tt : Tab} {P : Program} {nt : Nat} {fx : List Nat} (c : Code) : ∀ (s : St) (Q Q' : Exit → St → Prop), (∀ e s, Q e s → Q' e s) → run tt P nt fx c s Q → run tt P nt fx c s Q' := by
  induction c with
  | skip => exact fun s Q Q' hQ h => hQ _ _ h
  | label l => exact fun s Q Q' hQ h => hQ _ _ h
  | exit id => exact fun s Q Q' hQ h => hQ _ _ h
  | goto l => exact fun s Q Q' hQ h => hQ _ _ h
  | ret => exact fun s Q Q' hQ h => hQ _ _ h
  | region id ops draw =>
    intro s Q Q' hQ h
    cases draw with
    | true => exact runDraw_mono (fun s h => hQ _ _ h) h
    | false => exact runOps_mono (fun s h => hQ _ _ h) _ s h
  | seq x y ihx ihy =>
    intro s Q Q' hQ h
    refine ihx s _ _ ?_ h
    intro e s' h'
    cases e with
    | normal => exact ihy s' _ _ hQ h'
    | _ => exact hQ _ _ h'
  | cond c x y ihx ihy =>
    intro s Q Q' hQ h
    simp only [run] at *
    cases hc : opnd s.tm c with
    | none => simp [hc] at h
    | some v =>
      cases v with
      | val u =>
        cases u with
        | bool b => simp only [hc] at *; exact h.mono (ihx s _ _ hQ) (ihy s _ _ hQ)
        | _ => simp [hc] at h
      | _ => simp [hc] at h
  | block id c ih =>
    intro s Q Q' hQ h
    refine ih s _ _ ?_ h
    intro e s' h'
    cases e with
    | exit i =>
      simp only at *
      cases hb : Nat.beq i id with
      | true => rw [hb] at h'; exact hQ _ _ h'
      | false => rw [hb] at h'; exact hQ _ _ h'
    | _ => exact hQ _ _ h'
  | loop c ih => exact fun s Q Q' hQ h => LoopP.mono hQ ih h
  | _ => exact fun s Q Q' hQ h => h.elim
/-- A loop of a code, by what holds of its states. -/
theorem LoopP.go {tt : Tab} {P : Program} {nt : Nat} {fx : List Nat} {c : Code} {s : St} {Q : Exit → St → Prop} {α : Type} (I : α → Prop) (T : α → St) (μ : α → Nat) (x0 : α) (h0 : I x0) (hw : Weak fx s (T x0))
    (hr : ∀ x, I x → run tt P nt fx c (T x) fun e s' => match e with
      | .normal => ∃ y, I y ∧ μ y < μ x ∧ Weak fx s' (T y)
      | e => Q e s') : LoopP fx (run tt P nt fx c) s Q := LoopP.of I T μ x0 h0 hw hr (run_mono c)

theorem renV_noIds (τ : Nat → Nat) {a : AV} (h : idsA [] a = true) (ht : a.isTup = false) : renV τ a = a := by
  cases a with
  | tup vs => simp [AV.isTup] at ht
  | agg cs =>
    simp only [renV, renA]
    congr 1
    have : cs.map (renC τ) = cs.map id := List.map_congr_left fun c hc => renC_none _ (List.all_eq_true.1 h c hc)
    rw [this, List.map_id]
  | own i len => simp [idsA, idsC, memB] at h
  | pt i r o => simp [idsA, idsC, memB] at h
  | sb i r o l => simp [idsA, idsC, memB] at h
  | mp i => simp [idsA, idsC, memB] at h
  | clo i => simp [idsA, idsC, memB] at h
  | _ => rfl
/-- A function that takes what is only read. -/
theorem Ret.fn {tt : Tab} {P : Program} {f : FuncId} {fn : Func} {c : Code} (hT : TabOk P tt) (hf : P.funcs[f]? = some fn) (hb : fn.body = some c) (hent : ∀ args w, (callFunc f args).run P w = .ok (.enter f args) w)
    {args : List AV} {n : Nat} {Q : AV → Hp → Nat → Prop} (hargs : Nat.ble args.length fn.ntmps = true) (ha : noIds args = true) (h : run tt P fn.ntmps [] c ⟨enumL 0 args, [], 0⟩ (Fin tt fn.results.toList [] [] n Q)) : Ret P f args [] n true Q := by
  have key : ∀ x ∈ args, idsA [] x = true ∧ x.isTup = false := by
    clear h hargs
    induction args with
    | nil => intro x hx; cases hx
    | cons a r ih =>
      simp only [noIds, Bool.and_eq_true, Bool.not_eq_true'] at ha
      intro x hx
      rcases List.mem_cons.1 hx with rfl | hx
      · exact ha.1
      · exact ih ha.2 x hx
  have e : args.map (renV (tau [] [] n)) = args := by
    have : args.map (renV (tau [] [] n)) = args.map id := List.map_congr_left fun x hx => renV_noIds _ (key x hx).1 (key x hx).2
    rw [this, List.map_id]
  have := Ret.of_run (tt := tt) hT hf hb hent [] [] args true n Q rfl rfl (Nat.le_of_ble_eq_true hargs) (List.all_eq_true.2 fun x hx => by
    obtain ⟨h1, h2⟩ := key x hx
    simp only [h2, Bool.not_false, Bool.and_true]
    cases x with
    | tup vs => simp [AV.isTup] at h2
    | _ => exact h1) rfl h
  rw [e] at this
  exact this
theorem nodup1 (i : Nat) : nodupB [i] = true := rfl
theorem nodup2 {i j : Nat} (h : i ≠ j) : nodupB [i, j] = true := by
  have : memB i [j] = false := by rw [memB_cons, if_neg h]; rfl
  rw [show nodupB [i, j] = (!memB i [j] && nodupB [j]) from rfl, this]; rfl

end Go.Am
/-
  WORDS FOR THE WALK, more: arguments of calls, one by one.
-/
namespace Go.Am
open Go.RowKit
set_option linter.unusedVariables false
theorem cvcOwn {hp : Hp} {id e s len : Nat} {rows : List (List AV)} (h : look hp id = some (.list e s rows)) (hl : len = rows.length) : CvC hp [] false (.own id len) (.lst rows) := by
  have := CvC.own (hp := hp) (hi := []) (share := false) id len e s rows h rfl (by omega) rfl
  rwa [List.take_of_length_le (by omega)] at this
theorem cvcSame {hp : Hp} {share : Bool} {a : AV} (h : idsC [] a = true) : CvC hp [] share a a :=
  .refl a (fun id hid => by have := idsC_id h id hid; simp [memB] at this) (.inr (.inr trivial))
theorem cvcNil {hp : Hp} {share : Bool} : CvC hp [] share nl (.lst []) := .nil
def noAgg : AV → Bool
  | .agg _ => false
  | .tup _ => false
  | _ => true
theorem cvOwn {hp : Hp} {id e s len : Nat} {rows : List (List AV)} (h : look hp id = some (.list e s rows)) (hl : len = rows.length) : Cv hp [] false (.own id len) (.lst rows) :=
  .cell (fun _ e => by cases e) (fun _ e => by cases e) (cvcOwn h hl)
theorem cvSame {hp : Hp} {share : Bool} {a : AV} (h : (idsC [] a && noAgg a) = true) : Cv hp [] share a a := by
  simp only [Bool.and_eq_true] at h
  exact .cell (fun _ e => by rw [e] at h; simp [noAgg] at h) (fun _ e => by rw [e] at h; simp [noAgg] at h) (cvcSame h.1)
theorem cvNil {hp : Hp} {share : Bool} : Cv hp [] share nl (.lst []) := .cell (fun _ e => by cases e) (fun _ e => by cases e) .nil
theorem cvBox {hp : Hp} {id : Nat} {cs ds : List AV} (h : look hp id = some (.box cs)) (hc : All2 (CvC hp [] false) cs ds) (hr : ds.all readC = true) : Cv hp [] false (.pt id 0 0) (.rp ds) := .box id cs ds h rfl rfl hc hr
theorem cvAgg {hp : Hp} {share : Bool} {cs ds : List AV} (h : All2 (CvC hp [] share) cs ds) : Cv hp [] share (.agg cs) (.agg ds) := .agg _ _ h
theorem CallP.convA {P : Program} {fx : List Nat} {f : FuncId} {avs : List AV} {tm : List (Nat × AV)} {hp : Hp} {nx : Nat} {dst : Option Nat} {K : St → Prop} {Q : AV → Hp → Nat → Prop} {args : List AV} (hret : Ret P f args [] nx true Q) (hcv : All2 (Cv hp [] false) avs args)
    (h : ∀ r ho m, Q r ho m → (flatV r = true ∧ flatH ho) ∧ K ⟨setD dst r tm, ho ++ hp, m⟩) : CallP P fx f avs ⟨tm, hp, nx⟩ dst K :=
  CallP.plain ⟨args, [], true, false, Q, hcv, fun id o h => by simp [look] at h, hret, fun id h => by simp [killIds, memB] at h, fun r ho m hq => ⟨fun _ => ⟨(h r ho m hq).1.1, flatH_look (h r ho m hq).1.2⟩, (h r ho m hq).2⟩⟩
theorem CallP.convAIs {P : Program} {fx : List Nat} {f : FuncId} {avs : List AV} {tm : List (Nat × AV)} {hp : Hp} {nx : Nat} {dst : Option Nat} {K : St → Prop} {args : List AV} {r : AV} {ho : Hp} {m : Nat} (hret : Ret P f args [] nx true (Is r ho m)) (hcv : All2 (Cv hp [] false) avs args)
    (hf : flatV r = true) (hfh : flatH ho) (h : K ⟨setD dst r tm, ho ++ hp, m⟩) : CallP P fx f avs ⟨tm, hp, nx⟩ dst K :=
  CallP.convA hret hcv (by rintro _ _ _ ⟨rfl, rfl, rfl⟩; exact ⟨⟨hf, hfh⟩, h⟩)
theorem gvOwn {hp : Hp} {gv : List Nat} {id e s len : Nat} {rows : List (List AV)} (h : look hp id = some (.list e s rows)) (h1 : memB id gv = true) (hl : len = rows.length) : Gv hp gv (.own id len) (.lst rows) := by
  have := Gv.own (gv := gv) id len e s rows h h1 (by omega)
  rwa [List.take_of_length_le (by omega)] at this
/-- A call that takes one own list for good. -/
theorem CallP.give1 {P : Program} {fx : List Nat} {f : FuncId} {tm : List (Nat × AV)} {hp : Hp} {nx : Nat} {dst : Option Nat} {K : St → Prop} {Q : AV → Hp → Nat → Prop} (id len e s : Nat) (rows : List (List AV)) (hfx : fx = []) (hl : look hp id = some (.list e s rows)) (hn : len = rows.length) (hret : Ret P f [.lst rows] [] nx true Q)
    (h : ∀ r ho m, Q r ho m → K ⟨setD dst r (killT [id] tm), ho ++ offH [id] (killH [id] hp), m⟩) : CallP P fx f [.own id len] ⟨tm, hp, nx⟩ dst K :=
  ⟨[id], [.lst rows], ⟨hfx, fun i hi => ⟨e, s, rows, by
    rw [memB_cons] at hi
    split at hi
    · rename_i e'; rw [e']; exact hl
    · simp [memB] at hi⟩, gvOwn hl (by rw [memB_cons, if_pos rfl]) hn, trivial⟩, [.lst rows], [], true, true, Q, noIds_cv rfl, fun i o h => by simp [look] at h, hret, fun i h => by simp [killIds, memB] at h, fun r ho m hq => ⟨fun e => (by cases e), _, Forget.refl _, h r ho m hq⟩⟩
/-- A call, among others one after another, that changes an object that was there. -/
theorem CallH.is {P : Program} {fx : List Nat} {f : FuncId} {avs : List AV} {hp0 ov : Hp} {s : St} {d : Nat} {K : AV → Hp → Prop} {i : Nat} {o o' : AObj} {v : AV} (hret : ∀ n, Ret P f avs [(i, o)] n true (Is v [(i, o')] n)) (hn : idsL [i] avs = true) (hids : idsO [i] o = true)
    (hl : look (ov ++ s.hp) i = some o) (h0 : ∃ o'', look hp0 i = some o'') (h : K v [(i, o')]) : CallH P fx f avs hp0 ov s d K := by
  refine ⟨⟨[(i, o)], v, [(i, o')], fun id ob e => ?_, fun id ob e => ?_, fun tm hp nx hs => ?_, h⟩⟩
  · rw [look_cons] at e
    split at e
    · rename_i hk; subst hk; cases e; exact ⟨hl, h0⟩
    · simp [look] at e
  · rw [look_cons] at e
    split at e
    · rename_i hk; subst hk; exact ⟨o, look_cons_eq _ _ _⟩
    · simp [look] at e
  · refine CallP.heapIs (hret nx) hn ⟨hs i o (look_cons_eq _ _ _), hids, trivial⟩ rfl ?_
    rfl
theorem CallQ.convAIs {P : Program} {f : FuncId} {avs : List AV} {tm : List (Nat × AV)} {hp : Hp} {nx d : Nat} {K : St → Prop} {args : List AV} {v : AV} {ho : Hp} {m : Nat} (hret : Ret P f args [] nx true (Is v ho m)) (hcv : All2 (Cv hp [] false) avs args)
    (hf : flatV v = true) (hfh : flatH ho) (hk : (Nat.ble nx m && newH nx ho) = true) (h : K ⟨(d, v) :: tm, ho ++ hp, m⟩) : CallQ P f avs ⟨tm, hp, nx⟩ d K := ⟨⟨args, false, v, ho, m, hcv, hret, hk, fun _ => ⟨hf, hfh⟩, h⟩⟩
theorem cvargsA {p : Prop} (h : p := by repeat' first | exact trivial | exact cvSame rfl | exact cvNil | exact cvOwn rfl (by (first | rfl | (simp only [List.length_map]; done) | (simp only [List.length_map]; first | rfl | assumption | omega))) | exact cvcSame rfl | exact cvcNil | exact cvcOwn rfl (by (first | rfl | (simp only [List.length_map]; done) | (simp only [List.length_map]; first | rfl | assumption | omega))) | refine cvBox rfl ?_ rfl | refine cvAgg ?_ | refine And.intro ?_ ?_) : p := h
end Go.Am
/-
  THE WALK AS ONE STEP: what is left of a question once it is walked.
-/
namespace Go.Am
open Go.RowKit
set_option linter.unusedVariables false
set_option linter.unusedSimpArgs false
/-- Two questions are left. -/
structure W2 (A B : Prop) : Prop where
  m ::
  l : A
  r : B
/-- A question is left under a test. -/
structure W1 (p A : Prop) : Prop where
  m ::
  f : p → A
/-- What is left is enough. -/
structure Gw (L G : Prop) : Prop where
  f : L → G
/-- The same, to be reckoned first. -/
structure Gy (L G : Prop) : Prop where
  m ::
  g : Gw L G
theorem Gy.f {L G : Prop} (h : Gy L G) : L → G := h.g.f
theorem Gw.end' {G : Prop} : Gw G G := ⟨fun h => h⟩
theorem Gw.yes {L X Y : Prop} (h : Gy L X) : Gw L (CondP true X Y) := ⟨fun l => .yes (h.f l)⟩
theorem Gw.no {L X Y : Prop} (h : Gy L Y) : Gw L (CondP false X Y) := ⟨fun l => .not (h.f l)⟩
theorem Gw.dec {p : Prop} [Decidable p] {X Y A B : Prop} (ht : p → Gy A X) (hf : ¬ p → Gy B Y) : Gw (W2 (W1 p A) (W1 (¬ p) B)) (CondP (decide p) X Y) := ⟨fun l => .dec (fun h => (ht h).f (l.l.f h)) (fun h => (hf h).f (l.r.f h))⟩
theorem Gw.decT {p : Prop} [Decidable p] {X Y A : Prop} (hf : ¬ p → False) (ht : p → Gy A X) : Gw (W1 p A) (CondP (decide p) X Y) := ⟨fun l => .dec (fun h => (ht h).f (l.f h)) (fun h => (hf h).elim)⟩
theorem Gw.decF {p : Prop} [Decidable p] {X Y B : Prop} (ht : p → False) (hf : ¬ p → Gy B Y) : Gw (W1 (¬ p) B) (CondP (decide p) X Y) := ⟨fun l => .dec (fun h => (ht h).elim) (fun h => (hf h).f (l.f h))⟩
theorem Gw.ndec {p : Prop} [Decidable p] {X Y A B : Prop} (ht : ¬ p → Gy A X) (hf : p → Gy B Y) : Gw (W2 (W1 (¬ p) A) (W1 p B)) (CondP (!decide p) X Y) := ⟨fun l => .ndec (fun h => (ht h).f (l.l.f h)) (fun h => (hf h).f (l.r.f h))⟩
theorem Gw.ndecT {p : Prop} [Decidable p] {X Y A : Prop} (hf : p → False) (ht : ¬ p → Gy A X) : Gw (W1 (¬ p) A) (CondP (!decide p) X Y) := ⟨fun l => .ndec (fun h => (ht h).f (l.f h)) (fun h => (hf h).elim)⟩
theorem Gw.ndecF {p : Prop} [Decidable p] {X Y B : Prop} (ht : ¬ p → False) (hf : p → Gy B Y) : Gw (W1 p B) (CondP (!decide p) X Y) := ⟨fun l => .ndec (fun h => (ht h).elim) (fun h => (hf h).f (l.f h))⟩
theorem Gw.both {A B X Y : Prop} (h : Gy A X) (k : Gy B Y) : Gw (W2 A B) (Both X Y) := ⟨fun l => ⟨h.f l.l, k.f l.r⟩⟩
theorem Gw.keep {L X Y : Prop} (x : X) (h : Gy L Y) : Gw L (Keep X Y) := ⟨fun l => ⟨x, h.f l⟩⟩
theorem Gw.and {L p Y : Prop} (x : p) (h : Gy L Y) : Gw L (p ∧ Y) := ⟨fun l => ⟨x, h.f l⟩⟩
/-- The walk: by whnf, at tests in both ways, to where something must be said. -/
theorem Goes {G L : Prop} (l : L) (w : Gy L G := by
    repeat' first
      | (apply Go.Am.Gy.m; conv => arg 2; whnf)
      | apply Go.Am.Gw.yes
      | apply Go.Am.Gw.no
      | (apply Go.Am.Gw.decF; focus (intro h; first | omega | exact h (by assumption) | exact absurd h (by assumption)))
      | (apply Go.Am.Gw.decT; focus (intro h; first | omega | exact h (by assumption) | exact absurd h (by assumption)))
      | apply Go.Am.Gw.dec
      | (apply Go.Am.Gw.ndecF; focus (intro h; first | omega | exact h (by assumption) | exact absurd h (by assumption)))
      | (apply Go.Am.Gw.ndecT; focus (intro h; first | omega | exact h (by assumption) | exact absurd h (by assumption)))
      | apply Go.Am.Gw.ndec
      | apply Go.Am.Gw.both
      | (apply Go.Am.Gw.keep; focus (repeat' first | exact trivial | rfl | apply And.intro))
      | (apply Go.Am.Gw.and; focus (first | decide | omega))
      | exact Go.Am.Gw.end'
      | intro h
      | fail) : G := w.f l
end Go.Am
