/-
  THE READING IS TRUE, operation by operation.
-/
import Derived.Test.YtdnanpokaanhdaaDoorAm2
namespace Go.Am
open Go.RowKit
set_option linter.unusedVariables false
set_option linter.unusedSimpArgs false

variable {E : Env} {s : St} {a : Act} {w : World} {ι : Loc} {S : Nat → Prop} {tt : Tab}

/-- What a step leaves. -/
def Good (E : Env) (s : St) (r : Result Next) (w : World) (ι : Loc) (S : Nat → Prop) (av : AV) (hp : List (Nat × AObj)) (nx : Nat) : Prop :=
  ∃ v w' ι' S', r = .ok (.value v) w' ∧ Core E ι' S' hp nx w' ∧ s.nx ≤ nx ∧ Later w w' S S' ι ι' (· < s.nx) ∧ VRel w' S' ι' v av ∧ av.uses (· < nx)

theorem Later.refl (w : World) (S : Nat → Prop) (ι : Loc) (K : Nat → Prop) : Later w w S S ι ι K := ⟨fun b h => ⟨h, rfl⟩, fun id p _ h => h⟩

theorem Good.same (hC : Core E ι S s.hp s.nx w) {r : Result Next} {v : Value} {av : AV} (hr : r = .ok (.value v) w) (hv : VRel w S ι v av) (hu : av.uses (· < s.nx)) : Good E s r w ι S av s.hp s.nx :=
  ⟨v, w, ι, S, hr, hC, Nat.le_refl _, Later.refl _ _ _ _, hv, hu⟩

/-- A new block, unnamed or named by the next number. -/
theorem Core.alloc {hp : List (Nat × AObj)} {nx : Nat} (hC : Core E ι S hp nx w) {ob : Obj} {c sz : Nat} {o : AObj}
    (ho : ObjOk (w.alloc ob) S (put ι nx (some (.blk w.heap.size c sz))) nx o) (hu : o.uses (· < nx + 1)) :
    Core E (put ι nx (some (.blk w.heap.size c sz))) S ((nx, o) :: hp) (nx + 1) (w.alloc ob) ∧
    Later w (w.alloc ob) S S ι (put ι nx (some (.blk w.heap.size c sz))) (· < nx) := by
  have hblk : ∀ k, k < w.heap.size → (w.alloc ob).heap[k]? = w.heap[k]? := fun k hk => Below.heap_alloc _ _ _ hk
  have hL : Later w (w.alloc ob) S S ι (put ι nx (some (.blk w.heap.size c sz))) (· < nx) :=
    ⟨fun b hb => ⟨hb, hblk b (hC.lt b hb)⟩, fun id p hid h => by rw [put_id _ _ (by first | omega | (dsimp only; omega) | (dsimp only at *; omega))]; exact h⟩
  refine ⟨⟨hC.frame.trans (Frame.of_below (D := E.D) ((Below.refl _ _).alloc (Nat.le_refl _) _)) (fun _ _ h => h), hC.sub, fun b hb => by have := hC.lt b hb; simp; omega, ?_, ?_, ?_, ?_, ?_, fun id p h => ?_, hC.fxs⟩, hL⟩
  · rintro b hb ⟨id, c', s', h⟩
    by_cases hid : id = nx
    · subst hid
      rw [put_same] at h
      simp at h
      have := hC.lt b hb
      omega
    · rw [put_ne _ _ hid] at h; exact hC.dis b hb ⟨id, c', s', h⟩
  · intro id g c' s' h
    by_cases hid : id = nx
    · subst hid
      rw [put_same] at h
      simp at h
      obtain ⟨rfl, _⟩ := h
      exact ⟨by simp, .inl hC.frame.size⟩
    · rw [put_ne _ _ hid] at h
      have := hC.own id g c' s' h
      exact ⟨by simp; omega, this.2⟩
  · intro i j g c' d' s' r' hi hj
    by_cases h1 : i = nx <;> by_cases h2 : j = nx
    · exact h1.trans h2.symm
    · subst h1
      rw [put_same] at hi
      rw [put_ne _ _ h2] at hj
      simp at hi
      have := (hC.own j g _ _ hj).1
      omega
    · subst h2
      rw [put_same] at hj
      rw [put_ne _ _ h1] at hi
      simp at hj
      have := (hC.own i g _ _ hi).1
      omega
    · rw [put_ne _ _ h1] at hi
      rw [put_ne _ _ h2] at hj
      exact hC.inj i j g _ _ _ _ hi hj
  · intro id hid
    rw [put_id _ _ (by first | omega | (dsimp only; omega) | (dsimp only at *; omega))]
    exact hC.new id (by omega)
  · intro id o' h
    rw [look_cons] at h
    split at h
    · rename_i e
      subst e
      simp at h
      subst h
      exact ⟨by omega, hu, ho⟩
    · have ⟨h1, h2, h3⟩ := hC.obj id o' h
      refine ⟨by omega, ?_, h3.mono hL h1 h2 (fun _ k q hk hq => by rw [put_id _ _ (by rw [hk]; exact Nat.ne_of_lt h1)]; exact hq) (fun k g c' s' _ hg => hblk g (hC.own k g c' s' hg).1)⟩
      cases o' with
      | box cs => exact fun c hc i hi => Nat.lt_succ_of_lt (h2 c hc i hi)
      | list e s rows => trivial
      | map ks rows => trivial
      | ranged => trivial
      | clo f fs cs => exact ⟨fun c hc i hi => Nat.lt_succ_of_lt (h2.1 c hc i hi), fun c hc i hi => Nat.lt_succ_of_lt (h2.2 c hc i hi)⟩
      | nest e s rows => exact fun h0 c hc i hi => Nat.lt_succ_of_lt (h2 h0 c hc i hi)
  · have h' := hC.stay id p h
    by_cases hid : id = nx
    · subst hid; rw [hC.new _ (Nat.le_refl _)] at h'; cases h'
    · rw [put_id _ _ hid]; exact h'

theorem run_newRow (P : Program) (w : World) (t : TypeId) (cs : Array Value) : (newRow t cs).run P w = .ok ⟨w.heap.size, 0, none⟩ (w.alloc (.cells cs t)) := by
  rfl

theorem exec_value {P : Program} {r : Sem Value} {v : Value} {w w' : World} (h : r.run P w = .ok v w') : (do pure (Next.value (← r)) : Sem Next).run P w = .ok (.value v) w' := by
  simp [Sem.run_bind, h, Result.andThen_ok]

theorem box_good (hC : Core E ι S s.hp s.nx w) {v : Value} {cs : List AV} (h : All2 (CRel w S ι) v.cells.toList cs) (hu : ∀ c ∈ cs, ∀ id, c.idOf = some id → id < s.nx) (T : TypeId) {r : Sem Value}
    (hr : r.run E.P w = .ok (.pointer (some ⟨w.heap.size, 0, none⟩)) (w.alloc (.cells v.cells T))) :
    Good E s ((do pure (Next.value (← r)) : Sem Next).run E.P w) w ι S (.pt s.nx 0 0) ((s.nx, .box cs) :: s.hp) (s.nx + 1) := by
  have e : v.cells = v.cells.toList.toArray := by simp
  rw [e] at hr
  have hL : Later w (w.alloc (.cells v.cells.toList.toArray T)) S S ι (put ι s.nx (some (.blk w.heap.size 0 0))) (· < s.nx) :=
    ⟨fun b hb => ⟨hb, Below.heap_alloc _ _ _ (hC.lt b hb)⟩, fun id p hid h => by rw [put_id _ _ (by first | omega | (dsimp only; omega) | (dsimp only at *; omega))]; exact h⟩
  have ho : ObjOk (w.alloc (.cells v.cells.toList.toArray T)) S (put ι s.nx (some (.blk w.heap.size 0 0))) s.nx (.box cs) :=
    .box w.heap.size 0 0 T cs v.cells.toList (put_same _ _ _) rfl (heap_alloc_new w _) (All2.of h.length fun i x y hx hy => (h.at hx hy).mono hL (hu y (List.mem_of_getElem? hy)))
  have := hC.alloc (c := 0) (sz := 0) ho (fun c hc id hi => Nat.lt_succ_of_lt (hu c hc id hi))
  refine ⟨_, _, _, S, exec_value hr, this.1, Nat.le_succ _, this.2, .one (.cell ?_), Nat.lt_succ_self _⟩
  have := CRel.pt (w := w.alloc (.cells v.cells.toList.toArray T)) (S := S) (ι := put ι s.nx (some (.blk w.heap.size 0 0))) s.nx 0 0 w.heap.size 0 0 (put_same _ _ _)
  simpa using this

theorem zeros_rel {ti : TI} {P : Program} {t : TypeId} {i : TypeInfo} {d : TypeDesc} (h : TyOk P t ti i d) : All2 (CRel w S ι) ti.zero (zeroA ti) := by
  refine All2.of (by simp [zeroA]) fun i x y hx hy => ?_
  simp [zeroA] at hy
  obtain ⟨u, hu, rfl⟩ := hy
  rw [hx] at hu; simp at hu; subst hu
  exact .rd (.val _ (h.zone _ (List.mem_of_getElem? hx)))
theorem zeros_uses {ti : TI} {K : Nat → Prop} : ∀ c ∈ zeroA ti, ∀ id, c.idOf = some id → K id := by
  intro c hc id hi; simp [zeroA] at hc; obtain ⟨u, _, rfl⟩ := hc; simp [AV.idOf] at hi

def SR.Sound (E : Env) (s : St) (f : (Operand → Value) → Sem Next) : SR → Prop
  | .no => True
  | .ok av => ∀ (a : Act) (w : World) (ι : Loc) (S : Nat → Prop), Core E ι S s.hp s.nx w → TmOk ι S s.tm E.nt s.nx w a.tmps → Good E s ((f a.eval).run E.P w) w ι S av s.hp s.nx
  | .cond p av => p → ∀ (a : Act) (w : World) (ι : Loc) (S : Nat → Prop), Core E ι S s.hp s.nx w → TmOk ι S s.tm E.nt s.nx w a.tmps → Good E s ((f a.eval).run E.P w) w ι S av s.hp s.nx
  | .newP o => ∀ (a : Act) (w : World) (ι : Loc) (S : Nat → Prop), Core E ι S s.hp s.nx w → TmOk ι S s.tm E.nt s.nx w a.tmps → Good E s ((f a.eval).run E.P w) w ι S (.pt s.nx 0 0) ((s.nx, o) :: s.hp) (s.nx + 1)
  | .newM o => ∀ (a : Act) (w : World) (ι : Loc) (S : Nat → Prop), Core E ι S s.hp s.nx w → TmOk ι S s.tm E.nt s.nx w a.tmps → Good E s ((f a.eval).run E.P w) w ι S (.mp s.nx) ((s.nx, o) :: s.hp) (s.nx + 1)
  | .newC o => ∀ (a : Act) (w : World) (ι : Loc) (S : Nat → Prop), Core E ι S s.hp s.nx w → TmOk ι S s.tm E.nt s.nx w a.tmps → Good E s ((f a.eval).run E.P w) w ι S (.clo s.nx) ((s.nx, o) :: s.hp) (s.nx + 1)
  | .each id ks left => ∀ (a : Act) (w : World) (ι : Loc) (S : Nat → Prop), Core E ι S s.hp s.nx w → TmOk ι S s.tm E.nt s.nx w a.tmps →
      (left = [] ∧ Good E s ((f a.eval).run E.P w) w ι S (.tup [.val (.bool false)]) s.hp s.nx) ∨
      ∃ (j : Nat) (h : j < left.length), Good E s ((f a.eval).run E.P w) w ι S (.tup [.val (.bool true), .agg (kvA ks left[j].1), left[j].2]) ((id, .ranged ks (some left[j]) (left.eraseIdx j)) :: s.hp) s.nx
  | .newL0 len o => ∀ (a : Act) (w : World) (ι : Loc) (S : Nat → Prop), Core E ι S s.hp s.nx w → TmOk ι S s.tm E.nt s.nx w a.tmps →
      ∃ v w' ι' S', (f a.eval).run E.P w = .ok (.value v) w' ∧ Core E ι' S' ((s.nx, o) :: s.hp) (s.nx + 1) w' ∧ Later w w' S S' ι ι' (· < s.nx) ∧ VRel w' S' ι' v (.own s.nx len) ∧ (∀ g c z, ι' s.nx = some (.blk g c z) → w.heap.size ≤ g) ∧ ∀ e sz rows, o = .list e sz rows → len ≤ rows.length
  | .newL p len o => p → ∀ (a : Act) (w : World) (ι : Loc) (S : Nat → Prop), Core E ι S s.hp s.nx w → TmOk ι S s.tm E.nt s.nx w a.tmps → Good E s ((f a.eval).run E.P w) w ι S (.own s.nx len) ((s.nx, o) :: s.hp) (s.nx + 1)
  | .kill p id av o => p → E.fix id = none → ∀ (a : Act) (w : World) (ι : Loc) (S : Nat → Prop), Core E ι S s.hp s.nx w → TmOk ι S s.tm E.nt s.nx w a.tmps →
      ∃ v w' ι' S', (f a.eval).run E.P w = .ok (.value v) w' ∧ Core E ι' S' ((id, o) :: killH [id] s.hp) s.nx w' ∧ Later w w' S S' ι ι' (fun i => i < s.nx ∧ memB i [id] = false) ∧ VRel w' S' ι' v av ∧ av.uses (· < s.nx)
  | .setB id o => ∀ (a : Act) (w : World) (ι : Loc) (S : Nat → Prop), Core E ι S s.hp s.nx w → TmOk ι S s.tm E.nt s.nx w a.tmps →
      ∃ w' ι' S', (f a.eval).run E.P w = .ok .skip w' ∧ Core E ι' S' ((id, o) :: s.hp) s.nx w' ∧ s.nx ≤ s.nx ∧ Later w w' S S' ι ι' (· < s.nx)
  | .set p id o => p → ∀ (a : Act) (w : World) (ι : Loc) (S : Nat → Prop), Core E ι S s.hp s.nx w → TmOk ι S s.tm E.nt s.nx w a.tmps →
      ∃ w' ι' S', (f a.eval).run E.P w = .ok .skip w' ∧ Core E ι' S' ((id, o) :: s.hp) s.nx w' ∧ s.nx ≤ s.nx ∧ Later w w' S S' ι ι' (· < s.nx)
  | .setV p id av o => p → ∀ (a : Act) (w : World) (ι : Loc) (S : Nat → Prop), Core E ι S s.hp s.nx w → TmOk ι S s.tm E.nt s.nx w a.tmps → Good E s ((f a.eval).run E.P w) w ι S av ((id, o) :: s.hp) s.nx
  | .call n args => ∀ (a : Act) (w : World) (ι : Loc) (S : Nat → Prop), Core E ι S s.hp s.nx w → TmOk ι S s.tm E.nt s.nx w a.tmps →
      ∃ vs : List Value, (f a.eval).run E.P w = (callFunc n vs.toArray).run E.P w ∧ All2 (VRel w S ι) vs args ∧ ∀ x ∈ args, x.uses (· < s.nx)
  | .pick b x y => ∀ (a : Act) (w : World) (ι : Loc) (S : Nat → Prop), TmOk ι S s.tm E.nt s.nx w a.tmps → (f a.eval).run E.P w = .ok (.value (if b then a.eval x else a.eval y)) w

theorem moveA_sound (x : Operand) : (moveA s x).Sound E s (fun ρ => pure (.value (ρ x))) := by
  unfold moveA
  cases h : opnd s.tm x with
  | none => trivial
  | some v =>
    intro a w ι S hC hT
    have := opnd_rel hT h
    exact Good.same hC rfl this.1 this.2

theorem allocA_sound (hT : TabOk E.P tt) (t : TypeId) : (allocA tt s t).Sound E s (fun _ => do pure (.value (← Instr.alloc t true (.tuple #[])))) := by
  unfold allocA
  cases h : look tt t with
  | none => trivial
  | some ti =>
    simp only [forceL_eq]
    intro a w ι S hC hTm
    obtain ⟨i, d, hk⟩ := hT t ti h
    obtain ⟨z, hz, hzc⟩ := hk.zero
    refine box_good (v := z) (T := t) hC (by rw [hzc]; exact zeros_rel hk) zeros_uses ?_
    simp [Instr.alloc, zeroValue, typeInfo, hk.info, hz, newVar, run_newRow]

theorem boxA_sound (t : TypeId) (x : Operand) : (boxA s x).Sound E s (fun ρ => do pure (.value (← Instr.box t (ρ x)))) := by
  unfold boxA
  cases h : opnd s.tm x with
  | none => trivial
  | some v =>
    by_cases ht : ∃ vs, v = .tup vs
    · obtain ⟨vs, rfl⟩ := ht; trivial
    · have ht' : ∀ vs, v ≠ .tup vs := fun vs e => ht ⟨vs, e⟩
      have : ∀ (a : Act) (w : World) (ι : Loc) (S : Nat → Prop), Core E ι S s.hp s.nx w → TmOk ι S s.tm E.nt s.nx w a.tmps → Good E s ((do pure (.value (← Instr.box t (a.eval x))) : Sem Next).run E.P w) w ι S (.pt s.nx 0 0) ((s.nx, .box v.cells) :: s.hp) (s.nx + 1) := by
        intro a w ι S hC hTm
        have := opnd_rel hTm h
        exact box_good (v := a.eval x) (T := t) hC (this.1.cells_rel (opnd_junk h) ht') (uses_cells this.2 ht') (by simp [Instr.box, newVar, run_newRow])
      cases v with
      | tup vs => trivial
      | _ => simp only [forceL_eq]; exact this

end Go.Am
