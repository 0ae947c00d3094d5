/-
  FROM THE READING TO A STATEMENT: what a law's reading says of the call.
-/
import Derived.Deep.Slices
import Derived.WalkKit
import Derived.OwnWalk
import Derived.Test.YtdnanpokaanhdaaDoorP1
namespace Go.Proofs.YtdnanpokaanhdaaDoor
open Go Go.Am Go.RowKit Go.ChangeShapes Go.WideShapes Go.ChangeAt
set_option linter.unusedVariables false

/-- What the row's step hands over of a slice of integers. -/
def IsRow (k : IntKind) (w : World) (a : Option Addr) (len cap : Nat) (zs : List Int) : Prop :=
  (a = none ∧ len = 0 ∧ cap = 0 ∧ zs = []) ∨
  ∃ x, a = some x ∧ len ≤ cap ∧ cap ≤ maxLen ∧ zs.length = cap ∧ (∀ i, i < zs.length → w.cell? (x.add i) = some (.int k (zs.getD i 0))) ∧ ∀ n ∈ zs, (Lit.int k n).wf = true

/-- A slice of integers that can be read. -/
def Sl (k : IntKind) (w : World) (v : Value) (zs : List Int) : Prop :=
  ∃ a cap, v = .slice a zs.length cap ∧ zs.length ≤ cap ∧ cap ≤ maxLen ∧
    (0 < zs.length → ∃ b off, a = some ⟨b, off, none⟩ ∧ ∀ i, i < zs.length → w.cell? ⟨b, off + i, none⟩ = some (.int k (zs.getD i 0))) ∧ ∀ n ∈ zs, (Lit.int k n).wf = true

theorem Sl.nil (k : IntKind) (w : World) : Sl k w (.slice none 0 0) [] := ⟨none, 0, rfl, Nat.le_refl _, by unfold maxLen; omega, fun h => by simp at h, fun n hn => by simp at hn⟩

theorem Sl.of_row {k : IntKind} {w : World} {a : Option Addr} {len cap : Nat} {zs : List Int} (h : IsRow k w a len cap zs) : Sl k w (.slice a len cap) (zs.take len) := by
  rcases h with ⟨rfl, rfl, rfl, rfl⟩ | ⟨x, rfl, hl, hm, hz, hc, hw⟩
  · exact Sl.nil k w
  · have hlen : (zs.take len).length = len := by rw [List.length_take]; omega
    refine ⟨some x, cap, by rw [hlen], by omega, hm, fun h0 => ?_, fun n hn => hw n (List.mem_of_mem_take hn)⟩
    rw [hlen] at h0 ⊢
    obtain ⟨b, off, spot⟩ := x
    have hs := hc 0 (by omega)
    have hspot : spot = none := by simpa [Addr.add] using World.cell?_spot hs
    subst hspot
    refine ⟨b, off, rfl, fun i hi => ?_⟩
    have := hc i (by omega)
    have e : (⟨b, off, none⟩ : Addr).add i = ⟨b, off + i, none⟩ := by
      simp only [Addr.add]; split <;> simp_all
    rw [e] at this
    rw [this]
    simp [List.getD_eq_getElem?_getD, List.getElem?_take, hi]

theorem core_start {P : Program} (w : World) (A : Nat → Prop) (hA : ∀ b, A b → b < w.heap.size) : Core ⟨P, w, Mut (fun _ => none), A, 0, fun _ => none, [0]⟩ (fun _ => none) A [] 0 w := by
  refine ⟨Frame.refl _ _, fun b hb => .inl hb, hA, ?_, ?_, ?_, fun _ _ => rfl, ?_, ?_, ⟨fun _ _ => rfl, fun e => by cases e⟩⟩
  · rintro b _ ⟨id, c, s, h⟩; cases h
  · intro id g c s h; cases h
  · intro i j g c d s r h; cases h
  · intro id o h; cases (show (none : Option AObj) = some o from h)
  · intro id p h; cases h
/-- A law that its reading says to be true. -/
theorem law_calls {P : Program} {f : FuncId} {args : List AV} {w : World} {Q : AV → Hp → Nat → Prop} (h : Ret P f args [] 0 true Q) (hQ : ∀ r ho m, Q r ho m → r = bv true) (A : Nat → Prop) (hA : ∀ b, A b → b < w.heap.size) (vs : List Value) (hv : All2 (VRel w A (fun _ => none)) vs args) (hu : ∀ x ∈ args, x.uses (inH [])) :
    Calls P f vs.toArray w fun e w' => e = .returned (.bool true) ∧ Below w.heap.size w w' := by
  refine (h.calls w (fun _ => none) A vs (core_start w A hA) (fun _ _ => rfl) hv hu (fun id o h => by cases (show (none : Option AObj) = some o from h))).mono ?_
  rintro e w' ⟨v, r, ho, m, ι', S', rfl, hq, _, hC, _, hr, _⟩
  have := hQ r ho m hq
  subst this
  have := hr.val_inv.1
  subst this
  refine ⟨rfl, hC.frame.os, hC.frame.tape, hC.frame.output, hC.frame.size, fun k hk => hC.frame.block k hk ?_⟩
  rintro ⟨id, c, s, e⟩; cases e
theorem flat1 {α β : Type} (g : α → β) : ∀ (zs : List α), (zs.map fun z => [g z]).flatten = zs.map g
  | [] => rfl
  | x :: r => by rw [List.map_cons, List.flatten_cons, flat1 g r]; rfl
/-- A slice of integers, as it is read. -/
theorem Sl.rd {k : IntKind} {w : World} {v : Value} {zs : List Int} (h : Sl k w v zs) : Rd w (fun b => b < w.heap.size) v (.lst (zs.map fun z => [.val (.int k z)])) := by
  obtain ⟨a, cap, rfl, hl, hm, hne, _⟩ := h
  by_cases h0 : zs = []
  · subst h0; exact .nil _ _ hm
  · have hp : 0 < zs.length := List.length_pos_iff.2 h0
    obtain ⟨b, off, rfl, hc⟩ := hne hp
    have hb : b < w.heap.size := World.block_lt_of_cell? _ _ (hc 0 hp)
    have := Rd.lst (w := w) (S := fun b => b < w.heap.size) (zs.map fun z => [AV.val (.int k z)]) b off cap 1 (zs.map fun z => Value.int k z) (by simpa using h0) (by simpa using hl) hm hb (fun r hr => row1 hr) (by simp)
      (fun i v hi => by
        simp only [List.getElem?_map, Option.map_eq_some_iff] at hi
        obtain ⟨z, hz, rfl⟩ := hi
        have hlt : i < zs.length := (List.getElem?_eq_some_iff.1 hz).1
        rw [hc i hlt]
        simp [List.getD_eq_getElem?_getD, hz])
      (fun i v a hi ha => by
        have hf := flat1 (fun z => AV.val (.int k z)) zs
        rw [hf] at ha
        simp only [List.getElem?_map, Option.map_eq_some_iff] at hi ha
        obtain ⟨z, hz, rfl⟩ := hi
        obtain ⟨z', hz', rfl⟩ := ha
        rw [hz] at hz'; cases hz'
        exact .val _ rfl)
    rw [List.length_map] at this
    exact this
theorem Sl.vr {k : IntKind} {w : World} {v : Value} {zs : List Int} (h : Sl k w v zs) : VRel w (fun b => b < w.heap.size) (fun _ => none) v (.lst (zs.map fun z => [.val (.int k z)])) := .one (.cell (.rd h.rd))
theorem u8_all {w : World} {v : Value} {zs : List Int} (h : Sl .u8 w v zs) : ∀ z ∈ zs, isU8 z := by
  obtain ⟨_, _, _, _, _, _, hw⟩ := h
  intro z hz
  have := hw z hz
  unfold isU8
  simpa [Lit.wf, IntKind.min, IntKind.max, IntKind.signed, IntKind.bits] using this
theorem uses_none {args : List AV} {K : Nat → Prop} (h : noIds args = true) : ∀ x ∈ args, x.uses K := by
  induction args with
  | nil => intro x hx; cases hx
  | cons a r ih =>
    simp only [noIds, Bool.and_eq_true, Bool.not_eq_true'] at h
    intro x hx
    rcases List.mem_cons.1 hx with rfl | hx
    · cases x with
      | tup vs => simp [AV.isTup] at h
      | agg cs => intro c hc id hid; have := idsC_id (List.all_eq_true.1 h.1.1 c hc) id hid; simp [memB] at this
      | own i len => simp [idsA, idsC, memB] at h
      | pt i r o => simp [idsA, idsC, memB] at h
      | sb i r o l => simp [idsA, idsC, memB] at h
      | mp i => simp [idsA, idsC, memB] at h
      | clo i => simp [idsA, idsC, memB] at h
      | _ => trivial
    · exact ih h.2 x hx
theorem int_vr {w : World} {A : Nat → Prop} (n : Int) : VRel w A (fun _ => none) (.int .i64 n) (iv n) := .one (.cell (.rd (.val _ rfl)))
end Go.Proofs.YtdnanpokaanhdaaDoor
/-
  WHAT CAME IN, AS IT IS READ: integers, slices, structs, one within another.
-/
namespace Go.Proofs.YtdnanpokaanhdaaDoor
open Go Go.Am Go.RowKit Go.ChangeShapes Go.WideShapes Go.ChangeAt Go.Deep
set_option linter.unusedVariables false
section
variable {H : Type} {enc : TypeId × Value → H} {P : Program} {w : World} {base : Nat} {sp : Nat → Bool} {held : Bool}
abbrev Old (w : World) : Nat → Prop := fun b => b < w.heap.size
/-- What the claim's step hands over of a value of a type can be read so. -/
def Reads (enc : TypeId × Value → H) (P : Program) (w : World) (base : Nat) (sp : Nat → Bool) (held : Bool) (t : TypeId) (Z : List AV → Prop) : Prop :=
  ∀ fuel cs x, DataW.trod enc P w base sp held fuel t cs = some x → ∃ us, Z us ∧ All2 (Rd w (Old w)) cs us
theorem Reads.mono {t : TypeId} {Z Z' : List AV → Prop} (h : ∀ us, Z us → Z' us) (hr : Reads enc P w base sp held t Z) : Reads enc P w base sp held t Z' := fun fuel cs x hx => let ⟨us, h1, h2⟩ := hr fuel cs x hx; ⟨us, h us h1, h2⟩
theorem reads_int {t : TypeId} {k : IntKind} (ht : P.underlying t = some (.int k)) : Reads enc P w base sp held t fun us => ∃ z, us = [.val (.int k z)] ∧ (Lit.int k z).wf = true := by
  intro fuel cs x h
  obtain ⟨n, rfl, _, hw⟩ := DataW.trod_int ht h
  exact ⟨[.val (.int k n)], ⟨n, rfl, hw⟩, .val _ rfl, trivial⟩
theorem reads_bool {t : TypeId} (ht : P.underlying t = some .bool) : Reads enc P w base sp held t fun us => ∃ b, us = [.val (.bool b)] := by
  intro fuel cs x h
  obtain ⟨n, rfl, _⟩ := DataW.trod_bool ht h
  exact ⟨[.val (.bool n)], ⟨n, rfl⟩, .val _ rfl, trivial⟩
def offsB (P : Program) : Nat → List Field → Nat → Bool
  | o, [], e => Nat.beq o e
  | o, f :: r, e => Nat.beq f.offset o && offsB P (o + P.cellsOf f.type) r e
theorem struct_parts {fuel : Nat} {cs : List Value} : ∀ (l : List Field) (o : Nat) (Zs : List (List AV → Prop)),
    (∀ f ∈ l, ∃ y, DataW.trod enc P w base sp held fuel f.type ((cs.drop f.offset).take (P.cellsOf f.type)) = some y) → offsB P o l cs.length = true → All2 (fun (f : Field) (Z : List AV → Prop) => Reads enc P w base sp held f.type Z) l Zs →
    ∃ parts : List (List AV), All2 (fun (Z : List AV → Prop) p => Z p) Zs parts ∧ All2 (Rd w (Old w)) (cs.drop o) parts.flatten
  | [], o, [], hx, ho, hz => by
    have : o = cs.length := Nat.eq_of_beq_eq_true ho
    subst this
    exact ⟨[], trivial, by simp [All2]⟩
  | f :: r, o, Z :: Zs, hx, ho, hz => by
    simp only [offsB, Bool.and_eq_true] at ho
    have hoff : f.offset = o := Nat.eq_of_beq_eq_true ho.1
    obtain ⟨y, hy⟩ := hx f (List.mem_cons_self ..)
    have hz1 : Reads enc P w base sp held f.type Z := hz.1
    obtain ⟨p, hp1, hp2⟩ := hz1 fuel _ y hy
    obtain ⟨parts, h1, h2⟩ := struct_parts r (o + P.cellsOf f.type) Zs (fun g hg => hx g (List.mem_cons_of_mem _ hg)) ho.2 hz.2
    refine ⟨p :: parts, ⟨hp1, h1⟩, ?_⟩
    rw [List.flatten_cons]
    have e : cs.drop o = (cs.drop o).take (P.cellsOf f.type) ++ cs.drop (o + P.cellsOf f.type) := by
      rw [← List.drop_drop, List.take_append_drop]
    rw [e]
    rw [hoff] at hp2
    exact All2.append hp2 h2
  | [], _, _ :: _, _, _, hz => hz.elim
  | _ :: _, _, [], _, _, hz => hz.elim
theorem reads_struct {t : TypeId} {fs : Array Field} (ht : P.underlying t = some (.struct fs)) (Zs : List (List AV → Prop)) (ho : offsB P 0 fs.toList (P.cellsOf t) = true) (hz : All2 (fun (f : Field) (Z : List AV → Prop) => Reads enc P w base sp held f.type Z) fs.toList Zs) :
    Reads enc P w base sp held t fun us => ∃ parts : List (List AV), All2 (fun (Z : List AV → Prop) p => Z p) Zs parts ∧ us = parts.flatten := by
  intro fuel cs x h
  obtain ⟨xs, n, _, _, hl, hn, hm⟩ := DataW.trod_struct ht h
  obtain ⟨parts, h1, h2⟩ := struct_parts (fuel := n) (cs := cs) fs.toList 0 Zs (fun f hf => by
    obtain ⟨i, hi⟩ := List.mem_iff_getElem?.1 hf
    have hi' : fs[i]? = some f := by simpa using hi
    have hlt : i < xs.length := by rw [hn]; exact (Array.getElem?_eq_some_iff.1 hi').1
    exact ⟨xs[i], by rw [hm i f hi', List.getElem?_eq_getElem hlt]⟩) (by rw [hl]; exact ho) hz
  exact ⟨parts.flatten, ⟨parts, h1, rfl⟩, by simpa using h2⟩
theorem flatten_get {α : Type} {s : Nat} (hs : 0 < s) (rows : List (List α)) (hr : ∀ r ∈ rows, r.length = s) (i : Nat) (v : α) (h : rows.flatten[i]? = some v) : i / s < rows.length ∧ (rows.getD (i / s) [])[i % s]? = some v := by
  have hlt := (List.getElem?_eq_some_iff.1 h).1
  rw [flatten_length rows hr] at hlt
  have hd : i / s < rows.length := (Nat.div_lt_iff_lt_mul hs).2 hlt
  refine ⟨hd, ?_⟩
  rw [← flatten_row rows (i / s) hr hd, List.getElem?_take, if_pos (Nat.mod_lt _ hs), List.getElem?_drop]
  rw [show i / s * s + i % s = i from by rw [Nat.mul_comm]; exact Nat.div_add_mod i s]
  exact h
theorem reads_slice {t e : TypeId} {Z : List AV → Prop} (ht : P.underlying t = some (.slice e)) (hs : 0 < P.cellsOf e) (hrow : Reads enc P w base sp held e Z) :
    Reads enc P w base sp held t fun us => ∃ rows : List (List AV), us = [.lst rows] ∧ rows.length ≤ maxLen ∧ ∀ r ∈ rows, Z r := by
  intro fuel cs x h
  rcases open_slice ht h with ⟨rfl, _⟩ | ⟨a, len, cap, m, n, D, Pl, rfl, hb, hl, hm, hmm, _, hx⟩
  · exact ⟨[.lst []], ⟨[], rfl, Nat.zero_le _, by simp⟩, .nil _ _ (Nat.zero_le _), trivial⟩
  · have hlm : len ≤ m := by rw [hmm]; split <;> omega
    by_cases h0 : len = 0
    · subst h0
      exact ⟨[.lst []], ⟨[], rfl, Nat.zero_le _, by simp⟩, .nil _ _ hm, trivial⟩
    · have each : ∀ i, i < len → ∃ y : List Value × List AV, (w.cells? base (a.add (i * P.cellsOf e)) (P.cellsOf e) = some y.1) ∧ Z y.2 ∧ All2 (Rd w (Old w)) y.1 y.2 := by
        intro i hi
        obtain ⟨cs', h1, h2⟩ := hx i (by omega)
        obtain ⟨us, h3, h4⟩ := hrow _ _ _ h2
        exact ⟨(cs', us), h1, h3, h4⟩
      obtain ⟨y, hy⟩ := choose_lt each
      have hlen : ∀ i, i < len → (y i).1.length = P.cellsOf e ∧ (y i).2.length = P.cellsOf e := fun i hi => by
        have h1 := (World.cells?_some (hy i hi).1).2.1
        exact ⟨h1, by rw [← (hy i hi).2.2.length]; exact h1⟩
      have hcell : ∀ i, i < len → ∀ j, j < P.cellsOf e → w.cell? (a.add (i * P.cellsOf e + j)) = (y i).1[j]? := fun i hi j hj => by
        have h1 := (World.cells?_some (hy i hi).1).2.2 j hj
        rw [← h1]
        rw [Addr.add_add]
      obtain ⟨b, off, spot⟩ := a
      have hspot : spot = none := by
        have := hcell 0 (by omega) 0 hs
        have hlt : 0 < (y 0).1.length := by rw [(hlen 0 (by omega)).1]; exact hs
        rw [List.getElem?_eq_getElem hlt] at this
        simpa [Addr.add] using World.cell?_spot this
      subst hspot
      have hadd : ∀ k, (⟨b, off, none⟩ : Addr).add k = ⟨b, off + k, none⟩ := fun k => by
        simp only [Addr.add]; split <;> simp_all
      have hblk : b < w.heap.size := by
        have := hcell 0 (by omega) 0 hs
        have hlt : 0 < (y 0).1.length := by rw [(hlen 0 (by omega)).1]; exact hs
        rw [List.getElem?_eq_getElem hlt, hadd] at this
        exact World.block_lt_of_cell? _ _ this
      have hr1 : ∀ r ∈ (List.range len).map (fun i => (y i).2), r.length = P.cellsOf e := by
        intro r hr
        obtain ⟨i, hi, rfl⟩ := List.mem_map.1 hr
        exact (hlen i (List.mem_range.1 hi)).2
      have hr2 : ∀ r ∈ (List.range len).map (fun i => (y i).1), r.length = P.cellsOf e := by
        intro r hr
        obtain ⟨i, hi, rfl⟩ := List.mem_map.1 hr
        exact (hlen i (List.mem_range.1 hi)).1
      have hgd : ∀ {α : Type} (g : Nat → List α) (k : Nat), k < len → ((List.range len).map g).getD k [] = g k := fun g k hk => by simp [List.getD_eq_getElem?_getD, hk]
      refine ⟨[.lst ((List.range len).map fun i => (y i).2)], ⟨_, rfl, by simp; omega, fun r hr => ?_⟩, ?_, trivial⟩
      · obtain ⟨i, hi, rfl⟩ := List.mem_map.1 hr
        exact (hy i (List.mem_range.1 hi)).2.1
      · have := Rd.lst (w := w) (S := Old w) ((List.range len).map fun i => (y i).2) b off cap (P.cellsOf e) ((List.range len).map fun i => (y i).1).flatten (fun e' => by
            have := congrArg List.length e'; simp at this; omega) (by simpa using hl) hm hblk hr1 (by rw [flatten_length _ hr2]; simp)
          (fun i v hi => by
            obtain ⟨k1, k2⟩ := flatten_get hs _ hr2 i v hi
            have k1' : i / P.cellsOf e < len := by simpa using k1
            rw [hgd _ _ k1'] at k2
            have := hcell (i / P.cellsOf e) k1' (i % P.cellsOf e) (Nat.mod_lt _ hs)
            rw [show i / P.cellsOf e * P.cellsOf e + i % P.cellsOf e = i from by rw [Nat.mul_comm]; exact Nat.div_add_mod i _, hadd] at this
            rw [this]; exact k2)
          (fun i v av hi ha => by
            obtain ⟨k1, k2⟩ := flatten_get hs _ hr2 i v hi
            obtain ⟨_, k3⟩ := flatten_get hs _ hr1 i av ha
            have k1' : i / P.cellsOf e < len := by simpa using k1
            rw [hgd _ _ k1'] at k2 k3
            exact ((hy _ k1').2.2).at k2 k3)
        rw [List.length_map, List.length_range] at this
        exact this
theorem rows_of {α : Type} {f : α → List AV} {Q : α → Prop} {rows : List (List AV)} (h : ∀ r ∈ rows, ∃ x, r = f x ∧ Q x) : ∃ xs : List α, rows = xs.map f ∧ (∀ x ∈ xs, Q x) ∧ xs.length = rows.length := by
  induction rows with
  | nil => exact ⟨[], rfl, by simp, rfl⟩
  | cons r rs ih =>
    obtain ⟨x, hx, hq⟩ := h r (List.mem_cons_self ..)
    obtain ⟨xs, h1, h2, h3⟩ := ih fun r hr => h r (List.mem_cons_of_mem _ hr)
    exact ⟨x :: xs, by rw [List.map_cons, hx, h1], fun y hy => by
      rcases List.mem_cons.1 hy with rfl | hy
      · exact hq
      · exact h2 y hy, by simp [h3]⟩
/-- A slice of integers. -/
theorem reads_ints {t e : TypeId} {k : IntKind} (ht : P.underlying t = some (.slice e)) (he : P.underlying e = some (.int k)) (hc : P.cellsOf e = 1) : Reads enc P w base sp held t fun us => ∃ zs : List Int, us = [.lst (zs.map fun z => [.val (.int k z)])] ∧ zs.length ≤ maxLen ∧ ∀ z ∈ zs, (Lit.int k z).wf = true :=
  (reads_slice ht (by rw [hc]; decide) (reads_int he)).mono fun us ⟨rows, h1, h2, h3⟩ => by
    obtain ⟨zs, g1, g2, g3⟩ := rows_of (f := fun z : Int => [AV.val (.int k z)]) h3
    exact ⟨zs, by rw [h1, g1], by omega, g2⟩
/-- An integer that came in. -/
theorem int_came {z : Int} {d : DataW H} {ps : List MemPlace} (h : DataW.Trod enc Tryd.prog w base sp held 2 (.int .i64 z) d ps) : ∃ x : Int, VRel w (fun b => b < w.heap.size) (fun _ => none) (.int .i64 z) (iv x) := ⟨z, .one (.cell (.rd (.val _ rfl)))⟩
theorem info_i64 : Tryd.prog.underlying 2 = some (.int .i64) := by kernel_rfl
theorem wf_i64 {z : Int} (h : (Lit.int .i64 z).wf = true) : isI64 z := by
  unfold isI64
  simpa [Lit.wf, IntKind.min, IntKind.max, IntKind.signed, IntKind.bits] using h
theorem i64_came {z : Int} {d : DataW H} {ps : List MemPlace} (h : DataW.Trod enc Tryd.prog w base sp held 2 (.int .i64 z) d ps) : ∃ x : Int, isI64 x ∧ VRel w (fun b => b < w.heap.size) (fun _ => none) (.int .i64 z) (iv x) := by
  obtain ⟨fuel, hf⟩ := h
  obtain ⟨n, he, _, hw⟩ := DataW.trod_int info_i64 hf
  simp [Value.cells] at he
  subst he
  exact ⟨z, wf_i64 hw, .one (.cell (.rd (.val _ rfl)))⟩
end
end Go.Proofs.YtdnanpokaanhdaaDoor
