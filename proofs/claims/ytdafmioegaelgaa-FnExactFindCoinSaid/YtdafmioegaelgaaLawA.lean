/-
  FROM THE READING TO A STATEMENT: what a law's reading says of the call.
-/
import Derived.WalkKit
import Derived.OwnWalk
import Derived.Test.YtdafmioegaelgaaP2
namespace Go.Proofs.Ytdafmioegaelgaa
open Go Go.Am Go.RowKit Go.ChangeShapes Go.WideShapes Go.ChangeAt
set_option linter.unusedVariables false

/-- What the row's step hands over of a slice of integers. -/
def IsRow (k : IntKind) (w : World) (a : Option Addr) (len cap : Nat) (zs : List Int) : Prop :=
  (a = none ∧ len = 0 ∧ cap = 0 ∧ zs = []) ∨
  ∃ x, a = some x ∧ len ≤ cap ∧ cap ≤ maxLen ∧ zs.length = cap ∧ (∀ i, i < zs.length → w.cell? (x.add i) = some (.int k (zs.getD i 0))) ∧ ∀ n ∈ zs, (Lit.int k n).wf = true

/-- A slice of integers that can be read. -/
def Sl (k : IntKind) (w : World) (v : Value) (zs : List Int) : Prop :=
  ∃ a cap, v = .slice a zs.length cap ∧ zs.length ≤ cap ∧ cap ≤ maxLen ∧
    (0 < zs.length → ∃ b off, a = some ⟨b, off, none⟩ ∧ ∀ i, i < zs.length → w.cell? ⟨b, off + i, none⟩ = some (.int k (zs.getD i 0))) ∧ ∀ n ∈ zs, (Lit.int k n).wf = true

theorem Sl.nil (k : IntKind) (w : World) : Sl k w (.slice none 0 0) [] := ⟨none, 0, rfl, Nat.le_refl _, by unfold maxLen; omega, fun h => by simp at h, fun n hn => by simp at hn⟩

theorem Sl.of_row {k : IntKind} {w : World} {a : Option Addr} {len cap : Nat} {zs : List Int} (h : IsRow k w a len cap zs) : Sl k w (.slice a len cap) (zs.take len) := by
  rcases h with ⟨rfl, rfl, rfl, rfl⟩ | ⟨x, rfl, hl, hm, hz, hc, hw⟩
  · exact Sl.nil k w
  · have hlen : (zs.take len).length = len := by rw [List.length_take]; omega
    refine ⟨some x, cap, by rw [hlen], by omega, hm, fun h0 => ?_, fun n hn => hw n (List.mem_of_mem_take hn)⟩
    rw [hlen] at h0 ⊢
    obtain ⟨b, off, spot⟩ := x
    have hs := hc 0 (by omega)
    have hspot : spot = none := by simpa [Addr.add] using World.cell?_spot hs
    subst hspot
    refine ⟨b, off, rfl, fun i hi => ?_⟩
    have := hc i (by omega)
    have e : (⟨b, off, none⟩ : Addr).add i = ⟨b, off + i, none⟩ := by
      simp only [Addr.add]; split <;> simp_all
    rw [e] at this
    rw [this]
    simp [List.getD_eq_getElem?_getD, List.getElem?_take, hi]

theorem core_start {P : Program} (w : World) (A : Nat → Prop) (hA : ∀ b, A b → b < w.heap.size) : Core ⟨P, w, Mut (fun _ => none), A, 0, fun _ => none, [0]⟩ (fun _ => none) A [] 0 w := by
  refine ⟨Frame.refl _ _, fun b hb => .inl hb, hA, ?_, ?_, ?_, fun _ _ => rfl, ?_, ?_, ⟨fun _ _ => rfl, fun e => by cases e⟩⟩
  · rintro b _ ⟨id, c, s, h⟩; cases h
  · intro id g c s h; cases h
  · intro i j g c d s r h; cases h
  · intro id o h; cases (show (none : Option AObj) = some o from h)
  · intro id p h; cases h
/-- A law that its reading says to be true. -/
theorem law_calls {P : Program} {f : FuncId} {args : List AV} {w : World} {Q : AV → Hp → Nat → Prop} (h : Ret P f args [] 0 true Q) (hQ : ∀ r ho m, Q r ho m → r = bv true) (A : Nat → Prop) (hA : ∀ b, A b → b < w.heap.size) (vs : List Value) (hv : All2 (VRel w A (fun _ => none)) vs args) (hu : ∀ x ∈ args, x.uses (inH [])) :
    Calls P f vs.toArray w fun e w' => e = .returned (.bool true) ∧ Below w.heap.size w w' := by
  refine (h.calls w (fun _ => none) A vs (core_start w A hA) (fun _ _ => rfl) hv hu (fun id o h => by cases (show (none : Option AObj) = some o from h))).mono ?_
  rintro e w' ⟨v, r, ho, m, ι', S', rfl, hq, _, hC, _, hr, _⟩
  have := hQ r ho m hq
  subst this
  have := hr.val_inv.1
  subst this
  refine ⟨rfl, hC.frame.os, hC.frame.tape, hC.frame.output, hC.frame.size, fun k hk => hC.frame.block k hk ?_⟩
  rintro ⟨id, c, s, e⟩; cases e
theorem flat1 {α β : Type} (g : α → β) : ∀ (zs : List α), (zs.map fun z => [g z]).flatten = zs.map g
  | [] => rfl
  | x :: r => by rw [List.map_cons, List.flatten_cons, flat1 g r]; rfl
/-- A slice of integers, as it is read. -/
theorem Sl.rd {k : IntKind} {w : World} {v : Value} {zs : List Int} (h : Sl k w v zs) : Rd w (fun b => b < w.heap.size) v (.lst (zs.map fun z => [.val (.int k z)])) := by
  obtain ⟨a, cap, rfl, hl, hm, hne, _⟩ := h
  by_cases h0 : zs = []
  · subst h0; exact .nil _ _ hm
  · have hp : 0 < zs.length := List.length_pos_iff.2 h0
    obtain ⟨b, off, rfl, hc⟩ := hne hp
    have hb : b < w.heap.size := World.block_lt_of_cell? _ _ (hc 0 hp)
    have := Rd.lst (w := w) (S := fun b => b < w.heap.size) (zs.map fun z => [AV.val (.int k z)]) b off cap 1 (zs.map fun z => Value.int k z) (by simpa using h0) (by simpa using hl) hm hb (fun r hr => row1 hr) (by simp)
      (fun i v hi => by
        simp only [List.getElem?_map, Option.map_eq_some_iff] at hi
        obtain ⟨z, hz, rfl⟩ := hi
        have hlt : i < zs.length := (List.getElem?_eq_some_iff.1 hz).1
        rw [hc i hlt]
        simp [List.getD_eq_getElem?_getD, hz])
      (fun i v a hi ha => by
        have hf := flat1 (fun z => AV.val (.int k z)) zs
        rw [hf] at ha
        simp only [List.getElem?_map, Option.map_eq_some_iff] at hi ha
        obtain ⟨z, hz, rfl⟩ := hi
        obtain ⟨z', hz', rfl⟩ := ha
        rw [hz] at hz'; cases hz'
        exact .val _ rfl)
    rw [List.length_map] at this
    exact this
theorem Sl.vr {k : IntKind} {w : World} {v : Value} {zs : List Int} (h : Sl k w v zs) : VRel w (fun b => b < w.heap.size) (fun _ => none) v (.lst (zs.map fun z => [.val (.int k z)])) := .one (.cell (.rd h.rd))
theorem u8_all {w : World} {v : Value} {zs : List Int} (h : Sl .u8 w v zs) : ∀ z ∈ zs, isU8 z := by
  obtain ⟨_, _, _, _, _, _, hw⟩ := h
  intro z hz
  have := hw z hz
  unfold isU8
  simpa [Lit.wf, IntKind.min, IntKind.max, IntKind.signed, IntKind.bits] using this
theorem uses_none {args : List AV} {K : Nat → Prop} (h : noIds args = true) : ∀ x ∈ args, x.uses K := by
  induction args with
  | nil => intro x hx; cases hx
  | cons a r ih =>
    simp only [noIds, Bool.and_eq_true, Bool.not_eq_true'] at h
    intro x hx
    rcases List.mem_cons.1 hx with rfl | hx
    · cases x with
      | tup vs => simp [AV.isTup] at h
      | agg cs => intro c hc id hid; have := idsC_id (List.all_eq_true.1 h.1.1 c hc) id hid; simp [memB] at this
      | own i len => simp [idsA, idsC, memB] at h
      | pt i r o => simp [idsA, idsC, memB] at h
      | sb i r o l => simp [idsA, idsC, memB] at h
      | mp i => simp [idsA, idsC, memB] at h
      | _ => trivial
    · exact ih h.2 x hx
theorem int_vr {w : World} {A : Nat → Prop} (n : Int) : VRel w A (fun _ => none) (.int .i64 n) (iv n) := .one (.cell (.rd (.val _ rfl)))
end Go.Proofs.Ytdafmioegaelgaa
