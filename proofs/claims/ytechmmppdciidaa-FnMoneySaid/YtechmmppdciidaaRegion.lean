/-
  STEPS THROUGH A REGION THAT DRAWS ITS ORDER: an operation that runs, one that its guard strikes, a call that alone may come up.
-/
import Derived.WalkKit
import Derived.Deep.RegionHeld3
namespace Go.Proofs.Ytechmmppdciidaa
set_option linter.unusedVariables false
/-- Cells that hold what they hold. -/
def Held (w : World) : List (Addr × Value) → Prop
  | [] => True
  | (p, v) :: r => w.cell? p = some v ∧ Held w r
theorem Held.same {w w' : World} (hb : Go.RowKit.Below w.heap.size w w') : ∀ {l : List (Addr × Value)}, Held w l → Held w' l
  | [], _ => trivial
  | (p, v) :: r, h => ⟨(hb.cell (World.block_lt_of_cell? _ _ h.1)).trans h.1, Held.same hb h.2⟩
theorem Held.alloc {w : World} {l : List (Addr × Value)} (h : Held w l) (o : Obj) : Held (w.alloc o) l := Held.same ((Go.RowKit.Below.refl _ _).alloc (Nat.le_refl _) _) h
theorem Held.box2 {w : World} {l : List (Addr × Value)} (h : Held w l) {n : Nat} (hn : n = w.heap.size) (a b : Value) (t : TypeId) : Held (w.alloc (.cells #[a, b] t)) ((⟨n, 0, none⟩, a) :: (⟨n, 1, none⟩, b) :: l) :=
  ⟨by rw [World.cell?_alloc_at (hn := hn)]; rfl, by rw [World.cell?_alloc_at (hn := hn)]; rfl, h.alloc _⟩
theorem Held.drew {w : World} {l : List (Addr × Value)} (h : Held w l) : Held w.drew l := Held.same (Go.RowKit.Below.drew (Go.RowKit.Below.refl _ _)) h

/-- The frame behind a step, laid out. -/
theorem lay : (∀ (a : Act) (d : Tmp) (v : Value), a.put (some d) v = { a with tmps := a.tmps.setIfInBounds d v }) ∧ (∀ (l : List Value) (i : Nat) (v : Value), l.toArray.setIfInBounds i v = (l.set i v).toArray) ∧
    (∀ (x v : Value) (l : List Value), (x :: l).set 0 v = v :: l) ∧ (∀ (x v : Value) (l : List Value) (i : Nat), (x :: l).set (i + 1) v = x :: l.set i v) :=
  ⟨fun _ _ _ => rfl, fun _ _ _ => List.setIfInBounds_toArray .., fun _ _ _ => rfl, fun _ _ _ _ => rfl⟩

def getOp : List Oper → Nat → Option Oper
  | [], _ => none
  | o :: _, 0 => some o
  | _ :: r, i + 1 => getOp r i
theorem getOp_eq : ∀ (l : List Oper) (i : Nat), getOp l i = l[i]?
  | [], _ => rfl
  | _ :: _, 0 => rfl
  | _ :: r, i + 1 => by rw [getOp, List.getElem?_cons_succ, getOp_eq r i]
/-- Number i may be taken first. -/
def okTake (md : Region.Mode) (ops : Array Oper) (listed : Array Bool) (i : Nat) : Bool := Region.noSelect ops && Region.free md ops listed i && (Region.ready md ops listed).contains i
section
variable {P : Program} {ops : Array Oper} {Q : Exit → Act → World → Prop} {md : Region.Mode} {S : World → Prop}
theorem atOp {i : Nat} {oi : Oper} (hi : getOp ops.toList i = some oi) : ops[i]? = some oi := by rw [getOp_eq] at hi; simpa using hi
theorem takeH (i : Nat) {oi : Oper} {v : Value} {fuel : Nat} {listed : Array Bool} {a : Act} {w : World} (hi : getOp ops.toList i = some oi) (hk : okTake md ops listed i = true)
    (hw : Region.wanted oi (yielded ops a.tmps) = true) (hy : ∀ w, S w → (execOp a.eval oi).run P w = .ok (.value v) w) (hS : S w)
    (h : wpAnyH P md ops (NoPanic Q) S fuel (listed.setIfInBounds i true) (a.put oi.dst v) w) : wpAnyH P md ops (NoPanic Q) S (fuel + 1) listed a w := by
  simp only [okTake, Bool.and_eq_true] at hk
  exact wpAnyH_take (atOp hi) hk.1.1 hk.1.2 hk.2 (fun _ _ _ h => h) (Or.inl ⟨hw, hy⟩) hS h
theorem skipH (i : Nat) {oi : Oper} {fuel : Nat} {listed : Array Bool} {a : Act} {w : World} (hi : getOp ops.toList i = some oi) (hk : okTake md ops listed i = true)
    (hw : Region.wanted oi (yielded ops a.tmps) = false) (hS : S w)
    (h : wpAnyH P md ops (NoPanic Q) S fuel (listed.setIfInBounds i true) (a.put oi.dst undef) w) : wpAnyH P md ops (NoPanic Q) S (fuel + 1) listed a w := by
  simp only [okTake, Bool.and_eq_true] at hk
  exact wpAnyH_take (atOp hi) hk.1.1 hk.1.2 hk.2 (fun _ _ _ h => h) (Or.inr ⟨hw, rfl⟩) hS h
/-- The call number i alone may come up. -/
theorem callH (i : Nat) {o : Oper} {fuel : Nat} {listed : Array Bool} {a : Act} {w : World} (ho : getOp ops.toList i = some o) (hr : Region.ready md ops listed = [i]) (hw : Region.wanted o (yielded ops a.tmps) = true)
    (h : ∀ K' : Act → World → Prop, Shut (∀ a w, S w → (S w → wpAnyH P md ops (NoPanic Q) S fuel (listed.setIfInBounds i true) a w) → K' a w) → Oper.wp P o a w K' (NoPanic Q)) : wpAnyH P md ops (NoPanic Q) S (fuel + 1) listed a w :=
  wpAnyH_ready hr (by simp) (AllReadyH.cons (atOp ho) (fun K' hK => by rw [if_pos hw]; exact h K' hK) AllReadyH.nil)
end
end Go.Proofs.Ytechmmppdciidaa
