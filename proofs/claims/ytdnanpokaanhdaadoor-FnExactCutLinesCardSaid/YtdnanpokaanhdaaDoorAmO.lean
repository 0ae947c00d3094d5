/-
  OWN LISTS OF OWN LISTS: an inner list is given a number of its own.
-/
import Derived.Test.YtdnanpokaanhdaaDoorAmN
namespace Go.Am
open Go.RowKit
set_option linter.unusedVariables false
set_option linter.unusedSimpArgs false
theorem Tr.lift {w : World} {S : Nat → Prop} {ι ι' : Loc} (C : Key → Prop) (hC : ∀ (k : Key) x, C k → C ⟨k.id, k.path ++ [x]⟩) (hι : ∀ (k : Key) p, C k → ι k = some p → ι' k = some p) {k : Key} {v : Value} {a : AV} (hk : C k) (h : Tr w S ι k v a) : Tr w S ι' k v a := by
  induction h with
  | rd h => exact .rd h
  | nil k e s hs => exact .nil k e s hs
  | tree k g cap e s rows vs h hs hr hl hm hw hn hc ih =>
    exact .tree k g cap e s rows vs (hι k _ hk h) hs hr hl hm hw hn fun i v a hv ha => ih i v a hv ha (hC k i hk)
/-- The keys below a place move to a number of their own. -/
theorem Tr.move {w : World} {S : Nat → Prop} {ι ι' : Loc} {i n : Nat} {pre pre' : List Nat} (hι : ∀ (q : List Nat) p, ι ⟨i, pre ++ q⟩ = some p → ι' ⟨n, pre' ++ q⟩ = some p) {k : Key} {v : Value} {a : AV} (h : Tr w S ι k v a) : ∀ q, k = ⟨i, pre ++ q⟩ → Tr w S ι' ⟨n, pre' ++ q⟩ v a := by
  induction h with
  | rd h => exact fun q e => .rd h
  | nil k e s hs => exact fun q e' => .nil _ e s hs
  | tree k g cap e s rows vs h hs hr hl hm hw hn hc ih =>
    rintro q rfl
    refine .tree _ g cap e s rows vs (hι q _ h) hs hr hl hm hw hn fun x v a hv ha => ?_
    have := ih x v a hv ha (q ++ [x]) (by simp)
    simpa using this
/-- Below place p of object i. -/
def below (i p : Nat) (k : Key) : Bool := Nat.beq k.id i && (match k.path with | [] => false | x :: _ => Nat.beq x p)
theorem below_iff {i p : Nat} {k : Key} : below i p k = true ↔ ∃ q, k = ⟨i, p :: q⟩ := by
  obtain ⟨id, path⟩ := k
  cases path with
  | nil => simp [below]
  | cons x q =>
    simp only [below, Bool.and_eq_true]
    constructor
    · rintro ⟨h1, h2⟩
      obtain rfl := Nat.eq_of_beq_eq_true h1
      obtain rfl := Nat.eq_of_beq_eq_true h2
      exact ⟨q, rfl⟩
    · rintro ⟨_, h⟩
      simp only [Key.mk.injEq, List.cons.injEq] at h
      obtain ⟨rfl, rfl, _⟩ := h
      exact ⟨Nat.beq_refl _, Nat.beq_refl _⟩
def unfL (ι : Loc) (i p n : Nat) (ιn : List Nat → Option Pl) : Loc := fun k => if k.id = n then ιn k.path else if below i p k = true then none else ι k
theorem Core.unf {E : Env} {ι : Loc} {S : Nat → Prop} {hp : Hp} {nx : Nat} {w : World} {i p : Nat} {ιn : List Nat → Option Pl} {o o' on : AObj} (hC : Core E ι S hp nx w) (hl : look hp i = some o)
    (hn : ∀ q g c z, ιn q = some (.blk g c z) → ι ⟨i, p :: q⟩ = some (.blk g c z)) (hu : o'.uses (· < nx + 1)) (hun : on.uses (· < nx + 1)) (ho : ObjOk w S (unfL ι i p nx ιn) i o') (hon : ObjOk w S (unfL ι i p nx ιn) nx on) :
    Core E (unfL ι i p nx ιn) S ((i, o') :: (nx, on) :: hp) (nx + 1) w ∧ Later w w S S ι (unfL ι i p nx ιn) (· < nx) := by
  have hi : i < nx := (hC.obj i o hl).1
  have blk : ∀ (k : Key) g c z, unfL ι i p nx ιn k = some (.blk g c z) → (k.id = nx ∧ ι ⟨i, p :: k.path⟩ = some (.blk g c z)) ∨ (k.id ≠ nx ∧ below i p k = false ∧ ι k = some (.blk g c z)) := by
    intro k g c z h
    simp only [unfL] at h
    split at h
    · rename_i e; exact .inl ⟨e, hn _ _ _ _ h⟩
    · rename_i e
      split at h
      · cases h
      · rename_i e2; exact .inr ⟨e, by simpa using e2, h⟩
  have blk1 : ∀ (k : Key) g c z, unfL ι i p nx ιn k = some (.blk g c z) → ∃ k' : Key, ι k' = some (.blk g c z) := fun k g c z h => (blk k g c z h).elim (fun h => ⟨_, h.2⟩) (fun h => ⟨_, h.2.2⟩)
  have keep : ∀ (k : Key) q, k.id < nx → below i p k = false → ι k = some q → unfL ι i p nx ιn k = some q := by
    intro k q h1 h2 h3
    simp only [unfL]
    rw [if_neg (by omega), if_neg (by simp [h2])]; exact h3
  have root : ∀ id, below i p ⟨id, []⟩ = false := fun id => by simp [below]
  have other : ∀ k : Key, k.id ≠ i → below i p k = false := fun k hk => by
    cases hb : below i p k with
    | false => rfl
    | true => obtain ⟨q, rfl⟩ := below_iff.1 hb; exact absurd rfl hk
  have hL : Later w w S S ι (unfL ι i p nx ιn) (· < nx) := ⟨fun b hb => ⟨hb, rfl⟩, fun id q h1 h2 => keep _ q h1 (root id) h2⟩
  refine ⟨⟨hC.frame, hC.sub, hC.lt, ?_, ?_, ?_, ?_, ?_, ?_, hC.fxs⟩, hL⟩
  · rintro b hb ⟨k, c, z, h⟩
    obtain ⟨k', h'⟩ := blk1 k _ _ _ h
    exact hC.dis b hb ⟨k', c, z, h'⟩
  · intro k g c z h
    obtain ⟨k', h'⟩ := blk1 k _ _ _ h
    exact hC.own k' g c z h'
  · intro k l g c d z r h1 h2
    rcases blk k _ _ _ h1 with ⟨e1, h1⟩ | ⟨e1, f1, h1⟩ <;> rcases blk l _ _ _ h2 with ⟨e2, h2⟩ | ⟨e2, f2, h2⟩
    · have := hC.inj _ _ g _ _ _ _ h1 h2
      obtain ⟨a1, b1⟩ := k
      obtain ⟨a2, b2⟩ := l
      simp only [Key.mk.injEq, List.cons.injEq, true_and] at this e1 e2 ⊢
      exact ⟨e1.trans e2.symm, this⟩
    · have := hC.inj _ _ g _ _ _ _ h1 h2
      rw [below_iff.2 ⟨_, this.symm⟩] at f2; cases f2
    · have := hC.inj _ _ g _ _ _ _ h1 h2
      rw [below_iff.2 ⟨_, this⟩] at f1; cases f1
    · exact hC.inj k l g _ _ _ _ h1 h2
  · intro k hk
    have hk' : nx + 1 ≤ k.id := hk
    simp only [unfL]
    rw [if_neg (by omega), if_neg (by rw [other k (by omega)]; simp)]
    exact hC.new k (by show nx ≤ k.id; omega)
  · intro j ob h
    rw [look_cons] at h
    split at h
    · rename_i e; subst e
      simp only [Option.some.injEq] at h; subst h
      exact ⟨by omega, hu, ho⟩
    · rename_i e
      rw [look_cons] at h
      split at h
      · rename_i e2; subst e2
        simp only [Option.some.injEq] at h; subst h
        exact ⟨Nat.lt_succ_self _, hun, hon⟩
      · obtain ⟨g1, g2, g3⟩ := hC.obj j ob h
        exact ⟨Nat.lt_succ_of_lt g1, AObj.uses_mono (fun x (hx : x < nx) => Nat.lt_succ_of_lt hx) g2, g3.mono hL g1 g2 (fun _ k q hk hq => keep k q (by rw [hk]; exact g1) (other k (by rw [hk]; exact fun e' => e e'.symm)) hq) fun _ _ _ _ _ _ => rfl⟩
  · intro k q h
    have h' := hC.stay k q h
    have hlt : k < nx := by
      rcases Nat.lt_or_ge k nx with h2 | h2
      · exact h2
      · rw [hC.new ⟨k, []⟩ h2] at h'; cases h'
    exact keep ⟨k, []⟩ q hlt (root k) h'
theorem unfL_keep {ι : Loc} {i p nx : Nat} {ιn : List Nat → Option Pl} {k : Key} {q : Pl} (h1 : k.id < nx) (h2 : below i p k = false) (h3 : ι k = some q) : unfL ι i p nx ιn k = some q := by
  simp only [unfL]
  rw [if_neg (by omega), if_neg (by simp [h2])]; exact h3
theorem below_root (i p id : Nat) : below i p ⟨id, []⟩ = false := by simp [below]
theorem unfL_later {w : World} {S : Nat → Prop} {ι : Loc} {i p nx : Nat} {ιn : List Nat → Option Pl} : Later w w S S ι (unfL ι i p nx ιn) (· < nx) := ⟨fun b hb => ⟨hb, rfl⟩, fun id q h1 h2 => unfL_keep h1 (below_root i p id) h2⟩
/-- An inner list is given a number of its own: its cell then names it. -/
theorem Weak.unfold {fx : List Nat} {tm : List (Nat × AV)} {hp : Hp} {nx : Nat} {b : Bool} (i e s p e2 s2 : Nat) (rows rows' rows2 : List (List AV)) (hl : look hp i = some (.nest (c := b) e s rows)) (hq : rows.flatten[p]? = some (.tree e2 s2 rows2))
    (hf : rows'.flatten = rows.flatten.set p (.own nx rows2.length)) (hn : rows'.length = rows.length) (hr : ∀ r ∈ rows', r.length = s) :
    Weak fx ⟨tm, hp, nx⟩ ⟨tm, (i, .nest (c := false) e s rows') :: (nx, .nest (c := true) e2 s2 rows2) :: hp, nx + 1⟩ := by
  rintro E a w rfl ⟨hsz, hd, ι, S, hC, hTm⟩
  obtain ⟨hi0, hu0, hob⟩ := hC.obj i _ hl
  have hi : i < nx := hi0
  have hu : ∀ c ∈ rows.flatten, ∀ id, c.idOf = some id → id < nx := nest_uses hu0 hob
  cases hob with
  | nest0 => simp at hq
  | nest g cap _ _ _ vs h hs hr0 hle hm hw hlen hc =>
    have hplt : p < rows.flatten.length := (List.getElem?_eq_some_iff.1 hq).1
    have hmul : rows.length * s ≤ cap * s := Nat.mul_le_mul_right _ hle
    have hpv : p < vs.length := by rw [hlen]; rw [flatten_lenW hr0] at hplt; omega
    obtain ⟨v0, hv⟩ : ∃ v0, vs[p]? = some v0 := ⟨_, List.getElem?_eq_getElem hpv⟩
    have main : ∀ ιn : List Nat → Option Pl, (∀ q g c z, ιn q = some (.blk g c z) → ι ⟨i, p :: q⟩ = some (.blk g c z)) → CRel w S (unfL ι i p nx ιn) v0 (.own nx rows2.length) → (∀ c ∈ rows2.flatten, c.idOf = none) → ObjOk w S (unfL ι i p nx ιn) nx (.nest (c := true) e2 s2 rows2) →
        Rel E ⟨tm, (i, .nest (c := false) e s rows') :: (nx, .nest (c := true) e2 s2 rows2) :: hp, nx + 1⟩ a w := by
      intro ιn h1 h2 h3 h4
      have hL : Later w w S S ι (unfL ι i p nx ιn) (· < nx) := unfL_later
      obtain ⟨hC', _⟩ := hC.unf (p := p) (ιn := ιn) (o' := .nest (c := false) e s rows') (on := .nest (c := true) e2 s2 rows2) hl h1 (by
          intro _ c hcm id hid
          rw [hf] at hcm
          rcases List.mem_or_eq_of_mem_set hcm with hx | rfl
          · exact Nat.lt_succ_of_lt (hu c hx id hid)
          · simp only [AV.idOf, Option.some.injEq] at hid; subst hid; exact Nat.lt_succ_self _) (fun h0 => by cases h0) (by
          refine .nest g cap e s rows' vs (unfL_keep hi (below_root i p i) h) hs hr (by omega) hm hw hlen fun j v c hv' hcc => ?_
          rw [hf, List.getElem?_set] at hcc
          split at hcc
          · rename_i e'
            subst e'
            simp only [Option.some.injEq] at hcc
            subst hcc
            rw [hv] at hv'
            simp only [Option.some.injEq] at hv'
            subst hv'
            exact .inl ⟨rfl, h2⟩
          · rename_i e'
            rcases hc j v c hv' hcc with ⟨_, hx⟩ | hx
            · exact .inl ⟨rfl, hx.mono hL fun id hid => hu c (List.mem_of_getElem? hcc) id hid⟩
            · refine .inr (hx.lift (fun k => ∃ q, k = ⟨i, j :: q⟩) (fun k x ⟨q, hk⟩ => ⟨q ++ [x], by rw [hk]; rfl⟩) (fun k q ⟨r, hk⟩ h => unfL_keep (by rw [hk]; exact hi) ?_ h) ⟨[], rfl⟩)
              cases hb : below i p k with
              | false => rfl
              | true =>
                obtain ⟨q', hq'⟩ := below_iff.1 hb
                rw [hk] at hq'
                simp only [Key.mk.injEq, List.cons.injEq, true_and] at hq'
                exact absurd hq'.1.symm e') h4
      exact ⟨hsz, hd, _, S, hC', ⟨fun t v hv => let ⟨a1, a2, a3⟩ := hTm.tm t v hv; ⟨a1, AV.uses_mono (fun x (hx : x < nx) => Nat.lt_succ_of_lt hx) a2, a3.mono hL a2⟩⟩⟩
    rcases hc p _ _ hv hq with ⟨_, hx⟩ | hx
    · exfalso
      cases hx with
      | rd hx => cases hx
    · cases hx with
      | rd hx => cases hx
      | nil _ _ _ hs2 =>
        have hz : unfL ι i p nx (fun q => match q with | [] => some .nil | _ => none) ⟨nx, []⟩ = some .nil := by simp [unfL]
        refine main (fun q => match q with | [] => some .nil | _ => none) (fun q g c z hh => ?_) (.own0 nx hz) (fun c hc => by simp at hc) (.nest0 e2 s2 hz hs2)
        cases q <;> simp at hh
      | tree _ g2 cap2 _ _ _ vs2 h2 hs2 hr2 hle2 hm2 hw2 hlen2 hc2 =>
        have hz : unfL ι i p nx (fun q => ι ⟨i, p :: q⟩) ⟨nx, []⟩ = some (.blk g2 cap2 s2) := by simp only [unfL, if_true]; exact h2
        refine main (fun q => ι ⟨i, p :: q⟩) (fun q g c z hh => hh) (.own nx _ g2 cap2 s2 hz hle2 hm2) (fun c hcm => ?_) (.nest g2 cap2 e2 s2 rows2 vs2 hz hs2 hr2 hle2 hm2 hw2 hlen2 fun j v c hv' hcc => .inr ?_)
        · obtain ⟨k, hk⟩ := List.mem_iff_getElem?.1 hcm
          have hlt : k < rows2.flatten.length := (List.getElem?_eq_some_iff.1 hk).1
          have hmul2 : rows2.length * s2 ≤ cap2 * s2 := Nat.mul_le_mul_right _ hle2
          have hlv : k < vs2.length := by rw [hlen2]; rw [flatten_lenW hr2] at hlt; omega
          exact (hc2 k _ c (List.getElem?_eq_getElem hlv) hk).noId
        · exact (hc2 j v c hv' hcc).move (i := i) (n := nx) (pre := [p]) (pre' := []) (fun q pl hh => by simp only [unfL, if_true, List.nil_append]; exact hh) [j] rfl
def fol (ι : Loc) (i p n : Nat) : Loc := fun k => if below i p k = true then ι ⟨n, k.path.tail⟩ else if k.id = n then none else ι k
theorem fol_keep {ι : Loc} {i p n : Nat} {k : Key} {q : Pl} (h1 : k.id ≠ n) (h2 : below i p k = false) (h3 : ι k = some q) : fol ι i p n k = some q := by
  simp only [fol]
  rw [if_neg (by simp [h2]), if_neg h1]; exact h3
theorem fol_in {ι : Loc} {i p n : Nat} (q : List Nat) : fol ι i p n ⟨i, p :: q⟩ = ι ⟨n, q⟩ := by
  simp only [fol]
  rw [if_pos (below_iff.2 ⟨q, rfl⟩)]; rfl
/-- An own list that only a cell names becomes an inner list of that cell. -/
theorem Weak.fold {fx : List Nat} {tm tm' : List (Nat × AV)} {hp hp' : Hp} {nx : Nat} {b1 b2 : Bool} (i e s p n e2 s2 : Nat) (rows rows' rows2 : List (List AV)) (hfn : memB n fx = false) (hni : n ≠ i) (hl : look hp i = some (.nest (c := b1) e s rows)) (hln : look hp n = some (.nest (c := b2) e2 s2 rows2))
    (hq : rows.flatten[p]? = some (.own n rows2.length)) (hf : rows'.flatten = rows.flatten.set p (.tree e2 s2 rows2)) (hn : rows'.length = rows.length) (hr : ∀ r ∈ rows', r.length = s) (hin : ∀ c ∈ rows2.flatten, inB c = true)
    (hone : ∀ c ∈ rows'.flatten, c.idOf ≠ some n) (ht : ∀ t v, look tm' t = some v → look tm t = some v ∧ v.uses (· ≠ n)) (hh : ∀ j o, look hp' j = some o → look hp j = some o ∧ j ≠ n ∧ o.uses (· ≠ n)) :
    Weak fx ⟨tm, hp, nx⟩ ⟨tm', (i, .nest (c := false) e s rows') :: hp', nx⟩ := by
  rintro E a w rfl ⟨hsz, hd, ι, S, hC, hTm⟩
  obtain ⟨hi0, hu0, hob⟩ := hC.obj i _ hl
  have hi : i < nx := hi0
  have hu : ∀ c ∈ rows.flatten, ∀ id, c.idOf = some id → id < nx := nest_uses hu0 hob
  obtain ⟨hnn0, hun0, hobn⟩ := hC.obj n _ hln
  have other : ∀ k : Key, k.id ≠ i → below i p k = false := fun k hk => by
    cases hb : below i p k with
    | false => rfl
    | true => obtain ⟨q, rfl⟩ := below_iff.1 hb; exact absurd rfl hk
  have hL : Later w w S S ι (fol ι i p n) (fun id => id < nx ∧ id ≠ n) := ⟨fun b hb => ⟨hb, rfl⟩, fun id q h1 h2 => fol_keep h1.2 (below_root i p id) h2⟩
  have src : ∀ (k : Key) q, fol ι i p n k = some q → (∃ r, k = ⟨i, p :: r⟩ ∧ ι ⟨n, r⟩ = some q) ∨ (below i p k = false ∧ k.id ≠ n ∧ ι k = some q) := by
    intro k q h
    cases hb : below i p k with
    | true => obtain ⟨r, rfl⟩ := below_iff.1 hb; rw [fol_in] at h; exact .inl ⟨r, rfl, h⟩
    | false =>
      simp only [fol] at h
      rw [if_neg (by simp [hb])] at h
      split at h
      · cases h
      · rename_i e'; exact .inr ⟨rfl, e', h⟩
  have src1 : ∀ (k : Key) q, fol ι i p n k = some q → ∃ k' : Key, ι k' = some q := fun k q h => (src k q h).elim (fun ⟨_, _, h⟩ => ⟨_, h⟩) (fun h => ⟨_, h.2.2⟩)
  refine ⟨hsz, hd, fol ι i p n, S, ⟨hC.frame, hC.sub, hC.lt, ?_, ?_, ?_, ?_, ?_, ?_, hC.fxs⟩, ⟨fun t v hv => ?_⟩⟩
  · rintro b hb ⟨k, c, z, h⟩
    obtain ⟨k', h'⟩ := src1 k _ h
    exact hC.dis b hb ⟨k', c, z, h'⟩
  · intro k g c z h
    obtain ⟨k', h'⟩ := src1 k _ h
    exact hC.own k' g c z h'
  · intro k l g c d z r h1 h2
    rcases src k _ h1 with ⟨q1, rfl, m1⟩ | ⟨f1, e1, m1⟩ <;> rcases src l _ h2 with ⟨q2, rfl, m2⟩ | ⟨f2, e2, m2⟩
    · have := hC.inj _ _ g _ _ _ _ m1 m2
      simp only [Key.mk.injEq, true_and] at this
      rw [this]
    · have := hC.inj _ _ g _ _ _ _ m1 m2
      exact absurd (by rw [← this]) e2
    · have := hC.inj _ _ g _ _ _ _ m1 m2
      exact absurd (by rw [this]) e1
    · exact hC.inj k l g _ _ _ _ m1 m2
  · intro k hk
    cases hv : fol ι i p n k with
    | none => rfl
    | some q =>
      rcases src k _ hv with ⟨r, rfl, _⟩ | ⟨_, _, h⟩
      · have : nx ≤ i := hk
        omega
      · rw [hC.new k hk] at h; cases h
  · intro j ob h
    rw [look_cons] at h
    split at h
    · rename_i ej; subst ej
      simp only [Option.some.injEq] at h; subst h
      refine ⟨hi, ?_, ?_⟩
      · intro _ c hcm id hid
        rw [hf] at hcm
        rcases List.mem_or_eq_of_mem_set hcm with hx | rfl
        · exact hu c hx id hid
        · simp [AV.idOf] at hid
      · cases hob with
        | nest0 => simp at hq
        | nest g cap _ _ _ vs h hs hr0 hle hm hw hlen hc =>
          refine .nest g cap e s rows' vs (fol_keep (fun e' => hni e'.symm) (below_root i p i) h) hs hr (by omega) hm hw hlen fun j v c hv hcc => ?_
          have hcm := List.mem_of_getElem? hcc
          rw [hf, List.getElem?_set] at hcc
          split at hcc
          · rename_i e'
            subst e'
            split at hcc
            · simp only [Option.some.injEq] at hcc
              subst hcc
              have hcr : CRel w S ι v (.own n rows2.length) := by
                rcases hc p v _ hv hq with ⟨_, hx⟩ | hx
                · exact hx
                · cases hx with | rd hx => cases hx
              right
              cases hobn with
              | nest0 _ _ hz hs2 =>
                cases hcr with
                | rd hx => cases hx
                | own _ _ g3 c3 z3 hg => rw [hz] at hg; cases hg
                | own0 _ hg => exact .nil _ e2 s2 hs2
              | nest g2 cap2 _ _ _ vs2 h2 hs2 hr2 hle2 hm2 hw2 hlen2 hc2 =>
                generalize hlen' : rows2.length = len at hcr
                cases hcr with
                | rd hx => cases hx
                | own0 _ hg => rw [h2] at hg; cases hg
                | own _ _ g3 c3 z3 hg h3 h4 =>
                  rw [h2] at hg
                  simp only [Option.some.injEq, Pl.blk.injEq] at hg
                  obtain ⟨rfl, rfl, rfl⟩ := hg
                  subst hlen'
                  refine .tree _ g2 cap2 e2 s2 rows2 vs2 ((fol_in []).trans h2) hs2 hr2 hle2 hm2 hw2 hlen2 fun x v b hv hb => ?_
                  have := CRel.tr (hc2 x v b hv hb) (hin b (List.mem_of_getElem? hb))
                  exact this.move (i := n) (n := i) (pre := []) (pre' := [p]) (fun q pl hh => by rw [List.singleton_append, fol_in]; exact hh) [x] rfl
            · cases hcc
          · rename_i e'
            rcases hc j v c hv hcc with ⟨_, hx⟩ | hx
            · refine .inl ⟨rfl, ?_⟩
              exact (hx.mono hL fun id hid => ⟨hu c (List.mem_of_getElem? hcc) id hid, fun e2 => hone c hcm (by rw [hid, e2])⟩)
            · refine .inr (hx.lift (fun k => ∃ q, k = ⟨i, j :: q⟩) (fun k x ⟨q, hk⟩ => ⟨q ++ [x], by rw [hk]; rfl⟩) (fun k q ⟨r, hk⟩ h => fol_keep (by rw [hk]; exact fun e' => hni e'.symm) ?_ h) ⟨[], rfl⟩)
              cases hb : below i p k with
              | false => rfl
              | true =>
                obtain ⟨q', hq'⟩ := below_iff.1 hb
                rw [hk] at hq'
                simp only [Key.mk.injEq, List.cons.injEq, true_and] at hq'
                exact absurd hq'.1.symm e'
    · rename_i ej
      obtain ⟨g0, gn, gu⟩ := hh j ob h
      obtain ⟨g1, g2, g3⟩ := hC.obj j ob g0
      have gboth : ob.uses (fun id => id < nx ∧ id ≠ n) := by
        cases ob with
        | box cs => exact fun c hc id hid => ⟨g2 c hc id hid, gu c hc id hid⟩
        | list => trivial
        | map => trivial
        | ranged => trivial
        | clo => exact ⟨fun c hc id hid => ⟨g2.1 c hc id hid, gu.1 c hc id hid⟩, fun c hc id hid => ⟨g2.2 c hc id hid, gu.2 c hc id hid⟩⟩
        | nest e s rows => exact fun h0 c hc id hid => ⟨g2 h0 c hc id hid, gu h0 c hc id hid⟩
      exact ⟨g1, g2, g3.mono hL ⟨g1, gn⟩ gboth (fun _ k q hk hq => fol_keep (by rw [hk]; exact gn) (other k (by rw [hk]; exact fun e' => ej e'.symm)) hq) fun _ _ _ _ _ _ => rfl⟩
  · intro k q h
    have h' := hC.stay k q h
    have hkn : k ≠ n := fun e => by
      rw [hC.fxs.1 ⟨k, []⟩ (by show memB k E.fx = false; rw [e]; exact hfn)] at h; cases h
    exact fol_keep hkn (below_root i p k) h'
  · obtain ⟨k1, k2⟩ := ht t v hv
    obtain ⟨a1, a2, a3⟩ := hTm.tm t v k1
    refine ⟨a1, a2, a3.mono hL ?_⟩
    cases v with
    | agg cs => exact fun c hc id hid => ⟨a2 c hc id hid, k2 c hc id hid⟩
    | tup vs => exact fun c hc => ⟨fun id hid => ⟨(a2 c hc).1 id hid, (k2 c hc).1 id hid⟩, fun cs ec d hd id hid => ⟨(a2 c hc).2 cs ec d hd id hid, (k2 c hc).2 cs ec d hd id hid⟩⟩
    | own id len => exact ⟨a2, k2⟩
    | pt id r o => exact ⟨a2, k2⟩
    | sb id r o l => exact ⟨a2, k2⟩
    | mp id => exact ⟨a2, k2⟩
    | clo id => exact ⟨a2, k2⟩
    | _ => trivial
end Go.Am
