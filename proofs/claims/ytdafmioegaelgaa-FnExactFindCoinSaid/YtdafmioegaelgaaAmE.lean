/-
  WORDS FOR THE WALK, more: arguments of calls, one by one.
-/
import Derived.Test.YtdafmioegaelgaaAmC
namespace Go.Am
open Go.RowKit
set_option linter.unusedVariables false
theorem cvcOwn {hp : Hp} {id e s len : Nat} {rows : List (List AV)} (h : look hp id = some (.list e s rows)) (hl : len = rows.length) : CvC hp [] false (.own id len) (.lst rows) := by
  have := CvC.own (hp := hp) (hi := []) (share := false) id len e s rows h rfl (by omega) rfl
  rwa [List.take_of_length_le (by omega)] at this
theorem cvcSame {hp : Hp} {share : Bool} {a : AV} (h : idsC [] a = true) : CvC hp [] share a a :=
  .refl a (fun id hid => by have := idsC_id h id hid; simp [memB] at this) (.inr (.inr trivial))
theorem cvcNil {hp : Hp} {share : Bool} : CvC hp [] share nl (.lst []) := .nil
def noAgg : AV → Bool
  | .agg _ => false
  | .tup _ => false
  | _ => true
theorem cvOwn {hp : Hp} {id e s len : Nat} {rows : List (List AV)} (h : look hp id = some (.list e s rows)) (hl : len = rows.length) : Cv hp [] false (.own id len) (.lst rows) :=
  .cell (fun _ e => by cases e) (fun _ e => by cases e) (cvcOwn h hl)
theorem cvSame {hp : Hp} {share : Bool} {a : AV} (h : (idsC [] a && noAgg a) = true) : Cv hp [] share a a := by
  simp only [Bool.and_eq_true] at h
  exact .cell (fun _ e => by rw [e] at h; simp [noAgg] at h) (fun _ e => by rw [e] at h; simp [noAgg] at h) (cvcSame h.1)
theorem cvNil {hp : Hp} {share : Bool} : Cv hp [] share nl (.lst []) := .cell (fun _ e => by cases e) (fun _ e => by cases e) .nil
theorem cvBox {hp : Hp} {id : Nat} {cs ds : List AV} (h : look hp id = some (.box cs)) (hc : All2 (CvC hp [] false) cs ds) (hr : ds.all readC = true) : Cv hp [] false (.pt id 0 0) (.rp ds) := .box id cs ds h rfl rfl hc hr
theorem cvAgg {hp : Hp} {share : Bool} {cs ds : List AV} (h : All2 (CvC hp [] share) cs ds) : Cv hp [] share (.agg cs) (.agg ds) := .agg _ _ h
theorem CallP.convA {P : Program} {fx : List Nat} {f : FuncId} {avs : List AV} {tm : List (Nat × AV)} {hp : Hp} {nx : Nat} {dst : Option Nat} {K : St → Prop} {Q : AV → Hp → Nat → Prop} {args : List AV} (hret : Ret P f args [] nx true Q) (hcv : All2 (Cv hp [] false) avs args)
    (h : ∀ r ho m, Q r ho m → (flatV r = true ∧ flatH ho) ∧ K ⟨setD dst r tm, ho ++ hp, m⟩) : CallP P fx f avs ⟨tm, hp, nx⟩ dst K :=
  CallP.plain ⟨args, [], true, false, Q, hcv, fun id o h => by simp [look] at h, hret, fun id h => by simp [killIds, memB] at h, fun r ho m hq => ⟨fun _ => ⟨(h r ho m hq).1.1, flatH_look (h r ho m hq).1.2⟩, (h r ho m hq).2⟩⟩
theorem CallP.convAIs {P : Program} {fx : List Nat} {f : FuncId} {avs : List AV} {tm : List (Nat × AV)} {hp : Hp} {nx : Nat} {dst : Option Nat} {K : St → Prop} {args : List AV} {r : AV} {ho : Hp} {m : Nat} (hret : Ret P f args [] nx true (Is r ho m)) (hcv : All2 (Cv hp [] false) avs args)
    (hf : flatV r = true) (hfh : flatH ho) (h : K ⟨setD dst r tm, ho ++ hp, m⟩) : CallP P fx f avs ⟨tm, hp, nx⟩ dst K :=
  CallP.convA hret hcv (by rintro _ _ _ ⟨rfl, rfl, rfl⟩; exact ⟨⟨hf, hfh⟩, h⟩)
theorem gvOwn {hp : Hp} {gv : List Nat} {id e s len : Nat} {rows : List (List AV)} (h : look hp id = some (.list e s rows)) (h1 : memB id gv = true) (hl : len = rows.length) : Gv hp gv (.own id len) (.lst rows) := by
  have := Gv.own (gv := gv) id len e s rows h h1 (by omega)
  rwa [List.take_of_length_le (by omega)] at this
/-- A call that takes one own list for good. -/
theorem CallP.give1 {P : Program} {fx : List Nat} {f : FuncId} {tm : List (Nat × AV)} {hp : Hp} {nx : Nat} {dst : Option Nat} {K : St → Prop} {Q : AV → Hp → Nat → Prop} (id len e s : Nat) (rows : List (List AV)) (hfx : fx = []) (hl : look hp id = some (.list e s rows)) (hn : len = rows.length) (hret : Ret P f [.lst rows] [] nx true Q)
    (h : ∀ r ho m, Q r ho m → K ⟨setD dst r (killT [id] tm), ho ++ offH [id] (killH [id] hp), m⟩) : CallP P fx f [.own id len] ⟨tm, hp, nx⟩ dst K :=
  ⟨[id], [.lst rows], ⟨hfx, fun i hi => ⟨e, s, rows, by
    rw [memB_cons] at hi
    split at hi
    · rename_i e'; rw [e']; exact hl
    · simp [memB] at hi⟩, gvOwn hl (by rw [memB_cons, if_pos rfl]) hn, trivial⟩, [.lst rows], [], true, true, Q, noIds_cv rfl, fun i o h => by simp [look] at h, hret, fun i h => by simp [killIds, memB] at h, fun r ho m hq => ⟨fun e => (by cases e), _, Forget.refl _, h r ho m hq⟩⟩
theorem CallQ.convAIs {P : Program} {f : FuncId} {avs : List AV} {tm : List (Nat × AV)} {hp : Hp} {nx d : Nat} {K : St → Prop} {args : List AV} {v : AV} {ho : Hp} {m : Nat} (hret : Ret P f args [] nx true (Is v ho m)) (hcv : All2 (Cv hp [] false) avs args)
    (hf : flatV v = true) (hfh : flatH ho) (hk : (Nat.ble nx m && newH nx ho) = true) (h : K ⟨(d, v) :: tm, ho ++ hp, m⟩) : CallQ P f avs ⟨tm, hp, nx⟩ d K := ⟨⟨args, false, v, ho, m, hcv, hret, hk, fun _ => ⟨hf, hfh⟩, h⟩⟩
end Go.Am
