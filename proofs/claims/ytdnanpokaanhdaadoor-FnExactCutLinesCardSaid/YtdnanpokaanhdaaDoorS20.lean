/-
  CHAPTER 8: a text cut at line feeds (strings.Split, l8Cut).
-/
import Derived.WalkKit
import Derived.Lib.Bytealg
import Derived.Lib.IndexLaws
import Derived.Test.YtdnanpokaanhdaaDoorAmZ
import Derived.Test.YtdnanpokaanhdaaDoorS7
import Derived.Test.YtdnanpokaanhdaaDoorS0
import Derived.Test.YtdnanpokaanhdaaDoorS2
namespace Go.Proofs.YtdnanpokaanhdaaDoor
open Go Go.Am Go.RowKit Go.Shelf
attribute [local go_sem] Oper.semAt_some
set_option linter.unusedVariables false
set_option linter.unusedSimpArgs false
/-- What is cut off, and where the next piece begins, behind the first k bytes. -/
def pc (b : ByteArray) : Nat → List ByteArray × Nat
  | 0 => ([], 0)
  | k + 1 => if chB b k = 10 then ((pc b k).1 ++ [cutS b (pc b k).2 k], k + 1) else pc b k
def piecesF (b : ByteArray) : List ByteArray := (pc b b.size).1 ++ [cutS b (pc b b.size).2 b.size]
theorem pc_le (b : ByteArray) : ∀ k, (pc b k).2 ≤ k
  | 0 => Nat.le_refl _
  | k + 1 => by
    rw [pc]
    split
    · exact Nat.le_refl _
    · have := pc_le b k; omega
theorem pc_len (b : ByteArray) : ∀ k, (pc b k).1.length ≤ k
  | 0 => Nat.le_refl _
  | k + 1 => by
    rw [pc]
    have := pc_len b k
    split
    · simp only [List.length_append, List.length_singleton]; omega
    · omega
/-- Where no line feed is, nothing is cut. -/
theorem pc_none (b : ByteArray) (f : Nat) : ∀ m, (∀ i, i < m → chB b (f + i) ≠ 10) → pc b (f + m) = pc b f
  | 0, _ => rfl
  | m + 1, h => by
    rw [← Nat.add_assoc, pc, if_neg (h m (by omega))]
    exact pc_none b f m fun i hi => h i (by omega)
set_option maxRecDepth 100000 in
theorem strCount_ret (b : ByteArray) (c : UInt8) (n : Nat) : Ret Tryd.prog 21 [sv b, sv ⟨#[c]⟩] [] n true (Is (iv (Lib.countByte b.data.toList c : Nat)) [] n) := by
  have hent : ∀ args w, (callFunc 21 args).run Tryd.prog w = .ok (.enter 21 args) w := enters_of Tryd.func21 (by kernel_rfl) rfl
  refine Ret.of_below hent (fun K => trivial) ?_
  intro w ι A vs hC hrel
  match vs, hrel with
  | [v0, v1], ⟨r0, r1, _⟩ =>
  obtain rfl := r0.val_inv.1
  obtain rfl := r1.val_inv.1
  refine ⟨_, fun w' => .one (.cell (.rd (.val _ rfl))), ?_⟩
  go_enter Tryd.func21, Tryd.ntmps21
  go_wp2
  rw [run_callFunc_extern Tryd.func25 (by kernel_rfl) (by kernel_rfl) (by kernel_rfl) (e := Extern.BytealgCount.count) (by kernel_rfl), Lib.run_countString]
  simp only [Result.andThen]
  rw [Oper.upon_value]
  go_wp2
  go_ret
  exact ⟨rfl, Below.refl _ _⟩
abbrev lsB (b : ByteArray) : List UInt8 := b.data.toList
theorem lsB_len (b : ByteArray) : (lsB b).length = b.size := Array.length_toList
theorem chB_eq (b : ByteArray) (k : Nat) (h : k < b.size) : chB b k = 10 ↔ (lsB b)[k]? = some 10 := by
  have hl : k < (lsB b).length := by rw [lsB_len]; exact h
  unfold chB
  rw [ByteArray.toList_eq, List.getD_eq_getElem?_getD, List.getElem?_eq_getElem hl]
  simp only [Option.getD_some, Option.some.injEq]
  constructor
  · intro e
    exact UInt8.toNat_inj.1 (by show _ = 10; omega)
  · intro e; rw [e]; rfl
theorem rest_list (b : ByteArray) (f : Nat) : lsB (cutS b (f : Int) (b.size : Int)) = (lsB b).drop f := by
  unfold lsB cutS
  rw [ByteArray.data_extract, Array.toList_extract, List.extract_eq_take_drop]
  exact List.take_of_length_le (by simp only [List.length_drop, Array.length_toList]; exact Nat.le_refl _)
theorem rest_size (b : ByteArray) (f : Nat) : (cutS b (f : Int) (b.size : Int)).size = b.size - f := by
  unfold cutS
  rw [ByteArray.size_extract]; simp
theorem rest_cut (b : ByteArray) (f m : Nat) (h : f + m ≤ b.size) : cutS (cutS b (f : Int) (b.size : Int)) 0 (m : Int) = cutS b (f : Int) ((f + m : Nat) : Int) := by
  unfold cutS
  rw [ByteArray.extract_extract]
  simp only [Int.toNat_natCast, Int.toNat_zero, Nat.add_zero]
  rw [Nat.min_eq_left h]
theorem rest_rest (b : ByteArray) (f m : Nat) (h : f + m ≤ b.size) : cutS (cutS b (f : Int) (b.size : Int)) (m : Int) ((b.size - f : Nat) : Int) = cutS b ((f + m : Nat) : Int) (b.size : Int) := by
  unfold cutS
  rw [ByteArray.extract_extract]
  simp only [Int.toNat_natCast]
  congr 1
  omega
theorem cut_all (b : ByteArray) : cutS b 0 (b.size : Int) = b := by
  unfold cutS
  simp
theorem idx_spec (b : ByteArray) (f m : Nat) (h : Lib.indexByte ((lsB b).drop f) 10 = (m : Int)) : f + m < b.size ∧ chB b (f + m) = 10 ∧ ∀ i, i < m → chB b (f + i) ≠ 10 := by
  obtain ⟨h1, h2⟩ := Lib.indexByte_some h
  rw [List.getElem?_drop] at h1
  have hlt : f + m < b.size := by rw [← lsB_len]; exact (List.getElem?_eq_some_iff.1 h1).1
  refine ⟨hlt, (chB_eq b _ hlt).2 h1, fun i hi e => ?_⟩
  have := h2 i hi
  rw [List.getElem?_drop] at this
  exact this ((chB_eq b _ (by omega)).1 e)
theorem idx_none (b : ByteArray) (f : Nat) (h : Lib.indexByte ((lsB b).drop f) 10 = -1) : ∀ i, f + i < b.size → chB b (f + i) ≠ 10 := by
  intro i hi e
  have := Lib.indexByte_none h i
  rw [List.getElem?_drop] at this
  exact this ((chB_eq b _ hi).1 e)
theorem cnt_zero (l : List UInt8) (h : Lib.indexByte l 10 = -1) : Lib.countByte l 10 = 0 := by
  unfold Lib.countByte
  rw [List.count_eq_zero]
  intro hm
  obtain ⟨k, hk, e⟩ := List.mem_iff_getElem.1 hm
  exact Lib.indexByte_none h k (by rw [List.getElem?_eq_getElem hk, e])
theorem cnt_step (l : List UInt8) (m : Nat) (h : Lib.indexByte l 10 = (m : Int)) : Lib.countByte l 10 = Lib.countByte (l.drop (m + 1)) 10 + 1 := by
  obtain ⟨h1, h2⟩ := Lib.indexByte_some h
  have hlt : m < l.length := (List.getElem?_eq_some_iff.1 h1).1
  have e1 : l = l.take m ++ 10 :: l.drop (m + 1) := by
    have := (List.getElem?_eq_some_iff.1 h1).2
    conv => lhs; rw [← List.take_append_drop m l, List.drop_eq_getElem_cons hlt, this]
  have e0 : (l.take m).count 10 = 0 := by
    rw [List.count_eq_zero]
    intro hm
    obtain ⟨k, hk, e⟩ := List.mem_iff_getElem.1 hm
    rw [List.length_take] at hk
    rw [List.getElem_take] at e
    exact h2 k (by omega) (by rw [List.getElem?_eq_getElem (by omega), e])
  unfold Lib.countByte
  conv => lhs; rw [e1]
  rw [List.count_append, e0, List.count_cons]
  simp
theorem pc_from (b : ByteArray) (f m : Nat) (hf : (pc b f).2 = f) (hm : chB b (f + m) = 10) (hn : ∀ i, i < m → chB b (f + i) ≠ 10) : pc b (f + m + 1) = ((pc b f).1 ++ [cutS b (f : Int) ((f + m : Nat) : Int)], f + m + 1) := by
  rw [pc, if_pos hm, pc_none b f m hn, hf]
theorem pc_end (b : ByteArray) (f : Nat) (hf : (pc b f).2 = f) (hle : f ≤ b.size) (hn : ∀ i, f + i < b.size → chB b (f + i) ≠ 10) : piecesF b = (pc b f).1 ++ [cutS b (f : Int) (b.size : Int)] := by
  have e := pc_none b f (b.size - f) fun i hi => hn i (by omega)
  rw [show f + (b.size - f) = b.size by omega] at e
  unfold piecesF
  rw [e, hf]
/-- The same, with the last piece behind the last byte. -/
def cutP (b : ByteArray) (k : Nat) : List ByteArray × Nat := if k ≤ b.size then pc b k else (piecesF b, b.size + 1)
theorem cutP_in {b : ByteArray} {k : Nat} (h : k ≤ b.size) : cutP b k = pc b k := by unfold cutP; rw [if_pos h]
theorem cutP_out (b : ByteArray) : cutP b (b.size + 1) = (piecesF b, b.size + 1) := by unfold cutP; rw [if_neg (by omega)]
theorem l8Cut_ret (b : ByteArray) (n : Nat) (hb : b.size ≤ 1048576) : Ret Tryd.prog 12 [sv b, uv 10] [] n true (Is (.own n (piecesF b).length) [(n, .list 9 1 ((piecesF b).map strR))] (n + 1)) := by
  refine Ret.fn ttOk Tryd.func12 rfl Tryd.call12 rfl rfl ?_
  refine Goes ?_
  repeat' first | refine W2.m ?_ ?_ | refine W1.m fun h => ?_ | fail
  refine LoopP.go (fun k : Nat => k ≤ b.size + 1) (fun k => ⟨[(0, sv b), (1, uv 10), (5, .own 0 (cutP b k).1.length), (6, iv (cutP b k).2), (7, iv k)], [(0, .list 9 1 ((cutP b k).1.map strR))], 1⟩) (fun k => b.size + 1 - k) 0 (Nat.zero_le _) ?_ ?_
  · rw [cutP_in (Nat.zero_le _)]; exact (Weak.of rfl rfl ktA ktA)
  intro k hk
  by_cases hin : k ≤ b.size
  · have hle := pc_le b k
    have hln := pc_len b k
    rw [cutP_in hin]
    by_cases he : k = b.size
    · subst he
      have hout := cutP_out b
      have hP : piecesF b = (pc b b.size).1 ++ [cutS b ((pc b b.size).2 : Int) (b.size : Int)] := rfl
      generalize (pc b b.size).1 = ws at *
      generalize (pc b b.size).2 = f at *
      have hLw : (ws.map strR).length = ws.length := by simp
      refine Goes ?_
      repeat' first | refine W2.m ?_ ?_ | refine W1.m fun h => ?_ | fail
      refine ⟨⟨by omega, by show (ws.length + 1) * 16 ≤ _; omega, by show ws.length + 1 ≤ _; unfold maxLen; omega, Nat.le_refl _, fun r hr => ?_⟩, ?_⟩
      · simp only [List.take_succ_cons, List.take_zero, List.mem_singleton] at hr
        subst hr; rfl
      refine Goes ?_
      repeat' first | refine W2.m ?_ ?_ | refine W1.m fun h => ?_ | fail
      refine ⟨b.size + 1, Nat.le_refl _, by omega, ?_⟩
      rw [hout, hP]
      refine Weak.of rfl rfl ⟨⟨rfl, rfl⟩, ⟨rfl, rfl⟩, ⟨leafW (by simp), rfl⟩, ⟨leafI numA, rfl⟩, ⟨leafI numA, rfl⟩, trivial⟩ ⟨⟨leafO ?_, rfl, rfl⟩, trivial⟩
      rw [List.take_of_length_le (by omega)]; simp
    · have hlt : k < b.size := by omega
      have hy : chB b k = 10 → cutP b (k + 1) = ((pc b k).1 ++ [cutS b (pc b k).2 k], k + 1) := fun h => by rw [cutP_in (by omega), pc, if_pos h]
      have hn : ¬ chB b k = 10 → (cutP b (k + 1)).1 = (pc b k).1 ∧ (cutP b (k + 1)).2 = (pc b k).2 := fun h => by rw [cutP_in (by omega), pc, if_neg h]; exact ⟨rfl, rfl⟩
      generalize (pc b k).1 = ws at *
      generalize (pc b k).2 = f at *
      have hLw : (ws.map strR).length = ws.length := by simp
      refine Goes ?_
      repeat' first | refine W2.m ?_ ?_ | refine W1.m fun h => ?_ | fail
      · have h' : chB b k = 10 := h
        refine ⟨⟨by omega, by show (ws.length + 1) * 16 ≤ _; omega, by show ws.length + 1 ≤ _; unfold maxLen; omega, Nat.le_refl _, fun r hr => ?_⟩, ?_⟩
        · simp only [List.take_succ_cons, List.take_zero, List.mem_singleton] at hr
          subst hr; rfl
        refine Goes ?_
        repeat' first | refine W2.m ?_ ?_ | refine W1.m fun h => ?_ | fail
        refine ⟨k + 1, by omega, by omega, ?_⟩
        rw [hy h']
        refine Weak.of rfl rfl ⟨⟨rfl, rfl⟩, ⟨rfl, rfl⟩, ⟨leafW (by simp), rfl⟩, ⟨leafI numA, rfl⟩, ⟨leafI numA, rfl⟩, trivial⟩ ⟨⟨leafO ?_, rfl, rfl⟩, trivial⟩
        rw [List.take_of_length_le (by omega)]; simp
      · have h' : ¬ chB b k = 10 := h
        obtain ⟨g1, g2⟩ := hn h'
        refine ⟨k + 1, by omega, by omega, ?_⟩
        rw [g1, g2]
        exact (Weak.of rfl rfl ktA ktA)
  · obtain rfl : k = b.size + 1 := by omega
    rw [cutP_out]
    refine Goes ?_
    repeat' first | refine W2.m ?_ ?_ | refine W1.m fun h => ?_ | fail
    refine FinOk.mk' [0] rfl rfl rfl rfl rfl rfl rfl ⟨?_, ?_, rfl⟩
    · rfl
    · rfl
end Go.Proofs.YtdnanpokaanhdaaDoor
