/-
  CHAPTER 8: strings.Split at a line feed.
-/
import Derived.Test.YtdnanpokaanhdaaDoorS20
namespace Go.Proofs.YtdnanpokaanhdaaDoor
open Go Go.Am Go.RowKit
set_option linter.unusedVariables false
set_option linter.unusedSimpArgs false
def fillS (ws : List ByteArray) (n : Nat) : List (List AV) := ws.map strR ++ List.replicate (n - ws.length) [sv ⟨#[]⟩]
theorem fillS_len (ws : List ByteArray) (n : Nat) (h : ws.length ≤ n) : (fillS ws n).length = n := by
  simp only [fillS, List.length_append, List.length_map, List.length_replicate]; omega
theorem fillS_set (ws : List ByteArray) (n : Nat) (p : ByteArray) (h : ws.length < n) : (fillS ws n).set ws.length [sv p] = fillS (ws ++ [p]) n := by
  obtain ⟨m, hm⟩ : ∃ m, n - ws.length = m + 1 := ⟨n - ws.length - 1, by omega⟩
  have hm2 : n - (ws ++ [p]).length = m := by simp only [List.length_append, List.length_singleton]; omega
  unfold fillS
  rw [hm, hm2, List.set_append_right _ _ (by simp), List.length_map, Nat.sub_self, List.replicate_succ, List.set_cons_zero]
  simp
theorem fillS_row (ws : List ByteArray) (n : Nat) (h : ws.length < n) : ((fillS ws n).getD ws.length []).length = 1 := by
  obtain ⟨m, hm⟩ : ∃ m, n - ws.length = m + 1 := ⟨n - ws.length - 1, by omega⟩
  unfold fillS
  rw [hm, List.getD_eq_getElem?_getD, List.getElem?_append_right (by simp), List.length_map, Nat.sub_self, List.replicate_succ]
  rfl
theorem fillS_all (ws : List ByteArray) : fillS ws ws.length = ws.map strR := by simp [fillS]
theorem empL (b : ByteArray) : (b.toList == ByteArray.toList ⟨#[]⟩) = decide (b.size = 0) := by
  rw [ByteArray.toList_eq, ByteArray.toList_eq]
  by_cases h : b.size = 0
  · have h2 : b.data = #[] := Array.eq_empty_of_size_eq_zero h
    rw [decide_eq_true h, h2]; rfl
  · rw [decide_eq_false h]
    have h2 : ¬ b.data.toList = [] := fun e => h (by have := congrArg List.length e; simpa using this)
    simpa using h2
theorem genSplit_ret (b : ByteArray) (n : Nat) (hb : b.size ≤ 1048576) : Ret Tryd.prog 18 [sv b, sv ⟨#[10]⟩, iv 0, iv (-1)] [] n true (Is (.own n (piecesF b).length) [(n, .list 9 1 ((piecesF b).map strR))] (n + 1)) := by
  have hs1 : (ByteArray.mk #[10]).size = 1 := rfl
  obtain ⟨cnt, hcnt⟩ : ∃ cnt, cnt = Lib.countByte (lsB b) 10 := ⟨_, rfl⟩
  have hcl : cnt ≤ b.size := by rw [hcnt, ← lsB_len]; exact List.count_le_length
  have hC := fun n => strCount_ret b 10 n
  rw [show Lib.countByte b.data.toList 10 = cnt from hcnt.symm] at hC
  have hm : minI (IntKind.i64.wrap ((cnt : Int) + 1)) (IntKind.i64.wrap ((b.size : Int) + 1)) = ((cnt + 1 : Nat) : Int) := by
    rw [IntWalk.i64_in _ (by omega), IntWalk.i64_in _ (by omega)]
    unfold minI
    split <;> omega
  have hw0 : IntKind.i64.wrap (((cnt + 1 : Nat) : Int) - 1) = (cnt : Int) := by rw [IntWalk.i64_in _ (by omega)]; omega
  refine Ret.fn ttOk Tryd.func18 rfl Tryd.call18 rfl rfl ?_
  refine Goes ?_
  repeat' first | refine W2.m ?_ ?_ | refine W1.m fun h => ?_ | fail
  rw [empL]
  refine Goes ?_
  repeat' first | refine W2.m ?_ ?_ | refine W1.m fun h => ?_ | fail
  first | refine CallP.is (hC _) rfl ?_ | refine CallQ.is (hC _) rfl rfl ?_
  refine Goes ?_
  repeat' first | refine W2.m ?_ ?_ | refine W1.m fun h => ?_ | fail
  rw [hm]
  refine ⟨⟨by omega, by omega, by omega, by show ((cnt + 1 : Nat) : Int) * 16 ≤ _; omega⟩, ?_⟩
  have hz : (List.replicate (cnt + 1) [sv ⟨#[]⟩]) = fillS [] (cnt + 1) := by simp [fillS]
  rw [show Int.toNat ((cnt + 1 : Nat) : Int) = cnt + 1 from rfl]
  refine Goes ?_
  repeat' first | refine W2.m ?_ ?_ | refine W1.m fun h => ?_ | fail
  rw [hw0]
  have hfill : List.replicate (cnt + 1) [AV.val (Value.string ⟨#[]⟩)] = fillS (pc b 0).1 (cnt + 1) := hz
  rw [hfill]
  refine LoopP.go (fun f : Nat => f ≤ b.size ∧ (pc b f).2 = f ∧ (pc b f).1.length + Lib.countByte ((lsB b).drop f) 10 = cnt) (fun f => ⟨[(0, sv (cutS b f b.size)), (1, sv ⟨#[10]⟩), (2, iv 0), (3, iv cnt), (9, .own 0 (cnt + 1)), (10, iv (pc b f).1.length)], [(0, .list 9 1 (fillS (pc b f).1 (cnt + 1)))], 1⟩) (fun f => b.size - f) 0 ⟨Nat.zero_le _, rfl, ?_⟩ ?_ ?_
  · show 0 + _ = _
    rw [List.drop_zero, hcnt]; omega
  · rw [show cutS b ((0 : Nat) : Int) (b.size : Int) = b from cut_all b]
    exact (Weak.of rfl rfl ktA ktA)
  intro f hk
  obtain ⟨hfl, hf2, hsum⟩ := hk
  have hI := fun n => strIndex_ret (cutS b f b.size) 10 n
  have hrl : (cutS b f b.size).data.toList = (lsB b).drop f := rest_list b f
  have hrs := rest_size b f
  rw [hrl] at hI
  have hE : (pc b f).1.length = cnt → piecesF b = (pc b f).1 ++ [cutS b (f : Int) (b.size : Int)] := fun e => by
    refine pc_end b f hf2 hfl (idx_none b f ?_)
    have hge := Lib.indexByte_ge ((lsB b).drop f) 10
    rcases Int.lt_or_le (Lib.indexByte ((lsB b).drop f) 10) 0 with h0 | h0
    · omega
    · obtain ⟨m, hm'⟩ := Int.eq_ofNat_of_zero_le h0
      have := cnt_step _ m hm'
      omega
  by_cases hlt : (pc b f).1.length < cnt
  · obtain ⟨m, hm'⟩ : ∃ m : Nat, Lib.indexByte ((lsB b).drop f) 10 = (m : Int) := by
      have hge := Lib.indexByte_ge ((lsB b).drop f) 10
      rcases Int.lt_or_le (Lib.indexByte ((lsB b).drop f) 10) 0 with h0 | h0
      · have := cnt_zero _ (by omega : Lib.indexByte ((lsB b).drop f) 10 = -1)
        omega
      · exact Int.eq_ofNat_of_zero_le h0
    obtain ⟨hi1, hi2, hi3⟩ := idx_spec b f m hm'
    have hst := cnt_step _ m hm'
    rw [List.drop_drop] at hst
    have hpf := pc_from b f m hf2 hi2 hi3
    have hcut := rest_cut b f m (by omega)
    have hrr := rest_rest b f (m + 1) (by omega)
    have hset := fillS_set (pc b f).1 (cnt + 1) (cutS b (f : Int) ((f + m : Nat) : Int)) (by omega)
    have hrow := fillS_row (pc b f).1 (cnt + 1) (by omega)
    have hfln := fillS_len (pc b f).1 (cnt + 1) (by omega)
    rw [hm'] at hI
    generalize (pc b f).1 = ws at *
    refine Goes ?_
    repeat' first | refine W2.m ?_ ?_ | refine W1.m fun h => ?_ | fail
    have w0 : IntKind.i64.wrap ((m : Int) + 0) = (m : Int) := by rw [IntWalk.i64_in _ (by omega)]; omega
    have w1 : IntKind.i64.wrap ((m : Int) + 1) = ((m + 1 : Nat) : Int) := by rw [IntWalk.i64_in _ (by omega)]; omega
    have w2 : IntKind.i64.wrap ((m : Int) + (((ByteArray.mk #[10]).size : Nat) : Int)) = ((m + 1 : Nat) : Int) := by rw [hs1]; omega
    first | refine CallP.is (hI _) rfl ?_ | refine CallQ.is (hI _) rfl rfl ?_
    refine Goes ?_
    repeat' first | refine W2.m ?_ ?_ | refine W1.m fun h => ?_ | fail
    simp only [w0, w2, hcut, hrs, hrr]
    rw [storeRow (by omega) hrow, show (AV.val (Value.string (cutS b ↑f ↑(f + m)))).cells = [sv (cutS b ↑f ↑(f + m))] from rfl, hset]
    have w4 : IntKind.i64.wrap ((ws.length : Int) + 1) = (((ws ++ [cutS b (f : Int) ((f + m : Nat) : Int)]).length : Nat) : Int) := by
      rw [List.length_append, List.length_singleton, IntWalk.i64_in _ (by omega)]; omega
    rw [w4]
    have hfst : (pc b (f + m + 1)).1 = ws ++ [cutS b (f : Int) ((f + m : Nat) : Int)] := by rw [hpf]
    refine ⟨f + m + 1, ⟨by omega, by rw [hpf], ?_⟩, by omega, ?_⟩
    · rw [hfst, List.length_append, List.length_singleton, show f + m + 1 = f + (m + 1) by omega]; omega
    rw [hfst, show f + m + 1 = f + (m + 1) by omega]
    exact (Weak.of rfl rfl ktA ktA)
  · obtain he : (pc b f).1.length = cnt := by omega
    have hE := hE he
    have hset := fillS_set (pc b f).1 (cnt + 1) (cutS b (f : Int) (b.size : Int)) (by omega)
    have hrow := fillS_row (pc b f).1 (cnt + 1) (by omega)
    have hfln := fillS_len (pc b f).1 (cnt + 1) (by omega)
    generalize (pc b f).1 = ws at *
    have w3 : IntKind.i64.wrap ((ws.length : Int) + 1) = ((cnt + 1 : Nat) : Int) := by rw [IntWalk.i64_in _ (by omega)]; omega
    have hpl : (piecesF b).length = cnt + 1 := by rw [hE, List.length_append, List.length_singleton]; omega
    refine Goes ?_
    repeat' first | refine W2.m ?_ ?_ | refine W1.m fun h => ?_ | fail
    rw [storeRow (by omega) hrow, show (sv (cutS b ↑f ↑b.size)).cells = [sv (cutS b ↑f ↑b.size)] from rfl, hset, ← hE]
    rw [w3]
    refine FinOk.mk' [0] rfl rfl rfl rfl rfl rfl rfl ⟨?_, ?_, rfl⟩
    · show AV.own _ (cnt + 1) = _
      rw [hpl]; rfl
    · rw [← hpl, fillS_all]; rfl
end Go.Proofs.YtdnanpokaanhdaaDoor
