/-
  CHAPTER 8: CutLines, both sides, the law.
-/
import Derived.Test.YtdnanpokaanhdaaDoorS21
import Derived.Test.YtdnanpokaanhdaaDoorS15
namespace Go.Proofs.YtdnanpokaanhdaaDoor
open Go Go.Am Go.RowKit
set_option linter.unusedVariables false
set_option linter.unusedSimpArgs false
theorem strSplit_ret (b : ByteArray) (n : Nat) (hb : b.size ≤ 1048576) : Ret Tryd.prog 14 [sv b, sv ⟨#[10]⟩] [] n true (Is (.own n (piecesF b).length) [(n, .list 9 1 ((piecesF b).map strR))] (n + 1)) := by
  refine Ret.fn ttOk Tryd.func14 rfl Tryd.call14 rfl rfl ?_
  refine Goes ?_
  repeat' first | refine W2.m ?_ ?_ | refine W1.m fun h => ?_ | fail
  first | refine CallP.is (genSplit_ret b _ hb) rfl ?_ | refine CallQ.is (genSplit_ret b _ hb) rfl rfl ?_
  refine Goes ?_
  repeat' first | refine W2.m ?_ ?_ | refine W1.m fun h => ?_ | fail
  refine FinOk.mk' [0] rfl rfl rfl rfl rfl rfl rfl ⟨?_, ?_, rfl⟩
  · rfl
  · rfl
theorem strOf_size (R : List (List AV)) : (strOf R).size = R.length := by
  simp [strOf, strOfNums, ByteArray.size]
theorem bytesU (d : List Int) : bytesP (uvs d) := by
  intro r hr
  simp only [List.mem_map] at hr
  obtain ⟨z, _, rfl⟩ := hr
  exact ⟨z, rfl⟩
theorem pieces_len (b : ByteArray) : (piecesF b).length ≤ b.size + 1 := by
  have := pc_len b b.size
  unfold piecesF
  rw [List.length_append, List.length_singleton]; omega
theorem minN (a : Nat) (h : a ≤ 1000000) : minI (a : Int) 161 = ((min a 161 : Nat) : Int) := by
  unfold minI
  split <;> omega
def shortL (l : ByteArray) : ByteArray := if 160 < l.size then ⟨#[]⟩ else l
def cutB (s : ByteArray) (d : List Int) : ByteArray := s ++ strOf (uvs d)
def cutLs (b : ByteArray) : List ByteArray := (pc b b.size).1.map shortL
def cutZ (b : ByteArray) : ByteArray := cutS b ((pc b b.size).2 : Int) (b.size : Int)
def cutR (b : ByteArray) : ByteArray := cutS (cutZ b) 0 ((min (cutZ b).size 161 : Nat) : Int)
theorem cutB_size (s : ByteArray) (d : List Int) : (cutB s d).size = s.size + d.length := by
  unfold cutB
  rw [ByteArray.size_append, strOf_size]; simp
theorem cutLs_len (b : ByteArray) : (cutLs b).length ≤ b.size := by
  unfold cutLs
  rw [List.length_map]; exact pc_len b b.size
def shP (ws : List ByteArray) (k : Nat) : List ByteArray := (ws.take k).map shortL ++ ws.drop k
theorem shP_zero (ws : List ByteArray) : shP ws 0 = ws := rfl
theorem shP_all (ws : List ByteArray) : shP ws ws.length = ws.map shortL := by unfold shP; rw [List.take_length, List.drop_length, List.append_nil]
theorem shP_len (ws : List ByteArray) (k : Nat) (h : k ≤ ws.length) : (shP ws k).length = ws.length := by
  unfold shP
  rw [List.length_append, List.length_map, List.length_take, List.length_drop]; omega
theorem shP_at (ws : List ByteArray) (k : Nat) (h : k < ws.length) : (shP ws k)[k]? = some ws[k] := by
  unfold shP
  rw [List.getElem?_append_right (by rw [List.length_map, List.length_take]; omega), List.length_map, List.length_take, Nat.min_eq_left (by omega), Nat.sub_self, List.drop_eq_getElem_cons h]; rfl
theorem shP_set (ws : List ByteArray) (k : Nat) (h : k < ws.length) : (shP ws k).set k (shortL ws[k]) = shP ws (k + 1) := by
  unfold shP
  rw [List.set_append_right _ _ (by rw [List.length_map, List.length_take]; omega), List.length_map, List.length_take, Nat.min_eq_left (by omega), Nat.sub_self, List.drop_eq_getElem_cons h, List.set_cons_zero, takeS ws k h, List.map_append, List.append_assoc]
  rfl
theorem shP_keep (ws : List ByteArray) (k : Nat) (h : k < ws.length) (hs : shortL ws[k] = ws[k]) : shP ws (k + 1) = shP ws k := by
  obtain ⟨hl, he⟩ := List.getElem?_eq_some_iff.1 (shP_at ws k h)
  rw [← shP_set ws k h, hs]
  conv => lhs; arg 3; rw [← he]
  exact List.set_getElem_self hl
theorem implCut_yes (s : ByteArray) (d : List Int) (n : Nat) (hs : s.size ≤ 161) (hd : d.length ≤ 1000) : Ret Tryd.prog 6 [sv s, ul d] [] n true (Is (.agg [iv 0, .own n (cutLs (cutB s d)).length, sv (cutR (cutB s d))]) [strO n (cutLs (cutB s d))] (n + 1)) := by
  have hL : (uvs d).length = d.length := by simp
  have hbs := cutB_size s d
  have hS := fun n => strSplit_ret (cutB s d) n (by omega)
  have hpc := pc_len (cutB s d) (cutB s d).size
  have hz : cutZ (cutB s d) = cutS (cutB s d) ((pc (cutB s d) (cutB s d).size).2 : Int) ((cutB s d).size : Int) := rfl
  unfold piecesF at hS
  rw [← hz] at hS
  unfold cutR cutLs
  have hzs : (cutZ (cutB s d)).size ≤ 1161 := by
    unfold cutZ cutS
    rw [ByteArray.size_extract]; omega
  generalize (pc (cutB s d) (cutB s d).size).1 = ws at *
  generalize cutZ (cutB s d) = z at *
  refine Ret.fn ttOk Tryd.func6 rfl Tryd.call6 rfl rfl ?_
  refine Goes ?_
  repeat' first | refine W2.m ?_ ?_ | refine W1.m fun h => ?_ | fail
  refine ⟨⟨trivial, bytesU d⟩, ?_⟩
  refine Goes ?_
  repeat' first | refine W2.m ?_ ?_ | refine W1.m fun h => ?_ | fail
  refine ⟨by rw [strOf_size]; unfold maxLen; omega, ?_⟩
  rw [show s ++ strOf (uvs d) = cutB s d from rfl]
  refine Goes ?_
  repeat' first | refine W2.m ?_ ?_ | refine W1.m fun h => ?_ | fail
  first | refine CallP.is (hS _) rfl ?_ | refine CallQ.is (hS _) rfl rfl ?_
  refine Goes ?_
  repeat' first | refine W2.m ?_ ?_ | refine W1.m fun h => ?_ | fail
  have hlen : (ws ++ [z]).length = ws.length + 1 := by simp
  have hw : IntKind.i64.wrap (((ws ++ [z]).length : Int) - 1) = (ws.length : Int) := by rw [hlen, IntWalk.i64_in _ (by omega)]; omega
  have hat : (List.map strR (ws ++ [z])).getD (Int.toNat (ws.length : Int)) [] = [sv z] := by
    rw [rowK strR (ws ++ [z]) ws.length (by omega)]
    simp
  rw [hw]
  refine ⟨by omega, ?_⟩
  refine Goes ?_
  repeat' first | refine W2.m ?_ ?_ | refine W1.m fun h => ?_ | fail
  rw [hat]
  refine ⟨by rw [List.length_map]; show ws.length < _; omega, ?_⟩
  refine Goes ?_
  repeat' first | refine W2.m ?_ ?_ | refine W1.m fun h => ?_ | fail
  refine LoopP.go (fun k : Nat => k ≤ ws.length) (fun k => ⟨[(4, .pt 0 0 0), (5, .own 1 ws.length), (7, sv z), (34, .own 1 ws.length), (35, iv ws.length), (36, iv k)], [(1, .list 9 1 ((shP ws k).map strR)), (0, .box [iv 0, nl, sv ⟨#[]⟩])], 2⟩) (fun k => ws.length - k) 0 (Nat.zero_le _) ?_ ?_
  · rw [shP_zero]
    exact Weak.trans (Weak.trunc 1 9 1 _ (ws.map strR) ws.length rfl (by simp)) (Weak.of rfl rfl ktA ktA)
  intro k hk
  have hrl := shP_len ws k hk
  have hrl2 : ((shP ws k).map strR).length = ws.length := by rw [List.length_map, hrl]
  by_cases hlt : k < ws.length
  · have hra := shP_at ws k hlt
    have hgd : ((shP ws k).map strR).getD (Int.toNat (k : Int)) [] = [sv ws[k]] := by
      rw [show Int.toNat (k : Int) = k from rfl, List.getD_eq_getElem?_getD, List.getElem?_map, hra]; rfl
    conv => whnf
    repeat' first
      | (refine AbsK.use (by assumption) ?_; conv => whnf)
      | (refine CondP.yes ?_; conv => whnf)
      | (refine CondP.not ?_; conv => whnf)
      | ((first | refine CondP.dec (fun h => ?_) (fun h => ?_) | refine CondP.ndec (fun h => ?_) (fun h => ?_)) <;> first | (exfalso; first | omega | exact h (by assumption) | exact absurd h (by assumption)) | (conv => whnf))
      | (refine Both.mk ?_ ?_ <;> (conv => whnf))
      | (refine Keep.mk (by repeat' first | exact trivial | rfl | refine And.intro ?_ ?_) ?_; conv => whnf)
      | (refine And.intro (by first | decide | omega) ?_; first | (refine runOps_abs (fun K hK => ?_); conv => whnf) | (conv => whnf))
      | fail
    rw [hgd]
    try refine runOps_abs (fun K hK => ?_)
    conv => whnf
    repeat' first
      | (refine AbsK.use (by assumption) ?_; conv => whnf)
      | (refine CondP.yes ?_; conv => whnf)
      | (refine CondP.not ?_; conv => whnf)
      | ((first | refine CondP.dec (fun h => ?_) (fun h => ?_) | refine CondP.ndec (fun h => ?_) (fun h => ?_)) <;> first | (exfalso; first | omega | exact h (by assumption) | exact absurd h (by assumption)) | (conv => whnf))
      | (refine Both.mk ?_ ?_ <;> (conv => whnf))
      | (refine Keep.mk (by repeat' first | exact trivial | rfl | refine And.intro ?_ ?_) ?_; conv => whnf)
      | (refine And.intro (by first | decide | omega) ?_; first | (refine runOps_abs (fun K hK => ?_); conv => whnf) | (conv => whnf))
      | fail
    · have hb : 160 < ws[k].size := by omega
      have hset := shP_set ws k hlt
      rw [show shortL ws[k] = ⟨#[]⟩ from if_pos hb] at hset
      rw [storeRow (by omega) (by rw [show Int.toNat (k : Int) = k from rfl] at hgd; rw [hgd]; rfl)]
      refine ⟨k + 1, by omega, by omega, Weak.of rfl rfl ⟨⟨rfl, rfl⟩, ⟨rfl, rfl⟩, ⟨rfl, rfl⟩, ⟨rfl, rfl⟩, ⟨rfl, rfl⟩, ⟨leafI numA, rfl⟩, trivial⟩ ⟨⟨leafO ?_, rfl, rfl⟩, ⟨rfl, rfl, rfl⟩, trivial⟩⟩
      rw [← hset, List.map_set]; rfl
    · have hb : ¬ 160 < ws[k].size := by omega
      have hkp := shP_keep ws k hlt (if_neg hb)
      exact ⟨k + 1, by omega, by omega, by rw [hkp]; exact (Weak.of rfl rfl ktA ktA)⟩
  · obtain rfl : k = ws.length := by omega
    rw [shP_all]
    have hmn := minN z.size (by omega)
    refine Goes ?_
    repeat' first | refine W2.m ?_ ?_ | refine W1.m fun h => ?_ | fail
    rw [hmn]
    refine FinOk.mk' [1] rfl rfl rfl rfl rfl rfl rfl ⟨?_, ?_, rfl⟩
    · rw [List.length_map]; rfl
    · rfl
theorem l1MinC_ret (a b : Int) (n : Nat) : Ret Tryd.prog 13 [iv a, iv b] [] n true (Is (iv (if a < b then a else b)) [] n) := by
  refine Ret.fn ttOk Tryd.func13 rfl Tryd.call13 rfl rfl ?_
  refine Goes ?_
  repeat' first | refine W2.m ?_ ?_ | refine W1.m fun h => ?_ | fail
  · refine FinOk.pure rfl rfl rfl ⟨?_, rfl, rfl⟩
    rw [if_pos (by assumption)]
  · refine FinOk.pure rfl rfl rfl ⟨?_, rfl, rfl⟩
    rw [if_neg (by assumption)]
theorem specCut_yes (s : ByteArray) (d : List Int) (n : Nat) (hs : s.size ≤ 161) (hd : d.length ≤ 1000) : Ret Tryd.prog 4 [sv s, ul d] [] n true (Is (.agg [iv 0, .own n (cutLs (cutB s d)).length, sv (cutR (cutB s d))]) [strO n (cutLs (cutB s d))] (n + 1)) := by
  have hL : (uvs d).length = d.length := by simp
  have hbs := cutB_size s d
  have hS := fun n => l8Cut_ret (cutB s d) n (by omega)
  have hpc := pc_len (cutB s d) (cutB s d).size
  have hz : cutZ (cutB s d) = cutS (cutB s d) ((pc (cutB s d) (cutB s d).size).2 : Int) ((cutB s d).size : Int) := rfl
  unfold piecesF at hS
  rw [← hz] at hS
  unfold cutR cutLs
  have hzs : (cutZ (cutB s d)).size ≤ 1161 := by
    unfold cutZ cutS
    rw [ByteArray.size_extract]; omega
  generalize (pc (cutB s d) (cutB s d).size).1 = ws at *
  generalize cutZ (cutB s d) = z at *
  have hlen : (ws ++ [z]).length = ws.length + 1 := by simp
  have hw : IntKind.i64.wrap (((ws ++ [z]).length : Int) - 1) = (ws.length : Int) := by rw [hlen, IntWalk.i64_in _ (by omega)]; omega
  have hat : (List.map strR (ws ++ [z])).getD (Int.toNat (ws.length : Int)) [] = [sv z] := by
    rw [rowK strR (ws ++ [z]) ws.length (by omega)]
    simp
  have hat2 : ∀ k (h : k < ws.length), (List.map strR (ws ++ [z])).getD (Int.toNat (k : Int)) [] = [sv ws[k]] := fun k h => by
    rw [rowK strR (ws ++ [z]) k (by omega), List.getElem_append_left h]
  refine Ret.fn ttOk Tryd.func4 rfl Tryd.call4 rfl rfl ?_
  refine Goes ?_
  repeat' first | refine W2.m ?_ ?_ | refine W1.m fun h => ?_ | fail
  refine ⟨⟨trivial, bytesU d⟩, ?_⟩
  refine Goes ?_
  repeat' first | refine W2.m ?_ ?_ | refine W1.m fun h => ?_ | fail
  refine ⟨by rw [strOf_size]; unfold maxLen; omega, ?_⟩
  rw [show s ++ strOf (uvs d) = cutB s d from rfl]
  refine Goes ?_
  repeat' first | refine W2.m ?_ ?_ | refine W1.m fun h => ?_ | fail
  first | refine CallP.is (hS _) rfl ?_ | refine CallQ.is (hS _) rfl rfl ?_
  refine Goes ?_
  repeat' first | refine W2.m ?_ ?_ | refine W1.m fun h => ?_ | fail
  rw [hw]
  have hM := fun n => l1MinC_ret (z.size : Int) 161 n
  rw [show (if (z.size : Int) < 161 then (z.size : Int) else 161) = ((min z.size 161 : Nat) : Int) by split <;> omega] at hM
  rw [hat]
  refine ⟨by rw [List.length_map]; show ws.length < _; omega, ?_⟩
  refine Goes ?_
  repeat' first | refine W2.m ?_ ?_ | refine W1.m fun h => ?_ | fail
  rw [hat]
  refine ⟨by rw [List.length_map]; show ws.length < _; omega, ?_⟩
  refine Goes ?_
  repeat' first | refine W2.m ?_ ?_ | refine W1.m fun h => ?_ | fail
  refine CallN.is rfl (hM) ?_
  refine Goes ?_
  repeat' first | refine W2.m ?_ ?_ | refine W1.m fun h => ?_ | fail
  obtain ⟨r, hr⟩ : ∃ r, r = cutS z 0 ((min z.size 161 : Nat) : Int) := ⟨_, rfl⟩
  rw [← hr]
  refine LoopP.go (fun k : Nat => k ≤ ws.length) (fun k => ⟨[(4, .pt 0 0 0), (5, .own 1 (ws.length + 1)), (6, iv ws.length), (7, .pt 2 0 0), (8, iv k)], [strO 3 ((ws.take k).map shortL), (2, .box [iv 0, .own 3 ((ws.take k).map shortL).length, sv r]), (1, .list 9 1 ((ws ++ [z]).map strR)), (0, .box [iv 0, nl, sv ⟨#[]⟩])], 4⟩) (fun k => ws.length - k) 0 (Nat.zero_le _) ?_ ?_
  · refine Weak.trans (Weak.name 2 1 9 1 _ (by decide) rfl rfl) ?_
    rw [← hlen]
    exact (Weak.of rfl rfl ktA ktA)
  intro k hk
  by_cases hlt : k < ws.length
  · have hrow := hat2 k hlt
    have hst : (ws.take (k + 1)).map shortL = (ws.take k).map shortL ++ [shortL ws[k]] := by rw [takeS ws k hlt, List.map_append]; rfl
    have hql : ((ws.take k).map shortL).length = k := by rw [List.length_map, List.length_take]; omega
    generalize (ws.take k).map shortL = q at *
    have hLq : (q.map strR).length = q.length := by simp
    conv => whnf
    repeat' first
      | (refine AbsK.use (by assumption) ?_; conv => whnf)
      | (refine CondP.yes ?_; conv => whnf)
      | (refine CondP.not ?_; conv => whnf)
      | ((first | refine CondP.dec (fun h => ?_) (fun h => ?_) | refine CondP.ndec (fun h => ?_) (fun h => ?_)) <;> first | (exfalso; first | omega | exact h (by assumption) | exact absurd h (by assumption)) | (conv => whnf))
      | (refine Both.mk ?_ ?_ <;> (conv => whnf))
      | (refine Keep.mk (by repeat' first | exact trivial | rfl | refine And.intro ?_ ?_) ?_; conv => whnf)
      | (refine And.intro (by first | decide | omega) ?_; first | (refine runOps_abs (fun K hK => ?_); conv => whnf) | (conv => whnf))
      | fail
    rw [hrow]
    try refine runOps_abs (fun K hK => ?_)
    conv => whnf
    repeat' first
      | (refine AbsK.use (by assumption) ?_; conv => whnf)
      | (refine CondP.yes ?_; conv => whnf)
      | (refine CondP.not ?_; conv => whnf)
      | ((first | refine CondP.dec (fun h => ?_) (fun h => ?_) | refine CondP.ndec (fun h => ?_) (fun h => ?_)) <;> first | (exfalso; first | omega | exact h (by assumption) | exact absurd h (by assumption)) | (conv => whnf))
      | (refine Both.mk ?_ ?_ <;> (conv => whnf))
      | (refine Keep.mk (by repeat' first | exact trivial | rfl | refine And.intro ?_ ?_) ?_; conv => whnf)
      | (refine And.intro (by first | decide | omega) ?_; first | (refine runOps_abs (fun K hK => ?_); conv => whnf) | (conv => whnf))
      | fail
    refine ⟨by rw [List.length_map]; show k < _; omega, ?_⟩
    try refine runOps_abs (fun K hK => ?_)
    conv => whnf
    repeat' first
      | (refine AbsK.use (by assumption) ?_; conv => whnf)
      | (refine CondP.yes ?_; conv => whnf)
      | (refine CondP.not ?_; conv => whnf)
      | ((first | refine CondP.dec (fun h => ?_) (fun h => ?_) | refine CondP.ndec (fun h => ?_) (fun h => ?_)) <;> first | (exfalso; first | omega | exact h (by assumption) | exact absurd h (by assumption)) | (conv => whnf))
      | (refine Both.mk ?_ ?_ <;> (conv => whnf))
      | (refine Keep.mk (by repeat' first | exact trivial | rfl | refine And.intro ?_ ?_) ?_; conv => whnf)
      | (refine And.intro (by first | decide | omega) ?_; first | (refine runOps_abs (fun K hK => ?_); conv => whnf) | (conv => whnf))
      | fail
    · have hb : 160 < ws[k].size := by omega
      rw [show shortL ws[k] = ⟨#[]⟩ from if_pos hb] at hst
      refine ⟨⟨by omega, by show (q.length + 1) * 16 ≤ _; omega, by show q.length + 1 ≤ _; unfold maxLen; omega, Nat.le_refl _, fun r hr => ?_⟩, ?_⟩
      · simp only [List.take_succ_cons, List.take_zero, List.mem_singleton] at hr
        subst hr; rfl
      try refine runOps_abs (fun K hK => ?_)
      conv => whnf
      repeat' first
        | (refine AbsK.use (by assumption) ?_; conv => whnf)
        | (refine CondP.yes ?_; conv => whnf)
        | (refine CondP.not ?_; conv => whnf)
        | ((first | refine CondP.dec (fun h => ?_) (fun h => ?_) | refine CondP.ndec (fun h => ?_) (fun h => ?_)) <;> first | (exfalso; first | omega | exact h (by assumption) | exact absurd h (by assumption)) | (conv => whnf))
        | (refine Both.mk ?_ ?_ <;> (conv => whnf))
        | (refine Keep.mk (by repeat' first | exact trivial | rfl | refine And.intro ?_ ?_) ?_; conv => whnf)
        | (refine And.intro (by first | decide | omega) ?_; first | (refine runOps_abs (fun K hK => ?_); conv => whnf) | (conv => whnf))
        | fail
      refine ⟨k + 1, by omega, by omega, ?_⟩
      rw [hst]
      refine Weak.of rfl rfl ⟨⟨rfl, rfl⟩, ⟨rfl, rfl⟩, ⟨rfl, rfl⟩, ⟨rfl, rfl⟩, ⟨leafI numA, rfl⟩, trivial⟩ ⟨⟨leafO ?_, rfl, rfl⟩, ⟨by rw [show (q ++ [(⟨#[]⟩ : ByteArray)]).length = q.length + 1 from by simp]; rfl, rfl, rfl⟩, ⟨rfl, rfl, rfl⟩, ⟨rfl, rfl, rfl⟩, trivial⟩
      rw [List.take_of_length_le (by omega)]; simp
    · have hb : ¬ 160 < ws[k].size := by omega
      rw [show shortL ws[k] = ws[k] from if_neg hb] at hst
      refine ⟨⟨by omega, by show (q.length + 1) * 16 ≤ _; omega, by show q.length + 1 ≤ _; unfold maxLen; omega, Nat.le_refl _, fun r hr => ?_⟩, ?_⟩
      · simp only [List.take_succ_cons, List.take_zero, List.mem_singleton] at hr
        subst hr; rfl
      try refine runOps_abs (fun K hK => ?_)
      conv => whnf
      repeat' first
        | (refine AbsK.use (by assumption) ?_; conv => whnf)
        | (refine CondP.yes ?_; conv => whnf)
        | (refine CondP.not ?_; conv => whnf)
        | ((first | refine CondP.dec (fun h => ?_) (fun h => ?_) | refine CondP.ndec (fun h => ?_) (fun h => ?_)) <;> first | (exfalso; first | omega | exact h (by assumption) | exact absurd h (by assumption)) | (conv => whnf))
        | (refine Both.mk ?_ ?_ <;> (conv => whnf))
        | (refine Keep.mk (by repeat' first | exact trivial | rfl | refine And.intro ?_ ?_) ?_; conv => whnf)
        | (refine And.intro (by first | decide | omega) ?_; first | (refine runOps_abs (fun K hK => ?_); conv => whnf) | (conv => whnf))
        | fail
      refine ⟨k + 1, by omega, by omega, ?_⟩
      rw [hst]
      refine Weak.of rfl rfl ⟨⟨rfl, rfl⟩, ⟨rfl, rfl⟩, ⟨rfl, rfl⟩, ⟨rfl, rfl⟩, ⟨leafI numA, rfl⟩, trivial⟩ ⟨⟨leafO ?_, rfl, rfl⟩, ⟨by rw [show (q ++ [ws[k]]).length = q.length + 1 from by simp]; rfl, rfl, rfl⟩, ⟨rfl, rfl, rfl⟩, ⟨rfl, rfl, rfl⟩, trivial⟩
      rw [List.take_of_length_le (by omega)]; simp
  · obtain rfl : k = ws.length := by omega
    rw [List.take_length]
    conv => whnf
    repeat' first
      | (refine AbsK.use (by assumption) ?_; conv => whnf)
      | (refine CondP.yes ?_; conv => whnf)
      | (refine CondP.not ?_; conv => whnf)
      | ((first | refine CondP.dec (fun h => ?_) (fun h => ?_) | refine CondP.ndec (fun h => ?_) (fun h => ?_)) <;> first | (exfalso; first | omega | exact h (by assumption) | exact absurd h (by assumption)) | (conv => whnf))
      | (refine Both.mk ?_ ?_ <;> (conv => whnf))
      | (refine Keep.mk (by repeat' first | exact trivial | rfl | refine And.intro ?_ ?_) ?_; conv => whnf)
      | (refine And.intro (by first | decide | omega) ?_; first | (refine runOps_abs (fun K hK => ?_); conv => whnf) | (conv => whnf))
      | fail
    rw [hr]
    refine FinOk.mk' [3] rfl rfl rfl rfl rfl rfl rfl ⟨?_, ?_, rfl⟩
    · rfl
    · rfl
theorem implCut_no (s : ByteArray) (d : List Int) (n : Nat) (h : ¬ (s.size ≤ 161 ∧ d.length ≤ 1000)) : Ret Tryd.prog 6 [sv s, ul d] [] n true (Is (.agg [iv 2, nl, sv ⟨#[]⟩]) [] n) := by
  have hL : (uvs d).length = d.length := by simp
  refine Ret.fn ttOk Tryd.func6 rfl Tryd.call6 rfl rfl ?_
  refine Goes ?_
  repeat' first | refine W2.m ?_ ?_ | refine W1.m fun h => ?_ | fail
  · refine FinOk.mk' [] rfl rfl rfl rfl rfl rfl rfl ⟨?_, ?_, rfl⟩
    · rfl
    · rfl
  · refine FinOk.mk' [] rfl rfl rfl rfl rfl rfl rfl ⟨?_, ?_, rfl⟩
    · rfl
    · rfl
theorem specCut_no (s : ByteArray) (d : List Int) (n : Nat) (h : ¬ (s.size ≤ 161 ∧ d.length ≤ 1000)) : Ret Tryd.prog 4 [sv s, ul d] [] n true (Is (.agg [iv 2, nl, sv ⟨#[]⟩]) [] n) := by
  have hL : (uvs d).length = d.length := by simp
  refine Ret.fn ttOk Tryd.func4 rfl Tryd.call4 rfl rfl ?_
  refine Goes ?_
  repeat' first | refine W2.m ?_ ?_ | refine W1.m fun h => ?_ | fail
  · refine FinOk.mk' [] rfl rfl rfl rfl rfl rfl rfl ⟨?_, ?_, rfl⟩
    · rfl
    · rfl
  · refine FinOk.mk' [] rfl rfl rfl rfl rfl rfl rfl ⟨?_, ?_, rfl⟩
    · rfl
    · rfl
end Go.Proofs.YtdnanpokaanhdaaDoor
