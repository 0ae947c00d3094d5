import Derived.Test.YtfnehjminipaeaaGreatP12
import Derived.Test.YtfnehjminipaeaaGreatP16
import Derived.Test.YtfnehjminipaeaaGreatM1
/-
  CHAPTER 3: the specification's packing, by the reading.
-/
namespace Go.Proofs.YtfnehjminipaeaaGreat
open Go Go.Am Go.RowKit
set_option linter.unusedVariables false
set_option linter.unusedSimpArgs false
theorem app1 (s p : List Int) : List.take s.length (uvs s) ++ List.take p.length (uvs p) = uvs (s ++ p) := by rw [takeU, takeU]; exact (List.map_append ..).symm
theorem app2 (s b p : List Int) : List.take (s.length + (List.take b.length (uvs b)).length) (List.take s.length (uvs s) ++ List.take b.length (uvs b)) ++ List.take p.length (uvs p) = uvs (s ++ b ++ p) := by
  rw [takeU, takeU, takeU, List.take_of_length_le (by simp)]; simp
theorem len1 (s p : List Int) : s.length + (List.take p.length (uvs p)).length = (s ++ p).length := by rw [takeU, List.length_map, List.length_append]
theorem len2 (s b p : List Int) : s.length + (List.take b.length (uvs b)).length + (List.take p.length (uvs p)).length = (s ++ b ++ p).length := by rw [len1, len1]
theorem len3 (s b p l : List Int) : s.length + (List.take b.length (uvs b)).length + (List.take p.length (uvs p)).length + (List.take l.length (uvs l)).length = (s ++ b ++ p ++ l).length := by rw [len2, len1]
theorem app3 (s b p l : List Int) : List.take (s.length + (List.take b.length (uvs b)).length + (List.take p.length (uvs p)).length) (List.take (s.length + (List.take b.length (uvs b)).length) (List.take s.length (uvs s) ++ List.take b.length (uvs b)) ++ List.take p.length (uvs p)) ++ List.take l.length (uvs l) = uvs (s ++ b ++ p ++ l) := by
  rw [app2 s b p, len2 s b p]; exact app1 _ _
theorem l3Big_ret (v : Int) (n : Nat) (h : inR 0 2147483646 v) : Ret Tryz.prog 243 [iv v] [] n true (Is (.own n (bigN v).length) [(n, .list 5 1 (uvs (bigN v)))] (n + 1)) := by
  unfold inR at h
  have h1 := putN_len (v % 65536)
  have h2 := putN_len (v / 65536)
  refine Ret.fn ttOk Tryz.func243 rfl Tryz.call243 rfl rfl ?_
  refine Goes ?_
  repeat' first | refine W2.m ?_ ?_ | refine W1.m fun h => ?_ | fail
  rw [Int.tmod_eq_emod_of_nonneg (by omega)]
  first | refine CallP.is (l3Put_ret (v % 65536) _ ⟨by omega, by omega⟩) rfl ?_ | refine CallQ.is (l3Put_ret (v % 65536) _ ⟨by omega, by omega⟩) rfl rfl ?_
  refine Goes ?_
  repeat' first | refine W2.m ?_ ?_ | refine W1.m fun h => ?_ | fail
  rw [Int.tdiv_eq_ediv_of_nonneg (by omega), IntWalk.i64_in _ (by omega)]
  first | refine CallP.is (l3Put_ret (v / 65536) _ ⟨by omega, by omega⟩) rfl ?_ | refine CallQ.is (l3Put_ret (v / 65536) _ ⟨by omega, by omega⟩) rfl rfl ?_
  refine Goes ?_
  repeat' first | refine W2.m ?_ ?_ | refine W1.m fun h => ?_ | fail
  refine ⟨⟨lenA, lenA, lenA, lenA, rwsA⟩, ?_⟩
  refine Goes ?_
  repeat' first | refine W2.m ?_ ?_ | refine W1.m fun h => ?_ | fail
  refine FinOk.mk' [0] rfl rfl rfl rfl rfl rfl rfl ⟨?_, ?_, rfl⟩
  · exact ownI (len1 _ _)
  · exact objI (app1 _ _)
theorem l3List_ret (zs : List Int) (n : Nat) (hz : smallL 12 zs) : Ret Tryz.prog 244 [il zs] [] n true (Is (.own n (listN zs).length) [(n, .list 5 1 (uvs (listN zs)))] (n + 1)) := by
  have hz1 := hz.1
  have hL : (ivs zs).length = zs.length := by simp
  have h1 := putN_len zs.length
  refine Ret.fn ttOk Tryz.func244 rfl Tryz.call244 rfl rfl ?_
  refine Goes ?_
  repeat' first | refine W2.m ?_ ?_ | refine W1.m fun h => ?_ | fail
  rw [hL]
  first | refine CallP.is (l3Put_ret zs.length _ ⟨by omega, by omega⟩) rfl ?_ | refine CallQ.is (l3Put_ret zs.length _ ⟨by omega, by omega⟩) rfl rfl ?_
  refine Goes ?_
  repeat' first | refine W2.m ?_ ?_ | refine W1.m fun h => ?_ | fail
  refine LoopP.go (fun k : Nat => k ≤ zs.length) (fun k => ⟨[(0, il zs), (3, .own 0 (putN zs.length ++ numsN (zs.take k)).length), (4, iv k)], [(0, .list 5 1 (uvs (putN zs.length ++ numsN (zs.take k))))], 1⟩) (fun k => zs.length - k) 0 (Nat.zero_le _) ?_ ?_
  · simp only [List.take_zero]
    rw [show putN zs.length ++ numsN [] = putN zs.length from by simp [numsN]]
    exact (Weak.of rfl rfl ktA ktA)
  intro k hk
  have h2 := numsN_len (zs.take k)
  rw [List.length_take] at h2
  have hb : (putN zs.length ++ numsN (zs.take k)).length ≤ 100 := by simp only [List.length_append]; omega
  refine Goes ?_
  repeat' first | refine W2.m ?_ ?_ | refine W1.m fun h => ?_ | fail
  · have hlt : k < zs.length := by omega
    have hp := putN_len zs[k]
    have htk : putN zs.length ++ numsN (zs.take (k + 1)) = putN zs.length ++ numsN (zs.take k) ++ putN zs[k] := by rw [numsN_take hlt]; simp only [List.append_assoc]
    rw [rowK iv1 zs k (by omega)]
    refine ⟨by (first | exact ⟨by omega, by omega, rfl⟩ | (simp only [List.length_map]; exact ⟨by omega, by omega, rfl⟩)), ?_⟩
    refine Goes ?_
    repeat' first | refine W2.m ?_ ?_ | refine W1.m fun h => ?_ | fail
    first | refine CallP.is (l3Put_ret zs[k] _ (hz.2 _ (List.getElem_mem hlt))) rfl ?_ | refine CallQ.is (l3Put_ret zs[k] _ (hz.2 _ (List.getElem_mem hlt))) rfl rfl ?_
    refine Goes ?_
    repeat' first | refine W2.m ?_ ?_ | refine W1.m fun h => ?_ | fail
    refine ⟨⟨lenA, lenA, lenA, lenA, rwsA⟩, ?_⟩
    refine Goes ?_
    repeat' first | refine W2.m ?_ ?_ | refine W1.m fun h => ?_ | fail
    exact ⟨k + 1, by omega, by omega, Weak.of rfl rfl ⟨⟨rfl, rfl⟩, ⟨leafW (by rw [htk]; exact len1 _ _), rfl⟩, ⟨leafI numA, rfl⟩, trivial⟩ ⟨⟨leafO (by rw [htk]; exact app1 _ _), rfl, rfl⟩, trivial⟩⟩
  · obtain rfl : k = zs.length := by omega
    rw [List.take_length]
    refine FinOk.mk' [0] rfl rfl rfl rfl rfl rfl rfl ⟨?_, ?_, rfl⟩
    · rfl
    · rfl
end Go.Proofs.YtfnehjminipaeaaGreat
/-
  CHAPTER 3: the specification's packing without proofs, by the reading.
-/
namespace Go.Proofs.YtfnehjminipaeaaGreat
open Go Go.Am Go.RowKit
set_option linter.unusedVariables false
set_option linter.unusedSimpArgs false
theorem okI_bare {x : InD} (h : okI x) : okI (bareI x) := ⟨h.1, h.2.1, by show (0 : Nat) ≤ 8; decide, fun z hz => by cases hz⟩
theorem insN_bare {xs : List InD} {k : Nat} (h : k < xs.length) : insN ((xs.take (k + 1)).map bareI) = insN ((xs.take k).map bareI) ++ packI (bareI xs[k]) := by
  unfold insN; rw [takeS xs k h, List.map_append, List.map_append, List.flatten_append]; simp only [List.map_cons, List.map_nil, List.flatten_cons, List.flatten_nil, List.append_nil]
set_option maxHeartbeats 2000000 in
theorem l3Pack_no (t : TxD) (i n : Nat) (h : okT t) : Ret Tryz.prog 171 [.pt i 0 0, bv false] [(i, .box (txC t))] n true (Is (.own n (packT (bareT t)).length) [(i, .box (txC t)), (n, .list 5 1 (uvs (packT (bareT t))))] (n + 1)) := by
  obtain ⟨t1, xs, ys⟩ := t
  obtain ⟨h1, h2, h3, h4, h5⟩ := h
  dsimp only at h1 h2 h3 h4 h5
  have hL1 : (xs.map inRow).length = xs.length := by simp
  have hL2 : (ys.map outRow).length = ys.length := by simp
  have hb1 := putN_len t1
  have hb2 := putN_len xs.length
  have hb3 := putN_len ys.length
  refine Ret.of_run (tt := tt) ttOk Tryz.func171 rfl Tryz.call171 [i] [.box [iv t1, insV xs, outsV ys]] [.pt 0 0 0, bv false] true n _ rfl (nodup1 i) (by exact Nat.le_of_ble_eq_true rfl) rfl rfl ?_
  refine Goes ?_
  repeat' first | refine W2.m ?_ ?_ | refine W1.m fun h => ?_ | fail
  first | refine CallQ.is (l3Put_ret t1 _ h1) rfl rfl ?_ | refine CallP.is (l3Put_ret t1 _ h1) rfl ?_
  refine Goes ?_
  repeat' first | refine W2.m ?_ ?_ | refine W1.m fun h => ?_ | fail
  rw [hL1]
  first | refine CallP.is (l3Put_ret xs.length _ ⟨by omega, by omega⟩) rfl ?_ | refine CallQ.is (l3Put_ret xs.length _ ⟨by omega, by omega⟩) rfl rfl ?_
  refine Goes ?_
  repeat' first | refine W2.m ?_ ?_ | refine W1.m fun h => ?_ | fail
  refine ⟨⟨?_, ?_, ?_, ?_, ?_⟩, ?_⟩
  · exact lenA
  · exact lenA
  · exact lenA
  · exact lenA
  · intro r hr; first | (rw [takeU] at hr; exact row1 hr) | exact row1 hr | (have h0 := List.mem_of_mem_take hr; simp only [List.mem_singleton] at h0; subst h0; rfl)
  refine Goes ?_
  repeat' first | refine W2.m ?_ ?_ | refine W1.m fun h => ?_ | fail
  have hs0 : (putN t1 ++ putN xs.length).length ≤ 6 := by simp only [List.length_append]; omega
  refine LoopP.go (fun k : Nat => k ≤ xs.length) (fun k => ⟨[(0, .pt 0 0 0), (1, bv false), (5, .own 1 (putN t1 ++ putN xs.length ++ insN ((xs.take k).map bareI)).length), (6, iv k)], [(0, .box [iv t1, insV xs, outsV ys]), (1, .list 5 1 (uvs (putN t1 ++ putN xs.length ++ insN ((xs.take k).map bareI))))], 2⟩) (fun k => xs.length - k) 0 (Nat.zero_le _) ?_ ?_
  · have e0 : putN t1 ++ putN xs.length ++ insN ((xs.take 0).map bareI) = putN t1 ++ putN xs.length := by simp [insN]
    rw [e0]
    exact Weak.of rfl rfl ⟨⟨rfl, rfl⟩, ⟨rfl, rfl⟩, ⟨leafW (len1 _ _), rfl⟩, ⟨rfl, rfl⟩, trivial⟩ ⟨⟨rfl, rfl, rfl⟩, ⟨leafO (app1 _ _), rfl, rfl⟩, trivial⟩
  · intro k hk
    have hi := insN_len (xs := (xs.take k).map bareI) fun x hx => by
      obtain ⟨x', hx', rfl⟩ := List.mem_map.1 hx
      exact okI_bare (h4 x' (List.mem_of_mem_take hx'))
    rw [List.length_map, List.length_take] at hi
    have hb : (putN t1 ++ putN xs.length ++ insN ((xs.take k).map bareI)).length ≤ 160 := by simp only [List.length_append] at *; omega
    refine Goes ?_
    repeat' first | refine W2.m ?_ ?_ | refine W1.m fun h => ?_ | fail
    · have hlt : k < xs.length := by omega
      have hx := h4 _ (List.getElem_mem hlt)
      have htk : putN t1 ++ putN xs.length ++ insN ((xs.take (k + 1)).map bareI) = putN t1 ++ putN xs.length ++ insN ((xs.take k).map bareI) ++ packI (bareI xs[k]) := by rw [insN_bare hlt]; simp only [List.append_assoc]
      generalize hxy : xs[k] = x at *
      obtain ⟨x1, x2, x3⟩ := x
      have hx1 : inR 0 2147483646 x1 := hx.1
      have hx2 : inR 0 65535 x2 := by have := hx.2.1; unfold inR at this ⊢; dsimp only at this; omega
      have hx3 : smallL 12 x3 := ⟨Nat.le_trans hx.2.2.1 (by decide), hx.2.2.2⟩
      have g1 := bigN_len x1
      have g2 := (putN_len x2).2
      have g3 := listN_len x3
      have g4 := hx3.1
      generalize putN t1 ++ putN xs.length ++ insN ((xs.take k).map bareI) = s at *
      rw [rowK inRow xs k hlt, hxy]
      refine ⟨by rw [hL1]; exact ⟨by omega, by omega, rfl⟩, ?_⟩
      refine Goes ?_
      repeat' first | refine W2.m ?_ ?_ | refine W1.m fun h => ?_ | fail
      rw [rowK inRow xs k hlt, hxy]
      refine ⟨by rw [hL1]; exact ⟨by omega, by omega, rfl⟩, ?_⟩
      refine Goes ?_
      repeat' first | refine W2.m ?_ ?_ | refine W1.m fun h => ?_ | fail
      all_goals repeat' first
        | refine CallP.is (l3Big_ret x1 _ hx1) rfl ?_
          refine Goes ?_
          repeat' first | refine W2.m ?_ ?_ | refine W1.m fun h => ?_ | fail
        | refine CallP.is (l3Put_ret x2 _ hx2) rfl ?_
          refine Goes ?_
          repeat' first | refine W2.m ?_ ?_ | refine W1.m fun h => ?_ | fail
        | refine ⟨⟨?_, ?_, ?_, ?_, ?_⟩, ?_⟩
          · exact lenA
          · exact lenA
          · exact lenA
          · exact lenA
          · intro r hr; first | (rw [takeU] at hr; exact row1 hr) | exact row1 hr | (have h0 := List.mem_of_mem_take hr; simp only [List.mem_singleton] at h0; subst h0; rfl)
          refine Goes ?_
          repeat' first | refine W2.m ?_ ?_ | refine W1.m fun h => ?_ | fail
      all_goals
        have htk2 : putN t1 ++ putN xs.length ++ insN ((xs.take (k + 1)).map bareI) = s ++ bigN x1 ++ putN x2 ++ [0] := by rw [htk, packI_bare]; simp only [List.append_assoc]
        refine ⟨k + 1, by omega, by omega, Weak.of rfl rfl ⟨⟨rfl, rfl⟩, ⟨rfl, rfl⟩, ⟨leafW ?_, rfl⟩, ⟨leafI numA, rfl⟩, trivial⟩ ⟨⟨rfl, rfl, rfl⟩, ⟨leafO ?_, rfl, rfl⟩, trivial⟩⟩
        · rw [htk2]; exact len3 s (bigN x1) (putN x2) [0]
        · rw [htk2]; exact app3 s (bigN x1) (putN x2) [0]
    · obtain rfl : k = xs.length := by omega
      rw [List.take_length] at hi hb ⊢
      rw [Nat.min_self] at hi
      rw [hL2]
      first | refine CallP.is (l3Put_ret ys.length _ ⟨by omega, by omega⟩) rfl ?_ | refine CallQ.is (l3Put_ret ys.length _ ⟨by omega, by omega⟩) rfl rfl ?_
      refine Goes ?_
      repeat' first | refine W2.m ?_ ?_ | refine W1.m fun h => ?_ | fail
      refine ⟨⟨?_, ?_, ?_, ?_, ?_⟩, ?_⟩
      · exact lenA
      · exact lenA
      · exact lenA
      · exact lenA
      · intro r hr; first | (rw [takeU] at hr; exact row1 hr) | exact row1 hr | (have h0 := List.mem_of_mem_take hr; simp only [List.mem_singleton] at h0; subst h0; rfl)
      refine Goes ?_
      repeat' first | refine W2.m ?_ ?_ | refine W1.m fun h => ?_ | fail
      have hP : packT (bareT (t1, xs, ys)) = putN t1 ++ putN xs.length ++ insN (xs.map bareI) ++ putN ys.length ++ outsN ys := by simp only [packT, bareT, List.length_map]
      rw [hP]
      clear hP
      have hb4 : (putN t1 ++ putN xs.length ++ insN (xs.map bareI) ++ putN ys.length).length ≤ 170 := by simp only [List.length_append] at *; omega
      have HL := len1 (putN t1 ++ putN xs.length ++ insN (xs.map bareI)) (putN ys.length)
      have HO := app1 (putN t1 ++ putN xs.length ++ insN (xs.map bareI)) (putN ys.length)
      generalize putN t1 ++ putN xs.length ++ insN (xs.map bareI) ++ putN ys.length = s0 at *
      refine LoopP.go (fun k : Nat => k ≤ ys.length) (fun k => ⟨[(0, .pt 0 0 0), (5, .own 1 (s0 ++ outsN (ys.take k)).length), (7, iv k)], [(0, .box [iv t1, insV xs, outsV ys]), (1, .list 5 1 (uvs (s0 ++ outsN (ys.take k))))], 2⟩) (fun k => ys.length - k) 0 (Nat.zero_le _) ?_ ?_
      · have e0 : s0 ++ outsN (ys.take 0) = s0 := by simp [outsN]
        rw [e0]
        exact Weak.of rfl rfl ⟨⟨rfl, rfl⟩, ⟨leafW (HL), rfl⟩, ⟨rfl, rfl⟩, trivial⟩ ⟨⟨rfl, rfl, rfl⟩, ⟨leafO (HO), rfl, rfl⟩, trivial⟩
      · clear hb1 hb2 hb3 hi hb h
        intro k hk
        have hi := outsN_len (ys := ys.take k) fun y hy => h5 y (List.mem_of_mem_take hy)
        rw [List.length_take] at hi
        have hb : (s0 ++ outsN (ys.take k)).length ≤ 360 := by simp only [List.length_append]; omega
        refine Goes ?_
        repeat' first | refine W2.m ?_ ?_ | refine W1.m fun h => ?_ | fail
        · have hlt : k < ys.length := by omega
          have hy := h5 _ (List.getElem_mem hlt)
          have htk : s0 ++ outsN (ys.take (k + 1)) = s0 ++ outsN (ys.take k) ++ packO ys[k] := by rw [outsN_take hlt]; simp only [List.append_assoc]
          generalize hxy : ys[k] = y at *
          obtain ⟨y1, y2⟩ := y
          have hy1 : inR 0 2147483646 y1 := hy.1
          have hy2 : smallL 12 y2 := hy.2
          have g1 := bigN_len y1
          have g3 := listN_len y2
          have g4 := hy2.1
          have htk2 : s0 ++ outsN (ys.take (k + 1)) = s0 ++ outsN (ys.take k) ++ bigN y1 ++ listN y2 := by rw [htk]; simp only [packO, List.append_assoc]
          generalize s0 ++ outsN (ys.take k) = s at *
          rw [rowK outRow ys k hlt, hxy]
          refine ⟨by rw [hL2]; exact ⟨by omega, by omega, rfl⟩, ?_⟩
          refine Goes ?_
          repeat' first | refine W2.m ?_ ?_ | refine W1.m fun h => ?_ | fail
          rw [rowK outRow ys k hlt, hxy]
          refine ⟨by rw [hL2]; exact ⟨by omega, by omega, rfl⟩, ?_⟩
          refine Goes ?_
          repeat' first | refine W2.m ?_ ?_ | refine W1.m fun h => ?_ | fail
          all_goals repeat' first
            | refine CallP.is (l3Big_ret y1 _ hy1) rfl ?_
              refine Goes ?_
              repeat' first | refine W2.m ?_ ?_ | refine W1.m fun h => ?_ | fail
            | refine CallP.is (l3List_ret y2 _ hy2) rfl ?_
              refine Goes ?_
              repeat' first | refine W2.m ?_ ?_ | refine W1.m fun h => ?_ | fail
            | refine ⟨⟨?_, ?_, ?_, ?_, ?_⟩, ?_⟩
              · exact lenA
              · exact lenA
              · exact lenA
              · exact lenA
              · intro r hr; first | (rw [takeU] at hr; exact row1 hr) | exact row1 hr | (have h0 := List.mem_of_mem_take hr; simp only [List.mem_singleton] at h0; subst h0; rfl)
              refine Goes ?_
              repeat' first | refine W2.m ?_ ?_ | refine W1.m fun h => ?_ | fail
          all_goals
            refine ⟨k + 1, by omega, by omega, Weak.of rfl rfl ⟨⟨rfl, rfl⟩, ⟨leafW ?_, rfl⟩, ⟨leafI numA, rfl⟩, trivial⟩ ⟨⟨rfl, rfl, rfl⟩, ⟨leafO ?_, rfl, rfl⟩, trivial⟩⟩
            · rw [htk2]; exact len2 _ _ _
            · rw [htk2]; exact app2 _ _ _
        · obtain rfl : k = ys.length := by omega
          rw [List.take_length]
          refine FinOk.mk' [1] rfl rfl rfl rfl rfl rfl rfl ⟨?_, ?_, rfl⟩
          · rfl
          · rfl
end Go.Proofs.YtfnehjminipaeaaGreat
