import Derived.Test.YtllhgcfacgiabaaGreatR7
namespace Go.Proofs.YtllhgcfacgiabaaGreat
open Go Go.Am Go.RowKit
set_option linter.unusedVariables false
set_option linter.unusedSimpArgs false
theorem Upto.time {t:TreeD} {xs:List PlaceD} {i k:Nat} {z:Int} {p:PlaceD} (h:Upto t xs i) (hz:z=(k:Int) + -1) (hp:xs[k]?=some p):(z=-1∧p.time=0)∨∃ u:Nat,∃ h:u < t.nodes.length,z=(u:Int)∧t.nodes[u].blk.time=p.time:=by
 have hxl:=h.len
 have hi:=h.le
 have hkl:=(List.getElem?_eq_some_iff.1 hp).1
 cases k with
 | zero =>
   rw [h.good.zero] at hp
   cases hp
   exact .inl ⟨by omega,rfl⟩
 | succ u =>
   have hlt2:u < t.nodes.length:=by omega
   obtain ⟨a1,a2,hf,hb,r,a3,a4,a5⟩:=h.at (show u < i by omega) hlt2
   rw [a4] at hp
   cases hp
   exact .inr ⟨u,hlt2,by omega,rfl⟩
theorem headD0 {α:Type} (l:List α) (d:α) (h:0 < l.length):l.headD d=l[0]:=by
 cases l with
 | nil=>simp at h
 | cons x r=>rfl
theorem row0 {α:Type} (f:α→List AV) (l:List α) (h:0 < l.length):(l.map f).getD (Int.toNat 0) []=f l[0]:=by
 cases l with
 | nil=>simp at h
 | cons x r=>rfl
set_option maxHeartbeats 2000000 in
theorem l6Behind_rp (t:TreeD) (xs:List PlaceD) (i k n:Nat) (z:Int) (p:PlaceD) (b:BlkD) (hu:Upto t xs i) (hz:z=(k:Int) + -1) (hp:xs[k]?=some p) (hf:FitsB b) (hb:blkF b=0):Ret Tryz.prog 118 [.rp (treeC t),iv z,.rp (blkC b)] [] n true (Is (iv (codeP t.bits p b)) [] n):=by
 have hL:(t.nodes.map nodeC).length=t.nodes.length:=by simp
 have hxl:=hu.len
 have hi:=hu.le
 have h8:=hu.cap
 obtain ⟨c0,q1,q2⟩:=hu.good.ok k p hp
 have hkl:=(List.getElem?_eq_some_iff.1 hp).1
 obtain ⟨_,hl1,hl4,hzz⟩:=blkF_ok hb
 have hx0:okT b.txs[0]:=fault_ok (txsC_all hzz _ (List.getElem_mem hl1))
 have hhd:b.txs.headD (0,[],[])=b.txs[0]:=headD0 _ _ hl1
 have hLt:(b.txs.map txC).length=b.txs.length:=by simp
 have hsb:0≤subF (p.h + 1)∧subF (p.h + 1)≤50:=by
  unfold subF
  exact ⟨Int.ediv_nonneg (by decide) (by exact Int.le_of_lt (Int.pow_pos (by decide))),Int.ediv_le_self _ (by decide)⟩
 have hH:=fun n=>l6Header_rp b n hl1 hl4 hzz
 have hT:=fun n=>l1Target_ret b.bits n (bits_i64 hb).2
 have hG:=fun n=>l6Height_rp t xs i k n z p hu hz hp
 have hK:=fun n=>l6Coins_rp t xs i hu k n z p hz hp
 have hX:=fun n=>l6Txs_rp p.coins b (p.h + 1) n c0 hf hl4 hzz ⟨by omega,by omega⟩
 have hS:=fun n=>l6Subsidy_ret (p.h + 1) n ⟨by omega,by omega⟩
 have hO:=fun n=>l5Outs_rp b.txs[0] n hx0
 have hw:IntKind.i64.wrap (p.h + 1)=p.h + 1:=IntWalk.i64_in _ (by omega)
 have hC:codeP t.bits p b=if b.bits≠t.bits∨b.time≤p.time then 9 else if ¬ hdrB b≤tgtB b.bits then 8 else if b.txs[0].1≠p.h + 1 then 1 else applyB b p.coins (p.h + 1):=by unfold codeP; rw [hhd]
 have htime:=hu.time hz hp
 by_cases h9:b.bits≠t.bits∨b.time≤p.time
 · rw [if_pos h9] at hC
   rw [hC]
   rcases htime with ⟨rfl,htm⟩ | ⟨u,hlt2,rfl,htm⟩
   · refine Ret.fn ttOk Tryz.func118 rfl Tryz.call118 rfl rfl ?_
     refine Goes ?_;repeat' first|apply W2.m|refine W1.m fun h=>?_
     all_goals first
      | (exfalso; omega)
      | (refine FinOk.pure rfl rfl rfl ⟨?_,rfl,rfl⟩
         rfl)
   · refine Ret.fn ttOk Tryz.func118 rfl Tryz.call118 rfl rfl ?_
     refine Goes ?_
     rw [rowK nodeC t.nodes u hlt2]
     refine ⟨by rw [hL]; exact ⟨by omega,by omega,rfl⟩,?_⟩
     refine Goes ?_;repeat' first|apply W2.m|refine W1.m fun h=>?_
     all_goals first
      | (exfalso; omega)
      | (refine FinOk.pure rfl rfl rfl ⟨?_,rfl,rfl⟩
         rfl)
 rw [if_neg h9] at hC
 have h9a:b.bits=t.bits:=Decidable.not_not.1 fun e=>h9 (.inl e)
 have h9b:¬ b.time≤p.time:=fun e=>h9 (.inr e)
 rcases htime with ⟨rfl,htm⟩ | ⟨u,hlt2,rfl,htm⟩
 · refine Ret.fn ttOk Tryz.func118 rfl Tryz.call118 rfl rfl ?_
   refine Goes ?_;repeat' first|apply W2.m|refine W1.m fun h=>?_
   all_goals try (exfalso; omega)
   repeat' first
    | (first | refine CallQ.is (hH _) rfl rfl ?_ | refine CallP.is (hH _) rfl ?_
       refine Goes ?_)
    | (first | refine CallQ.is (hT _) rfl rfl ?_ | refine CallP.is (hT _) rfl ?_
       refine Goes ?_;repeat' first|apply W2.m|refine W1.m fun h=>?_)
   all_goals first
    | (exfalso; omega)
    | (have h8':¬ hdrB b≤tgtB b.bits:=by omega
       rw [hC,if_pos h8']
       refine FinOk.pure rfl rfl rfl ⟨?_,rfl,rfl⟩
       rfl)
    | skip
   have h8':hdrB b≤tgtB b.bits:=by omega
   rw [if_neg (fun e=>e h8')] at hC
   first | refine CallP.is (hG _) rfl ?_ | refine CallQ.is (hG _) rfl rfl ?_
   refine Goes ?_
   rw [hw]
   rw [row0 txC b.txs hl1]
   refine ⟨by rw [hLt]; exact ⟨by omega,by omega,rfl⟩,?_⟩
   refine Goes ?_;repeat' first|apply W2.m|refine W1.m fun h=>?_
   all_goals first
    | (exfalso; omega)
    | (have h1':b.txs[0].1≠p.h + 1:=by omega
       rw [hC,if_pos h1']
       refine FinOk.pure rfl rfl rfl ⟨?_,rfl,rfl⟩
       rfl)
    | skip
   have h1':¬ b.txs[0].1≠p.h + 1:=by omega
   rw [if_neg h1'] at hC
   unfold applyB at hC
   rw [hhd] at hC
   first | refine CallP.is (hK _) rfl ?_ | refine CallQ.is (hK _) rfl rfl ?_
   refine Goes ?_
   by_cases hA:(runT (p.h + 1) p.coins b.txs).1=0
   · simp only [if_pos hA] at hX
     rw [if_neg (fun e=>e hA)] at hC
     obtain ⟨_,f1,f2⟩:=runT_ok (p.h + 1) b.txs p.coins c0 hA
     have hwf:IntKind.i64.wrap (subF (p.h + 1) + (runT (p.h + 1) p.coins b.txs).2.2)=subF (p.h + 1) + (runT (p.h + 1) p.coins b.txs).2.2:=IntWalk.i64_in _ (by omega)
     first | refine CallP.is (hX _) rfl ?_ | refine CallQ.is (hX _) rfl rfl ?_
     refine Goes ?_
     rw [row0 txC b.txs hl1]
     refine ⟨by rw [hLt]; exact ⟨by omega,by omega,rfl⟩,?_⟩
     refine Goes ?_
     first | refine CallP.is (hO _) rfl ?_ | refine CallQ.is (hO _) rfl rfl ?_
     refine Goes ?_
     first | refine CallP.is (hS _) rfl ?_ | refine CallQ.is (hS _) rfl rfl ?_
     refine Goes ?_;repeat' first|apply W2.m|refine W1.m fun h=>?_
     all_goals first
      | (rw [hC,if_pos (by omega)]
         refine FinOk.pure rfl rfl rfl ⟨?_,rfl,rfl⟩
         rfl)
      | (rw [hC,if_neg (by omega)]
         refine FinOk.pure rfl rfl rfl ⟨?_,rfl,rfl⟩
         rfl)
   · simp only [if_neg hA] at hX
     rw [if_pos hA] at hC
     rw [hC]
     first | refine CallP.is (hX _) rfl ?_ | refine CallQ.is (hX _) rfl rfl ?_
     refine Goes ?_;repeat' first|apply W2.m|refine W1.m fun h=>?_
     all_goals first
      | (exfalso; omega)
      | (refine FinOk.pure rfl rfl rfl ⟨?_,rfl,rfl⟩
         rfl)
 · refine Ret.fn ttOk Tryz.func118 rfl Tryz.call118 rfl rfl ?_
   refine Goes ?_
   rw [rowK nodeC t.nodes u hlt2]
   refine ⟨by rw [hL]; exact ⟨by omega,by omega,rfl⟩,?_⟩
   refine Goes ?_;repeat' first|apply W2.m|refine W1.m fun h=>?_
   all_goals try (exfalso; omega)
   repeat' first
    | (first | refine CallQ.is (hH _) rfl rfl ?_ | refine CallP.is (hH _) rfl ?_
       refine Goes ?_)
    | (first | refine CallQ.is (hT _) rfl rfl ?_ | refine CallP.is (hT _) rfl ?_
       refine Goes ?_;repeat' first|apply W2.m|refine W1.m fun h=>?_)
   all_goals first
    | (exfalso; omega)
    | (have h8':¬ hdrB b≤tgtB b.bits:=by omega
       rw [hC,if_pos h8']
       refine FinOk.pure rfl rfl rfl ⟨?_,rfl,rfl⟩
       rfl)
    | skip
   have h8':hdrB b≤tgtB b.bits:=by omega
   rw [if_neg (fun e=>e h8')] at hC
   first | refine CallP.is (hG _) rfl ?_ | refine CallQ.is (hG _) rfl rfl ?_
   refine Goes ?_
   rw [hw]
   rw [row0 txC b.txs hl1]
   refine ⟨by rw [hLt]; exact ⟨by omega,by omega,rfl⟩,?_⟩
   refine Goes ?_;repeat' first|apply W2.m|refine W1.m fun h=>?_
   all_goals first
    | (exfalso; omega)
    | (have h1':b.txs[0].1≠p.h + 1:=by omega
       rw [hC,if_pos h1']
       refine FinOk.pure rfl rfl rfl ⟨?_,rfl,rfl⟩
       rfl)
    | skip
   have h1':¬ b.txs[0].1≠p.h + 1:=by omega
   rw [if_neg h1'] at hC
   unfold applyB at hC
   rw [hhd] at hC
   first | refine CallP.is (hK _) rfl ?_ | refine CallQ.is (hK _) rfl rfl ?_
   refine Goes ?_
   by_cases hA:(runT (p.h + 1) p.coins b.txs).1=0
   · simp only [if_pos hA] at hX
     rw [if_neg (fun e=>e hA)] at hC
     obtain ⟨_,f1,f2⟩:=runT_ok (p.h + 1) b.txs p.coins c0 hA
     have hwf:IntKind.i64.wrap (subF (p.h + 1) + (runT (p.h + 1) p.coins b.txs).2.2)=subF (p.h + 1) + (runT (p.h + 1) p.coins b.txs).2.2:=IntWalk.i64_in _ (by omega)
     first | refine CallP.is (hX _) rfl ?_ | refine CallQ.is (hX _) rfl rfl ?_
     refine Goes ?_
     rw [row0 txC b.txs hl1]
     refine ⟨by rw [hLt]; exact ⟨by omega,by omega,rfl⟩,?_⟩
     refine Goes ?_
     first | refine CallP.is (hO _) rfl ?_ | refine CallQ.is (hO _) rfl rfl ?_
     refine Goes ?_
     first | refine CallP.is (hS _) rfl ?_ | refine CallQ.is (hS _) rfl rfl ?_
     refine Goes ?_;repeat' first|apply W2.m|refine W1.m fun h=>?_
     all_goals first
      | (rw [hC,if_pos (by omega)]
         refine FinOk.pure rfl rfl rfl ⟨?_,rfl,rfl⟩
         rfl)
      | (rw [hC,if_neg (by omega)]
         refine FinOk.pure rfl rfl rfl ⟨?_,rfl,rfl⟩
         rfl)
   · simp only [if_neg hA] at hX
     rw [if_pos hA] at hC
     rw [hC]
     first | refine CallP.is (hX _) rfl ?_ | refine CallQ.is (hX _) rfl rfl ?_
     refine Goes ?_;repeat' first|apply W2.m|refine W1.m fun h=>?_
     all_goals first
      | (exfalso; omega)
      | (refine FinOk.pure rfl rfl rfl ⟨?_,rfl,rfl⟩
         rfl)
end Go.Proofs.YtllhgcfacgiabaaGreat
namespace Go.Proofs.YtllhgcfacgiabaaGreat
open Go Go.Am Go.RowKit
set_option linter.unusedVariables false
set_option linter.unusedSimpArgs false
theorem findP_eq {t:TreeD} {xs:List PlaceD} {i k:Nat} (hu:Upto t xs i) (s:Int) (hk:k < xs.length):findP xs s=(k:Int) + -1↔xs[k].sum=s:=by
 constructor
 · intro h
   unfold findP at h
   cases hn:nodeF xs s with
   | none=>rw [hn] at h; dsimp only at h; omega
   | some j =>
     rw [hn] at h
     dsimp only at h
     obtain rfl:j=k:=by omega
     obtain ⟨p,hp,e,_⟩:=nodeF_some.1 hn
     rw [List.getElem?_eq_getElem hk] at hp
     cases hp
     exact e
 · intro h
   unfold findP
   rw [← h,hu.good.nodeF_at (List.getElem?_eq_getElem hk)]
theorem findP_none {xs:List PlaceD} {s:Int}:findP xs s=-2↔nodeF xs s=none:=by
 unfold findP
 cases nodeF xs s with
 | none=>simp
 | some j=>simp; omega
set_option maxHeartbeats 2000000 in
theorem l6Node_rp (t:TreeD) (xs:List PlaceD) (i n:Nat) (hu:Upto t xs i) (hlt:i < t.nodes.length) (hf:FitsB t.nodes[i].blk):Ret Tryz.prog 107 [.rp (treeC t),iv i] [] n true (Is (iv (stepC t.bits xs t.nodes[i])) [] n):=by
 have hL:(t.nodes.map nodeC).length=t.nodes.length:=by simp
 have hxl:=hu.len
 have h8:=hu.cap
 have hF:=fun n=>l6Fault_rp t.nodes[i].blk n hf
 have hI:=fun n=>l1In_ret t.nodes[i].up (-1) ((i:Int) - 1) n
 have hwi:IntKind.i64.wrap ((i:Int) - 1)=(i:Int) - 1:=IntWalk.i64_in _ (by omega)
 by_cases h0:blkF t.nodes[i].blk≠0
 · have hC:stepC t.bits xs t.nodes[i]=blkF t.nodes[i].blk:=if_pos h0
   rw [hC]
   refine Ret.fn ttOk Tryz.func107 rfl Tryz.call107 rfl rfl ?_
   refine Goes ?_
   rw [rowK nodeC t.nodes i hlt]
   refine ⟨by rw [hL]; exact ⟨by omega,by omega,rfl⟩,?_⟩
   refine Goes ?_
   first | refine CallP.is (hF _) rfl ?_ | refine CallQ.is (hF _) rfl rfl ?_
   refine Goes ?_;repeat' first|apply W2.m|refine W1.m fun h=>?_
   refine FinOk.pure rfl rfl rfl ⟨?_,rfl,rfl⟩
   rfl
 have hz:blkF t.nodes[i].blk=0:=Decidable.not_not.1 h0
 rw [hz] at hF
 have hP:=fun n=>l6Find_rp t xs t.nodes[i].blk.prev i n hu
 cases hup:upAt xs t.nodes[i] with
 | none =>
   have hC:stepC t.bits xs t.nodes[i]=4:=by unfold stepC; rw [if_neg h0,hup]
   rw [hC]
   by_cases hin:inR (-1) ((i:Int) - 1) t.nodes[i].up
   · rw [decide_eq_true hin] at hI
     have hin2:=hin
     unfold inR at hin2
     obtain ⟨k,hk,hk2⟩:∃ k:Nat,k < xs.length∧t.nodes[i].up=(k:Int) + -1:=⟨(t.nodes[i].up + 1).toNat,by omega,by omega⟩
     have hne:¬ findP xs t.nodes[i].blk.prev=t.nodes[i].up:=fun e=>by
      rw [hk2] at e
      have hs:=(findP_eq hu _ hk).1 e
      unfold upAt at hup
      rw [if_pos ⟨hin2.1,by omega,(by
       have:(t.nodes[i].up + 1).toNat=k:=by omega
       rw [this]; simp [List.getD_eq_getElem?_getD,hk,hs])⟩] at hup
      cases hup
     refine Ret.fn ttOk Tryz.func107 rfl Tryz.call107 rfl rfl ?_
     refine Goes ?_
     rw [rowK nodeC t.nodes i hlt]
     refine ⟨by rw [hL]; exact ⟨by omega,by omega,rfl⟩,?_⟩
     refine Goes ?_
     first | refine CallP.is (hF _) rfl ?_ | refine CallQ.is (hF _) rfl rfl ?_
     refine Goes ?_
     rw [hwi]
     repeat' first
      | (first | refine CallQ.is (hI _) rfl rfl ?_ | refine CallP.is (hI _) rfl ?_
         refine Goes ?_)
      | (first | refine CallQ.is (hP _) rfl rfl ?_ | refine CallP.is (hP _) rfl ?_
         refine Goes ?_;repeat' first|apply W2.m|refine W1.m fun h=>?_)
     all_goals first
      | (exfalso; omega)
      | (refine FinOk.pure rfl rfl rfl ⟨?_,rfl,rfl⟩
         rfl)
   · rw [decide_eq_false hin] at hI
     refine Ret.fn ttOk Tryz.func107 rfl Tryz.call107 rfl rfl ?_
     refine Goes ?_
     rw [rowK nodeC t.nodes i hlt]
     refine ⟨by rw [hL]; exact ⟨by omega,by omega,rfl⟩,?_⟩
     refine Goes ?_
     first | refine CallP.is (hF _) rfl ?_ | refine CallQ.is (hF _) rfl rfl ?_
     refine Goes ?_
     rw [hwi]
     repeat' first
      | (first | refine CallQ.is (hI _) rfl rfl ?_ | refine CallP.is (hI _) rfl ?_
         refine Goes ?_)
      | (first | refine CallQ.is (hP _) rfl rfl ?_ | refine CallP.is (hP _) rfl ?_
         refine Goes ?_)
     all_goals first
      | (exfalso; omega)
      | (refine FinOk.pure rfl rfl rfl ⟨?_,rfl,rfl⟩
         rfl)
 | some k =>
   obtain ⟨hk,hk2,hk3⟩:=upAt_some hup
   have hg:xs.getD k p0=xs[k]:=by simp [List.getD_eq_getElem?_getD,hk]
   rw [hg] at hk3
   have hC:stepC t.bits xs t.nodes[i]=addP t.bits xs xs[k] t.nodes[i].blk:=by unfold stepC; rw [if_neg h0,hup]; dsimp only; rw [hg]
   have hfe:findP xs t.nodes[i].blk.prev=t.nodes[i].up:=by rw [hk2]; exact (findP_eq hu _ hk).2 hk3
   have hin:inR (-1) ((i:Int) - 1) t.nodes[i].up:=by unfold inR; omega
   rw [decide_eq_true hin] at hI
   rw [hfe] at hP
   have hB:=fun n=>l6Behind_rp t xs i k n t.nodes[i].up xs[k] t.nodes[i].blk hu hk2 (List.getElem?_eq_getElem hk) hf hz
   obtain ⟨_,hl1,hl4,hzz⟩:=blkF_ok hz
   have hH:=fun n=>l6Header_rp t.nodes[i].blk n hl1 hl4 hzz
   have hQ:=fun n=>l6Find_rp t xs (hdrB t.nodes[i].blk) i n hu
   rw [hC]
   by_cases hc:codeP t.bits xs[k] t.nodes[i].blk≠0
   · have hA:addP t.bits xs xs[k] t.nodes[i].blk=codeP t.bits xs[k] t.nodes[i].blk:=if_pos hc
     rw [hA]
     refine Ret.fn ttOk Tryz.func107 rfl Tryz.call107 rfl rfl ?_
     refine Goes ?_
     rw [rowK nodeC t.nodes i hlt]
     refine ⟨by rw [hL]; exact ⟨by omega,by omega,rfl⟩,?_⟩
     refine Goes ?_
     first | refine CallP.is (hF _) rfl ?_ | refine CallQ.is (hF _) rfl rfl ?_
     refine Goes ?_
     rw [hwi]
     repeat' first
      | (first | refine CallQ.is (hI _) rfl rfl ?_ | refine CallP.is (hI _) rfl ?_
         refine Goes ?_)
      | (first | refine CallQ.is (hP _) rfl rfl ?_ | refine CallP.is (hP _) rfl ?_
         refine Goes ?_;repeat' first|apply W2.m|refine W1.m fun h=>?_)
     first | refine CallP.is (hB _) rfl ?_ | refine CallQ.is (hB _) rfl rfl ?_
     refine Goes ?_;repeat' first|apply W2.m|refine W1.m fun h=>?_
     all_goals first
      | (exfalso; omega)
      | (refine FinOk.pure rfl rfl rfl ⟨?_,rfl,rfl⟩
         rfl)
   · rw [Decidable.not_not.1 hc] at hB
     have hA:addP t.bits xs xs[k] t.nodes[i].blk=if findP xs (hdrB t.nodes[i].blk)=-2 then 0 else 6:=by
      unfold addP
      rw [if_neg hc]
      cases hn:nodeF xs (hdrB t.nodes[i].blk) with
      | none=>rw [if_pos (findP_none.2 hn)]; rfl
      | some j=>rw [if_neg (show ¬ findP xs (hdrB t.nodes[i].blk)=-2 from fun e=>by rw [findP_none.1 e] at hn; cases hn)]; rfl
     rw [hA]
     refine Ret.fn ttOk Tryz.func107 rfl Tryz.call107 rfl rfl ?_
     refine Goes ?_
     rw [rowK nodeC t.nodes i hlt]
     refine ⟨by rw [hL]; exact ⟨by omega,by omega,rfl⟩,?_⟩
     refine Goes ?_
     first | refine CallP.is (hF _) rfl ?_ | refine CallQ.is (hF _) rfl rfl ?_
     refine Goes ?_
     rw [hwi]
     repeat' first
      | (first | refine CallQ.is (hI _) rfl rfl ?_ | refine CallP.is (hI _) rfl ?_
         refine Goes ?_)
      | (first | refine CallQ.is (hP _) rfl rfl ?_ | refine CallP.is (hP _) rfl ?_
         refine Goes ?_;repeat' first|apply W2.m|refine W1.m fun h=>?_)
     first | refine CallP.is (hB _) rfl ?_ | refine CallQ.is (hB _) rfl rfl ?_
     refine Goes ?_
     first | refine CallP.is (hH _) rfl ?_ | refine CallQ.is (hH _) rfl rfl ?_
     refine Goes ?_
     first | refine CallP.is (hQ _) rfl ?_ | refine CallQ.is (hQ _) rfl rfl ?_
     refine Goes ?_;repeat' first|apply W2.m|refine W1.m fun h=>?_
     all_goals first
      | (exfalso; omega)
      | (rw [if_pos (show findP xs (hdrB t.nodes[i].blk)=-2 by omega)]
         refine FinOk.pure rfl rfl rfl ⟨?_,rfl,rfl⟩
         rfl)
      | (rw [if_neg (show ¬ findP xs (hdrB t.nodes[i].blk)=-2 by omega)]
         refine FinOk.pure rfl rfl rfl ⟨?_,rfl,rfl⟩
         rfl)
theorem Upto.nil {t:TreeD} (h:t.nodes.length≤8):Upto t [p0] 0:=⟨by rw [List.take_zero]; exact Good.nil _,Nat.zero_le _,h⟩
theorem Upto.step {t:TreeD} {xs:List PlaceD} {i:Nat} (hu:Upto t xs i) (hlt:i < t.nodes.length) (hf:FitsB t.nodes[i].blk) (hs:stepC t.bits xs t.nodes[i]=0):Upto t (stepX t.bits xs t.nodes[i]) (i + 1) :=
 ⟨by rw [takeS _ _ hlt]; exact hu.good.step hf hs,hlt,hu.cap⟩
theorem l6Tree_rp (t:TreeD) (n:Nat) (hlen:t.nodes.length≤1048576) (hf:∀ x∈t.nodes,FitsB x.blk):Ret Tryz.prog 56 [.rp (treeC t)] [] n true (Is (iv (treeF t)) [] n):=by
 have hL:(t.nodes.map nodeC).length=t.nodes.length:=by simp
 have hb:=fun n=>l1Bits_ret t.bits n
 unfold treeF
 cases hbb:bitsB t.bits with
 | false =>
   rw [hbb] at hb
   refine Ret.fn ttOk Tryz.func56 rfl Tryz.call56 rfl rfl ?_
   refine Goes ?_
   first | refine CallP.is (hb _) rfl ?_ | refine CallQ.is (hb _) rfl rfl ?_
   refine Goes ?_
   refine FinOk.pure rfl rfl rfl ⟨?_,rfl,rfl⟩
   rfl
 | true =>
   rw [hbb] at hb
   rw [if_pos rfl]
   by_cases h8:8 < t.nodes.length
   · rw [if_pos h8]
     refine Ret.fn ttOk Tryz.func56 rfl Tryz.call56 rfl rfl ?_
     refine Goes ?_
     first | refine CallP.is (hb _) rfl ?_ | refine CallQ.is (hb _) rfl rfl ?_
     refine Goes ?_;repeat' first|apply W2.m|refine W1.m fun h=>?_
     all_goals first
      | (exfalso; omega)
      | (refine FinOk.pure rfl rfl rfl ⟨?_,rfl,rfl⟩
         rfl)
   rw [if_neg h8]
   refine Ret.fn ttOk Tryz.func56 rfl Tryz.call56 rfl rfl ?_
   refine Goes ?_
   first | refine CallP.is (hb _) rfl ?_ | refine CallQ.is (hb _) rfl rfl ?_
   refine Goes ?_;repeat' first|apply W2.m|refine W1.m fun h=>?_
   all_goals try (exfalso; omega)
   refine LoopP.go (fun y:Nat × List PlaceD=>y.1≤t.nodes.length∧Upto t y.2 y.1∧goC t.bits [p0] t.nodes=goC t.bits y.2 (t.nodes.drop y.1)) (fun y=>⟨[(0,.rp (treeC t)),(3,iv y.1)],[],0⟩) (fun y=>t.nodes.length - y.1) (0,[p0]) ⟨Nat.zero_le _,Upto.nil (by omega),rfl⟩ (Weak.of rfl rfl ktA trivial) ?_
   rintro ⟨k,xs⟩ ⟨g1,g2,g3⟩
   dsimp only at g1 g2 g3 ⊢
   by_cases hlt:k < t.nodes.length
   · have hat:=goC_at t.bits xs t.nodes k hlt
     rw [← g3] at hat
     have hfk:=hf _ (List.getElem_mem hlt)
     have hN:=fun n=>l6Node_rp t xs k n g2 hlt hfk
     by_cases hs:stepC t.bits xs t.nodes[k]≠0
     · rw [if_pos hs] at hat
       rw [hat]
       refine Goes ?_;repeat' first|apply W2.m|refine W1.m fun h=>?_
       all_goals try (exfalso; omega)
       first | refine CallP.is (hN _) rfl ?_ | refine CallQ.is (hN _) rfl rfl ?_
       refine Goes ?_;repeat' first|apply W2.m|refine W1.m fun h=>?_
       all_goals first
        | (exfalso; omega)
        | (refine FinOk.pure rfl rfl rfl ⟨?_,rfl,rfl⟩
           rfl)
     · rw [if_neg hs] at hat
       have hs0:=Decidable.not_not.1 hs
       rw [hs0] at hN
       refine Goes ?_;repeat' first|apply W2.m|refine W1.m fun h=>?_
       all_goals try (exfalso; omega)
       first | refine CallP.is (hN _) rfl ?_ | refine CallQ.is (hN _) rfl rfl ?_
       refine Goes ?_
       all_goals try (exfalso; omega)
       exact ⟨(k + 1,stepX t.bits xs t.nodes[k]),⟨by show k + 1≤_; omega,g2.step hlt hfk hs0,hat⟩,by show _ - (k + 1) < _; omega,(Weak.of rfl rfl ktA trivial)⟩
   · obtain rfl:k=t.nodes.length:=by omega
     rw [List.drop_length,goC] at g3
     rw [g3]
     refine Goes ?_;repeat' first|apply W2.m|refine W1.m fun h=>?_
     all_goals try (exfalso; omega)
     refine FinOk.pure rfl rfl rfl ⟨?_,rfl,rfl⟩
     rfl
end Go.Proofs.YtllhgcfacgiabaaGreat
