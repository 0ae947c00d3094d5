import Derived.Test.YtllhgcfacgiabaaGreatP36
import Derived.Test.YtllhgcfacgiabaaGreatP84
namespace Go.Proofs.YtllhgcfacgiabaaGreat
open Go Go.Am Go.RowKit
set_option linter.unusedVariables false
set_option linter.unusedSimpArgs false
theorem l5Outs_rp (t:TxD) (n:Nat) (hok:okT t):Ret Tryz.prog 159 [.rp (txC t)] [] n true (Is (iv (sumV (valsO t.2.2))) [] n):=by
 obtain ⟨_,hl1,hl2,_,hoo⟩:=hok
 have hL2:(t.2.2.map outRow).length=t.2.2.length:=by simp
 have hb2:=sumV_toC 2147483646 (valsO t.2.2) (fun z hz=>by obtain ⟨y,hy,rfl⟩:=List.mem_map.1 hz; exact (hoo y hy).1)
 refine Ret.fn ttOk Tryz.func159 rfl Tryz.call159 rfl rfl ?_
 refine Goes ?_
 refine LoopP.go (fun k:Nat=>k≤t.2.2.length) (fun k=>⟨[(0,.rp (txC t)),(3,iv (sumV ((valsO t.2.2).take k))),(4,iv k)],[],0⟩) (fun k=>t.2.2.length - k) 0 (Nat.zero_le _) ?_ ?_
 · exact Weak.of rfl rfl ⟨⟨rfl,rfl⟩,⟨rfl,rfl⟩,⟨rfl,rfl⟩,trivial⟩ trivial
 intro j hj
 refine Goes ?_;repeat' first|apply W2.m|refine W1.m fun h=>?_
 · have hlt:j < t.2.2.length:=by omega
   have c1:=hb2 j (by simpa using hj)
   have c2:=hb2 (j + 1) (by simp; omega)
   have hsj:=sumV_take (valsO t.2.2) j (by simpa using hlt)
   rw [List.getElem_map] at hsj
   rw [rowK outRow t.2.2 j hlt]
   refine ⟨by rw [hL2]; exact ⟨by omega,by omega,rfl⟩,?_⟩
   refine Goes ?_
   exact ⟨j + 1,by omega,by omega,Weak.of rfl rfl ⟨⟨rfl,rfl⟩,⟨leafI (by rw [IntWalk.i64_in _ (by omega)]; omega),rfl⟩,⟨leafI numA,rfl⟩,trivial⟩ trivial⟩
 · obtain rfl:j=t.2.2.length:=by omega
   rw [List.take_of_length_le (by simp)]
   refine FinOk.pure rfl rfl rfl ⟨?_,rfl,rfl⟩
   rfl
theorem l5Spend_rp (l:List CoinD) (t:TxD) (hg:Int) (n:Nat) (hl:l.length≤1048576) (h0:coinsC l=0) (hz:faultC t=0) (hh:inR 0 9999 hg):Ret Tryz.prog 200 [coinsV l,.rp (txC t),iv hg] [] n true (Is (iv (if t.2.1.length=0 then 1 else spendQ l t hg)) [] n):=by
 have hok:=fault_ok hz
 have hl1:=hok.2.1
 have hL:(l.map coinRow).length=l.length:=by simp
 have hL1:(t.2.1.map inRow).length=t.2.1.length:=by simp
 have hb1:=sumV_toC 1000000 (valsI l t.2.1) (fun z hz=>by obtain ⟨x,_,rfl⟩:=List.mem_map.1 hz; exact valAt_bd h0 x)
 have hsum:∀ n,Ret Tryz.prog 135 [.rp (txC t)] [] n true (Is (iv (textOf t)) [] n):=fun n=>l3Sum_rp t n hz
 have houts:=fun n=>l5Outs_rp t n hok
 unfold spendQ
 generalize textOf t=text at *
 refine Ret.fn ttOk Tryz.func200 rfl Tryz.call200 rfl rfl ?_
 refine Goes ?_;repeat' first|apply W2.m|refine W1.m fun h=>?_
 · refine FinOk.pure rfl rfl rfl ⟨?_,rfl,rfl⟩
   rw [if_pos (by omega)]
 have hne:¬ t.2.1.length=0:=by omega
 rw [if_neg hne]
 first | refine CallP.is (hsum _) rfl ?_ | refine CallQ.is (hsum _) rfl rfl ?_
 refine Goes ?_
 refine LoopP.go (fun k:Nat=>k≤t.2.1.length∧insQ l text hg t.2.1=insQ l text hg (t.2.1.drop k)) (fun k=>⟨[(0,coinsV l),(1,.rp (txC t)),(2,iv hg),(7,iv text),(8,iv (sumV ((valsI l t.2.1).take k))),(9,iv k)],[],0⟩) (fun k=>t.2.1.length - k) 0 ⟨Nat.zero_le _,rfl⟩ ?_ ?_
 · exact Weak.of rfl rfl ⟨⟨rfl,rfl⟩,⟨rfl,rfl⟩,⟨rfl,rfl⟩,⟨rfl,rfl⟩,⟨rfl,rfl⟩,⟨rfl,rfl⟩,trivial⟩ trivial
 intro k ⟨hk,hp⟩
 refine Goes ?_;repeat' first|apply W2.m|refine W1.m fun h=>?_
 · have hlt:k < t.2.1.length:=by omega
   have hat:=insQ_at l text hg t.2.1 k hlt
   rw [← hp] at hat
   rw [rowK inRow t.2.1 k hlt]
   refine ⟨by rw [hL1]; exact ⟨by omega,by omega,rfl⟩,?_⟩
   refine Goes ?_
   first | refine CallP.is (l5In_ret l t.2.1[k] text hg _ hl h0 hh) rfl ?_ | refine CallQ.is (l5In_ret l t.2.1[k] text hg _ hl h0 hh) rfl rfl ?_
   refine Goes ?_;repeat' first|apply W2.m|refine W1.m fun h=>?_
   · have hq:inQ l text hg t.2.1[k]≠0:=by assumption
     rw [if_pos hq] at hat
     refine FinOk.pure rfl rfl rfl ⟨?_,rfl,rfl⟩
     rw [if_pos (by rw [hat]; exact hq),hat]
   have hq:¬ inQ l text hg t.2.1[k]≠0:=by assumption
   rw [if_neg hq] at hat
   have b1:=hb1 k (by simpa using hk)
   have b2:=hb1 (k + 1) (by simp; omega)
   have hst:=sumV_take (valsI l t.2.1) k (by simpa using hlt)
   rw [List.getElem_map] at hst
   rw [rowK inRow t.2.1 k hlt]
   refine ⟨by rw [hL1]; exact ⟨by omega,by omega,rfl⟩,?_⟩
   refine Goes ?_
   rw [rowK inRow t.2.1 k hlt]
   refine ⟨by rw [hL1]; exact ⟨by omega,by omega,rfl⟩,?_⟩
   refine Goes ?_
   have ha:=fun n=>l5AtI_ret l t.2.1[k].1 t.2.1[k].2.1 n hl
   rcases atI_cases l t.2.1[k].1 t.2.1[k].2.1 with ⟨j,hj,e1,e2⟩ | ⟨e1,e2⟩
   · rw [e1] at ha
     have hv:valAt l t.2.1[k]=l[j].val:=by unfold valAt; rw [e2]
     first | refine CallQ.is (ha _) rfl rfl ?_ | refine CallP.is (ha _) rfl ?_
     refine Goes ?_
     rw [rowK coinRow l j hj]
     refine ⟨by rw [hL]; exact ⟨by omega,by omega,rfl⟩,?_⟩
     refine Goes ?_
     exact ⟨k + 1,⟨by omega,hat⟩,by omega,Weak.of rfl rfl ⟨⟨rfl,rfl⟩,⟨rfl,rfl⟩,⟨rfl,rfl⟩,⟨rfl,rfl⟩,⟨leafI (by rw [hst,hv,IntWalk.i64_in _ (by omega)]),rfl⟩,⟨leafI numA,rfl⟩,trivial⟩ trivial⟩
   · exact absurd (show inQ l text hg t.2.1[k]≠0 by
      have e:inQ l text hg t.2.1[k]=4:=by unfold inQ; rw [e2]
      rw [e]; decide) hq
 · obtain rfl:k=t.2.1.length:=by omega
   rw [List.drop_length] at hp
   rw [List.take_of_length_le (by simp)]
   first | refine CallP.is (houts _) rfl ?_ | refine CallQ.is (houts _) rfl rfl ?_
   refine Goes ?_;repeat' first|apply W2.m|refine W1.m fun h=>?_
   · refine FinOk.pure rfl rfl rfl ⟨?_,rfl,rfl⟩
     rw [if_neg (by rw [hp]; simp [insQ]),if_pos (by omega)]
   · refine FinOk.pure rfl rfl rfl ⟨?_,rfl,rfl⟩
     rw [if_neg (by rw [hp]; simp [insQ]),if_neg (by omega)]
def SpecR (l:List CoinD) (t:TxD) (hg:Int) (n T:Nat):AV→Hp→Nat→Prop:=fun r ho m =>
 (applyC l t hg≠0∧r=coinsBad' (applyC l t hg)∧ho=[]∧m=n) ∨
 (applyC l t hg=0∧r=.agg [iv 0,iv (feeC l t),.own n (takenC l t).length,coinsV (newC l t hg)]∧ho=[(n,.list T 6 ((takenC l t).map coinRow))]∧m=n + 1)
set_option maxHeartbeats 2000000 in
theorem l5Apply_q (l:List CoinD) (t:TxD) (hg:Int) (n:Nat) (hfc:FitsC l) (hf:Fits t) (h0:coinsC l=0) (hz:faultC t=0) (hh:inR 0 9999 hg) :
 Ret Tryz.prog 165 [coinsV l,.rp (txC t),iv hg] [] n true (SpecR l t hg n 184):=by
 have hl:=hfc.len
 have hok:=fault_ok hz
 have hl1:=hok.2.1
 have hl2:=hok.2.2.1
 have hl40:=(coinsC_ok h0).1
 have hL:(l.map coinRow).length=l.length:=by simp
 have hL1:(t.2.1.map inRow).length=t.2.1.length:=by simp
 have hL2:(t.2.2.map outRow).length=t.2.2.length:=by simp
 have hsum:∀ n,Ret Tryz.prog 135 [.rp (txC t)] [] n true (Is (iv (textOf t)) [] n):=fun n=>l3Sum_rp t n hz
 have hspend:=fun n=>l5Spend_rp l t hg n hl h0 hz hh
 have hA0:applyC l t hg=if ¬ t.2.1.length=0∧spendQ l t hg≠0 then spendQ l t hg else if ((madeC t hg).any fun c=>(atC l c.tx c.out).isSome)=true then 6 else coinsC (newC l t hg):=by
  unfold applyC; rw [if_neg (fun e=>e h0),if_neg (fun e=>e hz),if_neg (fun e=>e hh)]
 have hany:∀ b,((madeC t hg).any fun c=>(atC l c.tx c.out).isSome)=b↔(b=true↔∃ j,j < t.2.2.length∧(atC l (textOf t) (j:Int)).isSome=true):=by
  intro b
  have h1:((madeC t hg).any fun c=>(atC l c.tx c.out).isSome)=true↔∃ j,j < t.2.2.length∧(atC l (textOf t) (j:Int)).isSome=true:=by
   rw [List.any_eq_true]
   constructor
   · rintro ⟨c,hc,h⟩
     obtain ⟨k,hk,rfl⟩:=List.mem_iff_getElem.1 hc
     rw [madeC_len] at hk
     rw [madeC_at t hg k hk] at h
     exact ⟨k,hk,h⟩
   · rintro ⟨k,hk,h⟩
     refine ⟨(madeC t hg)[k]'(by rw [madeC_len]; exact hk),List.getElem_mem _,?_⟩
     rw [madeC_at t hg k hk]; exact h
  rw [← h1]
  cases b <;> cases ((madeC t hg).any fun c=>(atC l c.tx c.out).isSome) <;> simp
 refine Ret.fn ttOk Tryz.func165 rfl Tryz.call165 rfl rfl ?_
 by_cases hb:t.2.1.length=0
 · have hns:¬ (¬ t.2.1.length=0∧spendQ l t hg≠0):=fun h=>h.1 hb
   refine Goes ?_;repeat' first|apply W2.m|refine W1.m fun h=>?_
   first | refine CallP.is (hsum _) rfl ?_ | refine CallQ.is (hsum _) rfl rfl ?_
   refine Goes ?_
   rw [hL1]
   refine LoopP.go (fun k:Nat=>k≤t.2.2.length∧∀ j:Nat,j < k→atC l (textOf t) (j:Int)=none) (fun k=>⟨[(0,coinsV l),(1,.rp (txC t)),(2,iv hg),(6,.pt 0 0 0),(7,bv (decide ((t.2.1.length:Int)=0))),(9,iv (textOf t)),(10,iv k)],[(0,.box [iv 0,iv 0,nl,nl])],1⟩) (fun k=>t.2.2.length - k) 0 ⟨Nat.zero_le _,fun j hj=>by omega⟩ (Weak.of rfl rfl ktA ktA) ?_
   intro k ⟨hk,hno⟩
   by_cases hlt:k < t.2.2.length
   · refine Goes ?_;repeat' first|apply W2.m|refine W1.m fun h=>?_
     have hat:=fun n=>l5AtI_ret l (textOf t) (k:Int) n hl
     rcases atI_cases l (textOf t) (k:Int) with ⟨j,hj,e1,e2⟩ | ⟨e1,e2⟩
     · rw [e1] at hat
       have hA:applyC l t hg=6:=by rw [hA0,if_neg hns,if_pos ((hany true).2 (iff_of_true rfl ⟨k,hlt,by rw [e2]; rfl⟩))]
       first | refine CallP.is (hat _) rfl ?_ | refine CallQ.is (hat _) rfl rfl ?_
       refine Goes ?_
       first | refine CallP.is (l5Bad_ret _ _) rfl ?_ | refine CallQ.is (l5Bad_ret _ _) rfl rfl ?_
       refine Goes ?_
       refine FinOk.mk' [] rfl rfl rfl rfl rfl rfl rfl (.inl ⟨by rw [hA]; decide,?_,rfl,rfl⟩)
       rw [hA]; rfl
     · rw [e1] at hat
       first | refine CallP.is (hat _) rfl ?_ | refine CallQ.is (hat _) rfl rfl ?_
       refine Goes ?_
       exact ⟨k + 1,⟨by omega,fun j hj=>by
        by_cases e:j=k
        · rw [e]; exact e2
        · exact hno j (by omega)⟩,by omega,(Weak.of rfl rfl ktA ktA)⟩
   · obtain rfl:k=t.2.2.length:=by omega
     have ha:((madeC t hg).any fun c=>(atC l c.tx c.out).isSome)=false:=(hany false).2 (iff_of_false (by decide) fun ⟨j,hj,e⟩=>by rw [hno j hj] at e; cases e)
     have hA:applyC l t hg=coinsC (newC l t hg):=by rw [hA0,if_neg hns,if_neg (by rw [ha]; decide)]
     have hins:=spendQ_ins hns
     have hnl:=newC_len (hg:=hg) hz hins
     have hco:=newC_code h0 hz hh ha
     have w1:IntKind.i64.wrap ((l.length:Int) - t.2.1.length)=l.length - t.2.1.length:=IntWalk.i64_in _ (by omega)
     have w2:IntKind.i64.wrap (IntKind.i64.wrap ((l.length:Int) - t.2.1.length) + t.2.2.length)=((newC l t hg).length:Nat):=by rw [w1,IntWalk.i64_in _ (by omega)]; omega
     have w3:IntKind.i64.wrap (IntKind.i64.wrap (((l.map coinRow).length:Int) - (t.2.1.map inRow).length) + (t.2.2.map outRow).length)=((newC l t hg).length:Nat):=by rw [hL,hL1,hL2]; exact w2
     by_cases hmany:40 < (newC l t hg).length
     · rw [if_pos hmany] at hco
       refine Goes ?_;repeat' first|apply W2.m|refine W1.m fun h=>?_
       first | refine CallP.is (l5Bad_ret _ _) rfl ?_ | refine CallQ.is (l5Bad_ret _ _) rfl rfl ?_
       refine Goes ?_
       refine FinOk.mk' [] rfl rfl rfl rfl rfl rfl rfl (.inl ⟨by rw [hA,hco]; decide,?_,rfl,rfl⟩)
       rw [hA,hco]; rfl
     · rw [if_neg hmany] at hco
       refine Goes ?_;repeat' first|apply W2.m|refine W1.m fun h=>?_
       first | refine CallP.is (l5Copy_fr l _ hfc) rfl ?_ | refine CallQ.is (l5Copy_fr l _ hfc) rfl rfl ?_
       refine Goes ?_
       have hlr:∀ k,(restE l (t.2.1.take k)).length≤l.length:=fun k=>(restE_sub _ _).length_le
       have hfr:∀ k,FitsC (restE l (t.2.1.take k)):=fun k=>⟨Nat.le_trans (hlr k) hl,fun c hc=>hfc.locks c ((restE_sub _ _).subset hc)⟩
       have htl:=takenC_len l t
       rw [hL1]
       refine LoopP.go (fun k:Nat=>k≤t.2.1.length) (fun k=>⟨[(1,.rp (txC t)),(2,iv hg),(6,.pt 0 0 0),(7,bv (decide ((t.2.1.length:Int)=0))),(9,iv (textOf t)),(11,.pt 1 0 0),(12,iv k)],[(2,.list 184 6 (((takenC l t).take k).map coinRow)),(1,.box [iv 0,iv 0,.own 2 k,coinsV (restE l (t.2.1.take k))]),(0,.box [iv 0,iv 0,nl,nl])],3⟩) (fun k=>t.2.1.length - k) 0 (Nat.zero_le _) ?_ ?_
       · refine Weak.trans (Weak.name 1 2 184 6 _ (by decide) rfl rfl) ?_
         exact (Weak.of rfl rfl ktA ktA)
       intro k hk
       have hrL:((restE l (t.2.1.take k)).map coinRow).length=(restE l (t.2.1.take k)).length:=by simp
       by_cases hlt2:k < t.2.1.length
       · first
         | exfalso; omega
         | refine Goes ?_
           have hat:=fun n=>l5AtI_ret (restE l (t.2.1.take k)) t.2.1[k].1 t.2.1[k].2.1 n (hfr k).len
           rw [rowK inRow t.2.1 k hlt2]
           refine ⟨by rw [hL1]; exact ⟨by omega,by omega,rfl⟩,?_⟩
           refine Goes ?_
           rw [rowK inRow t.2.1 k hlt2]
           refine ⟨by rw [hL1]; exact ⟨by omega,by omega,rfl⟩,?_⟩
           refine Goes ?_
           obtain ⟨hkc,hck⟩:∃ h:k < (takenC l t).length,atC (restE l (t.2.1.take k)) t.2.1[k].1 t.2.1[k].2.1=some (takenC l t)[k]:=⟨by omega,by rw [takenC_at hz hins k hlt2,List.getElem?_eq_getElem]⟩
           have hrk:=hlr k
           rcases atI_cases (restE l (t.2.1.take k)) t.2.1[k].1 t.2.1[k].2.1 with ⟨j,hj,e1,e2⟩ | ⟨e1,e2⟩
           · rw [e1] at hat
             have hcj:(restE l (t.2.1.take k))[j]=(takenC l t)[k]:=Option.some.inj (e2.symm.trans hck)
             have her:=atI_erase e1
             have hpc:pCoin (takenC l t)[k]≤1048576:=by rw [← hcj]; exact (hfr k).locks _ (List.getElem_mem hj)
             have hdr:=fun n=>l5Drop_fr (restE l (t.2.1.take k)) j n hj (hfr k).len
             rw [her,← restE_succ l t.2.1 k hlt2] at hdr
             first | refine CallQ.is (hat _) rfl rfl ?_ | refine CallP.is (hat _) rfl ?_
             refine Goes ?_
             rw [rowK coinRow _ j hj,hcj]
             refine ⟨by rw [hrL]; exact ⟨by omega,by omega,rfl⟩,?_⟩
             refine Goes ?_
             first | refine CallQ.is (l5CopyCoin_fr (takenC l t)[k] _ hpc) rfl rfl ?_ | refine CallP.is (l5CopyCoin_fr (takenC l t)[k] _ hpc) rfl ?_
             refine Goes ?_
             refine ⟨⟨by simp; omega,by show (k + 1) * 64≤_; omega,by show k + 1≤_; unfold maxLen; omega,True.intro,fun r hr=>by rw [List.mem_singleton.1 (List.mem_of_mem_take hr)]; rfl⟩,?_⟩
             refine Goes ?_
             first | refine CallQ.is (hdr _) rfl rfl ?_ | refine CallP.is (hdr _) rfl ?_
             refine Goes ?_
             refine ⟨k + 1,by omega,by omega,Weak.of rfl rfl ⟨⟨rfl,rfl⟩,⟨rfl,rfl⟩,⟨rfl,rfl⟩,⟨rfl,rfl⟩,⟨rfl,rfl⟩,⟨rfl,rfl⟩,⟨leafI numA,rfl⟩,trivial⟩ ⟨⟨leafO ?_,rfl,rfl⟩,⟨rfl,rfl,rfl⟩,⟨rfl,rfl,rfl⟩,trivial⟩⟩
             rw [takeS (takenC l t) k hkc,List.map_append,List.take_of_length_le (by simp; omega)]; rfl
           · rw [e2] at hck; cases hck
       · obtain rfl:k=t.2.1.length:=by omega
         refine Goes ?_;repeat' first|apply W2.m|refine W1.m fun h=>?_
         have hT1:t.2.1.take t.2.1.length=t.2.1:=List.take_length
         have hT2:(takenC l t).take t.2.1.length=takenC l t:=by rw [← htl,List.take_length]
         rw [hT1,hT2]
         refine LoopP.go (fun k:Nat=>k≤t.2.2.length) (fun k=>⟨[(1,.rp (txC t)),(2,iv hg),(6,.pt 0 0 0),(7,bv (decide ((t.2.1.length:Int)=0))),(9,iv (textOf t)),(11,.pt 1 0 0),(14,iv k)],[(2,.list 184 6 ((takenC l t).map coinRow)),(1,.box [iv 0,iv 0,.own 2 t.2.1.length,coinsV (putsC (restE l t.2.1) ((madeC t hg).take k))]),(0,.box [iv 0,iv 0,nl,nl])],3⟩) (fun k=>t.2.2.length - k) 0 (Nat.zero_le _) (Weak.of rfl rfl ktA ktA) ?_
         intro k hk3
         by_cases hlt3:k < t.2.2.length
         · refine Goes ?_;repeat' first|apply W2.m|refine W1.m fun h=>?_
           have hkm:k < (madeC t hg).length:=by rw [madeC_len]; exact hlt3
           have hmk:=madeC_at t hg k hlt3
           have hput:putsC (restE l t.2.1) ((madeC t hg).take (k + 1))=putC ⟨textOf t,k,t.2.2[k].1,t.2.2[k].2,hg,decide (t.2.1.length=0)⟩ (putsC (restE l t.2.1) ((madeC t hg).take k)):=by
            rw [takeS _ k hkm,← hmk]; unfold putsC; rw [List.foldl_append]; rfl
           have hpl:(putsC (restE l t.2.1) ((madeC t hg).take k)).length≤1048576:=by
            have h1:=(putsC_perm ((madeC t hg).take k) (restE l t.2.1)).length_eq
            have h2:=(restE_sub t.2.1 l).length_le
            rw [List.length_append,List.length_take] at h1
            omega
           have hlk:t.2.2[k].2.length≤1048576:=hf.locks _ (List.getElem_mem hlt3)
           have hints:=fun n=>Ret.frList (by simp) (l1Ints_ret t.2.2[k].2 n hlk)
           have hputr:=fun n=>l5Put_fr (putsC (restE l t.2.1) ((madeC t hg).take k)) ⟨textOf t,k,t.2.2[k].1,t.2.2[k].2,hg,decide (t.2.1.length=0)⟩ n hpl
           rw [← hput] at hputr
           have hdec:decide ((t.2.1.length:Int)=0)=decide (t.2.1.length=0):=by simp
           rw [hdec]
           rw [rowK outRow t.2.2 k hlt3]
           refine ⟨by rw [hL2]; exact ⟨by omega,by omega,rfl⟩,?_⟩
           refine Goes ?_
           rw [rowK outRow t.2.2 k hlt3]
           refine ⟨by rw [hL2]; exact ⟨by omega,by omega,rfl⟩,?_⟩
           refine Goes ?_
           refine CallN.is rfl (hints) ?_
           refine Goes ?_
           first | refine CallP.is (hputr _) rfl ?_ | refine CallQ.is (hputr _) rfl rfl ?_
           refine Goes ?_
           refine ⟨k + 1,by omega,by omega,Weak.of rfl rfl ⟨⟨rfl,rfl⟩,⟨rfl,rfl⟩,⟨rfl,rfl⟩,⟨rfl,rfl⟩,⟨rfl,rfl⟩,⟨rfl,rfl⟩,⟨leafI numA,rfl⟩,trivial⟩ ⟨⟨rfl,rfl,rfl⟩,⟨rfl,rfl,rfl⟩,⟨rfl,rfl,rfl⟩,trivial⟩⟩
         · obtain rfl:k=t.2.2.length:=by omega
           have hT3:(madeC t hg).take t.2.2.length=madeC t hg:=by rw [← madeC_len t hg,List.take_length]
           rw [hT3]
           have hfn:(newC l t hg).length≤1048576:=by omega
           have hflt:=fun n=>l5Fault_ret (newC l t hg) n hfn
           by_cases hin:inR 0 1000000 (sumV (valsC (newC l t hg)))
           · rw [if_pos hin] at hco
             rw [hco] at hflt
             rw [hco] at hA
             refine Goes ?_;repeat' first|apply W2.m|refine W1.m fun h=>?_
             first | refine CallP.is (hflt _) rfl ?_ | refine CallQ.is (hflt _) rfl rfl ?_
             refine Goes ?_;repeat' first|apply W2.m|refine W1.m fun h=>?_
             first
             | (refine FinOk.mk' [2] rfl rfl rfl rfl rfl rfl rfl (.inr ⟨hA,?_,?_,rfl⟩)
                · have hfee:feeC l t=0:=by unfold feeC; rw [if_pos (by omega)]
                  rw [hfee,htl]; rfl
                · rfl)
             | (have hv:∀ z∈valsC (takenC l t),inR 0 1000000 z:=fun z hz'=>by
                 obtain ⟨c,hc,rfl⟩:=List.mem_map.1 hz'
                 exact cgC_vals _ _ (coinsC_ok h0).2.1 _ (List.mem_map.2 ⟨c,takenC_mem hins hc,rfl⟩)
                have hvI:valsI l t.2.1=valsC (takenC l t):=taken_vals l t
                have hb1:=sumV_toC 1000000 (valsC (takenC l t)) hv (valsC (takenC l t)).length (Nat.le_refl _)
                have hb2:=sumV_toC 2147483646 (valsO t.2.2) (fun z hz=>by obtain ⟨y,hy,rfl⟩:=List.mem_map.1 hz; exact (hok.2.2.2.2 y hy).1) (valsO t.2.2).length (Nat.le_refl _)
                rw [List.take_length] at hb1 hb2
                have hl5:(valsC (takenC l t)).length=t.2.1.length:=by simp [htl]
                have hl6:(valsO t.2.2).length=t.2.2.length:=by simp
                rw [hl5] at hb1
                rw [hl6] at hb2
                have w9:IntKind.i64.wrap (sumV (valsC (takenC l t)) - sumV (valsO t.2.2))=feeC l t:=by
                 rw [IntWalk.i64_in _ (by omega)]; unfold feeC; rw [if_neg (by omega),hvI]
                refine CallP.convAIs (l5Worth_ret (takenC l t) _ (by omega) hv) ⟨cvOwn rfl (by simp [htl]),trivial⟩ rfl trivial ?_
                refine Goes ?_
                first | refine CallP.is (l5Outs_rp t _ hok) rfl ?_ | refine CallQ.is (l5Outs_rp t _ hok) rfl rfl ?_
                refine Goes ?_
                refine FinOk.mk' [2] rfl rfl rfl rfl rfl rfl rfl (.inr ⟨hA,?_,?_,rfl⟩)
                · rw [← w9,htl]; rfl
                · rfl)
           · rw [if_neg hin] at hco
             rw [hco] at hflt
             rw [hco] at hA
             refine Goes ?_;repeat' first|apply W2.m|refine W1.m fun h=>?_
             first | refine CallP.is (hflt _) rfl ?_ | refine CallQ.is (hflt _) rfl rfl ?_
             refine Goes ?_
             first | refine CallP.is (l5Bad_ret _ _) rfl ?_ | refine CallQ.is (l5Bad_ret _ _) rfl rfl ?_
             refine Goes ?_
             refine FinOk.mk' [] rfl rfl rfl rfl rfl rfl rfl (.inl ⟨by rw [hA]; decide,?_,rfl,rfl⟩)
             rw [hA]; rfl
 · simp only [if_neg hb] at hspend
   by_cases hs:spendQ l t hg=0
   · have hns:¬ (¬ t.2.1.length=0∧spendQ l t hg≠0):=fun h=>h.2 hs
     refine Goes ?_;repeat' first|apply W2.m|refine W1.m fun h=>?_
     first | refine CallP.is (hspend _) rfl ?_ | refine CallQ.is (hspend _) rfl rfl ?_
     refine Goes ?_;repeat' first|apply W2.m|refine W1.m fun h=>?_
     first | refine CallP.is (hsum _) rfl ?_ | refine CallQ.is (hsum _) rfl rfl ?_
     refine Goes ?_
     rw [hL1]
     refine LoopP.go (fun k:Nat=>k≤t.2.2.length∧∀ j:Nat,j < k→atC l (textOf t) (j:Int)=none) (fun k=>⟨[(0,coinsV l),(1,.rp (txC t)),(2,iv hg),(6,.pt 0 0 0),(7,bv (decide ((t.2.1.length:Int)=0))),(9,iv (textOf t)),(10,iv k)],[(0,.box [iv 0,iv 0,nl,nl])],1⟩) (fun k=>t.2.2.length - k) 0 ⟨Nat.zero_le _,fun j hj=>by omega⟩ (Weak.of rfl rfl ktA ktA) ?_
     intro k ⟨hk,hno⟩
     by_cases hlt:k < t.2.2.length
     · refine Goes ?_;repeat' first|apply W2.m|refine W1.m fun h=>?_
       have hat:=fun n=>l5AtI_ret l (textOf t) (k:Int) n hl
       rcases atI_cases l (textOf t) (k:Int) with ⟨j,hj,e1,e2⟩ | ⟨e1,e2⟩
       · rw [e1] at hat
         have hA:applyC l t hg=6:=by rw [hA0,if_neg hns,if_pos ((hany true).2 (iff_of_true rfl ⟨k,hlt,by rw [e2]; rfl⟩))]
         first | refine CallP.is (hat _) rfl ?_ | refine CallQ.is (hat _) rfl rfl ?_
         refine Goes ?_
         first | refine CallP.is (l5Bad_ret _ _) rfl ?_ | refine CallQ.is (l5Bad_ret _ _) rfl rfl ?_
         refine Goes ?_
         refine FinOk.mk' [] rfl rfl rfl rfl rfl rfl rfl (.inl ⟨by rw [hA]; decide,?_,rfl,rfl⟩)
         rw [hA]; rfl
       · rw [e1] at hat
         first | refine CallP.is (hat _) rfl ?_ | refine CallQ.is (hat _) rfl rfl ?_
         refine Goes ?_
         exact ⟨k + 1,⟨by omega,fun j hj=>by
          by_cases e:j=k
          · rw [e]; exact e2
          · exact hno j (by omega)⟩,by omega,(Weak.of rfl rfl ktA ktA)⟩
     · obtain rfl:k=t.2.2.length:=by omega
       have ha:((madeC t hg).any fun c=>(atC l c.tx c.out).isSome)=false:=(hany false).2 (iff_of_false (by decide) fun ⟨j,hj,e⟩=>by rw [hno j hj] at e; cases e)
       have hA:applyC l t hg=coinsC (newC l t hg):=by rw [hA0,if_neg hns,if_neg (by rw [ha]; decide)]
       have hins:=spendQ_ins hns
       have hnl:=newC_len (hg:=hg) hz hins
       have hco:=newC_code h0 hz hh ha
       have w1:IntKind.i64.wrap ((l.length:Int) - t.2.1.length)=l.length - t.2.1.length:=IntWalk.i64_in _ (by omega)
       have w2:IntKind.i64.wrap (IntKind.i64.wrap ((l.length:Int) - t.2.1.length) + t.2.2.length)=((newC l t hg).length:Nat):=by rw [w1,IntWalk.i64_in _ (by omega)]; omega
       have w3:IntKind.i64.wrap (IntKind.i64.wrap (((l.map coinRow).length:Int) - (t.2.1.map inRow).length) + (t.2.2.map outRow).length)=((newC l t hg).length:Nat):=by rw [hL,hL1,hL2]; exact w2
       by_cases hmany:40 < (newC l t hg).length
       · rw [if_pos hmany] at hco
         refine Goes ?_;repeat' first|apply W2.m|refine W1.m fun h=>?_
         first | refine CallP.is (l5Bad_ret _ _) rfl ?_ | refine CallQ.is (l5Bad_ret _ _) rfl rfl ?_
         refine Goes ?_
         refine FinOk.mk' [] rfl rfl rfl rfl rfl rfl rfl (.inl ⟨by rw [hA,hco]; decide,?_,rfl,rfl⟩)
         rw [hA,hco]; rfl
       · rw [if_neg hmany] at hco
         refine Goes ?_;repeat' first|apply W2.m|refine W1.m fun h=>?_
         first | refine CallP.is (l5Copy_fr l _ hfc) rfl ?_ | refine CallQ.is (l5Copy_fr l _ hfc) rfl rfl ?_
         refine Goes ?_
         have hlr:∀ k,(restE l (t.2.1.take k)).length≤l.length:=fun k=>(restE_sub _ _).length_le
         have hfr:∀ k,FitsC (restE l (t.2.1.take k)):=fun k=>⟨Nat.le_trans (hlr k) hl,fun c hc=>hfc.locks c ((restE_sub _ _).subset hc)⟩
         have htl:=takenC_len l t
         rw [hL1]
         refine LoopP.go (fun k:Nat=>k≤t.2.1.length) (fun k=>⟨[(1,.rp (txC t)),(2,iv hg),(6,.pt 0 0 0),(7,bv (decide ((t.2.1.length:Int)=0))),(9,iv (textOf t)),(11,.pt 1 0 0),(12,iv k)],[(2,.list 184 6 (((takenC l t).take k).map coinRow)),(1,.box [iv 0,iv 0,.own 2 k,coinsV (restE l (t.2.1.take k))]),(0,.box [iv 0,iv 0,nl,nl])],3⟩) (fun k=>t.2.1.length - k) 0 (Nat.zero_le _) ?_ ?_
         · refine Weak.trans (Weak.name 1 2 184 6 _ (by decide) rfl rfl) ?_
           exact (Weak.of rfl rfl ktA ktA)
         intro k hk
         have hrL:((restE l (t.2.1.take k)).map coinRow).length=(restE l (t.2.1.take k)).length:=by simp
         by_cases hlt2:k < t.2.1.length
         · first
           | exfalso; omega
           | refine Goes ?_;repeat' first|apply W2.m|refine W1.m fun h=>?_
             have hat:=fun n=>l5AtI_ret (restE l (t.2.1.take k)) t.2.1[k].1 t.2.1[k].2.1 n (hfr k).len
             rw [rowK inRow t.2.1 k hlt2]
             refine ⟨by rw [hL1]; exact ⟨by omega,by omega,rfl⟩,?_⟩
             refine Goes ?_
             rw [rowK inRow t.2.1 k hlt2]
             refine ⟨by rw [hL1]; exact ⟨by omega,by omega,rfl⟩,?_⟩
             refine Goes ?_
             obtain ⟨hkc,hck⟩:∃ h:k < (takenC l t).length,atC (restE l (t.2.1.take k)) t.2.1[k].1 t.2.1[k].2.1=some (takenC l t)[k]:=⟨by omega,by rw [takenC_at hz hins k hlt2,List.getElem?_eq_getElem]⟩
             have hrk:=hlr k
             rcases atI_cases (restE l (t.2.1.take k)) t.2.1[k].1 t.2.1[k].2.1 with ⟨j,hj,e1,e2⟩ | ⟨e1,e2⟩
             · rw [e1] at hat
               have hcj:(restE l (t.2.1.take k))[j]=(takenC l t)[k]:=Option.some.inj (e2.symm.trans hck)
               have her:=atI_erase e1
               have hpc:pCoin (takenC l t)[k]≤1048576:=by rw [← hcj]; exact (hfr k).locks _ (List.getElem_mem hj)
               have hdr:=fun n=>l5Drop_fr (restE l (t.2.1.take k)) j n hj (hfr k).len
               rw [her,← restE_succ l t.2.1 k hlt2] at hdr
               first | refine CallQ.is (hat _) rfl rfl ?_ | refine CallP.is (hat _) rfl ?_
               refine Goes ?_
               rw [rowK coinRow _ j hj,hcj]
               refine ⟨by rw [hrL]; exact ⟨by omega,by omega,rfl⟩,?_⟩
               refine Goes ?_
               first | refine CallQ.is (l5CopyCoin_fr (takenC l t)[k] _ hpc) rfl rfl ?_ | refine CallP.is (l5CopyCoin_fr (takenC l t)[k] _ hpc) rfl ?_
               refine Goes ?_
               refine ⟨⟨by simp; omega,by show (k + 1) * 64≤_; omega,by show k + 1≤_; unfold maxLen; omega,True.intro,fun r hr=>by rw [List.mem_singleton.1 (List.mem_of_mem_take hr)]; rfl⟩,?_⟩
               refine Goes ?_
               first | refine CallQ.is (hdr _) rfl rfl ?_ | refine CallP.is (hdr _) rfl ?_
               refine Goes ?_
               refine ⟨k + 1,by omega,by omega,Weak.of rfl rfl ⟨⟨rfl,rfl⟩,⟨rfl,rfl⟩,⟨rfl,rfl⟩,⟨rfl,rfl⟩,⟨rfl,rfl⟩,⟨rfl,rfl⟩,⟨leafI numA,rfl⟩,trivial⟩ ⟨⟨leafO ?_,rfl,rfl⟩,⟨rfl,rfl,rfl⟩,⟨rfl,rfl,rfl⟩,trivial⟩⟩
               rw [takeS (takenC l t) k hkc,List.map_append,List.take_of_length_le (by simp; omega)]; rfl
             · rw [e2] at hck; cases hck
         · obtain rfl:k=t.2.1.length:=by omega
           refine Goes ?_;repeat' first|apply W2.m|refine W1.m fun h=>?_
           have hT1:t.2.1.take t.2.1.length=t.2.1:=List.take_length
           have hT2:(takenC l t).take t.2.1.length=takenC l t:=by rw [← htl,List.take_length]
           rw [hT1,hT2]
           refine LoopP.go (fun k:Nat=>k≤t.2.2.length) (fun k=>⟨[(1,.rp (txC t)),(2,iv hg),(6,.pt 0 0 0),(7,bv (decide ((t.2.1.length:Int)=0))),(9,iv (textOf t)),(11,.pt 1 0 0),(14,iv k)],[(2,.list 184 6 ((takenC l t).map coinRow)),(1,.box [iv 0,iv 0,.own 2 t.2.1.length,coinsV (putsC (restE l t.2.1) ((madeC t hg).take k))]),(0,.box [iv 0,iv 0,nl,nl])],3⟩) (fun k=>t.2.2.length - k) 0 (Nat.zero_le _) (Weak.of rfl rfl ktA ktA) ?_
           intro k hk3
           by_cases hlt3:k < t.2.2.length
           · refine Goes ?_;repeat' first|apply W2.m|refine W1.m fun h=>?_
             have hkm:k < (madeC t hg).length:=by rw [madeC_len]; exact hlt3
             have hmk:=madeC_at t hg k hlt3
             have hput:putsC (restE l t.2.1) ((madeC t hg).take (k + 1))=putC ⟨textOf t,k,t.2.2[k].1,t.2.2[k].2,hg,decide (t.2.1.length=0)⟩ (putsC (restE l t.2.1) ((madeC t hg).take k)):=by
              rw [takeS _ k hkm,← hmk]; unfold putsC; rw [List.foldl_append]; rfl
             have hpl:(putsC (restE l t.2.1) ((madeC t hg).take k)).length≤1048576:=by
              have h1:=(putsC_perm ((madeC t hg).take k) (restE l t.2.1)).length_eq
              have h2:=(restE_sub t.2.1 l).length_le
              rw [List.length_append,List.length_take] at h1
              omega
             have hlk:t.2.2[k].2.length≤1048576:=hf.locks _ (List.getElem_mem hlt3)
             have hints:=fun n=>Ret.frList (by simp) (l1Ints_ret t.2.2[k].2 n hlk)
             have hputr:=fun n=>l5Put_fr (putsC (restE l t.2.1) ((madeC t hg).take k)) ⟨textOf t,k,t.2.2[k].1,t.2.2[k].2,hg,decide (t.2.1.length=0)⟩ n hpl
             rw [← hput] at hputr
             have hdec:decide ((t.2.1.length:Int)=0)=decide (t.2.1.length=0):=by simp
             rw [hdec]
             rw [rowK outRow t.2.2 k hlt3]
             refine ⟨by rw [hL2]; exact ⟨by omega,by omega,rfl⟩,?_⟩
             refine Goes ?_
             rw [rowK outRow t.2.2 k hlt3]
             refine ⟨by rw [hL2]; exact ⟨by omega,by omega,rfl⟩,?_⟩
             refine Goes ?_
             refine CallN.is rfl (hints) ?_
             refine Goes ?_
             first | refine CallP.is (hputr _) rfl ?_ | refine CallQ.is (hputr _) rfl rfl ?_
             refine Goes ?_
             refine ⟨k + 1,by omega,by omega,Weak.of rfl rfl ⟨⟨rfl,rfl⟩,⟨rfl,rfl⟩,⟨rfl,rfl⟩,⟨rfl,rfl⟩,⟨rfl,rfl⟩,⟨rfl,rfl⟩,⟨leafI numA,rfl⟩,trivial⟩ ⟨⟨rfl,rfl,rfl⟩,⟨rfl,rfl,rfl⟩,⟨rfl,rfl,rfl⟩,trivial⟩⟩
           · obtain rfl:k=t.2.2.length:=by omega
             have hT3:(madeC t hg).take t.2.2.length=madeC t hg:=by rw [← madeC_len t hg,List.take_length]
             rw [hT3]
             have hfn:(newC l t hg).length≤1048576:=by omega
             have hflt:=fun n=>l5Fault_ret (newC l t hg) n hfn
             by_cases hin:inR 0 1000000 (sumV (valsC (newC l t hg)))
             · rw [if_pos hin] at hco
               rw [hco] at hflt
               rw [hco] at hA
               refine Goes ?_;repeat' first|apply W2.m|refine W1.m fun h=>?_
               first | refine CallP.is (hflt _) rfl ?_ | refine CallQ.is (hflt _) rfl rfl ?_
               refine Goes ?_;repeat' first|apply W2.m|refine W1.m fun h=>?_
               first
               | (refine FinOk.mk' [2] rfl rfl rfl rfl rfl rfl rfl (.inr ⟨hA,?_,?_,rfl⟩)
                  · have hfee:feeC l t=0:=by unfold feeC; rw [if_pos (by omega)]
                    rw [hfee,htl]; rfl
                  · rfl)
               | (have hv:∀ z∈valsC (takenC l t),inR 0 1000000 z:=fun z hz'=>by
                   obtain ⟨c,hc,rfl⟩:=List.mem_map.1 hz'
                   exact cgC_vals _ _ (coinsC_ok h0).2.1 _ (List.mem_map.2 ⟨c,takenC_mem hins hc,rfl⟩)
                  have hvI:valsI l t.2.1=valsC (takenC l t):=taken_vals l t
                  have hb1:=sumV_toC 1000000 (valsC (takenC l t)) hv (valsC (takenC l t)).length (Nat.le_refl _)
                  have hb2:=sumV_toC 2147483646 (valsO t.2.2) (fun z hz=>by obtain ⟨y,hy,rfl⟩:=List.mem_map.1 hz; exact (hok.2.2.2.2 y hy).1) (valsO t.2.2).length (Nat.le_refl _)
                  rw [List.take_length] at hb1 hb2
                  have hl5:(valsC (takenC l t)).length=t.2.1.length:=by simp [htl]
                  have hl6:(valsO t.2.2).length=t.2.2.length:=by simp
                  rw [hl5] at hb1
                  rw [hl6] at hb2
                  have w9:IntKind.i64.wrap (sumV (valsC (takenC l t)) - sumV (valsO t.2.2))=feeC l t:=by
                   rw [IntWalk.i64_in _ (by omega)]; unfold feeC; rw [if_neg (by omega),hvI]
                  refine CallP.convAIs (l5Worth_ret (takenC l t) _ (by omega) hv) ⟨cvOwn rfl (by simp [htl]),trivial⟩ rfl trivial ?_
                  refine Goes ?_
                  first | refine CallP.is (l5Outs_rp t _ hok) rfl ?_ | refine CallQ.is (l5Outs_rp t _ hok) rfl rfl ?_
                  refine Goes ?_
                  refine FinOk.mk' [2] rfl rfl rfl rfl rfl rfl rfl (.inr ⟨hA,?_,?_,rfl⟩)
                  · rw [← w9,htl]; rfl
                  · rfl)
             · rw [if_neg hin] at hco
               rw [hco] at hflt
               rw [hco] at hA
               refine Goes ?_;repeat' first|apply W2.m|refine W1.m fun h=>?_
               first | refine CallP.is (hflt _) rfl ?_ | refine CallQ.is (hflt _) rfl rfl ?_
               refine Goes ?_
               first | refine CallP.is (l5Bad_ret _ _) rfl ?_ | refine CallQ.is (l5Bad_ret _ _) rfl rfl ?_
               refine Goes ?_
               refine FinOk.mk' [] rfl rfl rfl rfl rfl rfl rfl (.inl ⟨by rw [hA]; decide,?_,rfl,rfl⟩)
               rw [hA]; rfl
   · refine Goes ?_;repeat' first|apply W2.m|refine W1.m fun h=>?_
     first | refine CallP.is (hspend _) rfl ?_ | refine CallQ.is (hspend _) rfl rfl ?_
     refine Goes ?_;repeat' first|apply W2.m|refine W1.m fun h=>?_
     first | refine CallP.is (l5Bad_ret _ _) rfl ?_ | refine CallQ.is (l5Bad_ret _ _) rfl rfl ?_
     refine Goes ?_
     have hA:applyC l t hg=spendQ l t hg:=by rw [hA0,if_pos ⟨hb,hs⟩]
     refine FinOk.mk' [] rfl rfl rfl rfl rfl rfl rfl (.inl ⟨by rw [hA]; exact hs,?_,rfl,rfl⟩)
     rw [hA]; rfl
theorem l5Apply_rp (l:List CoinD) (t:TxD) (hg:Int) (n:Nat) (hfc:FitsC l) (hf:Fits t) (h0:coinsC l=0) (hz:faultC t=0) (hh:inR 0 9999 hg) :
 Ret Tryz.prog 165 [coinsV l,.rp (txC t),iv hg] [] n true (Is (if applyC l t hg=0 then appV l t hg else coinsBad' (applyC l t hg)) [] n):=by
 refine Ret.freeze ?_ (l5Apply_q l t hg n hfc hf h0 hz hh)
 rintro _ _ _ (⟨hA,rfl,rfl,rfl⟩ | ⟨hA,rfl,rfl,rfl⟩)
 · rw [if_neg hA]
   exact ⟨_,.agg _ [iv (applyC l t hg),iv 0,nl,nl] ⟨fr0 rfl,fr0 rfl,fr0 rfl,fr0 rfl,trivial⟩,rfl,rfl,rfl⟩
 · rw [if_pos hA]
   exact ⟨_,.agg _ [iv 0,iv (feeC l t),coinsV (takenC l t),coinsV (newC l t hg)] ⟨fr0 rfl,fr0 rfl,frOwn (look_cons_eq _ _ _) (by simp),fr0 rfl,trivial⟩,rfl,rfl,rfl⟩
end Go.Proofs.YtllhgcfacgiabaaGreat
