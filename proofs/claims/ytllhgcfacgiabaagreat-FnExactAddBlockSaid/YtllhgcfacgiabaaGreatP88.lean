import Derived.Test.YtllhgcfacgiabaaGreatM9
import Derived.Test.YtllhgcfacgiabaaGreatP84
namespace Go.Proofs.YtllhgcfacgiabaaGreat
open Go Go.Am Go.RowKit
set_option linter.unusedVariables false
set_option linter.unusedSimpArgs false
theorem Lu (t:TxD) (n:Nat) (aZ:okT t):Ret Tryz.prog 159 [.rp (txC t)] [] n true (Is (iv (Cf (Di t.2.2))) [] n):=by
 obtain ⟨_,bW,dJ,_,fw⟩:=aZ
 have ca:(t.2.2.map Ax).length=t.2.2.length:=by simp
 have a8:=Ey 2147483646 (Di t.2.2) (fun z hz=>by obtain ⟨y,hy,rfl⟩:=List.mem_map.1 hz; exact (fw y hy).1)
 refine Ret.fn Ad Tryz.func159 rfl Tryz.call159 rfl rfl ?_
 refine Goes ?_
 refine Ao.go (fun k:Nat=>k<=t.2.2.length) (fun k=>⟨[(0,.rp (txC t)),(3,iv (Cf ((Di t.2.2).take k))),(4,iv k)],[],0⟩) (fun k=>t.2.2.length - k) 0 (Nat.zero_le _) ?_ ?_
 · exact Ac.of rfl rfl ⟨⟨rfl,rfl⟩,⟨rfl,rfl⟩,⟨rfl,rfl⟩,trivial⟩ trivial
 intro j hj
 refine Goes ?_;repeat' first|apply W2.m|refine W1.m fun h=>?_
 · have aa:j < t.2.2.length:=by omega
   have c1:=a8 j (by simpa using hj)
   have c2:=a8 (j + 1) (by simp; omega)
   have gT:=Eb (Di t.2.2) j (by simpa using aa)
   rw [List.getElem_map] at gT
   rw [A1 Ax t.2.2 j aa]
   refine ⟨by rw [ca]; exact ⟨by omega,by omega,rfl⟩,?_⟩
   refine Goes ?_
   exact ⟨j + 1,by omega,by omega,Ac.of rfl rfl ⟨⟨rfl,rfl⟩,⟨Aw (by rw [IntWalk.i64_in _ (by omega)]; omega),rfl⟩,⟨Aw Cm,rfl⟩,trivial⟩ trivial⟩
 · obtain rfl:j=t.2.2.length:=by omega
   rw [List.take_of_length_le (by simp)]
   refine Ab.pure rfl rfl rfl ⟨?_,rfl,rfl⟩
   rfl
theorem a50 (l:List Ah) (t:TxD) (hg:Int) (n:Nat) (hl:l.length<=1048576) (h0:A5 l=0) (hz:A7 t=0) (hh:inR 0 9999 hg):Ret Tryz.prog 200 [A0 l,.rp (txC t),iv hg] [] n true (Is (iv (if t.2.1.length=0 then 1 else Dj l t hg)) [] n):=by
 have aZ:=Ev hz
 have bW:=aZ.2.1
 have hL:(l.map Ai).length=l.length:=by simp
 have b6:(t.2.1.map A3).length=t.2.1.length:=by simp
 have bu:=Ey 1000000 (F6 l t.2.1) (fun z hz=>by obtain ⟨x,_,rfl⟩:=List.mem_map.1 hz; exact Y4 h0 x)
 have cu:∀ n,Ret Tryz.prog 135 [.rp (txC t)] [] n true (Is (iv (textOf t)) [] n):=fun n=>Yh t n hz
 have jG:=fun n=>Lu t n aZ
 unfold Dj
 generalize textOf t=text at *
 refine Ret.fn Ad Tryz.func200 rfl Tryz.call200 rfl rfl ?_
 refine Goes ?_;repeat' first|apply W2.m|refine W1.m fun h=>?_
 · refine Ab.pure rfl rfl rfl ⟨?_,rfl,rfl⟩
   rw [if_pos (by omega)]
 have aj:¬ t.2.1.length=0:=by omega
 rw [if_neg aj]
 refine Aa.is (cu _) rfl ?_
 refine Goes ?_
 refine Ao.go (fun k:Nat=>k<=t.2.1.length/\Py l text hg t.2.1=Py l text hg (t.2.1.drop k)) (fun k=>⟨[(0,A0 l),(1,.rp (txC t)),(2,iv hg),(7,iv text),(8,iv (Cf ((F6 l t.2.1).take k))),(9,iv k)],[],0⟩) (fun k=>t.2.1.length - k) 0 ⟨Nat.zero_le _,rfl⟩ ?_ ?_
 · exact Ac.of rfl rfl ⟨⟨rfl,rfl⟩,⟨rfl,rfl⟩,⟨rfl,rfl⟩,⟨rfl,rfl⟩,⟨rfl,rfl⟩,⟨rfl,rfl⟩,trivial⟩ trivial
 intro k ⟨hk,hp⟩
 refine Goes ?_;repeat' first|apply W2.m|refine W1.m fun h=>?_
 · have aa:k < t.2.1.length:=by omega
   have ai:=a6Y l text hg t.2.1 k aa
   rw [<- hp] at ai
   rw [A1 A3 t.2.1 k aa]
   refine ⟨by rw [b6]; exact ⟨by omega,by omega,rfl⟩,?_⟩
   refine Goes ?_
   refine Aa.is (b0i l t.2.1[k] text hg _ hl h0 hh) rfl ?_
   refine Goes ?_;repeat' first|apply W2.m|refine W1.m fun h=>?_
   · have hq:inQ l text hg t.2.1[k]≠0:=by assumption
     rw [if_pos hq] at ai
     refine Ab.pure rfl rfl rfl ⟨?_,rfl,rfl⟩
     rw [if_pos (by rw [ai]; exact hq),ai]
   have hq:¬ inQ l text hg t.2.1[k]≠0:=by assumption
   rw [if_neg hq] at ai
   have b1:=bu k (by simpa using hk)
   have b2:=bu (k + 1) (by simp; omega)
   have ak:=Eb (F6 l t.2.1) k (by simpa using aa)
   rw [List.getElem_map] at ak
   rw [A1 A3 t.2.1 k aa]
   refine ⟨by rw [b6]; exact ⟨by omega,by omega,rfl⟩,?_⟩
   refine Goes ?_
   rw [A1 A3 t.2.1 k aa]
   refine ⟨by rw [b6]; exact ⟨by omega,by omega,rfl⟩,?_⟩
   refine Goes ?_
   have ha:=fun n=>Jk l t.2.1[k].1 t.2.1[k].2.1 n hl
   rcases Jj l t.2.1[k].1 t.2.1[k].2.1 with ⟨j,hj,e1,e2⟩ | ⟨e1,e2⟩
   · rw [e1] at ha
     have hv:Oe l t.2.1[k]=l[j].val:=by unfold Oe; rw [e2]
     refine B8.is (ha _) rfl rfl ?_
     refine Goes ?_
     rw [A1 Ai l j hj]
     refine ⟨by rw [hL]; exact ⟨by omega,by omega,rfl⟩,?_⟩
     refine Goes ?_
     exact ⟨k + 1,⟨by omega,ai⟩,by omega,Ac.of rfl rfl ⟨⟨rfl,rfl⟩,⟨rfl,rfl⟩,⟨rfl,rfl⟩,⟨rfl,rfl⟩,⟨Aw (by rw [ak,hv,IntWalk.i64_in _ (by omega)]),rfl⟩,⟨Aw Cm,rfl⟩,trivial⟩ trivial⟩
   · exact absurd (show inQ l text hg t.2.1[k]≠0 by
      have e:inQ l text hg t.2.1[k]=4:=by unfold inQ; rw [e2]
      rw [e]; decide) hq
 · obtain rfl:k=t.2.1.length:=by omega
   rw [List.drop_length] at hp
   rw [List.take_of_length_le (by simp)]
   refine Aa.is (jG _) rfl ?_
   refine Goes ?_;repeat' first|apply W2.m|refine W1.m fun h=>?_
   · refine Ab.pure rfl rfl rfl ⟨?_,rfl,rfl⟩
     rw [if_neg (by rw [hp]; simp [Py]),if_pos (by omega)]
   · refine Ab.pure rfl rfl rfl ⟨?_,rfl,rfl⟩
     rw [if_neg (by rw [hp]; simp [Py]),if_neg (by omega)]
def b2d (l:List Ah) (t:TxD) (hg:Int) (n T:Nat):AV->Hp->Nat->Prop:=fun r ho m =>
 (Bf l t hg≠0/\r=Uu (Bf l t hg)/\ho=[]/\m=n) ∨
 (Bf l t hg=0/\r=.agg [iv 0,iv (Gx l t),.own n (Ba l t).length,A0 (newC l t hg)]/\ho=[(n,.list T 6 ((Ba l t).map Ai))]/\m=n + 1)
set_option maxHeartbeats 2000000 in
theorem a8B (l:List Ah) (t:TxD) (hg:Int) (n:Nat) (cQ:Qa l) (hf:Fits t) (h0:A5 l=0) (hz:A7 t=0) (hh:inR 0 9999 hg) :
 Ret Tryz.prog 165 [A0 l,.rp (txC t),iv hg] [] n true (b2d l t hg n 184):=by
 have hl:=cQ.len
 have aZ:=Ev hz
 have bW:=aZ.2.1
 have dJ:=aZ.2.2.1
 have lc:=(Dp h0).1
 have hL:(l.map Ai).length=l.length:=by simp
 have b6:(t.2.1.map A3).length=t.2.1.length:=by simp
 have ca:(t.2.2.map Ax).length=t.2.2.length:=by simp
 have cu:∀ n,Ret Tryz.prog 135 [.rp (txC t)] [] n true (Is (iv (textOf t)) [] n):=fun n=>Yh t n hz
 have dX:=fun n=>a50 l t hg n hl h0 hz hh
 have jH:Bf l t hg=if ¬ t.2.1.length=0/\Dj l t hg≠0 then Dj l t hg else if ((B0 t hg).any fun c=>(atC l c.tx c.out).isSome)=true then 6 else A5 (newC l t hg):=by
  unfold Bf; rw [if_neg (fun e=>e h0),if_neg (fun e=>e hz),if_neg (fun e=>e hh)]
 have f6:∀ b,((B0 t hg).any fun c=>(atC l c.tx c.out).isSome)=b↔(b=true↔∃ j,j < t.2.2.length/\(atC l (textOf t) (j:Int)).isSome=true):=by
  intro b
  have h1:((B0 t hg).any fun c=>(atC l c.tx c.out).isSome)=true↔∃ j,j < t.2.2.length/\(atC l (textOf t) (j:Int)).isSome=true:=by
   rw [List.any_eq_true]
   constructor
   · rintro ⟨c,hc,h⟩
     obtain ⟨k,hk,rfl⟩:=List.mem_iff_getElem.1 hc
     rw [C2] at hk
     rw [G9 t hg k hk] at h
     exact ⟨k,hk,h⟩
   · rintro ⟨k,hk,h⟩
     refine ⟨(B0 t hg)[k]'(by rw [C2]; exact hk),List.getElem_mem _,?_⟩
     rw [G9 t hg k hk]; exact h
  rw [<- h1]
  cases b <;> cases ((B0 t hg).any fun c=>(atC l c.tx c.out).isSome) <;> simp
 refine Ret.fn Ad Tryz.func165 rfl Tryz.call165 rfl rfl ?_
 by_cases hb:t.2.1.length=0
 · have dV:¬ (¬ t.2.1.length=0/\Dj l t hg≠0):=fun h=>h.1 hb
   refine Goes ?_;repeat' first|apply W2.m|refine W1.m fun h=>?_
   refine Aa.is (cu _) rfl ?_
   refine Goes ?_
   rw [b6]
   refine Ao.go (fun k:Nat=>k<=t.2.2.length/\∀ j:Nat,j < k->atC l (textOf t) (j:Int)=none) (fun k=>⟨[(0,A0 l),(1,.rp (txC t)),(2,iv hg),(6,.pt 0 0 0),(7,bv (decide ((t.2.1.length:Int)=0))),(9,iv (textOf t)),(10,iv k)],[(0,.box [iv 0,iv 0,nl,nl])],1⟩) (fun k=>t.2.2.length - k) 0 ⟨Nat.zero_le _,fun j hj=>by omega⟩ (Ac.of rfl rfl ktA ktA) ?_
   intro k ⟨hk,aJ⟩
   by_cases aa:k < t.2.2.length
   · refine Goes ?_;repeat' first|apply W2.m|refine W1.m fun h=>?_
     have ai:=fun n=>Jk l (textOf t) (k:Int) n hl
     rcases Jj l (textOf t) (k:Int) with ⟨j,hj,e1,e2⟩ | ⟨e1,e2⟩
     · rw [e1] at ai
       have hA:Bf l t hg=6:=by rw [jH,if_neg dV,if_pos ((f6 true).2 (iff_of_true rfl ⟨k,aa,by rw [e2]; rfl⟩))]
       refine Aa.is (ai _) rfl ?_
       refine Goes ?_
       refine Aa.is (Ht _ _) rfl ?_
       refine Goes ?_
       refine Ab.mk' [] rfl rfl rfl rfl rfl rfl rfl (.inl ⟨by rw [hA]; decide,?_,rfl,rfl⟩)
       rw [hA]; rfl
     · rw [e1] at ai
       refine Aa.is (ai _) rfl ?_
       refine Goes ?_
       exact ⟨k + 1,⟨by omega,fun j hj=>by
        by_cases e:j=k
        · rw [e]; exact e2
        · exact aJ j (by omega)⟩,by omega,(Ac.of rfl rfl ktA ktA)⟩
   · obtain rfl:k=t.2.2.length:=by omega
     have ha:((B0 t hg).any fun c=>(atC l c.tx c.out).isSome)=false:=(f6 false).2 (iff_of_false (by decide) fun ⟨j,hj,e⟩=>by rw [aJ j hj] at e; cases e)
     have hA:Bf l t hg=A5 (newC l t hg):=by rw [jH,if_neg dV,if_neg (by rw [ha]; decide)]
     have ci:=M0 dV
     have bZ:=a4b (hg:=hg) hz ci
     have cT:=a1o h0 hz hh ha
     have w1:IntKind.i64.wrap ((l.length:Int) - t.2.1.length)=l.length - t.2.1.length:=IntWalk.i64_in _ (by omega)
     have w2:IntKind.i64.wrap (IntKind.i64.wrap ((l.length:Int) - t.2.1.length) + t.2.2.length)=((newC l t hg).length:Nat):=by rw [w1,IntWalk.i64_in _ (by omega)]; omega
     have w3:IntKind.i64.wrap (IntKind.i64.wrap (((l.map Ai).length:Int) - (t.2.1.map A3).length) + (t.2.2.map Ax).length)=((newC l t hg).length:Nat):=by rw [hL,b6,ca]; exact w2
     by_cases dy:40 < (newC l t hg).length
     · rw [if_pos dy] at cT
       refine Goes ?_;repeat' first|apply W2.m|refine W1.m fun h=>?_
       refine Aa.is (Ht _ _) rfl ?_
       refine Goes ?_
       refine Ab.mk' [] rfl rfl rfl rfl rfl rfl rfl (.inl ⟨by rw [hA,cT]; decide,?_,rfl,rfl⟩)
       rw [hA,cT]; rfl
     · rw [if_neg dy] at cT
       refine Goes ?_;repeat' first|apply W2.m|refine W1.m fun h=>?_
       refine Aa.is (a1p l _ cQ) rfl ?_
       refine Goes ?_
       have iC:∀ k,(B6 l (t.2.1.take k)).length<=l.length:=fun k=>(Dq _ _).length_le
       have fB:∀ k,Qa (B6 l (t.2.1.take k)):=fun k=>⟨Nat.le_trans (iC k) hl,fun c hc=>cQ.locks c ((Dq _ _).subset hc)⟩
       have dS:=Gg l t
       rw [b6]
       refine Ao.go (fun k:Nat=>k<=t.2.1.length) (fun k=>⟨[(1,.rp (txC t)),(2,iv hg),(6,.pt 0 0 0),(7,bv (decide ((t.2.1.length:Int)=0))),(9,iv (textOf t)),(11,.pt 1 0 0),(12,iv k)],[(2,.list 184 6 (((Ba l t).take k).map Ai)),(1,.box [iv 0,iv 0,.own 2 k,A0 (B6 l (t.2.1.take k))]),(0,.box [iv 0,iv 0,nl,nl])],3⟩) (fun k=>t.2.1.length - k) 0 (Nat.zero_le _) ?_ ?_
       · refine Ac.trans (Ac.name 1 2 184 6 _ (by decide) rfl rfl) ?_
         exact (Ac.of rfl rfl ktA ktA)
       intro k hk
       have li:((B6 l (t.2.1.take k)).map Ai).length=(B6 l (t.2.1.take k)).length:=by simp
       by_cases aw:k < t.2.1.length
       · first
         | exfalso; omega
         | refine Goes ?_
           have ai:=fun n=>Jk (B6 l (t.2.1.take k)) t.2.1[k].1 t.2.1[k].2.1 n (fB k).len
           rw [A1 A3 t.2.1 k aw]
           refine ⟨by rw [b6]; exact ⟨by omega,by omega,rfl⟩,?_⟩
           refine Goes ?_
           rw [A1 A3 t.2.1 k aw]
           refine ⟨by rw [b6]; exact ⟨by omega,by omega,rfl⟩,?_⟩
           refine Goes ?_
           obtain ⟨lj,dc⟩:∃ h:k < (Ba l t).length,atC (B6 l (t.2.1.take k)) t.2.1[k].1 t.2.1[k].2.1=some (Ba l t)[k]:=⟨by omega,by rw [Pn hz ci k aw,List.getElem?_eq_getElem]⟩
           have j6:=iC k
           rcases Jj (B6 l (t.2.1.take k)) t.2.1[k].1 t.2.1[k].2.1 with ⟨j,hj,e1,e2⟩ | ⟨e1,e2⟩
           · rw [e1] at ai
             have jI:(B6 l (t.2.1.take k))[j]=(Ba l t)[k]:=Option.some.inj (e2.symm.trans dc)
             have iQ:=a1r e1
             have iB:J3 (Ba l t)[k]<=1048576:=by rw [<- jI]; exact (fB k).locks _ (List.getElem_mem hj)
             have iD:=fun n=>a1q (B6 l (t.2.1.take k)) j n hj (fB k).len
             rw [iQ,<- Q3 l t.2.1 k aw] at iD
             first | refine B8.is (ai _) rfl rfl ?_ | refine Aa.is (ai _) rfl ?_
             refine Goes ?_
             rw [A1 Ai _ j hj,jI]
             refine ⟨by rw [li]; exact ⟨by omega,by omega,rfl⟩,?_⟩
             refine Goes ?_
             first | refine B8.is (H5 (Ba l t)[k] _ iB) rfl rfl ?_ | refine Aa.is (H5 (Ba l t)[k] _ iB) rfl ?_
             refine Goes ?_
             refine ⟨⟨by simp; omega,by show (k + 1) * 64<=_; omega,by show k + 1<=_; unfold maxLen; omega,True.intro,fun r hr=>by rw [List.mem_singleton.1 (List.mem_of_mem_take hr)]; rfl⟩,?_⟩
             refine Goes ?_
             first | refine B8.is (iD _) rfl rfl ?_ | refine Aa.is (iD _) rfl ?_
             refine Goes ?_
             refine ⟨k + 1,by omega,by omega,Ac.of rfl rfl ⟨⟨rfl,rfl⟩,⟨rfl,rfl⟩,⟨rfl,rfl⟩,⟨rfl,rfl⟩,⟨rfl,rfl⟩,⟨rfl,rfl⟩,⟨Aw Cm,rfl⟩,trivial⟩ ⟨⟨Ch ?_,rfl,rfl⟩,⟨rfl,rfl,rfl⟩,⟨rfl,rfl,rfl⟩,trivial⟩⟩
             rw [Bo (Ba l t) k lj,List.map_append,List.take_of_length_le (by simp; omega)]; rfl
           · rw [e2] at dc; cases dc
       · obtain rfl:k=t.2.1.length:=by omega
         refine Goes ?_;repeat' first|apply W2.m|refine W1.m fun h=>?_
         have lk:t.2.1.take t.2.1.length=t.2.1:=List.take_length
         have jD:(Ba l t).take t.2.1.length=Ba l t:=by rw [<- dS,List.take_length]
         rw [lk,jD]
         refine Ao.go (fun k:Nat=>k<=t.2.2.length) (fun k=>⟨[(1,.rp (txC t)),(2,iv hg),(6,.pt 0 0 0),(7,bv (decide ((t.2.1.length:Int)=0))),(9,iv (textOf t)),(11,.pt 1 0 0),(14,iv k)],[(2,.list 184 6 ((Ba l t).map Ai)),(1,.box [iv 0,iv 0,.own 2 t.2.1.length,A0 (J8 (B6 l t.2.1) ((B0 t hg).take k))]),(0,.box [iv 0,iv 0,nl,nl])],3⟩) (fun k=>t.2.2.length - k) 0 (Nat.zero_le _) (Ac.of rfl rfl ktA ktA) ?_
         intro k gk
         by_cases cH:k < t.2.2.length
         · refine Goes ?_;repeat' first|apply W2.m|refine W1.m fun h=>?_
           have ll:k < (B0 t hg).length:=by rw [C2]; exact cH
           have jJ:=G9 t hg k cH
           have aS:J8 (B6 l t.2.1) ((B0 t hg).take (k + 1))=Jf ⟨textOf t,k,t.2.2[k].1,t.2.2[k].2,hg,decide (t.2.1.length=0)⟩ (J8 (B6 l t.2.1) ((B0 t hg).take k)):=by
            rw [Bo _ k ll,<- jJ]; unfold J8; rw [List.foldl_append]; rfl
           have cm:(J8 (B6 l t.2.1) ((B0 t hg).take k)).length<=1048576:=by
            have h1:=(My ((B0 t hg).take k) (B6 l t.2.1)).length_eq
            have h2:=(Dq t.2.1 l).length_le
            rw [List.length_append,List.length_take] at h1
            omega
           have cU:t.2.2[k].2.length<=1048576:=hf.locks _ (List.getElem_mem cH)
           have fh:=fun n=>Ret.frList (by simp) (Fg t.2.2[k].2 n cU)
           have dz:=fun n=>a4c (J8 (B6 l t.2.1) ((B0 t hg).take k)) ⟨textOf t,k,t.2.2[k].1,t.2.2[k].2,hg,decide (t.2.1.length=0)⟩ n cm
           rw [<- aS] at dz
           have ig:decide ((t.2.1.length:Int)=0)=decide (t.2.1.length=0):=by simp
           rw [ig]
           rw [A1 Ax t.2.2 k cH]
           refine ⟨by rw [ca]; exact ⟨by omega,by omega,rfl⟩,?_⟩
           refine Goes ?_
           rw [A1 Ax t.2.2 k cH]
           refine ⟨by rw [ca]; exact ⟨by omega,by omega,rfl⟩,?_⟩
           refine Goes ?_
           refine Ia.is rfl (fh) ?_
           refine Goes ?_
           refine Aa.is (dz _) rfl ?_
           refine Goes ?_
           refine ⟨k + 1,by omega,by omega,Ac.of rfl rfl ⟨⟨rfl,rfl⟩,⟨rfl,rfl⟩,⟨rfl,rfl⟩,⟨rfl,rfl⟩,⟨rfl,rfl⟩,⟨rfl,rfl⟩,⟨Aw Cm,rfl⟩,trivial⟩ ⟨⟨rfl,rfl,rfl⟩,⟨rfl,rfl,rfl⟩,⟨rfl,rfl,rfl⟩,trivial⟩⟩
         · obtain rfl:k=t.2.2.length:=by omega
           have lm:(B0 t hg).take t.2.2.length=B0 t hg:=by rw [<- C2 t hg,List.take_length]
           rw [lm]
           have g9:(newC l t hg).length<=1048576:=by omega
           have cD:=fun n=>Vm (newC l t hg) n g9
           by_cases ap:inR 0 1000000 (Cf (Cn (newC l t hg)))
           · rw [if_pos ap] at cT
             rw [cT] at cD
             rw [cT] at hA
             refine Goes ?_;repeat' first|apply W2.m|refine W1.m fun h=>?_
             refine Aa.is (cD _) rfl ?_
             refine Goes ?_;repeat' first|apply W2.m|refine W1.m fun h=>?_
             first
             | (refine Ab.mk' [2] rfl rfl rfl rfl rfl rfl rfl (.inr ⟨hA,?_,?_,rfl⟩)
                · have dW:Gx l t=0:=by unfold Gx; rw [if_pos (by omega)]
                  rw [dW,dS]; rfl
                · rfl)
             | (have hv:∀ z∈Cn (Ba l t),inR 0 1000000 z:=fun z iy=>by
                 obtain ⟨c,hc,rfl⟩:=List.mem_map.1 iy
                 exact N6 _ _ (Dp h0).2.1 _ (List.mem_map.2 ⟨c,Mz ci hc,rfl⟩)
                have ln:F6 l t.2.1=Cn (Ba l t):=Y9 l t
                have bu:=Ey 1000000 (Cn (Ba l t)) hv (Cn (Ba l t)).length (Nat.le_refl _)
                have a8:=Ey 2147483646 (Di t.2.2) (fun z hz=>by obtain ⟨y,hy,rfl⟩:=List.mem_map.1 hz; exact (aZ.2.2.2.2 y hy).1) (Di t.2.2).length (Nat.le_refl _)
                rw [List.take_length] at bu a8
                have lp:(Cn (Ba l t)).length=t.2.1.length:=by simp [dS]
                have lq:(Di t.2.2).length=t.2.2.length:=by simp
                rw [lp] at bu
                rw [lq] at a8
                have w9:IntKind.i64.wrap (Cf (Cn (Ba l t)) - Cf (Di t.2.2))=Gx l t:=by
                 rw [IntWalk.i64_in _ (by omega)]; unfold Gx; rw [if_neg (by omega),ln]
                refine Aa.convAIs (N5 (Ba l t) _ (by omega) hv) ⟨a9r rfl (by simp [dS]),trivial⟩ rfl trivial ?_
                refine Goes ?_
                first | refine Aa.is (Lu t _ aZ) rfl ?_ | refine B8.is (Lu t _ aZ) rfl rfl ?_
                refine Goes ?_
                refine Ab.mk' [2] rfl rfl rfl rfl rfl rfl rfl (.inr ⟨hA,?_,?_,rfl⟩)
                · rw [<- w9,dS]; rfl
                · rfl)
           · rw [if_neg ap] at cT
             rw [cT] at cD
             rw [cT] at hA
             refine Goes ?_;repeat' first|apply W2.m|refine W1.m fun h=>?_
             refine Aa.is (cD _) rfl ?_
             refine Goes ?_
             refine Aa.is (Ht _ _) rfl ?_
             refine Goes ?_
             refine Ab.mk' [] rfl rfl rfl rfl rfl rfl rfl (.inl ⟨by rw [hA]; decide,?_,rfl,rfl⟩)
             rw [hA]; rfl
 · simp only [if_neg hb] at dX
   by_cases hs:Dj l t hg=0
   · have dV:¬ (¬ t.2.1.length=0/\Dj l t hg≠0):=fun h=>h.2 hs
     refine Goes ?_;repeat' first|apply W2.m|refine W1.m fun h=>?_
     refine Aa.is (dX _) rfl ?_
     refine Goes ?_;repeat' first|apply W2.m|refine W1.m fun h=>?_
     refine Aa.is (cu _) rfl ?_
     refine Goes ?_
     rw [b6]
     refine Ao.go (fun k:Nat=>k<=t.2.2.length/\∀ j:Nat,j < k->atC l (textOf t) (j:Int)=none) (fun k=>⟨[(0,A0 l),(1,.rp (txC t)),(2,iv hg),(6,.pt 0 0 0),(7,bv (decide ((t.2.1.length:Int)=0))),(9,iv (textOf t)),(10,iv k)],[(0,.box [iv 0,iv 0,nl,nl])],1⟩) (fun k=>t.2.2.length - k) 0 ⟨Nat.zero_le _,fun j hj=>by omega⟩ (Ac.of rfl rfl ktA ktA) ?_
     intro k ⟨hk,aJ⟩
     by_cases aa:k < t.2.2.length
     · refine Goes ?_;repeat' first|apply W2.m|refine W1.m fun h=>?_
       have ai:=fun n=>Jk l (textOf t) (k:Int) n hl
       rcases Jj l (textOf t) (k:Int) with ⟨j,hj,e1,e2⟩ | ⟨e1,e2⟩
       · rw [e1] at ai
         have hA:Bf l t hg=6:=by rw [jH,if_neg dV,if_pos ((f6 true).2 (iff_of_true rfl ⟨k,aa,by rw [e2]; rfl⟩))]
         refine Aa.is (ai _) rfl ?_
         refine Goes ?_
         refine Aa.is (Ht _ _) rfl ?_
         refine Goes ?_
         refine Ab.mk' [] rfl rfl rfl rfl rfl rfl rfl (.inl ⟨by rw [hA]; decide,?_,rfl,rfl⟩)
         rw [hA]; rfl
       · rw [e1] at ai
         refine Aa.is (ai _) rfl ?_
         refine Goes ?_
         exact ⟨k + 1,⟨by omega,fun j hj=>by
          by_cases e:j=k
          · rw [e]; exact e2
          · exact aJ j (by omega)⟩,by omega,(Ac.of rfl rfl ktA ktA)⟩
     · obtain rfl:k=t.2.2.length:=by omega
       have ha:((B0 t hg).any fun c=>(atC l c.tx c.out).isSome)=false:=(f6 false).2 (iff_of_false (by decide) fun ⟨j,hj,e⟩=>by rw [aJ j hj] at e; cases e)
       have hA:Bf l t hg=A5 (newC l t hg):=by rw [jH,if_neg dV,if_neg (by rw [ha]; decide)]
       have ci:=M0 dV
       have bZ:=a4b (hg:=hg) hz ci
       have cT:=a1o h0 hz hh ha
       have w1:IntKind.i64.wrap ((l.length:Int) - t.2.1.length)=l.length - t.2.1.length:=IntWalk.i64_in _ (by omega)
       have w2:IntKind.i64.wrap (IntKind.i64.wrap ((l.length:Int) - t.2.1.length) + t.2.2.length)=((newC l t hg).length:Nat):=by rw [w1,IntWalk.i64_in _ (by omega)]; omega
       have w3:IntKind.i64.wrap (IntKind.i64.wrap (((l.map Ai).length:Int) - (t.2.1.map A3).length) + (t.2.2.map Ax).length)=((newC l t hg).length:Nat):=by rw [hL,b6,ca]; exact w2
       by_cases dy:40 < (newC l t hg).length
       · rw [if_pos dy] at cT
         refine Goes ?_;repeat' first|apply W2.m|refine W1.m fun h=>?_
         refine Aa.is (Ht _ _) rfl ?_
         refine Goes ?_
         refine Ab.mk' [] rfl rfl rfl rfl rfl rfl rfl (.inl ⟨by rw [hA,cT]; decide,?_,rfl,rfl⟩)
         rw [hA,cT]; rfl
       · rw [if_neg dy] at cT
         refine Goes ?_;repeat' first|apply W2.m|refine W1.m fun h=>?_
         refine Aa.is (a1p l _ cQ) rfl ?_
         refine Goes ?_
         have iC:∀ k,(B6 l (t.2.1.take k)).length<=l.length:=fun k=>(Dq _ _).length_le
         have fB:∀ k,Qa (B6 l (t.2.1.take k)):=fun k=>⟨Nat.le_trans (iC k) hl,fun c hc=>cQ.locks c ((Dq _ _).subset hc)⟩
         have dS:=Gg l t
         rw [b6]
         refine Ao.go (fun k:Nat=>k<=t.2.1.length) (fun k=>⟨[(1,.rp (txC t)),(2,iv hg),(6,.pt 0 0 0),(7,bv (decide ((t.2.1.length:Int)=0))),(9,iv (textOf t)),(11,.pt 1 0 0),(12,iv k)],[(2,.list 184 6 (((Ba l t).take k).map Ai)),(1,.box [iv 0,iv 0,.own 2 k,A0 (B6 l (t.2.1.take k))]),(0,.box [iv 0,iv 0,nl,nl])],3⟩) (fun k=>t.2.1.length - k) 0 (Nat.zero_le _) ?_ ?_
         · refine Ac.trans (Ac.name 1 2 184 6 _ (by decide) rfl rfl) ?_
           exact (Ac.of rfl rfl ktA ktA)
         intro k hk
         have li:((B6 l (t.2.1.take k)).map Ai).length=(B6 l (t.2.1.take k)).length:=by simp
         by_cases aw:k < t.2.1.length
         · first
           | exfalso; omega
           | refine Goes ?_;repeat' first|apply W2.m|refine W1.m fun h=>?_
             have ai:=fun n=>Jk (B6 l (t.2.1.take k)) t.2.1[k].1 t.2.1[k].2.1 n (fB k).len
             rw [A1 A3 t.2.1 k aw]
             refine ⟨by rw [b6]; exact ⟨by omega,by omega,rfl⟩,?_⟩
             refine Goes ?_
             rw [A1 A3 t.2.1 k aw]
             refine ⟨by rw [b6]; exact ⟨by omega,by omega,rfl⟩,?_⟩
             refine Goes ?_
             obtain ⟨lj,dc⟩:∃ h:k < (Ba l t).length,atC (B6 l (t.2.1.take k)) t.2.1[k].1 t.2.1[k].2.1=some (Ba l t)[k]:=⟨by omega,by rw [Pn hz ci k aw,List.getElem?_eq_getElem]⟩
             have j6:=iC k
             rcases Jj (B6 l (t.2.1.take k)) t.2.1[k].1 t.2.1[k].2.1 with ⟨j,hj,e1,e2⟩ | ⟨e1,e2⟩
             · rw [e1] at ai
               have jI:(B6 l (t.2.1.take k))[j]=(Ba l t)[k]:=Option.some.inj (e2.symm.trans dc)
               have iQ:=a1r e1
               have iB:J3 (Ba l t)[k]<=1048576:=by rw [<- jI]; exact (fB k).locks _ (List.getElem_mem hj)
               have iD:=fun n=>a1q (B6 l (t.2.1.take k)) j n hj (fB k).len
               rw [iQ,<- Q3 l t.2.1 k aw] at iD
               refine Aa.is (ai _) rfl ?_
               refine Goes ?_
               rw [A1 Ai _ j hj,jI]
               refine ⟨by rw [li]; exact ⟨by omega,by omega,rfl⟩,?_⟩
               refine Goes ?_
               refine B8.is (H5 (Ba l t)[k] _ iB) rfl rfl ?_
               refine Goes ?_
               refine ⟨⟨by simp; omega,by show (k + 1) * 64<=_; omega,by show k + 1<=_; unfold maxLen; omega,True.intro,fun r hr=>by rw [List.mem_singleton.1 (List.mem_of_mem_take hr)]; rfl⟩,?_⟩
               refine Goes ?_
               refine Aa.is (iD _) rfl ?_
               refine Goes ?_
               refine ⟨k + 1,by omega,by omega,Ac.of rfl rfl ⟨⟨rfl,rfl⟩,⟨rfl,rfl⟩,⟨rfl,rfl⟩,⟨rfl,rfl⟩,⟨rfl,rfl⟩,⟨rfl,rfl⟩,⟨Aw Cm,rfl⟩,trivial⟩ ⟨⟨Ch ?_,rfl,rfl⟩,⟨rfl,rfl,rfl⟩,⟨rfl,rfl,rfl⟩,trivial⟩⟩
               rw [Bo (Ba l t) k lj,List.map_append,List.take_of_length_le (by simp; omega)]; rfl
             · rw [e2] at dc; cases dc
         · obtain rfl:k=t.2.1.length:=by omega
           refine Goes ?_;repeat' first|apply W2.m|refine W1.m fun h=>?_
           have lk:t.2.1.take t.2.1.length=t.2.1:=List.take_length
           have jD:(Ba l t).take t.2.1.length=Ba l t:=by rw [<- dS,List.take_length]
           rw [lk,jD]
           refine Ao.go (fun k:Nat=>k<=t.2.2.length) (fun k=>⟨[(1,.rp (txC t)),(2,iv hg),(6,.pt 0 0 0),(7,bv (decide ((t.2.1.length:Int)=0))),(9,iv (textOf t)),(11,.pt 1 0 0),(14,iv k)],[(2,.list 184 6 ((Ba l t).map Ai)),(1,.box [iv 0,iv 0,.own 2 t.2.1.length,A0 (J8 (B6 l t.2.1) ((B0 t hg).take k))]),(0,.box [iv 0,iv 0,nl,nl])],3⟩) (fun k=>t.2.2.length - k) 0 (Nat.zero_le _) (Ac.of rfl rfl ktA ktA) ?_
           intro k gk
           by_cases cH:k < t.2.2.length
           · refine Goes ?_;repeat' first|apply W2.m|refine W1.m fun h=>?_
             have ll:k < (B0 t hg).length:=by rw [C2]; exact cH
             have jJ:=G9 t hg k cH
             have aS:J8 (B6 l t.2.1) ((B0 t hg).take (k + 1))=Jf ⟨textOf t,k,t.2.2[k].1,t.2.2[k].2,hg,decide (t.2.1.length=0)⟩ (J8 (B6 l t.2.1) ((B0 t hg).take k)):=by
              rw [Bo _ k ll,<- jJ]; unfold J8; rw [List.foldl_append]; rfl
             have cm:(J8 (B6 l t.2.1) ((B0 t hg).take k)).length<=1048576:=by
              have h1:=(My ((B0 t hg).take k) (B6 l t.2.1)).length_eq
              have h2:=(Dq t.2.1 l).length_le
              rw [List.length_append,List.length_take] at h1
              omega
             have cU:t.2.2[k].2.length<=1048576:=hf.locks _ (List.getElem_mem cH)
             have fh:=fun n=>Ret.frList (by simp) (Fg t.2.2[k].2 n cU)
             have dz:=fun n=>a4c (J8 (B6 l t.2.1) ((B0 t hg).take k)) ⟨textOf t,k,t.2.2[k].1,t.2.2[k].2,hg,decide (t.2.1.length=0)⟩ n cm
             rw [<- aS] at dz
             have ig:decide ((t.2.1.length:Int)=0)=decide (t.2.1.length=0):=by simp
             rw [ig]
             rw [A1 Ax t.2.2 k cH]
             refine ⟨by rw [ca]; exact ⟨by omega,by omega,rfl⟩,?_⟩
             refine Goes ?_
             rw [A1 Ax t.2.2 k cH]
             refine ⟨by rw [ca]; exact ⟨by omega,by omega,rfl⟩,?_⟩
             refine Goes ?_
             refine Ia.is rfl (fh) ?_
             refine Goes ?_
             refine Aa.is (dz _) rfl ?_
             refine Goes ?_
             refine ⟨k + 1,by omega,by omega,Ac.of rfl rfl ⟨⟨rfl,rfl⟩,⟨rfl,rfl⟩,⟨rfl,rfl⟩,⟨rfl,rfl⟩,⟨rfl,rfl⟩,⟨rfl,rfl⟩,⟨Aw Cm,rfl⟩,trivial⟩ ⟨⟨rfl,rfl,rfl⟩,⟨rfl,rfl,rfl⟩,⟨rfl,rfl,rfl⟩,trivial⟩⟩
           · obtain rfl:k=t.2.2.length:=by omega
             have lm:(B0 t hg).take t.2.2.length=B0 t hg:=by rw [<- C2 t hg,List.take_length]
             rw [lm]
             have g9:(newC l t hg).length<=1048576:=by omega
             have cD:=fun n=>Vm (newC l t hg) n g9
             by_cases ap:inR 0 1000000 (Cf (Cn (newC l t hg)))
             · rw [if_pos ap] at cT
               rw [cT] at cD
               rw [cT] at hA
               refine Goes ?_;repeat' first|apply W2.m|refine W1.m fun h=>?_
               refine Aa.is (cD _) rfl ?_
               refine Goes ?_;repeat' first|apply W2.m|refine W1.m fun h=>?_
               first
               | (refine Ab.mk' [2] rfl rfl rfl rfl rfl rfl rfl (.inr ⟨hA,?_,?_,rfl⟩)
                  · have dW:Gx l t=0:=by unfold Gx; rw [if_pos (by omega)]
                    rw [dW,dS]; rfl
                  · rfl)
               | (have hv:∀ z∈Cn (Ba l t),inR 0 1000000 z:=fun z iy=>by
                   obtain ⟨c,hc,rfl⟩:=List.mem_map.1 iy
                   exact N6 _ _ (Dp h0).2.1 _ (List.mem_map.2 ⟨c,Mz ci hc,rfl⟩)
                  have ln:F6 l t.2.1=Cn (Ba l t):=Y9 l t
                  have bu:=Ey 1000000 (Cn (Ba l t)) hv (Cn (Ba l t)).length (Nat.le_refl _)
                  have a8:=Ey 2147483646 (Di t.2.2) (fun z hz=>by obtain ⟨y,hy,rfl⟩:=List.mem_map.1 hz; exact (aZ.2.2.2.2 y hy).1) (Di t.2.2).length (Nat.le_refl _)
                  rw [List.take_length] at bu a8
                  have lp:(Cn (Ba l t)).length=t.2.1.length:=by simp [dS]
                  have lq:(Di t.2.2).length=t.2.2.length:=by simp
                  rw [lp] at bu
                  rw [lq] at a8
                  have w9:IntKind.i64.wrap (Cf (Cn (Ba l t)) - Cf (Di t.2.2))=Gx l t:=by
                   rw [IntWalk.i64_in _ (by omega)]; unfold Gx; rw [if_neg (by omega),ln]
                  refine Aa.convAIs (N5 (Ba l t) _ (by omega) hv) ⟨a9r rfl (by simp [dS]),trivial⟩ rfl trivial ?_
                  refine Goes ?_
                  refine Aa.is (Lu t _ aZ) rfl ?_
                  refine Goes ?_
                  refine Ab.mk' [2] rfl rfl rfl rfl rfl rfl rfl (.inr ⟨hA,?_,?_,rfl⟩)
                  · rw [<- w9,dS]; rfl
                  · rfl)
             · rw [if_neg ap] at cT
               rw [cT] at cD
               rw [cT] at hA
               refine Goes ?_;repeat' first|apply W2.m|refine W1.m fun h=>?_
               refine Aa.is (cD _) rfl ?_
               refine Goes ?_
               refine Aa.is (Ht _ _) rfl ?_
               refine Goes ?_
               refine Ab.mk' [] rfl rfl rfl rfl rfl rfl rfl (.inl ⟨by rw [hA]; decide,?_,rfl,rfl⟩)
               rw [hA]; rfl
   · refine Goes ?_;repeat' first|apply W2.m|refine W1.m fun h=>?_
     refine Aa.is (dX _) rfl ?_
     refine Goes ?_;repeat' first|apply W2.m|refine W1.m fun h=>?_
     refine Aa.is (Ht _ _) rfl ?_
     refine Goes ?_
     have hA:Bf l t hg=Dj l t hg:=by rw [jH,if_pos ⟨hb,hs⟩]
     refine Ab.mk' [] rfl rfl rfl rfl rfl rfl rfl (.inl ⟨by rw [hA]; exact hs,?_,rfl,rfl⟩)
     rw [hA]; rfl
theorem a51 (l:List Ah) (t:TxD) (hg:Int) (n:Nat) (cQ:Qa l) (hf:Fits t) (h0:A5 l=0) (hz:A7 t=0) (hh:inR 0 9999 hg) :
 Ret Tryz.prog 165 [A0 l,.rp (txC t),iv hg] [] n true (Is (if Bf l t hg=0 then b2c l t hg else Uu (Bf l t hg)) [] n):=by
 refine Ret.freeze ?_ (a8B l t hg n cQ hf h0 hz hh)
 rintro _ _ _ (⟨hA,rfl,rfl,rfl⟩ | ⟨hA,rfl,rfl,rfl⟩)
 · rw [if_neg hA]
   exact ⟨_,.agg _ [iv (Bf l t hg),iv 0,nl,nl] ⟨fr0 rfl,fr0 rfl,fr0 rfl,fr0 rfl,trivial⟩,rfl,rfl,rfl⟩
 · rw [if_pos hA]
   exact ⟨_,.agg _ [iv 0,iv (Gx l t),A0 (Ba l t),A0 (newC l t hg)] ⟨fr0 rfl,fr0 rfl,Vg (Ae _ _ _) (by simp),fr0 rfl,trivial⟩,rfl,rfl,rfl⟩
end Go.Proofs.YtllhgcfacgiabaaGreat
