import Derived.Test.YtllhgcfacgiabaaGreatR9
import Derived.Test.YtllhgcfacgiabaaGreatR12
import Derived.Test.YtllhgcfacgiabaaGreatP20
namespace Go.Proofs.YtllhgcfacgiabaaGreat
open Go Go.Am Go.RowKit
set_option linter.unusedVariables false
set_option linter.unusedSimpArgs false
theorem findP_eq {t:TreeD} {xs:List PlaceD} {i k:Nat} (hu:Upto t xs i) (s:Int) (hk:k < xs.length):findP xs s=(k:Int) + -1↔xs[k].sum=s:=by
 constructor
 · intro h
   unfold findP at h
   cases hn:nodeF xs s with
   | none=>rw [hn] at h; dsimp only at h; omega
   | some j =>
     rw [hn] at h
     dsimp only at h
     obtain rfl:j=k:=by omega
     obtain ⟨p,hp,e,_⟩:=nodeF_some.1 hn
     rw [List.getElem?_eq_getElem hk] at hp
     cases hp
     exact e
 · intro h
   unfold findP
   rw [← h,hu.good.nodeF_at (List.getElem?_eq_getElem hk)]
theorem findP_none {xs:List PlaceD} {s:Int}:findP xs s=-2↔nodeF xs s=none:=by
 unfold findP
 cases nodeF xs s with
 | none=>simp
 | some j=>simp; omega
set_option maxHeartbeats 2000000 in
theorem l6Node_rp (t:TreeD) (xs:List PlaceD) (i n:Nat) (hu:Upto t xs i) (hlt:i < t.nodes.length) (hf:FitsB t.nodes[i].blk):Ret Tryz.prog 107 [.rp (treeC t),iv i] [] n true (Is (iv (stepC t.bits xs t.nodes[i])) [] n):=by
 have hL:(t.nodes.map nodeC).length=t.nodes.length:=by simp
 have hxl:=hu.len
 have h8:=hu.cap
 have hF:=fun n=>l6Fault_rp t.nodes[i].blk n hf
 have hI:=fun n=>l1In_ret t.nodes[i].up (-1) ((i:Int) - 1) n
 have hwi:IntKind.i64.wrap ((i:Int) - 1)=(i:Int) - 1:=IntWalk.i64_in _ (by omega)
 by_cases h0:blkF t.nodes[i].blk≠0
 · have hC:stepC t.bits xs t.nodes[i]=blkF t.nodes[i].blk:=if_pos h0
   rw [hC]
   refine Ret.fn ttOk Tryz.func107 rfl Tryz.call107 rfl rfl ?_
   refine Goes ?_;repeat' first|apply W2.m|refine W1.m fun h=>?_
   rw [rowK nodeC t.nodes i hlt]
   refine ⟨by rw [hL]; exact ⟨by omega,by omega,rfl⟩,?_⟩
   refine Goes ?_;repeat' first|apply W2.m|refine W1.m fun h=>?_
   first | refine CallP.is (hF _) rfl ?_ | refine CallQ.is (hF _) rfl rfl ?_
   refine Goes ?_;repeat' first|apply W2.m|refine W1.m fun h=>?_
   refine FinOk.pure rfl rfl rfl ⟨?_,rfl,rfl⟩
   rfl
 have hz:blkF t.nodes[i].blk=0:=Decidable.not_not.1 h0
 rw [hz] at hF
 have hP:=fun n=>l6Find_rp t xs t.nodes[i].blk.prev i n hu
 cases hup:upAt xs t.nodes[i] with
 | none =>
   have hC:stepC t.bits xs t.nodes[i]=4:=by unfold stepC; rw [if_neg h0,hup]
   rw [hC]
   by_cases hin:inR (-1) ((i:Int) - 1) t.nodes[i].up
   · rw [decide_eq_true hin] at hI
     have hin2:=hin
     unfold inR at hin2
     obtain ⟨k,hk,hk2⟩:∃ k:Nat,k < xs.length∧t.nodes[i].up=(k:Int) + -1:=⟨(t.nodes[i].up + 1).toNat,by omega,by omega⟩
     have hne:¬ findP xs t.nodes[i].blk.prev=t.nodes[i].up:=fun e=>by
      rw [hk2] at e
      have hs:=(findP_eq hu _ hk).1 e
      unfold upAt at hup
      rw [if_pos ⟨hin2.1,by omega,(by
       have:(t.nodes[i].up + 1).toNat=k:=by omega
       rw [this]; simp [List.getD_eq_getElem?_getD,hk,hs])⟩] at hup
      cases hup
     refine Ret.fn ttOk Tryz.func107 rfl Tryz.call107 rfl rfl ?_
     refine Goes ?_;repeat' first|apply W2.m|refine W1.m fun h=>?_
     rw [rowK nodeC t.nodes i hlt]
     refine ⟨by rw [hL]; exact ⟨by omega,by omega,rfl⟩,?_⟩
     refine Goes ?_;repeat' first|apply W2.m|refine W1.m fun h=>?_
     first | refine CallP.is (hF _) rfl ?_ | refine CallQ.is (hF _) rfl rfl ?_
     refine Goes ?_;repeat' first|apply W2.m|refine W1.m fun h=>?_
     rw [hwi]
     repeat' first
      | (first | refine CallQ.is (hI _) rfl rfl ?_ | refine CallP.is (hI _) rfl ?_
         refine Goes ?_;repeat' first|apply W2.m|refine W1.m fun h=>?_)
      | (first | refine CallQ.is (hP _) rfl rfl ?_ | refine CallP.is (hP _) rfl ?_
         refine Goes ?_;repeat' first|apply W2.m|refine W1.m fun h=>?_)
     all_goals first
      | (exfalso; omega)
      | (refine FinOk.pure rfl rfl rfl ⟨?_,rfl,rfl⟩
         rfl)
   · rw [decide_eq_false hin] at hI
     refine Ret.fn ttOk Tryz.func107 rfl Tryz.call107 rfl rfl ?_
     refine Goes ?_;repeat' first|apply W2.m|refine W1.m fun h=>?_
     rw [rowK nodeC t.nodes i hlt]
     refine ⟨by rw [hL]; exact ⟨by omega,by omega,rfl⟩,?_⟩
     refine Goes ?_;repeat' first|apply W2.m|refine W1.m fun h=>?_
     first | refine CallP.is (hF _) rfl ?_ | refine CallQ.is (hF _) rfl rfl ?_
     refine Goes ?_;repeat' first|apply W2.m|refine W1.m fun h=>?_
     rw [hwi]
     repeat' first
      | (first | refine CallQ.is (hI _) rfl rfl ?_ | refine CallP.is (hI _) rfl ?_
         refine Goes ?_;repeat' first|apply W2.m|refine W1.m fun h=>?_)
      | (first | refine CallQ.is (hP _) rfl rfl ?_ | refine CallP.is (hP _) rfl ?_
         refine Goes ?_;repeat' first|apply W2.m|refine W1.m fun h=>?_)
     all_goals first
      | (exfalso; omega)
      | (refine FinOk.pure rfl rfl rfl ⟨?_,rfl,rfl⟩
         rfl)
 | some k =>
   obtain ⟨hk,hk2,hk3⟩:=upAt_some hup
   have hg:xs.getD k p0=xs[k]:=by simp [List.getD_eq_getElem?_getD,hk]
   rw [hg] at hk3
   have hC:stepC t.bits xs t.nodes[i]=addP t.bits xs xs[k] t.nodes[i].blk:=by unfold stepC; rw [if_neg h0,hup]; dsimp only; rw [hg]
   have hfe:findP xs t.nodes[i].blk.prev=t.nodes[i].up:=by rw [hk2]; exact (findP_eq hu _ hk).2 hk3
   have hin:inR (-1) ((i:Int) - 1) t.nodes[i].up:=by unfold inR; omega
   rw [decide_eq_true hin] at hI
   rw [hfe] at hP
   have hB:=fun n=>l6Behind_rp t xs i k n t.nodes[i].up xs[k] t.nodes[i].blk hu hk2 (List.getElem?_eq_getElem hk) hf hz
   obtain ⟨_,hl1,hl4,hzz⟩:=blkF_ok hz
   have hH:=fun n=>l6Header_rp t.nodes[i].blk n hl1 hl4 hzz
   have hQ:=fun n=>l6Find_rp t xs (hdrB t.nodes[i].blk) i n hu
   rw [hC]
   by_cases hc:codeP t.bits xs[k] t.nodes[i].blk≠0
   · have hA:addP t.bits xs xs[k] t.nodes[i].blk=codeP t.bits xs[k] t.nodes[i].blk:=if_pos hc
     rw [hA]
     refine Ret.fn ttOk Tryz.func107 rfl Tryz.call107 rfl rfl ?_
     refine Goes ?_;repeat' first|apply W2.m|refine W1.m fun h=>?_
     rw [rowK nodeC t.nodes i hlt]
     refine ⟨by rw [hL]; exact ⟨by omega,by omega,rfl⟩,?_⟩
     refine Goes ?_;repeat' first|apply W2.m|refine W1.m fun h=>?_
     first | refine CallP.is (hF _) rfl ?_ | refine CallQ.is (hF _) rfl rfl ?_
     refine Goes ?_;repeat' first|apply W2.m|refine W1.m fun h=>?_
     rw [hwi]
     repeat' first
      | (first | refine CallQ.is (hI _) rfl rfl ?_ | refine CallP.is (hI _) rfl ?_
         refine Goes ?_;repeat' first|apply W2.m|refine W1.m fun h=>?_)
      | (first | refine CallQ.is (hP _) rfl rfl ?_ | refine CallP.is (hP _) rfl ?_
         refine Goes ?_;repeat' first|apply W2.m|refine W1.m fun h=>?_)
     first | refine CallP.is (hB _) rfl ?_ | refine CallQ.is (hB _) rfl rfl ?_
     refine Goes ?_;repeat' first|apply W2.m|refine W1.m fun h=>?_
     all_goals first
      | (exfalso; omega)
      | (refine FinOk.pure rfl rfl rfl ⟨?_,rfl,rfl⟩
         rfl)
   · rw [Decidable.not_not.1 hc] at hB
     have hA:addP t.bits xs xs[k] t.nodes[i].blk=if findP xs (hdrB t.nodes[i].blk)=-2 then 0 else 6:=by
      unfold addP
      rw [if_neg hc]
      cases hn:nodeF xs (hdrB t.nodes[i].blk) with
      | none=>rw [if_pos (findP_none.2 hn)]; rfl
      | some j=>rw [if_neg (show ¬ findP xs (hdrB t.nodes[i].blk)=-2 from fun e=>by rw [findP_none.1 e] at hn; cases hn)]; rfl
     rw [hA]
     refine Ret.fn ttOk Tryz.func107 rfl Tryz.call107 rfl rfl ?_
     refine Goes ?_;repeat' first|apply W2.m|refine W1.m fun h=>?_
     rw [rowK nodeC t.nodes i hlt]
     refine ⟨by rw [hL]; exact ⟨by omega,by omega,rfl⟩,?_⟩
     refine Goes ?_;repeat' first|apply W2.m|refine W1.m fun h=>?_
     first | refine CallP.is (hF _) rfl ?_ | refine CallQ.is (hF _) rfl rfl ?_
     refine Goes ?_;repeat' first|apply W2.m|refine W1.m fun h=>?_
     rw [hwi]
     repeat' first
      | (first | refine CallQ.is (hI _) rfl rfl ?_ | refine CallP.is (hI _) rfl ?_
         refine Goes ?_;repeat' first|apply W2.m|refine W1.m fun h=>?_)
      | (first | refine CallQ.is (hP _) rfl rfl ?_ | refine CallP.is (hP _) rfl ?_
         refine Goes ?_;repeat' first|apply W2.m|refine W1.m fun h=>?_)
     first | refine CallP.is (hB _) rfl ?_ | refine CallQ.is (hB _) rfl rfl ?_
     refine Goes ?_;repeat' first|apply W2.m|refine W1.m fun h=>?_
     first | refine CallP.is (hH _) rfl ?_ | refine CallQ.is (hH _) rfl rfl ?_
     refine Goes ?_;repeat' first|apply W2.m|refine W1.m fun h=>?_
     first | refine CallP.is (hQ _) rfl ?_ | refine CallQ.is (hQ _) rfl rfl ?_
     refine Goes ?_;repeat' first|apply W2.m|refine W1.m fun h=>?_
     all_goals first
      | (exfalso; omega)
      | (rw [if_pos (show findP xs (hdrB t.nodes[i].blk)=-2 by omega)]
         refine FinOk.pure rfl rfl rfl ⟨?_,rfl,rfl⟩
         rfl)
      | (rw [if_neg (show ¬ findP xs (hdrB t.nodes[i].blk)=-2 by omega)]
         refine FinOk.pure rfl rfl rfl ⟨?_,rfl,rfl⟩
         rfl)
theorem Upto.nil {t:TreeD} (h:t.nodes.length≤8):Upto t [p0] 0:=⟨by rw [List.take_zero]; exact Good.nil _,Nat.zero_le _,h⟩
theorem Upto.step {t:TreeD} {xs:List PlaceD} {i:Nat} (hu:Upto t xs i) (hlt:i < t.nodes.length) (hf:FitsB t.nodes[i].blk) (hs:stepC t.bits xs t.nodes[i]=0):Upto t (stepX t.bits xs t.nodes[i]) (i + 1) :=
 ⟨by rw [takeS _ _ hlt]; exact hu.good.step hf hs,hlt,hu.cap⟩
theorem l6Tree_rp (t:TreeD) (n:Nat) (hlen:t.nodes.length≤1048576) (hf:∀ x∈t.nodes,FitsB x.blk):Ret Tryz.prog 56 [.rp (treeC t)] [] n true (Is (iv (treeF t)) [] n):=by
 have hL:(t.nodes.map nodeC).length=t.nodes.length:=by simp
 have hb:=fun n=>l1Bits_ret t.bits n
 unfold treeF
 cases hbb:bitsB t.bits with
 | false =>
   rw [hbb] at hb
   refine Ret.fn ttOk Tryz.func56 rfl Tryz.call56 rfl rfl ?_
   refine Goes ?_;repeat' first|apply W2.m|refine W1.m fun h=>?_
   first | refine CallP.is (hb _) rfl ?_ | refine CallQ.is (hb _) rfl rfl ?_
   refine Goes ?_;repeat' first|apply W2.m|refine W1.m fun h=>?_
   refine FinOk.pure rfl rfl rfl ⟨?_,rfl,rfl⟩
   rfl
 | true =>
   rw [hbb] at hb
   rw [if_pos rfl]
   by_cases h8:8 < t.nodes.length
   · rw [if_pos h8]
     refine Ret.fn ttOk Tryz.func56 rfl Tryz.call56 rfl rfl ?_
     refine Goes ?_;repeat' first|apply W2.m|refine W1.m fun h=>?_
     first | refine CallP.is (hb _) rfl ?_ | refine CallQ.is (hb _) rfl rfl ?_
     refine Goes ?_;repeat' first|apply W2.m|refine W1.m fun h=>?_
     all_goals first
      | (exfalso; omega)
      | (refine FinOk.pure rfl rfl rfl ⟨?_,rfl,rfl⟩
         rfl)
   rw [if_neg h8]
   refine Ret.fn ttOk Tryz.func56 rfl Tryz.call56 rfl rfl ?_
   refine Goes ?_;repeat' first|apply W2.m|refine W1.m fun h=>?_
   first | refine CallP.is (hb _) rfl ?_ | refine CallQ.is (hb _) rfl rfl ?_
   refine Goes ?_;repeat' first|apply W2.m|refine W1.m fun h=>?_
   all_goals try (exfalso; omega)
   refine LoopP.go (fun y:Nat × List PlaceD=>y.1≤t.nodes.length∧Upto t y.2 y.1∧goC t.bits [p0] t.nodes=goC t.bits y.2 (t.nodes.drop y.1)) (fun y=>⟨[(0,.rp (treeC t)),(3,iv y.1)],[],0⟩) (fun y=>t.nodes.length - y.1) (0,[p0]) ⟨Nat.zero_le _,Upto.nil (by omega),rfl⟩ (Weak.of rfl rfl ktA trivial) ?_
   rintro ⟨k,xs⟩ ⟨g1,g2,g3⟩
   dsimp only at g1 g2 g3 ⊢
   by_cases hlt:k < t.nodes.length
   · have hat:=goC_at t.bits xs t.nodes k hlt
     rw [← g3] at hat
     have hfk:=hf _ (List.getElem_mem hlt)
     have hN:=fun n=>l6Node_rp t xs k n g2 hlt hfk
     by_cases hs:stepC t.bits xs t.nodes[k]≠0
     · rw [if_pos hs] at hat
       rw [hat]
       refine Goes ?_;repeat' first|apply W2.m|refine W1.m fun h=>?_
       all_goals try (exfalso; omega)
       first | refine CallP.is (hN _) rfl ?_ | refine CallQ.is (hN _) rfl rfl ?_
       refine Goes ?_;repeat' first|apply W2.m|refine W1.m fun h=>?_
       all_goals first
        | (exfalso; omega)
        | (refine FinOk.pure rfl rfl rfl ⟨?_,rfl,rfl⟩
           rfl)
     · rw [if_neg hs] at hat
       have hs0:=Decidable.not_not.1 hs
       rw [hs0] at hN
       refine Goes ?_;repeat' first|apply W2.m|refine W1.m fun h=>?_
       all_goals try (exfalso; omega)
       first | refine CallP.is (hN _) rfl ?_ | refine CallQ.is (hN _) rfl rfl ?_
       refine Goes ?_;repeat' first|apply W2.m|refine W1.m fun h=>?_
       all_goals try (exfalso; omega)
       exact ⟨(k + 1,stepX t.bits xs t.nodes[k]),⟨by show k + 1≤_; omega,g2.step hlt hfk hs0,hat⟩,by show _ - (k + 1) < _; omega,(Weak.of rfl rfl ktA trivial)⟩
   · obtain rfl:k=t.nodes.length:=by omega
     rw [List.drop_length,goC] at g3
     rw [g3]
     refine Goes ?_;repeat' first|apply W2.m|refine W1.m fun h=>?_
     all_goals try (exfalso; omega)
     refine FinOk.pure rfl rfl rfl ⟨?_,rfl,rfl⟩
     rfl
theorem specTreeFault_ret (t:TreeD) (n:Nat) (hlen:t.nodes.length≤1048576) (hf:∀ x∈t.nodes,FitsB x.blk):Ret Tryz.prog 12 [.agg (treeC t)] [] n true (Is (iv (treeF t)) [] n):=by
 refine Ret.fn ttOk Tryz.func12 rfl Tryz.call12 rfl rfl ?_
 refine Goes ?_;repeat' first|apply W2.m|refine W1.m fun h=>?_
 refine CallP.convAIs (l6Tree_rp t _ hlen hf) cvargsA rfl (by first | exact trivial | exact ⟨flat_ivs _,trivial⟩) ?_
 refine Goes ?_;repeat' first|apply W2.m|refine W1.m fun h=>?_
 refine FinOk.pure rfl rfl rfl ⟨?_,rfl,rfl⟩
 rfl
end Go.Proofs.YtllhgcfacgiabaaGreat
namespace Go.Proofs.YtllhgcfacgiabaaGreat
open Go Go.Am Go.RowKit
set_option linter.unusedVariables false
set_option linter.unusedSimpArgs false
set_option maxHeartbeats 2000000 in
theorem addNode_ret (bits:Int) (xs:List PlaceD) (x:NodeD) (i j n:Nat) (hij:i≠j) (hne:xs≠[]) (hlen:xs.length≤8) (hf:FitsB x.blk) (hb:isI64 x.blk.bits) (hok:PlacesOk xs) :
 Ret Tryz.prog 110 [.pt i 0 0,.agg (nodeC x)] (treeO bits i j xs) n false (Is (iv (stepC bits xs x)) (treeO bits i j (stepX bits xs x)) n):=by
 have hpos:0 < xs.length:=List.length_pos_iff.2 hne
 refine Ret.of_run (tt:=tt) ttOk Tryz.func110 rfl Tryz.call110 [i,j] [.box [iv bits,.own 1 xs.length],.list 109 5 (xs.map placeRow)] [.pt 0 0 0,.agg (nodeC x)] false n _ rfl (nodup2 hij) (by exact Nat.le_of_ble_eq_true rfl) rfl rfl ?_
 by_cases h0:blkF x.blk≠0
 · have hC:stepC bits xs x=blkF x.blk:=if_pos h0
   have hX:stepX bits xs x=xs:=by unfold stepX; rw [hC,if_neg h0]
   rw [hC,hX]
   refine Goes ?_;repeat' first|apply W2.m|refine W1.m fun h=>?_
   first | refine CallP.is (sealBlock_no x.blk _ hf hb h0) rfl ?_ | refine CallQ.is (sealBlock_no x.blk _ hf hb h0) rfl rfl ?_
   refine Goes ?_;repeat' first|apply W2.m|refine W1.m fun h=>?_
   refine FinOk.mk' [] rfl rfl rfl rfl rfl rfl rfl ⟨?_,?_,rfl⟩
   · rfl
   · rfl
 have hz:blkF x.blk=0:=Decidable.not_not.1 h0
 have hseal:=fun n=>sealBlock_ret x.blk n hf hb hz
 have hhas:=fun i j n hij=>hasN_ret bits x.up xs i j n hij (by omega)
 cases hu:upAt xs x with
 | none =>
   have hC:stepC bits xs x=4:=by unfold stepC; rw [if_neg h0,hu]
   have hX:stepX bits xs x=xs:=by unfold stepX; rw [hC,if_neg (by decide)]
   rw [hC,hX]
   by_cases hin:-1≤x.up∧x.up + 1 < xs.length
   · rw [decide_eq_true hin] at hhas
     obtain ⟨k,hk,hk2⟩:∃ k:Nat,k < xs.length∧x.up=(k:Int) + -1:=⟨(x.up + 1).toNat,by omega,by omega⟩
     have hat:=fun i j n hij=>at_ret bits xs k i j n hij hk (by omega)
     have hs:¬ xs[k].sum=x.blk.prev:=fun e=>by
      unfold upAt at hu
      rw [if_pos ⟨hin.1,hin.2,(by
       have:(x.up + 1).toNat=k:=by omega
       rw [this]; simp [List.getD_eq_getElem?_getD,hk,e])⟩] at hu
      cases hu
     rw [← hk2] at hat
     refine Goes ?_;repeat' first|apply W2.m|refine W1.m fun h=>?_
     first | refine CallP.is (hseal _) rfl ?_ | refine CallQ.is (hseal _) rfl rfl ?_
     refine Goes ?_;repeat' first|apply W2.m|refine W1.m fun h=>?_
     repeat' first
      | (refine CallP.heapIs (hhas 0 1 _ (by decide)) rfl ktA rfl ?_
         refine Goes ?_;repeat' first|apply W2.m|refine W1.m fun h=>?_)
      | (refine CallP.heapIs (hat 0 1 _ (by decide)) rfl ktA rfl ?_
         refine Goes ?_;repeat' first|apply W2.m|refine W1.m fun h=>?_)
     all_goals first
      | (exfalso; omega)
      | (refine FinOk.mk' [] rfl rfl rfl rfl rfl rfl rfl ⟨?_,?_,rfl⟩
         · rfl
         · rfl)
   · rw [decide_eq_false hin] at hhas
     refine Goes ?_;repeat' first|apply W2.m|refine W1.m fun h=>?_
     first | refine CallP.is (hseal _) rfl ?_ | refine CallQ.is (hseal _) rfl rfl ?_
     refine Goes ?_;repeat' first|apply W2.m|refine W1.m fun h=>?_
     refine CallP.heapIs (hhas 0 1 _ (by decide)) rfl ktA rfl ?_
     refine Goes ?_;repeat' first|apply W2.m|refine W1.m fun h=>?_
     all_goals
      refine FinOk.mk' [] rfl rfl rfl rfl rfl rfl rfl ⟨?_,?_,rfl⟩
      · rfl
      · rfl
 | some k =>
   obtain ⟨hk,hk2,hk3⟩:=upAt_some hu
   have hg:xs.getD k p0=xs[k]:=by simp [List.getD_eq_getElem?_getD,hk]
   rw [hg] at hk3
   have hC:stepC bits xs x=addP bits xs xs[k] x.blk:=by unfold stepC; rw [if_neg h0,hu]; dsimp only; rw [hg]
   have hX:stepX bits xs x=grownP bits xs k xs[k] x.blk:=by
    have:(x.up + 1).toNat=k:=by omega
    unfold stepX grownP; rw [hC,this,hg,hk2]
   rw [hC,hX]
   have hm:=List.getElem?_eq_getElem hk
   obtain ⟨c1,c2,c3⟩:=hok k _ hm
   rw [decide_eq_true (show -1≤x.up∧x.up + 1 < xs.length by omega)] at hhas
   have hat:=fun i j n hij=>at_ret bits xs k i j n hij hk (by omega)
   have hadd:=fun i j n hij=>add_ret bits xs k x.blk i j n hij hk (by omega) hf hz c1 ⟨c2,by omega⟩
   rw [← hk2] at hat hadd
   refine Goes ?_;repeat' first|apply W2.m|refine W1.m fun h=>?_
   first | refine CallP.is (hseal _) rfl ?_ | refine CallQ.is (hseal _) rfl rfl ?_
   refine Goes ?_;repeat' first|apply W2.m|refine W1.m fun h=>?_
   repeat' first
    | (refine CallP.heapIs (hhas 0 1 _ (by decide)) rfl ktA rfl ?_
       refine Goes ?_;repeat' first|apply W2.m|refine W1.m fun h=>?_)
    | (refine CallP.heapIs (hat 0 1 _ (by decide)) rfl ktA rfl ?_
       refine Goes ?_;repeat' first|apply W2.m|refine W1.m fun h=>?_)
   all_goals try (exfalso; omega)
   all_goals
    refine CallP.heapIs (hadd 0 1 _ (by decide)) rfl ktA rfl ?_
    refine Goes ?_;repeat' first|apply W2.m|refine W1.m fun h=>?_
    refine FinOk.mk' [] rfl rfl rfl rfl rfl rfl rfl ⟨?_,?_,rfl⟩
    · rfl
    · rfl
end Go.Proofs.YtllhgcfacgiabaaGreat
namespace Go.Proofs.YtllhgcfacgiabaaGreat
open Go Go.Am Go.RowKit
set_option linter.unusedVariables false
set_option linter.unusedSimpArgs false
theorem all2_row {R:AV→AV→Prop} {rows rows':List (List AV)} (h:All2 (All2 R) rows rows') {s:Nat} (hr:∀ r∈rows,r.length=s):∀ r∈rows',r.length=s:=by
 intro r hr'
 obtain ⟨i,hi⟩:=List.mem_iff_getElem?.1 hr'
 have hlt:i < rows.length:=by rw [h.length]; exact (List.getElem?_eq_some_iff.1 hi).1
 have hr0:=List.getElem?_eq_getElem hlt
 rw [← (h.at hr0 hi).length]; exact hr _ (List.getElem_mem hlt)
theorem Weak.rows {fx:List Nat} {tm:List (Nat × AV)} {hp:Hp} {nx:Nat} (id e s:Nat) (rows rows':List (List AV)) (hl:Am.look hp id=some (.list e s rows)) (hw:All2 (All2 nilOr) rows rows') :
 Weak fx ⟨tm,hp,nx⟩ ⟨tm,(id,.list e s rows')::hp,nx⟩:=by
 rintro E a w _ ⟨hsz,hd,ι,S,hC,hTm⟩
 obtain ⟨hid0,huse0,hob⟩:=hC.obj id _ hl
 refine ⟨hsz,hd,ι,S,⟨hC.frame,hC.sub,hC.lt,hC.dis,hC.own,hC.inj,hC.new,?_,hC.stay,hC.fxs⟩,hTm⟩
 intro i o h
 by_cases hii:id=i
 · subst hii
   rw [look_cons_eq] at h
   simp only [Option.some.injEq] at h
   subst h
   refine ⟨hid0,trivial,?_⟩
   have hL:=hw.length
   cases hob with
   | nil _ _ h' h2 =>
     cases rows' with
     | nil=>exact .nil e s h' h2
     | cons=>simp at hL
   | list g cap _ _ _ vs h' hs hr hle hm hb hn hc =>
     exact .list g cap e s rows' vs h' hs (all2_row hw hr) (by omega) hm hb hn (fun j v av hv ha=>by
      have hf:=all2_flatten hw
      have hlt:j < rows.flatten.length:=by rw [hf.length]; exact (List.getElem?_eq_some_iff.1 ha).1
      have h8:=List.getElem?_eq_getElem hlt
      exact rd_nilOr (hc j v _ hv h8) (hf.at h8 ha))
 · rw [look_cons_ne _ _ hii] at h
   exact hC.obj i o h
end Go.Proofs.YtllhgcfacgiabaaGreat
namespace Go.Proofs.YtllhgcfacgiabaaGreat
open Go Go.Am Go.RowKit
set_option linter.unusedVariables false
set_option linter.unusedSimpArgs false
def goX (bits:Int):List PlaceD→List NodeD→List PlaceD
 | xs,[]=>xs
 | xs,x::r=>goX bits (stepX bits xs x) r
theorem goX_at (bits:Int) (xs:List PlaceD) (ns:List NodeD) (k:Nat) (h:k < ns.length):goX bits xs (ns.drop k)=goX bits (stepX bits xs ns[k]) (ns.drop (k + 1)):=by
 rw [List.drop_eq_getElem_cons h,goX]
structure At (t:TreeD) (k:Nat) (xs:List PlaceD):Prop where
 le:k≤t.nodes.length
 good:Good t.bits xs (t.nodes.take k)
 code:goC t.bits [p0] t.nodes=goC t.bits xs (t.nodes.drop k)
 places:goX t.bits [p0] t.nodes=goX t.bits xs (t.nodes.drop k)
theorem At.nil (t:TreeD):At t 0 [p0]:=⟨Nat.zero_le _,by rw [List.take_zero]; exact Good.nil _,rfl,rfl⟩
theorem At.len {t:TreeD} {k:Nat} {xs:List PlaceD} (h:At t k xs):xs.length=k + 1:=by
 have:=h.le
 rw [h.good.len,List.length_take]; omega
theorem At.step {t:TreeD} {k:Nat} {xs:List PlaceD} (h:At t k xs) (hlt:k < t.nodes.length) (hf:FitsB t.nodes[k].blk) (hs:stepC t.bits xs t.nodes[k]=0):At t (k + 1) (stepX t.bits xs t.nodes[k]):=by
 refine ⟨hlt,by rw [takeS _ _ hlt]; exact h.good.step hf hs,?_,?_⟩
 · rw [h.code,goC_at _ _ _ _ hlt,if_neg (fun e=>e hs)]
 · rw [h.places,goX_at _ _ _ _ hlt]
theorem At.bad {t:TreeD} {k:Nat} {xs:List PlaceD} (h:At t k xs) (hlt:k < t.nodes.length) (hs:stepC t.bits xs t.nodes[k]≠0):goC t.bits [p0] t.nodes=stepC t.bits xs t.nodes[k]:=by
 rw [h.code,goC_at _ _ _ _ hlt,if_pos hs]
theorem At.end {t:TreeD} {xs:List PlaceD} (h:At t t.nodes.length xs):goC t.bits [p0] t.nodes=0∧goX t.bits [p0] t.nodes=xs:=by
 refine ⟨?_,?_⟩
 · rw [h.code,List.drop_length,goC]
 · rw [h.places,List.drop_length,goX]
theorem nil_place:All2 (All2 nilOr) [[iv 0,iv 0,iv 0,iv 0,nl]] ([p0].map placeRow):=⟨⟨.inl rfl,.inl rfl,.inl rfl,.inl rfl,.inr ⟨rfl,rfl⟩,trivial⟩,trivial⟩
set_option maxHeartbeats 2000000 in
theorem checkTree_bad (t:TreeD) (n:Nat) (hf:∀ x∈t.nodes,FitsB x.blk∧isI64 x.blk.bits) (hb:isI64 t.bits) (hlen:t.nodes.length≤1048576) (h0:treeF t≠0):Ret Tryz.prog 58 [treeV t] [] n true (Is (.tup [.agg [iv 0,nl],iv (treeF t)]) [] n):=by
 have hL:(t.nodes.map nodeC).length=t.nodes.length:=by simp
 have hB:=fun n=>isBits_ret t.bits n hb
 unfold treeF at h0 ⊢
 cases hbb:bitsB t.bits with
 | false =>
   rw [hbb] at hB
   refine Ret.fn ttOk Tryz.func58 rfl Tryz.call58 rfl rfl ?_
   refine Goes ?_;repeat' first|apply W2.m|refine W1.m fun h=>?_
   first | refine CallP.is (hB _) rfl ?_ | refine CallQ.is (hB _) rfl rfl ?_
   refine Goes ?_;repeat' first|apply W2.m|refine W1.m fun h=>?_
   refine FinOk.mk' [] rfl rfl rfl rfl rfl rfl rfl ⟨?_,?_,rfl⟩
   · rfl
   · rfl
 | true =>
   rw [hbb] at hB h0
   rw [if_pos rfl] at h0 ⊢
   by_cases h8:8 < t.nodes.length
   · rw [if_pos h8]
     refine Ret.fn ttOk Tryz.func58 rfl Tryz.call58 rfl rfl ?_
     refine Goes ?_;repeat' first|apply W2.m|refine W1.m fun h=>?_
     first | refine CallP.is (hB _) rfl ?_ | refine CallQ.is (hB _) rfl rfl ?_
     refine Goes ?_;repeat' first|apply W2.m|refine W1.m fun h=>?_
     all_goals first
      | (exfalso; omega)
      | (refine FinOk.mk' [] rfl rfl rfl rfl rfl rfl rfl ⟨?_,?_,rfl⟩
         · rfl
         · rfl)
   rw [if_neg h8] at h0 ⊢
   refine Ret.fn ttOk Tryz.func58 rfl Tryz.call58 rfl rfl ?_
   refine Goes ?_;repeat' first|apply W2.m|refine W1.m fun h=>?_
   first | refine CallP.is (hB _) rfl ?_ | refine CallQ.is (hB _) rfl rfl ?_
   refine Goes ?_;repeat' first|apply W2.m|refine W1.m fun h=>?_
   all_goals try (exfalso; omega)
   all_goals rw [hL]
   all_goals refine LoopP.go (fun y:Nat × List PlaceD=>At t y.1 y.2) (fun y=>⟨[(2,.pt 0 0 0),(4,.pt 1 0 0),(23,nodesV t.nodes),(24,iv t.nodes.length),(25,iv y.1)],(0,.box [iv 0,nl])::treeO t.bits 1 2 y.2,3⟩) (fun y=>t.nodes.length - y.1) (0,[p0]) (At.nil t) ?_ ?_
   all_goals first
    | exact Weak.trans (Weak.rows 2 109 5 _ ([p0].map placeRow) rfl nil_place) (Weak.ren [1,3,2] rfl rfl ktA ktA)
    | exact Weak.trans (Weak.rows 3 109 5 _ ([p0].map placeRow) rfl nil_place) (Weak.ren [1,2,3] rfl rfl ktA ktA)
    | skip
   all_goals
    rintro ⟨k,xs⟩ hA
    dsimp only at hA ⊢
    have hxl:=hA.len
    by_cases hlt:k < t.nodes.length
    · obtain ⟨hfx,hbx⟩:=hf _ (List.getElem_mem hlt)
      have hadd:=fun i j n hij=>addNode_ret t.bits xs t.nodes[k] i j n hij (fun e=>by rw [e] at hxl; simp at hxl) (by omega) hfx hbx hA.good.ok
      by_cases hs:stepC t.bits xs t.nodes[k]=0
      · rw [hs] at hadd
        refine Goes ?_;repeat' first|apply W2.m|refine W1.m fun h=>?_
        rw [rowK nodeC t.nodes k hlt]
        refine ⟨⟨by omega,by omega,rfl⟩,?_⟩
        refine Goes ?_;repeat' first|apply W2.m|refine W1.m fun h=>?_
        refine CallP.heapIs (hadd 1 2 _ (by decide)) rfl ktA rfl ?_
        refine Goes ?_;repeat' first|apply W2.m|refine W1.m fun h=>?_
        exact ⟨(k + 1,stepX t.bits xs t.nodes[k]),hA.step hlt hfx hs,by show _ - (k + 1) < _; omega,(Weak.of rfl rfl ktA ktA)⟩
      · rw [hA.bad hlt hs]
        refine Goes ?_;repeat' first|apply W2.m|refine W1.m fun h=>?_
        rw [rowK nodeC t.nodes k hlt]
        refine ⟨⟨by omega,by omega,rfl⟩,?_⟩
        refine Goes ?_;repeat' first|apply W2.m|refine W1.m fun h=>?_
        refine CallP.heapIs (hadd 1 2 _ (by decide)) rfl ktA rfl ?_
        refine Goes ?_;repeat' first|apply W2.m|refine W1.m fun h=>?_
        all_goals first
         | (exfalso; omega)
         | (refine FinOk.mk' [] rfl rfl rfl rfl rfl rfl rfl ⟨?_,?_,rfl⟩
            · rfl
            · rfl)
    · obtain rfl:k=t.nodes.length:=by have:=hA.le; omega
      exact absurd hA.end.1 h0
set_option maxHeartbeats 2000000 in
theorem checkTree_ok (t:TreeD) (n:Nat) (hf:∀ x∈t.nodes,FitsB x.blk∧isI64 x.blk.bits) (hb:isI64 t.bits) (hlen:t.nodes.length≤1048576) (h0:treeF t=0):Ret Tryz.prog 58 [treeV t] [] n true (Is (.tup [.agg [iv t.bits,.own n (goX t.bits [p0] t.nodes).length],iv 0]) [(n,.list 109 5 ((goX t.bits [p0] t.nodes).map placeRow))] (n + 1)):=by
 have hL:(t.nodes.map nodeC).length=t.nodes.length:=by simp
 have hB:=fun n=>isBits_ret t.bits n hb
 unfold treeF at h0
 cases hbb:bitsB t.bits with
 | false=>rw [hbb] at h0; cases h0
 | true =>
   rw [hbb] at hB h0
   rw [if_pos rfl] at h0
   by_cases h8:8 < t.nodes.length
   · rw [if_pos h8] at h0; cases h0
   rw [if_neg h8] at h0
   refine Ret.fn ttOk Tryz.func58 rfl Tryz.call58 rfl rfl ?_
   refine Goes ?_;repeat' first|apply W2.m|refine W1.m fun h=>?_
   first | refine CallP.is (hB _) rfl ?_ | refine CallQ.is (hB _) rfl rfl ?_
   refine Goes ?_;repeat' first|apply W2.m|refine W1.m fun h=>?_
   all_goals try (exfalso; omega)
   all_goals rw [hL]
   all_goals refine LoopP.go (fun y:Nat × List PlaceD=>At t y.1 y.2) (fun y=>⟨[(2,.pt 0 0 0),(4,.pt 1 0 0),(23,nodesV t.nodes),(24,iv t.nodes.length),(25,iv y.1)],(0,.box [iv 0,nl])::treeO t.bits 1 2 y.2,3⟩) (fun y=>t.nodes.length - y.1) (0,[p0]) (At.nil t) ?_ ?_
   all_goals first
    | exact Weak.trans (Weak.rows 2 109 5 _ ([p0].map placeRow) rfl nil_place) (Weak.ren [1,3,2] rfl rfl ktA ktA)
    | exact Weak.trans (Weak.rows 3 109 5 _ ([p0].map placeRow) rfl nil_place) (Weak.ren [1,2,3] rfl rfl ktA ktA)
    | skip
   all_goals
    rintro ⟨k,xs⟩ hA
    dsimp only at hA ⊢
    have hxl:=hA.len
    by_cases hlt:k < t.nodes.length
    · obtain ⟨hfx,hbx⟩:=hf _ (List.getElem_mem hlt)
      have hadd:=fun i j n hij=>addNode_ret t.bits xs t.nodes[k] i j n hij (fun e=>by rw [e] at hxl; simp at hxl) (by omega) hfx hbx hA.good.ok
      have hs:stepC t.bits xs t.nodes[k]=0:=Decidable.not_not.1 fun e=>e (by rw [← hA.bad hlt e]; exact h0)
      · rw [hs] at hadd
        refine Goes ?_;repeat' first|apply W2.m|refine W1.m fun h=>?_
        rw [rowK nodeC t.nodes k hlt]
        refine ⟨⟨by omega,by omega,rfl⟩,?_⟩
        refine Goes ?_;repeat' first|apply W2.m|refine W1.m fun h=>?_
        refine CallP.heapIs (hadd 1 2 _ (by decide)) rfl ktA rfl ?_
        refine Goes ?_;repeat' first|apply W2.m|refine W1.m fun h=>?_
        exact ⟨(k + 1,stepX t.bits xs t.nodes[k]),hA.step hlt hfx hs,by show _ - (k + 1) < _; omega,(Weak.of rfl rfl ktA ktA)⟩
    · obtain rfl:k=t.nodes.length:=by have:=hA.le; omega
      rw [hA.end.2]
      refine Goes ?_;repeat' first|apply W2.m|refine W1.m fun h=>?_
      all_goals try (exfalso; omega)
      refine FinOk.mk' [2] rfl rfl rfl rfl rfl rfl rfl ⟨?_,?_,rfl⟩
      · rfl
      · rfl
theorem implTreeFault_ret (t:TreeD) (n:Nat) (hf:∀ x∈t.nodes,FitsB x.blk∧isI64 x.blk.bits) (hb:isI64 t.bits) (hlen:t.nodes.length≤1048576):Ret Tryz.prog 14 [treeV t] [] n true (Is (iv (treeF t)) [] n):=by
 by_cases h0:treeF t=0
 · rw [h0]
   refine Ret.fn ttOk Tryz.func14 rfl Tryz.call14 rfl rfl ?_
   refine Goes ?_;repeat' first|apply W2.m|refine W1.m fun h=>?_
   first | refine CallP.is (checkTree_ok t _ hf hb hlen h0) rfl ?_ | refine CallQ.is (checkTree_ok t _ hf hb hlen h0) rfl rfl ?_
   refine Goes ?_;repeat' first|apply W2.m|refine W1.m fun h=>?_
   refine FinOk.mk' [] rfl rfl rfl rfl rfl rfl rfl ⟨?_,?_,rfl⟩
   · rfl
   · rfl
 · refine Ret.fn ttOk Tryz.func14 rfl Tryz.call14 rfl rfl ?_
   refine Goes ?_;repeat' first|apply W2.m|refine W1.m fun h=>?_
   first | refine CallP.is (checkTree_bad t _ hf hb hlen h0) rfl ?_ | refine CallQ.is (checkTree_bad t _ hf hb hlen h0) rfl rfl ?_
   refine Goes ?_;repeat' first|apply W2.m|refine W1.m fun h=>?_
   refine FinOk.mk' [] rfl rfl rfl rfl rfl rfl rfl ⟨?_,?_,rfl⟩
   · rfl
   · rfl
end Go.Proofs.YtllhgcfacgiabaaGreat
namespace Go.Proofs.YtllhgcfacgiabaaGreat
open Go Go.Am Go.RowKit
set_option linter.unusedVariables false
set_option linter.unusedSimpArgs false
theorem lawTreeFault (t:TreeD) (n:Nat) (hm:MemT t):Ret Tryz.prog 3 [treeV t] [] n true (fun r _ _=>r=bv true):=by
 refine Ret.fn ttOk Tryz.func3 rfl Tryz.call3 rfl rfl ?_
 refine Goes ?_;repeat' first|apply W2.m|refine W1.m fun h=>?_
 first | refine CallP.is (szTree_ret t 1048576 _ (by decide) (by decide) hm) rfl ?_ | refine CallQ.is (szTree_ret t 1048576 _ (by decide) (by decide) hm) rfl rfl ?_
 refine Goes ?_;repeat' first|apply W2.m|refine W1.m fun h=>?_
 · exact FinOk.pure rfl rfl rfl rfl
 have hf:FitsT t:=fitsT_of (by have:=(leftI_pos h).2; omega)
 first | refine CallP.is (toTree_fr t _ hf) rfl ?_ | refine CallQ.is (toTree_fr t _ hf) rfl rfl ?_
 refine Goes ?_;repeat' first|apply W2.m|refine W1.m fun h=>?_
 first | refine CallP.is (specTreeFault_ret t _ hf.len hf.nodes) rfl ?_ | refine CallQ.is (specTreeFault_ret t _ hf.len hf.nodes) rfl rfl ?_
 refine Goes ?_;repeat' first|apply W2.m|refine W1.m fun h=>?_
 first | refine CallP.is (toTree_fr t _ hf) rfl ?_ | refine CallQ.is (toTree_fr t _ hf) rfl rfl ?_
 refine Goes ?_;repeat' first|apply W2.m|refine W1.m fun h=>?_
 first | refine CallP.is (implTreeFault_ret t _ (fun x hx=>⟨hf.nodes x hx,(hm.nodes x hx).bits⟩) hm.bits hf.len) rfl ?_ | refine CallQ.is (implTreeFault_ret t _ (fun x hx=>⟨hf.nodes x hx,(hm.nodes x hx).bits⟩) hm.bits hf.len) rfl rfl ?_
 refine Goes ?_;repeat' first|apply W2.m|refine W1.m fun h=>?_
 first | refine CallQ.is (toTree_fr t _ hf) rfl rfl ?_ | refine CallP.is (toTree_fr t _ hf) rfl ?_
 refine Goes ?_;repeat' first|apply W2.m|refine W1.m fun h=>?_
 first | refine CallP.is (eqTree_yes t _ hf) rfl ?_ | refine CallQ.is (eqTree_yes t _ hf) rfl rfl ?_
 refine Goes ?_;repeat' first|apply W2.m|refine W1.m fun h=>?_
 exact FinOk.pure rfl rfl rfl rfl
end Go.Proofs.YtllhgcfacgiabaaGreat
