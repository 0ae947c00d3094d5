import Derived.Test.YtllhgcfacgiabaaGreatP60
namespace Go.Proofs.YtllhgcfacgiabaaGreat
open Go Go.Am Go.RowKit
set_option linter.unusedVariables false
set_option linter.unusedSimpArgs false
theorem sumsX_ask {l:List TxD} (h1:1≤l.length) (h2:l.length≤4):askC (sumsX l)=0:=by
 refine askC_ok.2 ⟨by simp; omega,by simp; omega,fun z hz=>?_⟩
 obtain ⟨x,_,rfl⟩:=List.mem_map.1 hz
 exact sumF_bd _
theorem sumsX_twin {l:List TxD} (h1:1≤l.length) (h2:l.length≤4):twinR (sumsX l)=(rowsW (sumsX l)).any twinB:=by
 unfold twinR
 rw [sumsX_ask h1 h2]
 simp
theorem l6Bases_rp (b:BlkD) (n:Nat) (hl:b.txs.length≤4):Ret Tryz.prog 114 [.rp (blkC b)] [] n true (Is (bv (basesB true b.txs)) [] n):=by
 have hL:(b.txs.map txC).length=b.txs.length:=by simp
 have e1:basesB true b.txs=basesB (decide ((0:Nat)=0)) (b.txs.drop 0):=by simp
 refine Ret.fn ttOk Tryz.func114 rfl Tryz.call114 rfl rfl ?_
 refine Goes ?_
 refine LoopP.go (fun k:Nat=>k≤b.txs.length∧basesB true b.txs=basesB (decide (k=0)) (b.txs.drop k)) (fun k=>⟨[(0,.rp (blkC b)),(3,iv k)],[],0⟩) (fun k=>b.txs.length - k) 0 ⟨Nat.zero_le _,e1⟩ (Weak.of rfl rfl ktA trivial) ?_
 intro k ⟨hk,hp⟩
 refine Goes ?_;repeat' first|apply W2.m|refine W1.m fun h=>?_
 · have hlt:k < b.txs.length:=by omega
   have hat:=basesB_at (decide (k=0)) b.txs k hlt
   rw [← hp] at hat
   rw [rowK txC b.txs k hlt]
   refine ⟨by rw [hL]; exact ⟨by omega,by omega,rfl⟩,?_⟩
   refine Goes ?_;repeat' first|apply W2.m|refine W1.m fun h=>?_
   · have hh:(decide (b.txs[k].2.1.length=0)==decide (k=0))=false:=by
      rw [← show decide ((k:Int)=0)=decide (k=0) from decide_eq_decide.2 (by omega)]
      simpa using h
     rw [hh,Bool.false_and] at hat
     refine FinOk.pure rfl rfl rfl ⟨?_,rfl,rfl⟩
     rw [hat]
   · have hh:(decide (b.txs[k].2.1.length=0)==decide (k=0))=true:=by
      rw [← show decide ((k:Int)=0)=decide (k=0) from decide_eq_decide.2 (by omega)]
      simpa using h
     rw [hh,Bool.true_and] at hat
     exact ⟨k + 1,⟨by omega,by rw [hat]; simp⟩,by omega,(Weak.of rfl rfl ktA trivial)⟩
 · obtain rfl:k=b.txs.length:=by omega
   refine FinOk.pure rfl rfl rfl ⟨?_,rfl,rfl⟩
   rw [hp,List.drop_length]; rfl
theorem l6Sums_ret (b:BlkD) (n:Nat) (hl:b.txs.length≤4) (hz:txsC b.txs=0):Ret Tryz.prog 116 [.rp (blkC b)] [] n true (Is (.own n (sumsX b.txs).length) [(n,.list 2 1 (ivs (sumsX b.txs)))] (n + 1)):=by
 have hL:(b.txs.map txC).length=b.txs.length:=by simp
 refine Ret.fn ttOk Tryz.func116 rfl Tryz.call116 rfl rfl ?_
 refine Goes ?_
 refine LoopP.go (fun k:Nat=>k≤b.txs.length) (fun k=>⟨[(0,.rp (blkC b)),(3,.own 0 k),(4,iv k)],[(0,.list 2 1 (ivs ((sumsX b.txs).take k)))],1⟩) (fun k=>b.txs.length - k) 0 (Nat.zero_le _) (Weak.of rfl rfl ktA ktA) ?_
 intro k hk
 refine Goes ?_;repeat' first|apply W2.m|refine W1.m fun h=>?_
 · have hlt:k < b.txs.length:=by omega
   rw [rowK txC b.txs k hlt]
   refine ⟨by rw [hL]; exact ⟨by omega,by omega,rfl⟩,?_⟩
   refine Goes ?_
   first | refine CallP.is (l3Sum_rp b.txs[k] _ (txsC_all hz _ (List.getElem_mem hlt))) rfl ?_ | refine CallQ.is (l3Sum_rp b.txs[k] _ (txsC_all hz _ (List.getElem_mem hlt))) rfl rfl ?_
   refine Goes ?_
   have hlk:((sumsX b.txs).take k).length=k:=by simp; omega
   refine ⟨⟨lenA,lenA,lenA,lenA,rwsA⟩,?_⟩
   refine Goes ?_
   refine ⟨k + 1,by omega,by omega,Weak.of rfl rfl ⟨⟨rfl,rfl⟩,⟨leafW lenA,rfl⟩,⟨leafI numA,rfl⟩,trivial⟩ ⟨⟨leafO ?_,rfl,rfl⟩,trivial⟩⟩
   rw [takeM _ hlk,takeS (sumsX b.txs) k (by simpa using hlt)]
   show _=List.map _ (_++_)
   rw [List.map_append]
   simp
 · obtain rfl:k=b.txs.length:=by omega
   refine FinOk.mk' [0] rfl rfl rfl rfl rfl rfl rfl ⟨?_,?_,rfl⟩
   · exact ownI (by simp)
   · rw [List.take_of_length_le (by simp)]; rfl
theorem l6Sums_fr (b:BlkD) (n:Nat) (hl:b.txs.length≤4) (hz:txsC b.txs=0):Ret Tryz.prog 116 [.rp (blkC b)] [] n true (Is (il (sumsX b.txs)) [] n) :=
 Ret.freeze (by rintro _ _ _ ⟨rfl,rfl,rfl⟩; exact ⟨_,frCell (look_cons_eq _ _ _) (by simp),rfl,rfl,rfl⟩) (l6Sums_ret b n hl hz)
theorem l6Fault_rp (b:BlkD) (n:Nat) (hf:FitsB b):Ret Tryz.prog 61 [.rp (blkC b)] [] n true (Is (iv (blkF b)) [] n):=by
 have hL:(b.txs.map txC).length=b.txs.length:=by simp
 have c1:=fun n=>l4Sum_ret b.prev n
 have c2:=fun n=>l1In_ret b.time 1 99999 n
 have c3:=fun n=>l1Bits_ret b.bits n
 have c4:=fun n=>l1In_ret b.nonce 0 65535 n
 by_cases h:headB b
 case neg =>
  have e:blkF b=3:=if_neg h
  rw [e]
  by_cases h1:inR 0 2147483646 b.prev
  case neg =>
   rw [decide_eq_false h1] at c1
   refine Ret.fn ttOk Tryz.func61 rfl Tryz.call61 rfl rfl ?_
   refine Goes ?_
   first | refine CallP.is (c1 _) rfl ?_ | refine CallQ.is (c1 _) rfl rfl ?_
   refine Goes ?_
   refine FinOk.pure rfl rfl rfl ⟨?_,rfl,rfl⟩
   rfl
  by_cases h2:inR 1 99999 b.time
  case neg =>
   rw [decide_eq_true h1] at c1
   rw [decide_eq_false h2] at c2
   refine Ret.fn ttOk Tryz.func61 rfl Tryz.call61 rfl rfl ?_
   refine Goes ?_
   first | refine CallP.is (c1 _) rfl ?_ | refine CallQ.is (c1 _) rfl rfl ?_
   refine Goes ?_
   first | refine CallP.is (c2 _) rfl ?_ | refine CallQ.is (c2 _) rfl rfl ?_
   refine Goes ?_
   refine FinOk.pure rfl rfl rfl ⟨?_,rfl,rfl⟩
   rfl
  rw [decide_eq_true h1] at c1
  rw [decide_eq_true h2] at c2
  cases h3:bitsB b.bits with
  | false =>
    rw [h3] at c3
    refine Ret.fn ttOk Tryz.func61 rfl Tryz.call61 rfl rfl ?_
    refine Goes ?_
    first | refine CallP.is (c1 _) rfl ?_ | refine CallQ.is (c1 _) rfl rfl ?_
    refine Goes ?_
    first | refine CallP.is (c2 _) rfl ?_ | refine CallQ.is (c2 _) rfl rfl ?_
    refine Goes ?_
    first | refine CallP.is (c3 _) rfl ?_ | refine CallQ.is (c3 _) rfl rfl ?_
    refine Goes ?_
    refine FinOk.pure rfl rfl rfl ⟨?_,rfl,rfl⟩
    rfl
  | true =>
    have h4:¬ inR 0 65535 b.nonce:=fun h4=>h ⟨h1,h2,h3,h4⟩
    rw [h3] at c3
    rw [decide_eq_false h4] at c4
    refine Ret.fn ttOk Tryz.func61 rfl Tryz.call61 rfl rfl ?_
    refine Goes ?_
    first | refine CallP.is (c1 _) rfl ?_ | refine CallQ.is (c1 _) rfl rfl ?_
    refine Goes ?_
    first | refine CallP.is (c2 _) rfl ?_ | refine CallQ.is (c2 _) rfl rfl ?_
    refine Goes ?_
    first | refine CallP.is (c3 _) rfl ?_ | refine CallQ.is (c3 _) rfl rfl ?_
    refine Goes ?_
    first | refine CallP.is (c4 _) rfl ?_ | refine CallQ.is (c4 _) rfl rfl ?_
    refine Goes ?_
    refine FinOk.pure rfl rfl rfl ⟨?_,rfl,rfl⟩
    rfl
 have e:blkF b=listC b.txs:=if_pos h
 obtain ⟨h1,h2,h3,h4⟩:=h
 rw [decide_eq_true h1] at c1
 rw [decide_eq_true h2] at c2
 rw [h3] at c3
 rw [decide_eq_true h4] at c4
 rw [e]
 clear e
 by_cases hb:(b.txs.length:Int) < 1∨4 < (b.txs.length:Int)
 · have e:listC b.txs=2:=by unfold listC; rw [if_pos hb]
   rw [e]
   refine Ret.fn ttOk Tryz.func61 rfl Tryz.call61 rfl rfl ?_
   refine Goes ?_
   first | refine CallP.is (c1 _) rfl ?_ | refine CallQ.is (c1 _) rfl rfl ?_
   refine Goes ?_
   first | refine CallP.is (c2 _) rfl ?_ | refine CallQ.is (c2 _) rfl rfl ?_
   refine Goes ?_
   first | refine CallP.is (c3 _) rfl ?_ | refine CallQ.is (c3 _) rfl rfl ?_
   refine Goes ?_
   first | refine CallP.is (c4 _) rfl ?_ | refine CallQ.is (c4 _) rfl rfl ?_
   refine Goes ?_;repeat' first|apply W2.m|refine W1.m fun h=>?_
   all_goals first | (exfalso; omega) | (refine FinOk.pure rfl rfl rfl ⟨?_,rfl,rfl⟩; rfl)
 have e:listC b.txs=if txsC b.txs≠0 then txsC b.txs else if basesB true b.txs=true then (if twinR (sumsX b.txs)=true then 6 else 0) else 1:=by unfold listC; rw [if_neg hb]
 have e0:txsC b.txs=txsC (b.txs.drop 0):=by simp
 refine Ret.fn ttOk Tryz.func61 rfl Tryz.call61 rfl rfl ?_
 refine Goes ?_
 first | refine CallP.is (c1 _) rfl ?_ | refine CallQ.is (c1 _) rfl rfl ?_
 refine Goes ?_
 first | refine CallP.is (c2 _) rfl ?_ | refine CallQ.is (c2 _) rfl rfl ?_
 refine Goes ?_
 first | refine CallP.is (c3 _) rfl ?_ | refine CallQ.is (c3 _) rfl rfl ?_
 refine Goes ?_
 first | refine CallP.is (c4 _) rfl ?_ | refine CallQ.is (c4 _) rfl rfl ?_
 refine Goes ?_;repeat' first|apply W2.m|refine W1.m fun h=>?_
 refine LoopP.go (fun k:Nat=>k≤b.txs.length∧txsC b.txs=txsC (b.txs.drop k)) (fun k=>⟨[(0,.rp (blkC b)),(3,iv k)],[],0⟩) (fun k=>b.txs.length - k) 0 ⟨Nat.zero_le _,e0⟩ (Weak.of rfl rfl ktA trivial) ?_
 intro k ⟨hk,hp⟩
 refine Goes ?_;repeat' first|apply W2.m|refine W1.m fun h=>?_
 · have hlt:k < b.txs.length:=by omega
   have hat:=txsC_at b.txs k hlt
   have hfx:=hf.txs b.txs[k] (List.getElem_mem hlt)
   rw [rowK txC b.txs k hlt]
   refine ⟨by rw [hL]; exact ⟨by omega,by omega,rfl⟩,?_⟩
   refine Goes ?_
   first | refine CallP.is (l3Fault_rp b.txs[k] _ hfx.ins hfx.outs) rfl ?_ | refine CallQ.is (l3Fault_rp b.txs[k] _ hfx.ins hfx.outs) rfl rfl ?_
   refine Goes ?_;repeat' first|apply W2.m|refine W1.m fun h=>?_
   · have g3:faultC b.txs[k]≠0:=h
     rw [if_pos g3] at hat
     refine FinOk.pure rfl rfl rfl ⟨?_,rfl,rfl⟩
     rw [e,hp,hat,if_pos g3]
   · have g3:¬ faultC b.txs[k]≠0:=h
     rw [if_neg g3] at hat
     exact ⟨k + 1,⟨by omega,by rw [hp,hat]⟩,by omega,(Weak.of rfl rfl ktA trivial)⟩
 · obtain rfl:k=b.txs.length:=by omega
   have hz:txsC b.txs=0:=by rw [hp,List.drop_length]; rfl
   rw [if_neg (by rw [hz]; decide)] at e
   have hB:=fun n=>l6Bases_rp b n (by omega)
   have hT:=fun n=>l4Twin_ret (sumsX b.txs) n (by simp; omega)
   rw [← sumsX_twin (by omega) (by omega)] at hT
   rw [e]
   cases hbb:basesB true b.txs with
   | false =>
     rw [hbb] at hB
     first | refine CallP.is (hB _) rfl ?_ | refine CallQ.is (hB _) rfl rfl ?_
     refine Goes ?_
     refine FinOk.pure rfl rfl rfl ⟨?_,rfl,rfl⟩
     rfl
   | true =>
     rw [hbb] at hB
     cases ht:twinR (sumsX b.txs) with
     | true =>
       rw [ht] at hT
       first | refine CallP.is (hB _) rfl ?_ | refine CallQ.is (hB _) rfl rfl ?_
       refine Goes ?_
       first | refine CallP.is (l6Sums_fr b _ (by omega) hz) rfl ?_ | refine CallQ.is (l6Sums_fr b _ (by omega) hz) rfl rfl ?_
       refine Goes ?_
       first | refine CallP.is (hT _) rfl ?_ | refine CallQ.is (hT _) rfl rfl ?_
       refine Goes ?_
       refine FinOk.pure rfl rfl rfl ⟨?_,rfl,rfl⟩
       rfl
     | false =>
       rw [ht] at hT
       first | refine CallP.is (hB _) rfl ?_ | refine CallQ.is (hB _) rfl rfl ?_
       refine Goes ?_
       first | refine CallP.is (l6Sums_fr b _ (by omega) hz) rfl ?_ | refine CallQ.is (l6Sums_fr b _ (by omega) hz) rfl rfl ?_
       refine Goes ?_
       first | refine CallP.is (hT _) rfl ?_ | refine CallQ.is (hT _) rfl rfl ?_
       refine Goes ?_
       refine FinOk.pure rfl rfl rfl ⟨?_,rfl,rfl⟩
       rfl
theorem blkF_ok {b:BlkD} (h:blkF b=0):headB b∧1≤b.txs.length∧b.txs.length≤4∧txsC b.txs=0:=by
 unfold blkF at h
 by_cases h1:headB b
 · rw [if_pos h1] at h
   unfold listC at h
   by_cases h2:(b.txs.length:Int) < 1∨4 < (b.txs.length:Int)
   · rw [if_pos h2] at h; cases h
   · rw [if_neg h2] at h
     by_cases h3:txsC b.txs≠0
     · rw [if_pos h3] at h; exact absurd h h3
     · exact ⟨h1,by omega,by omega,Decidable.not_not.1 h3⟩
 · rw [if_neg h1] at h; cases h
def rootB (b:BlkD):Int:=topW (sumsX b.txs)
def hdrB (b:BlkD):Int:=sumI [b.prev,rootB b,b.time,b.bits,b.nonce]
theorem l6Header_rp (b:BlkD) (n:Nat) (h1:1≤b.txs.length) (h2:b.txs.length≤4) (h3:txsC b.txs=0):Ret Tryz.prog 99 [.rp (blkC b)] [] n true (Is (iv (hdrB b)) [] n):=by
 refine Ret.fn ttOk Tryz.func99 rfl Tryz.call99 rfl rfl ?_
 refine Goes ?_
 first | refine CallP.is (l6Sums_fr b _ h2 h3) rfl ?_ | refine CallQ.is (l6Sums_fr b _ h2 h3) rfl rfl ?_
 refine Goes ?_
 first | refine CallP.is (l4Root_ret (sumsX b.txs) _ (by simp; omega) (by simp; omega)) rfl ?_ | refine CallQ.is (l4Root_ret (sumsX b.txs) _ (by simp; omega) (by simp; omega)) rfl rfl ?_
 refine Goes ?_
 refine CallP.convAIs (l1SumInts_ret [b.prev,rootB b,b.time,b.bits,b.nonce] _ (by simp)) cvargsA rfl (by first | exact trivial | exact ⟨flat_ivs _,trivial⟩) ?_
 refine Goes ?_
 refine FinOk.pure rfl rfl rfl ⟨?_,rfl,rfl⟩
 rfl
abbrev sealC (b:BlkD):List AV:=[iv b.prev,iv (rootB b),iv b.time,iv b.bits,iv b.nonce,txsV b.txs]
theorem sealBlock_ret (b:BlkD) (n:Nat) (hf:FitsB b) (hb:isI64 b.bits) (h:blkF b=0):Ret Tryz.prog 101 [blkV b] [] n true (Is (.tup [.agg (sealC b),iv 0]) [] n):=by
 have hc:=fun n=>implBlockFault_ret b n hf hb
 rw [h] at hc
 obtain ⟨_,h1,h2,h3⟩:=blkF_ok h
 have hr:=fun n=>implRootOf_ret (sumsX b.txs) n (by simp; omega)
 have er:rootR (sumsX b.txs)=[iv 0,iv (rootB b)]:=by unfold rootR; rw [if_pos (sumsX_ask h1 h2)]; rfl
 rw [er] at hr
 refine Ret.fn ttOk Tryz.func101 rfl Tryz.call101 rfl rfl ?_
 refine Goes ?_
 first | refine CallP.is (hc _) rfl ?_ | refine CallQ.is (hc _) rfl rfl ?_
 refine Goes ?_
 first | refine CallP.is (sumsOfTxs_fr b.txs _ hf.len hf.txs h3) rfl ?_ | refine CallQ.is (sumsOfTxs_fr b.txs _ hf.len hf.txs h3) rfl rfl ?_
 refine Goes ?_
 first | refine CallP.is (hr _) rfl ?_ | refine CallQ.is (hr _) rfl rfl ?_
 refine Goes ?_
 refine FinOk.mk' [] rfl rfl rfl rfl rfl rfl rfl ⟨?_,?_,rfl⟩
 · rfl
 · rfl
theorem sealBlock_no (b:BlkD) (n:Nat) (hf:FitsB b) (hb:isI64 b.bits) (h:blkF b≠0):Ret Tryz.prog 101 [blkV b] [] n true (Is (.tup [.agg [iv 0,iv 0,iv 0,iv 0,iv 0,nl],iv (blkF b)]) [] n):=by
 have hc:=fun n=>implBlockFault_ret b n hf hb
 refine Ret.fn ttOk Tryz.func101 rfl Tryz.call101 rfl rfl ?_
 refine Goes ?_
 first | refine CallP.is (hc _) rfl ?_ | refine CallQ.is (hc _) rfl rfl ?_
 refine Goes ?_;repeat' first|apply W2.m|refine W1.m fun h=>?_
 refine FinOk.mk' [] rfl rfl rfl rfl rfl rfl rfl ⟨?_,?_,rfl⟩
 · rfl
 · rfl
theorem header_sum (p r t b k:Int) (n:Nat) (h:sumIR [p,r,t,b,k]=[iv 0,iv (sumI [p,r,t,b,k])]):Ret Tryz.prog 154 [.agg [iv p,iv r,iv t,iv b,iv k]] [] n true (Is (iv (sumI [p,r,t,b,k])) [] n):=by
 have hs:=fun n=>implSumInts_ret [p,r,t,b,k] n (by simp)
 rw [h] at hs
 refine Ret.fn ttOk Tryz.func154 rfl Tryz.call154 rfl rfl ?_
 refine Goes ?_
 refine CallP.convAIs (hs _) cvargsA rfl (by first | exact trivial | exact ⟨flat_ivs _,trivial⟩) ?_
 refine Goes ?_
 refine FinOk.pure rfl rfl rfl ⟨?_,rfl,rfl⟩
 rfl
end Go.Proofs.YtllhgcfacgiabaaGreat
