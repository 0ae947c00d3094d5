import Derived.Test.YtllhgcfacgiabaaGreatAmN
namespace Go.Proofs.YtllhgcfacgiabaaGreat
open Go Go.Am Go.RowKit
set_option linter.unusedVariables false
set_option linter.unusedSimpArgs false
def txsC:List TxD→Int
 | []=>0
 | x::r=>if faultC x≠0 then faultC x else txsC r
def basesB:Bool→List TxD→Bool
 | _,[]=>true
 | b,x::r=>(decide (x.2.1.length=0)==b)&&basesB false r
abbrev sumsX (l:List TxD):List Int:=l.map textOf
def listC (l:List TxD):Int:=if (l.length:Int) < 1∨4 < (l.length:Int) then 2 else if txsC l≠0 then txsC l else if basesB true l=true then (if twinR (sumsX l)=true then 6 else 0) else 1
def headB (b:BlkD):Prop:=inR 0 2147483646 b.prev∧inR 1 99999 b.time∧bitsB b.bits=true∧inR 0 65535 b.nonce
instance (b:BlkD):Decidable (headB b):=inferInstanceAs (Decidable (_∧_))
def blkF (b:BlkD):Int:=if headB b then listC b.txs else 3
theorem txsC_at (l:List TxD) (k:Nat) (h:k < l.length):txsC (l.drop k)=if faultC l[k]≠0 then faultC l[k] else txsC (l.drop (k + 1)):=by
 rw [List.drop_eq_getElem_cons h,txsC]
theorem txsC_all:∀ {l:List TxD},txsC l=0→∀ x∈l,faultC x=0
 | [],_,x,hx=>by cases hx
 | y::r,h,x,hx=>by
   rw [txsC] at h
   by_cases hy:faultC y≠0
   · rw [if_pos hy] at h; exact absurd h hy
   · rw [if_neg hy] at h
     rcases List.mem_cons.1 hx with rfl | hx
     · exact Decidable.not_not.1 hy
     · exact txsC_all h x hx
theorem basesB_at (b:Bool) (l:List TxD) (k:Nat) (h:k < l.length):basesB b (l.drop k)=((decide (l[k].2.1.length=0)==b)&&basesB false (l.drop (k + 1))):=by
 rw [List.drop_eq_getElem_cons h,basesB]
theorem sumsOfTxs_fr (l:List TxD) (n:Nat) (hl:l.length≤1048576) (hx:∀ x∈l,Fits x) (hz:txsC l=0):Ret Tryz.prog 153 [txsV l] [] n true (Is (il (sumsX l)) [] n):=by
 have hL:(l.map txC).length=l.length:=by simp
 have hM:(ivs (fillZ (sumsX l) 0)).length=l.length:=by simp [fillZ]
 have main:Ret Tryz.prog 153 [txsV l] [] n true (Is (.own n (sumsX l).length) [(n,.list 2 1 (ivs (sumsX l)))] (n + 1)):=by
  have hS:(sumsX l).length=l.length:=by simp
  refine Ret.fn ttOk Tryz.func153 rfl Tryz.call153 rfl rfl ?_
  refine Goes ?_
  rw [hL]
  refine ⟨⟨by omega,by omega,by omega,by show _ * 8≤_; omega⟩,?_⟩
  refine Goes ?_
  refine LoopP.go (fun k:Nat=>k≤l.length) (fun k=>⟨[(3,.own 0 l.length),(9,txsV l),(10,iv l.length),(11,iv k)],[(0,.list 2 1 (ivs (fillZ (sumsX l) k)))],1⟩) (fun k=>l.length - k) 0 (Nat.zero_le _) ?_ ?_
  · rw [fillZ_zero,hS]
    exact Weak.of rfl rfl ⟨⟨rfl,rfl⟩,⟨rfl,rfl⟩,⟨leafI (by omega),rfl⟩,⟨rfl,rfl⟩,trivial⟩ ⟨⟨leafO (by simp),rfl,rfl⟩,trivial⟩
  intro k hk
  have hfl:=fillZ_len (sumsX l) k (by omega)
  refine Goes ?_;repeat' first|apply W2.m|refine W1.m fun h=>?_
  · have hlt:k < l.length:=by omega
    have hz1:=txsC_all hz l[k] (List.getElem_mem hlt)
    have hts:=fun n=>implTxSum_ret l[k] n (hx _ (List.getElem_mem hlt))
    have hsr:sumR l[k]=[iv 0,iv (textOf l[k])]:=by unfold sumR; rw [if_pos hz1]
    rw [hsr] at hts
    rw [rowK txC l k hlt]
    refine ⟨by rw [hL]; exact ⟨by omega,by omega,rfl⟩,?_⟩
    refine Goes ?_
    first | refine CallP.is (hts _) rfl ?_ | refine CallQ.is (hts _) rfl rfl ?_
    refine Goes ?_
    refine ⟨by simp only [List.length_map]; omega,?_⟩
    refine Goes ?_
    refine ⟨k + 1,by omega,by omega,Weak.of rfl rfl ktA ⟨⟨leafO ?_,rfl,rfl⟩,trivial⟩⟩
    rw [setRow _ k _ (by omega) _ rfl,← fillZ_set (sumsX l) k (by omega),List.getElem_map]
  · obtain rfl:k=l.length:=by omega
    rw [show fillZ (sumsX l) l.length=sumsX l from by rw [← hS]; exact fillZ_all _]
    refine FinOk.mk' [0] rfl rfl rfl rfl rfl rfl rfl ⟨?_,?_,rfl⟩
    · refine ownI ?_
      simp
    · rfl
 exact Ret.freeze (by rintro _ _ _ ⟨rfl,rfl,rfl⟩; exact ⟨_,frCell (look_cons_eq _ _ _) (by simp),rfl,rfl,rfl⟩) main
theorem txsFault_ret (l:List TxD) (n:Nat) (hl:l.length≤1048576) (hx:∀ x∈l,Fits x):Ret Tryz.prog 184 [txsV l] [] n true (Is (iv (listC l)) [] n):=by
 have hL:(l.map txC).length=l.length:=by simp
 by_cases hb:(l.length:Int) < 1∨4 < (l.length:Int)
 · have e:listC l=2:=by unfold listC; rw [if_pos hb]
   rw [e]
   refine Ret.fn ttOk Tryz.func184 rfl Tryz.call184 rfl rfl ?_
   refine Goes ?_;repeat' first|apply W2.m|refine W1.m fun h=>?_
   all_goals first | (exfalso; omega) | (refine FinOk.pure rfl rfl rfl ⟨?_,rfl,rfl⟩; rfl)
 have e:listC l=if txsC l≠0 then txsC l else if basesB true l=true then (if twinR (sumsX l)=true then 6 else 0) else 1:=by unfold listC; rw [if_neg hb]
 have e0:txsC l=txsC (l.drop 0):=by simp
 refine Ret.fn ttOk Tryz.func184 rfl Tryz.call184 rfl rfl ?_
 refine Goes ?_;repeat' first|apply W2.m|refine W1.m fun h=>?_
 refine LoopP.go (fun k:Nat=>k≤l.length∧txsC l=txsC (l.drop k)) (fun k=>⟨[(0,txsV l),(16,txsV l),(17,iv l.length),(18,iv k)],[],0⟩) (fun k=>l.length - k) 0 ⟨Nat.zero_le _,e0⟩ ?_ ?_
 · rw [hL]; exact (Weak.of rfl rfl ktA trivial)
 intro k ⟨hk,hp⟩
 refine Goes ?_;repeat' first|apply W2.m|refine W1.m fun h=>?_
 · have hlt:k < l.length:=by omega
   have hat:=txsC_at l k hlt
   have hf:=hx l[k] (List.getElem_mem hlt)
   rw [rowK txC l k hlt]
   refine ⟨by rw [hL]; exact ⟨by omega,by omega,rfl⟩,?_⟩
   refine Goes ?_
   first | refine CallP.is (implTxFault_ret l[k] _ hf.ins hf.outs) rfl ?_ | refine CallQ.is (implTxFault_ret l[k] _ hf.ins hf.outs) rfl rfl ?_
   refine Goes ?_;repeat' first|apply W2.m|refine W1.m fun h=>?_
   · have g3:faultC l[k]≠0:=h
     rw [if_pos g3] at hat
     refine FinOk.pure rfl rfl rfl ⟨?_,rfl,rfl⟩
     rw [e,hp,hat,if_pos g3]
   · have g3:¬ faultC l[k]≠0:=h
     rw [if_neg g3] at hat
     exact ⟨k + 1,⟨by omega,by rw [hp,hat]⟩,by omega,(Weak.of rfl rfl ktA trivial)⟩
 · obtain rfl:k=l.length:=by omega
   have hz:txsC l=0:=by rw [hp,List.drop_length]; rfl
   rw [if_neg (by rw [hz]; decide)] at e
   have e1:basesB true l=basesB (decide ((0:Nat)=0)) (l.drop 0):=by simp
   refine LoopP.go (fun k:Nat=>k≤l.length∧basesB true l=basesB (decide (k=0)) (l.drop k)) (fun k=>⟨[(0,txsV l),(28,txsV l),(29,iv l.length),(30,iv k)],[],0⟩) (fun k=>l.length - k) 0 ⟨Nat.zero_le _,e1⟩ ?_ ?_
   · rw [hL]; exact (Weak.of rfl rfl ktA trivial)
   intro k ⟨hk,hp⟩
   refine Goes ?_;repeat' first|apply W2.m|refine W1.m fun h=>?_
   · have hlt:k < l.length:=by omega
     have hat:=basesB_at (decide (k=0)) l k hlt
     rw [← hp] at hat
     rw [rowK txC l k hlt]
     refine ⟨by rw [hL]; exact ⟨by omega,by omega,rfl⟩,?_⟩
     refine Goes ?_
     first | refine CallP.is (isBase_ret l[k] _) rfl ?_ | refine CallQ.is (isBase_ret l[k] _) rfl rfl ?_
     refine Goes ?_;repeat' first|apply W2.m|refine W1.m fun h=>?_
     · have hh:(decide (l[k].2.1.length=0)==decide (k=0))=false:=by
        rw [← show decide ((k:Int)=0)=decide (k=0) from decide_eq_decide.2 (by omega)]
        simpa using h
       rw [hh,Bool.false_and] at hat
       refine FinOk.pure rfl rfl rfl ⟨?_,rfl,rfl⟩
       rw [e,if_neg (by rw [hat]; decide)]
     · have hh:(decide (l[k].2.1.length=0)==decide (k=0))=true:=by
        rw [← show decide ((k:Int)=0)=decide (k=0) from decide_eq_decide.2 (by omega)]
        simpa using h
       rw [hh,Bool.true_and] at hat
       exact ⟨k + 1,⟨by omega,by rw [hat]; simp⟩,by omega,(Weak.of rfl rfl ktA trivial)⟩
   · obtain rfl:k=l.length:=by omega
     rw [if_pos (by rw [hp,List.drop_length]; rfl)] at e
     have hT:=fun n=>implHasTwin_ret (sumsX l) n (by simp; omega)
     cases ht:twinR (sumsX l) with
     | true =>
       rw [ht] at hT e
       first | refine CallP.is (sumsOfTxs_fr l _ hl hx hz) rfl ?_ | refine CallQ.is (sumsOfTxs_fr l _ hl hx hz) rfl rfl ?_
       refine Goes ?_
       first | refine CallP.is (hT _) rfl ?_ | refine CallQ.is (hT _) rfl rfl ?_
       refine Goes ?_
       refine FinOk.pure rfl rfl rfl ⟨?_,rfl,rfl⟩
       rw [e]; rfl
     | false =>
       rw [ht] at hT e
       first | refine CallP.is (sumsOfTxs_fr l _ hl hx hz) rfl ?_ | refine CallQ.is (sumsOfTxs_fr l _ hl hx hz) rfl rfl ?_
       refine Goes ?_
       first | refine CallP.is (hT _) rfl ?_ | refine CallQ.is (hT _) rfl rfl ?_
       refine Goes ?_
       refine FinOk.pure rfl rfl rfl ⟨?_,rfl,rfl⟩
       rw [e]; rfl
theorem implBlockFault_ret (b:BlkD) (n:Nat) (hf:FitsB b) (hb:isI64 b.bits):Ret Tryz.prog 151 [blkV b] [] n true (Is (iv (blkF b)) [] n):=by
 have c1:=fun n=>isSum_ret b.prev n
 have c2:=fun n=>isTime_ret b.time n
 have c3:=fun n=>isBits_ret b.bits n hb
 have c4:=fun n=>isNonce_ret b.nonce n
 have c5:=fun n=>txsFault_ret b.txs n hf.len hf.txs
 by_cases h:headB b
 · have e:blkF b=listC b.txs:=if_pos h
   obtain ⟨h1,h2,h3,h4⟩:=h
   rw [decide_eq_true h1] at c1
   rw [decide_eq_true h2] at c2
   rw [h3] at c3
   rw [decide_eq_true h4] at c4
   rw [e]
   refine Ret.fn ttOk Tryz.func151 rfl Tryz.call151 rfl rfl ?_
   refine Goes ?_
   first | refine CallP.is (c1 _) rfl ?_ | refine CallQ.is (c1 _) rfl rfl ?_
   refine Goes ?_
   first | refine CallP.is (c2 _) rfl ?_ | refine CallQ.is (c2 _) rfl rfl ?_
   refine Goes ?_
   first | refine CallP.is (c3 _) rfl ?_ | refine CallQ.is (c3 _) rfl rfl ?_
   refine Goes ?_
   first | refine CallP.is (c4 _) rfl ?_ | refine CallQ.is (c4 _) rfl rfl ?_
   refine Goes ?_
   first | refine CallP.is (c5 _) rfl ?_ | refine CallQ.is (c5 _) rfl rfl ?_
   refine Goes ?_
   refine FinOk.pure rfl rfl rfl ⟨?_,rfl,rfl⟩
   rfl
 · have e:blkF b=3:=if_neg h
   rw [e]
   by_cases h1:inR 0 2147483646 b.prev
   case neg =>
    rw [decide_eq_false h1] at c1
    refine Ret.fn ttOk Tryz.func151 rfl Tryz.call151 rfl rfl ?_
    refine Goes ?_
    first | refine CallP.is (c1 _) rfl ?_ | refine CallQ.is (c1 _) rfl rfl ?_
    refine Goes ?_
    refine FinOk.pure rfl rfl rfl ⟨?_,rfl,rfl⟩
    rfl
   by_cases h2:inR 1 99999 b.time
   case neg =>
    rw [decide_eq_true h1] at c1
    rw [decide_eq_false h2] at c2
    refine Ret.fn ttOk Tryz.func151 rfl Tryz.call151 rfl rfl ?_
    refine Goes ?_
    first | refine CallP.is (c1 _) rfl ?_ | refine CallQ.is (c1 _) rfl rfl ?_
    refine Goes ?_
    first | refine CallP.is (c2 _) rfl ?_ | refine CallQ.is (c2 _) rfl rfl ?_
    refine Goes ?_
    refine FinOk.pure rfl rfl rfl ⟨?_,rfl,rfl⟩
    rfl
   rw [decide_eq_true h1] at c1
   rw [decide_eq_true h2] at c2
   cases h3:bitsB b.bits with
   | false =>
     rw [h3] at c3
     refine Ret.fn ttOk Tryz.func151 rfl Tryz.call151 rfl rfl ?_
     refine Goes ?_
     first | refine CallP.is (c1 _) rfl ?_ | refine CallQ.is (c1 _) rfl rfl ?_
     refine Goes ?_
     first | refine CallP.is (c2 _) rfl ?_ | refine CallQ.is (c2 _) rfl rfl ?_
     refine Goes ?_
     first | refine CallP.is (c3 _) rfl ?_ | refine CallQ.is (c3 _) rfl rfl ?_
     refine Goes ?_
     refine FinOk.pure rfl rfl rfl ⟨?_,rfl,rfl⟩
     rfl
   | true =>
     have h4:¬ inR 0 65535 b.nonce:=fun h4=>h ⟨h1,h2,h3,h4⟩
     rw [h3] at c3
     rw [decide_eq_false h4] at c4
     refine Ret.fn ttOk Tryz.func151 rfl Tryz.call151 rfl rfl ?_
     refine Goes ?_
     first | refine CallP.is (c1 _) rfl ?_ | refine CallQ.is (c1 _) rfl rfl ?_
     refine Goes ?_
     first | refine CallP.is (c2 _) rfl ?_ | refine CallQ.is (c2 _) rfl rfl ?_
     refine Goes ?_
     first | refine CallP.is (c3 _) rfl ?_ | refine CallQ.is (c3 _) rfl rfl ?_
     refine Goes ?_
     first | refine CallP.is (c4 _) rfl ?_ | refine CallQ.is (c4 _) rfl rfl ?_
     refine Goes ?_
     refine FinOk.pure rfl rfl rfl ⟨?_,rfl,rfl⟩
     rfl
end Go.Proofs.YtllhgcfacgiabaaGreat
