import Derived.Test.YtllhgcfacgiabaaGreatB4
namespace Go.Proofs.YtllhgcfacgiabaaGreat
open Go Go.Am Go.RowKit
set_option linter.unusedVariables false
set_option linter.unusedSimpArgs false
theorem mixTx_inB:∀ (xs:List TxD) (k:Nat),∀ c∈(mixR txT txC xs k).flatten,inB c=true :=
 mixR_inB (fun x c hc=>by simp only [List.mem_cons,List.not_mem_nil,or_false] at hc; rcases hc with rfl | rfl | rfl <;> rfl) (fun x c hc=>by simp only [List.mem_cons,List.not_mem_nil,or_false] at hc; rcases hc with rfl | rfl | rfl <;> rfl)
set_option maxHeartbeats 2000000 in
theorem copyTxs_own (xs:List TxD) (n:Nat) (hl:xs.length≤1048576) (hx:∀ x∈xs,Fits x):Ret Tryz.prog 123 [txsV xs] [] n true (Is (.own n xs.length) [txsO n xs] (n + 1)):=by
 refine Ret.fn ttOk Tryz.func123 rfl Tryz.call123 rfl rfl ?_
 refine Goes ?_;repeat' first|apply W2.m|refine W1.m fun h=>?_
 first | refine CallP.is (cloneTx_own xs _ hl) rfl ?_ | refine CallQ.is (cloneTx_own xs _ hl) rfl rfl ?_
 refine Goes ?_;repeat' first|apply W2.m|refine W1.m fun h=>?_
 obtain ⟨R,hR⟩:∃ R:Nat→List (List AV),∀ k,R k=mixR txT txC xs k:=⟨_,fun _=>rfl⟩
 have hRB:∀ k,∀ c∈(R k).flatten,inB c=true:=fun k=>by rw [hR]; exact mixTx_inB _ _
 have hRl:∀ k,k≤xs.length→(R k).length=xs.length:=fun k hk=>by rw [hR,mixR_len _ _ hk]
 have hRa:∀ k (h:k < xs.length),(R k).set k (txC xs[k])=R k:=fun k h=>by rw [hR]; exact set_same (mixR_at _ _ h)
 have hRs:∀ k (h:k < xs.length),(R k).set k (txT xs[k])=R (k + 1):=fun k h=>by rw [hR,hR,mixR_set _ _ h]
 have toT:∀ k:Nat,Weak [] ⟨[(0,.own 0 xs.length),(7,.own 0 xs.length),(8,iv xs.length),(9,iv k)],[(0,.nest (c:=true) 133 3 (R k))],1⟩ (if h:k < xs.length then ⟨[(0,.own 0 xs.length),(7,.own 0 xs.length),(8,iv xs.length),(9,iv k)],[(0,.nest (c:=false) 133 3 ((R k).set k (txC xs[k])))],1⟩ else ⟨[(0,.own 0 xs.length),(7,.own 0 xs.length),(8,iv xs.length),(9,iv k)],[(0,.nest (c:=true) 133 3 (R k))],1⟩):=fun k=>by
  by_cases h:k < xs.length
  · rw [dif_pos h,hRa k h]; exact Weak.trans (Weak.openN 0 _ _ _ rfl (hRB k)) (Weak.of rfl rfl ⟨⟨rfl,rfl⟩,⟨rfl,rfl⟩,⟨rfl,rfl⟩,⟨rfl,rfl⟩,trivial⟩ ⟨⟨rfl,rfl,ltO_all (hRB k)⟩,trivial⟩)
  · rw [dif_neg h]; exact fun E a w _ hR=>hR
 have hR0:xs.map txC=R 0:=by rw [hR,mixR_zero]
 rw [hR0]
 refine LoopP.go (fun k:Nat=>k≤xs.length) (fun k=>if h:k < xs.length then ⟨[(0,.own 0 xs.length),(7,.own 0 xs.length),(8,iv xs.length),(9,iv k)],[(0,.nest (c:=false) 133 3 ((R k).set k (txC xs[k])))],1⟩ else ⟨[(0,.own 0 xs.length),(7,.own 0 xs.length),(8,iv xs.length),(9,iv k)],[(0,.nest (c:=true) 133 3 (R k))],1⟩) (fun k=>xs.length - k) 0 (Nat.zero_le _) (Weak.trans (Weak.trans (Weak.nest 0 _ _ _ rfl) (Weak.of rfl rfl ktA ktA)) (toT 0)) ?_
 intro k hk
 by_cases hlt:k < xs.length
 · rw [dif_pos hlt]
   have hRk:=hRl k hk
   conv=>whnf
   repeat' first
    | (refine AbsK.use (by assumption) ?_; conv=>whnf)
    | (refine CondP.yes ?_; conv=>whnf)
    | (refine CondP.not ?_; conv=>whnf)
    | ((first | refine CondP.dec (fun h=>?_) (fun h=>?_) | refine CondP.ndec (fun h=>?_) (fun h=>?_)) <;> first | (exfalso; first | omega | exact h (by assumption) | exact absurd h (by assumption)) | (conv=>whnf))
    | (refine Both.mk ?_ ?_ <;> (conv=>whnf))
    | (refine Keep.mk (by repeat' first | exact trivial | rfl | refine And.intro ?_ ?_) ?_; conv=>whnf)
    | (refine And.intro (by first | decide | omega) ?_; first | (refine runOps_abs (fun K hK=>?_); conv=>whnf) | (conv=>whnf))
    | fail
   rw [getAt (by omega)]
   refine ⟨⟨by rw [List.length_set]; exact lt_of (by omega),rfl⟩,?_⟩
   try refine runOps_abs (fun K hK=>?_)
   conv=>whnf
   repeat' first
    | (refine AbsK.use (by assumption) ?_; conv=>whnf)
    | (refine CondP.yes ?_; conv=>whnf)
    | (refine CondP.not ?_; conv=>whnf)
    | ((first | refine CondP.dec (fun h=>?_) (fun h=>?_) | refine CondP.ndec (fun h=>?_) (fun h=>?_)) <;> first | (exfalso; first | omega | exact h (by assumption) | exact absurd h (by assumption)) | (conv=>whnf))
    | (refine Both.mk ?_ ?_ <;> (conv=>whnf))
    | (refine Keep.mk (by repeat' first | exact trivial | rfl | refine And.intro ?_ ?_) ?_; conv=>whnf)
    | (refine And.intro (by first | decide | omega) ?_; first | (refine runOps_abs (fun K hK=>?_); conv=>whnf) | (conv=>whnf))
    | fail
   first | refine CallP.is (copyTx_own xs[k] _ (hx _ (List.getElem_mem hlt))) rfl ?_ | refine CallQ.is (copyTx_own xs[k] _ (hx _ (List.getElem_mem hlt))) rfl rfl ?_
   conv=>whnf
   repeat' first
    | (refine AbsK.use (by assumption) ?_; conv=>whnf)
    | (refine CondP.yes ?_; conv=>whnf)
    | (refine CondP.not ?_; conv=>whnf)
    | ((first | refine CondP.dec (fun h=>?_) (fun h=>?_) | refine CondP.ndec (fun h=>?_) (fun h=>?_)) <;> first | (exfalso; first | omega | exact h (by assumption) | exact absurd h (by assumption)) | (conv=>whnf))
    | (refine Both.mk ?_ ?_ <;> (conv=>whnf))
    | (refine Keep.mk (by repeat' first | exact trivial | rfl | refine And.intro ?_ ?_) ?_; conv=>whnf)
    | (refine And.intro (by first | decide | omega) ?_; first | (refine runOps_abs (fun K hK=>?_); conv=>whnf) | (conv=>whnf))
    | fail
   refine ⟨by rw [List.length_set]; exact lt_of (by omega),?_⟩
   rw [setAt (by omega) (row':=[iv xs[k].1,.own 2 xs[k].2.1.length,.own 3 xs[k].2.2.length]) rfl]
   try refine runOps_abs (fun K hK=>?_)
   conv=>whnf
   repeat' first
    | (refine AbsK.use (by assumption) ?_; conv=>whnf)
    | (refine CondP.yes ?_; conv=>whnf)
    | (refine CondP.not ?_; conv=>whnf)
    | ((first | refine CondP.dec (fun h=>?_) (fun h=>?_) | refine CondP.ndec (fun h=>?_) (fun h=>?_)) <;> first | (exfalso; first | omega | exact h (by assumption) | exact absurd h (by assumption)) | (conv=>whnf))
    | (refine Both.mk ?_ ?_ <;> (conv=>whnf))
    | (refine Keep.mk (by repeat' first | exact trivial | rfl | refine And.intro ?_ ?_) ?_; conv=>whnf)
    | (refine And.intro (by first | decide | omega) ?_; first | (refine runOps_abs (fun K hK=>?_); conv=>whnf) | (conv=>whnf))
    | fail
   refine ⟨k + 1,by omega,by omega,Weak.trans ?_ (toT (k + 1))⟩
   refine Weak.plant2 0 _ 3 k 1 2 _ 3 2 3 _ 2 xs[k].2.1.length xs[k].2.2.length _ _ _ _ [iv xs[k].1,.own 2 xs[k].2.1.length,.own 3 xs[k].2.2.length] rfl rfl rfl (by simp) (by simp) ?_ rfl rfl ?_ (hRB (k + 1)) (inBIn _) (inBOut _) rfl ⟨⟨rfl,rfl,rfl⟩,⟨rfl,rfl,rfl⟩,⟨rfl,rfl,rfl⟩,⟨leafI numA,rfl,rfl⟩,trivial⟩ ⟨⟨rfl,rfl,rfl⟩,⟨rfl,rfl,rfl⟩,⟨rfl,rfl,rfl⟩,⟨leafI numA,rfl,rfl⟩,trivial⟩ trivial trivial rfl
   · rw [List.getElem?_set_self (by omega)]
   · rw [List.set_set]
     exact (hRs k hlt).symm
 · rw [dif_neg hlt]
   obtain rfl:k=xs.length:=by omega
   rw [hR,mixR_all]
   refine Goes ?_;repeat' first|apply W2.m|refine W1.m fun h=>?_
   refine FinOk.mk' [0] rfl rfl rfl rfl rfl rfl rfl ⟨?_,?_,rfl⟩
   · rfl
   · rfl
theorem copyBlock_own (b:BlkD) (n:Nat) (h:FitsB b):Ret Tryz.prog 65 [blkV b] [] n true (Is (.agg (blkO n b)) [txsO n b.txs] (n + 1)):=by
 refine Ret.fn ttOk Tryz.func65 rfl Tryz.call65 rfl rfl ?_
 refine Goes ?_;repeat' first|apply W2.m|refine W1.m fun h=>?_
 first | refine CallP.is (copyTxs_own b.txs _ h.len h.txs) rfl ?_ | refine CallQ.is (copyTxs_own b.txs _ h.len h.txs) rfl rfl ?_
 refine Goes ?_;repeat' first|apply W2.m|refine W1.m fun h=>?_
 refine FinOk.mk' [2] rfl rfl rfl rfl rfl rfl rfl ⟨?_,?_,rfl⟩
 · rfl
 · rfl
end Go.Proofs.YtllhgcfacgiabaaGreat
