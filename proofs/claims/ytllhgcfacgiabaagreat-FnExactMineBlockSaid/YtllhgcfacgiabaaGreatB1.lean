import Derived.Test.YtllhgcfacgiabaaGreatAmW
import Derived.Test.YtllhgcfacgiabaaGreatP44
import Derived.Test.YtllhgcfacgiabaaGreatP90
import Derived.Test.YtllhgcfacgiabaaGreatAmN
namespace Go.Proofs.YtllhgcfacgiabaaGreat
open Go Go.Am Go.RowKit
set_option linter.unusedVariables false
set_option linter.unusedSimpArgs false
abbrev txT (t:TxD):List AV:=[iv t.1,.tree 201 3 (t.2.1.map inT),.tree 203 2 (t.2.2.map outT)]
theorem fzTxs (xs:List TxD):FzR 3 (xs.map txT) (xs.map txC):=FzR.map (f:=txT) (g:=txC) (fun _=>rfl) (fun x=>⟨.val _,Fz.treeOf (fzIn _),Fz.treeOf (fzOut _),trivial⟩) xs
theorem inBTxs (xs:List TxD):∀ c∈(xs.map txT).flatten,inB c=true:=inB_map (fun x c hc=>by simp only [List.mem_cons,List.not_mem_nil,or_false] at hc; rcases hc with rfl | rfl | rfl <;> rfl) xs
theorem toTxS_own (xs:List TxD) (n:Nat) (hl:xs.length≤1048576) (hx:∀ x∈xs,Fits x):Ret Tryz.prog 43 [txsV xs] [] n true (Is (.own n xs.length) [(n,.nest (c:=true) 133 3 (xs.map txT))] (n + 1)):=by
 have hL:(xs.map txC).length=xs.length:=by simp
 have hB:=inB_fill (f:=txT) (z:=[iv 0,nl,nl]) (fun x c hc=>inBTxs [x] c (by simpa using hc)) (fun c hc=>by simp only [List.mem_cons,List.not_mem_nil,or_false] at hc; rcases hc with rfl | rfl | rfl <;> rfl) xs
 refine Ret.fn ttOk Tryz.func43 rfl Tryz.call43 rfl rfl ?_
 refine Goes ?_;repeat' first|apply W2.m|refine W1.m fun h=>?_
 rw [hL]
 refine ⟨⟨by omega,by omega,by omega,by show _ * 56≤_; omega⟩,?_⟩
 refine Goes ?_;repeat' first|apply W2.m|refine W1.m fun h=>?_
 refine LoopP.go (fun k:Nat=>k≤xs.length) (fun k=>⟨[(0,txsV xs),(3,.own 0 xs.length),(4,iv k)],[(0,.nest (c:=true) 133 3 (fillR txT [iv 0,nl,nl] xs k))],1⟩) (fun k=>xs.length - k) 0 (Nat.zero_le _) ?_ ?_
 · refine (Weak.nest 0 _ _ _ rfl).trans (Weak.of rfl rfl ktA ⟨⟨congrArg some (congrArg _ ?_),rfl,rfl⟩,trivial⟩)
   unfold fillR; simp
 intro k hk
 have hfl:=fillR_len txT [iv 0,nl,nl] xs k hk
 refine Goes ?_;repeat' first|apply W2.m|refine W1.m fun h=>?_
 · have hlt:k < xs.length:=by omega
   rw [rowK txC xs k hlt]
   refine ⟨by rw [hL]; exact ⟨by omega,by omega,rfl⟩,?_⟩
   refine Goes ?_;repeat' first|apply W2.m|refine W1.m fun h=>?_
   first | refine CallP.is (toTx_own xs[k] _ (hx _ (List.getElem_mem hlt))) rfl ?_ | refine CallQ.is (toTx_own xs[k] _ (hx _ (List.getElem_mem hlt))) rfl rfl ?_
   refine Goes ?_;repeat' first|apply W2.m|refine W1.m fun h=>?_
   rw [storeRow (by omega) (by rw [fillR_at txT _ xs k hlt]; rfl)]
   refine ⟨k + 1,by omega,by omega,Weak.plant2 0 _ 3 k 1 1 _ 3 2 2 _ 2 xs[k].2.1.length xs[k].2.2.length _ _ _ _ [iv xs[k].1,.own 1 xs[k].2.1.length,.own 2 xs[k].2.2.length] rfl rfl rfl (by simp) (by simp) ?_ rfl rfl ?_ (hB (k + 1)) (inBIn _) (inBOut _) rfl ⟨⟨rfl,rfl,rfl⟩,⟨rfl,rfl,rfl⟩,⟨leafI numA,rfl,rfl⟩,trivial⟩ ⟨⟨rfl,rfl,rfl⟩,⟨rfl,rfl,rfl⟩,⟨leafI numA,rfl,rfl⟩,trivial⟩ trivial trivial rfl⟩
   · rw [List.getElem?_set_self (by omega)]; rfl
   · rw [List.set_set]
     exact (fillR_set txT _ xs k hlt).symm
 · obtain rfl:k=xs.length:=by omega
   rw [fillR_all]
   refine FinOk.mk' [0] rfl rfl rfl rfl rfl rfl rfl ⟨?_,?_,rfl⟩
   · rfl
   · rfl
def mkL {α:Type} (f:Nat→α→α) (g:Nat→α→Nat):Nat→List α→List α
 | _,[]=>[]
 | m,x::r=>f m x::mkL f g (g m x) r
def nL {α:Type} (g:Nat→α→Nat):Nat→List α→Nat
 | m,[]=>m
 | m,x::r=>nL g (g m x) r
section
variable {α:Type} {f:Nat→α→α} {g:Nat→α→Nat}
theorem mkL_len:∀ (l:List α) (m:Nat),(mkL f g m l).length=l.length
 | [],m=>rfl
 | x::r,m=>by simp [mkL,mkL_len r]
theorem mkL_app:∀ (l:List α) (x:α) (m:Nat),mkL f g m (l++[x])=mkL f g m l++[f (nL g m l) x]∧nL g m (l++[x])=g (nL g m l) x
 | [],x,m=>⟨rfl,rfl⟩
 | y::r,x,m=>by
   obtain ⟨h1,h2⟩:=mkL_app r x (g m y)
   exact ⟨by simp only [List.cons_append,mkL,nL,h1],by simp only [List.cons_append,nL,h2]⟩
theorem mkL_at:∀ (xs:List α) (m k:Nat) (h:k < xs.length) (h':k < (mkL f g m xs).length),(mkL f g m xs)[k]=f (nL g m (xs.take k)) xs[k]
 | x::r,m,0,_,_=>rfl
 | x::r,m,k + 1,h,_=>mkL_at r (g m x) k (by simpa using h) (by rw [mkL_len]; simpa using h)
def mkLP (f:Nat→α→α) (g:Nat→α→Nat) (m:Nat) (xs:List α) (k:Nat):List α:=mkL f g m (xs.take k)++xs.drop k
theorem mkLP_zero (m:Nat) (xs:List α):mkLP f g m xs 0=xs:=by simp [mkLP,mkL]
theorem mkLP_all (m:Nat) (xs:List α):mkLP f g m xs xs.length=mkL f g m xs:=by simp [mkLP]
theorem mkLP_len (m:Nat) (xs:List α) (k:Nat) (h:k≤xs.length):(mkLP f g m xs k).length=xs.length:=by simp [mkLP,mkL_len]; omega
theorem mkLP_at (m:Nat) (xs:List α) (k:Nat) (h:k < xs.length):(mkLP f g m xs k)[k]?=some xs[k]:=by
 rw [mkLP,List.getElem?_append_right (by rw [mkL_len,List.length_take]; omega),mkL_len,List.length_take,List.getElem?_drop,show k + (k - min k xs.length)=k by omega,List.getElem?_eq_getElem h]
theorem mkLP_set (m:Nat) (xs:List α) (k:Nat) (h:k < xs.length):(mkLP f g m xs k).set k (f (nL g m (xs.take k)) xs[k])=mkLP f g m xs (k + 1):=by
 unfold mkLP
 rw [takeS xs k h,(mkL_app _ _ _).1,List.set_append_right _ _ (by rw [mkL_len,List.length_take]; omega),mkL_len,List.length_take,show k - min k xs.length=0 by omega,List.drop_eq_getElem_cons h,List.set_cons_zero,List.append_assoc]
 rfl
theorem nL_app:∀ (l:List α) (x:α) (m:Nat),nL g m (l++[x])=g (nL g m l) x
 | [],x,m=>rfl
 | y::r,x,m=>nL_app r x (g m y)
theorem nL_step (m:Nat) (xs:List α) (k:Nat) (h:k < xs.length):nL g m (xs.take (k + 1))=g (nL g m (xs.take k)) xs[k]:=by
 rw [takeS xs k h,nL_app]
theorem nL_le (s:α→Nat) (c:Nat) (hg:∀ m x,g m x≤m + c + 2 * s x):∀ (xs:List α) (m:Nat),nL g m xs≤m + c * xs.length + 2 * psum s xs
 | [],m=>by simp [nL,psum]
 | x::r,m=>by
   have h1:=nL_le s c hg r (g m x)
   have h2:=hg m x
   have h3:psum s (x::r)=s x + psum s r:=by simp [psum]
   rw [nL,h3,List.length_cons,Nat.mul_add]
   omega
end
def mkT (m:Nat) (t:TxD):TxD:=((m:Int),mkIns (m + 1) t.2.1,mkOuts (nIns (m + 1) t.2.1) t.2.2)
def nT (m:Nat) (t:TxD):Nat:=nOuts (nIns (m + 1) t.2.1) t.2.2
theorem nT_le (m:Nat) (t:TxD):nT m t≤m + 1 + 2 * sizeX t:=by
 have h1:=nIns_eq t.2.1 (m + 1)
 have h2:=nOuts_eq t.2.2 (nIns (m + 1) t.2.1)
 unfold nT sizeX
 omega
abbrev mkTs:Nat→List TxD→List TxD:=mkL mkT nT
abbrev nTs:Nat→List TxD→Nat:=nL nT
theorem nTs_le (m:Nat) (xs:List TxD):nTs m xs≤m + 1 * xs.length + 2 * psum sizeX xs:=nL_le sizeX 1 nT_le xs m
theorem nTs_take (m:Nat) (xs:List TxD) (k:Nat) (hk:k≤xs.length):nTs m (xs.take k)≤m + xs.length + 2 * psum sizeX xs:=by
 have h1:=nTs_le m (xs.take k)
 have h2:=psum_le sizeX xs k
 rw [List.length_take] at h1
 omega
set_option maxHeartbeats 2000000 in
theorem markTxS_own (xs:List TxD) (i m n:Nat) (hl:xs.length≤1048576) (hp:psum sizeX xs≤1048576) (hm:m≤1000000000000) :
 Ret Tryz.prog 47 [.own i xs.length,iv m] [(i,.nest (c:=true) 133 3 (xs.map txT))] n true (Is (iv (nTs m xs)) [(i,.nest (c:=true) 133 3 ((mkTs m xs).map txT))] n):=by
 refine Ret.of_run (tt:=tt) ttOk Tryz.func47 rfl Tryz.call47 [i] [.nest (c:=true) 133 3 (xs.map txT)] [.own 0 xs.length,iv m] true n _ rfl (nodup1 i) (by exact Nat.le_of_ble_eq_true rfl) rfl rfl ?_
 refine Goes ?_;repeat' first|apply W2.m|refine W1.m fun h=>?_
 obtain ⟨R,hR⟩:∃ R:Nat→List (List AV),∀ k,R k=(mkLP mkT nT m xs k).map txT:=⟨_,fun _=>rfl⟩
 obtain ⟨cn,hcn⟩:∃ cn:Nat→Nat,∀ k,cn k=nTs m (xs.take k):=⟨_,fun _=>rfl⟩
 have hRB:∀ k,∀ c∈(R k).flatten,inB c=true:=fun k=>by rw [hR]; exact inBTxs _
 have hRl:∀ k,k≤xs.length→(R k).length=xs.length:=fun k hk=>by rw [hR,List.length_map,mkLP_len m xs k hk]
 have hRa:∀ k (h:k < xs.length),(R k)[k]?=some (txT xs[k]):=fun k h=>by rw [hR,List.getElem?_map,mkLP_at m xs k h]; rfl
 have hRs:∀ k (h:k < xs.length),(R k).set k (txT (mkT (cn k) xs[k]))=R (k + 1):=fun k h=>by rw [hR,hR,hcn,setM txT,mkLP_set m xs k h]
 have hcb:∀ k,k≤xs.length→cn k≤m + xs.length + 2 * psum sizeX xs:=fun k hk=>by rw [hcn]; exact nTs_take m xs k hk
 have hcs:∀ k (h:k < xs.length),cn (k + 1)=nT (cn k) xs[k]:=fun k h=>by rw [hcn,hcn]; exact nL_step m xs k h
 have up:∀ k (h:k < xs.length),Weak [0] ⟨[(0,.own 0 xs.length),(1,iv (cn k)),(5,iv k)],[(0,.nest (c:=true) 133 3 (R k))],1⟩ ⟨[(0,.own 0 xs.length),(1,iv (cn k)),(5,iv k)],[(0,.nest (c:=false) 133 3 ((R k).set k [iv xs[k].1,.own 1 xs[k].2.1.length,.own 2 xs[k].2.2.length])),(1,.nest (c:=true) 201 3 (xs[k].2.1.map inT)),(2,.nest (c:=true) 203 2 (xs[k].2.2.map outT))],3⟩:=fun k h=>by
  refine (Weak.lift2 0 _ 3 k 1 _ 3 2 _ 2 (R k) (xs[k].2.1.map inT) (xs[k].2.2.map outT) (txT xs[k]) rfl (hRa k h) rfl rfl rfl).trans ?_
  rw [List.length_map,List.length_map]
  exact Weak.of rfl rfl ⟨⟨rfl,rfl⟩,⟨rfl,rfl⟩,⟨rfl,rfl⟩,trivial⟩ ⟨⟨rfl,rfl,ltO_set (hRB k) rfl⟩,⟨rfl,rfl,rfl⟩,⟨rfl,rfl,rfl⟩,trivial⟩
 have toT:∀ k,Weak [0] ⟨[(0,.own 0 xs.length),(1,iv (cn k)),(5,iv k)],[(0,.nest (c:=true) 133 3 (R k))],1⟩ (if h:k < xs.length then ⟨[(0,.own 0 xs.length),(1,iv (cn k)),(5,iv k)],[(0,.nest (c:=false) 133 3 ((R k).set k [iv xs[k].1,.own 1 xs[k].2.1.length,.own 2 xs[k].2.2.length])),(1,.nest (c:=true) 201 3 (xs[k].2.1.map inT)),(2,.nest (c:=true) 203 2 (xs[k].2.2.map outT))],3⟩ else ⟨[(0,.own 0 xs.length),(1,iv (cn k)),(5,iv k)],[(0,.nest (c:=true) 133 3 (R k))],1⟩):=fun k=>by
  by_cases h:k < xs.length
  · rw [dif_pos h]; exact up k h
  · rw [dif_neg h]; exact fun E a w _ hR=>hR
 have h0:m=cn 0:=by rw [hcn]; rfl
 have hR0:xs.map txT=R 0:=by rw [hR,mkLP_zero]
 rw [hR0]
 refine LoopP.go (fun k:Nat=>k≤xs.length) (fun k=>if h:k < xs.length then ⟨[(0,.own 0 xs.length),(1,iv (cn k)),(5,iv k)],[(0,.nest (c:=false) 133 3 ((R k).set k [iv xs[k].1,.own 1 xs[k].2.1.length,.own 2 xs[k].2.2.length])),(1,.nest (c:=true) 201 3 (xs[k].2.1.map inT)),(2,.nest (c:=true) 203 2 (xs[k].2.2.map outT))],3⟩ else ⟨[(0,.own 0 xs.length),(1,iv (cn k)),(5,iv k)],[(0,.nest (c:=true) 133 3 (R k))],1⟩) (fun k=>xs.length - k) 0 (Nat.zero_le _) (Weak.trans ?_ (toT 0)) ?_
 · exact Weak.of rfl rfl ⟨⟨rfl,rfl⟩,⟨leafI (by rw [h0]),rfl⟩,⟨rfl,rfl⟩,trivial⟩ ⟨⟨rfl,rfl,rfl⟩,trivial⟩
 intro k hk
 by_cases hlt:k < xs.length
 · rw [dif_pos hlt]
   have hb:=hcb k hk
   have hb1:=hcb (k + 1) hlt
   have hst:=hcs k hlt
   have hRk:=hRl k hk
   have hps:=psum_mem sizeX xs xs[k] (List.getElem_mem hlt)
   have hni:=nIns_eq xs[k].2.1 (cn k + 1)
   simp only [sizeX] at hps
   have w1:IntKind.i64.wrap ((cn k:Int) + 1)=((cn k + 1:Nat):Int):=by rw [IntWalk.i64_in _ (by omega)]; omega
   conv=>whnf
   repeat' first
    | (refine AbsK.use (by assumption) ?_; conv=>whnf)
    | (refine CondP.yes ?_; conv=>whnf)
    | (refine CondP.not ?_; conv=>whnf)
    | ((first | refine CondP.dec (fun h=>?_) (fun h=>?_) | refine CondP.ndec (fun h=>?_) (fun h=>?_)) <;> first | (exfalso; first | omega | exact h (by assumption) | exact absurd h (by assumption)) | (conv=>whnf))
    | (refine Both.mk ?_ ?_ <;> (conv=>whnf))
    | (refine Keep.mk (by repeat' first | exact trivial | rfl | refine And.intro ?_ ?_) ?_; conv=>whnf)
    | (refine And.intro (by first | decide | omega) ?_; first | (refine runOps_abs (fun K hK=>?_); conv=>whnf) | (conv=>whnf))
    | fail
   refine ⟨by rw [List.length_set]; omega,?_⟩
   rw [setAt (by omega) (row':=[iv (cn k),.own 1 xs[k].2.1.length,.own 2 xs[k].2.2.length]) rfl]
   try refine runOps_abs (fun K hK=>?_)
   conv=>whnf
   repeat' first
    | (refine AbsK.use (by assumption) ?_; conv=>whnf)
    | (refine CondP.yes ?_; conv=>whnf)
    | (refine CondP.not ?_; conv=>whnf)
    | ((first | refine CondP.dec (fun h=>?_) (fun h=>?_) | refine CondP.ndec (fun h=>?_) (fun h=>?_)) <;> first | (exfalso; first | omega | exact h (by assumption) | exact absurd h (by assumption)) | (conv=>whnf))
    | (refine Both.mk ?_ ?_ <;> (conv=>whnf))
    | (refine Keep.mk (by repeat' first | exact trivial | rfl | refine And.intro ?_ ?_) ?_; conv=>whnf)
    | (refine And.intro (by first | decide | omega) ?_; first | (refine runOps_abs (fun K hK=>?_); conv=>whnf) | (conv=>whnf))
    | fail
   rw [w1,getAt (by omega)]
   refine ⟨⟨by rw [List.length_set]; omega,rfl⟩,?_⟩
   try refine runOps_abs (fun K hK=>?_)
   conv=>whnf
   repeat' first
    | (refine AbsK.use (by assumption) ?_; conv=>whnf)
    | (refine CondP.yes ?_; conv=>whnf)
    | (refine CondP.not ?_; conv=>whnf)
    | ((first | refine CondP.dec (fun h=>?_) (fun h=>?_) | refine CondP.ndec (fun h=>?_) (fun h=>?_)) <;> first | (exfalso; first | omega | exact h (by assumption) | exact absurd h (by assumption)) | (conv=>whnf))
    | (refine Both.mk ?_ ?_ <;> (conv=>whnf))
    | (refine Keep.mk (by repeat' first | exact trivial | rfl | refine And.intro ?_ ?_) ?_; conv=>whnf)
    | (refine And.intro (by first | decide | omega) ?_; first | (refine runOps_abs (fun K hK=>?_); conv=>whnf) | (conv=>whnf))
    | fail
   refine CallP.heapIs (markInS_own xs[k].2.1 1 (cn k + 1) 3 (by omega) (by omega) (by omega)) rfl ktA rfl ?_
   conv=>whnf
   repeat' first
    | (refine AbsK.use (by assumption) ?_; conv=>whnf)
    | (refine CondP.yes ?_; conv=>whnf)
    | (refine CondP.not ?_; conv=>whnf)
    | ((first | refine CondP.dec (fun h=>?_) (fun h=>?_) | refine CondP.ndec (fun h=>?_) (fun h=>?_)) <;> first | (exfalso; first | omega | exact h (by assumption) | exact absurd h (by assumption)) | (conv=>whnf))
    | (refine Both.mk ?_ ?_ <;> (conv=>whnf))
    | (refine Keep.mk (by repeat' first | exact trivial | rfl | refine And.intro ?_ ?_) ?_; conv=>whnf)
    | (refine And.intro (by first | decide | omega) ?_; first | (refine runOps_abs (fun K hK=>?_); conv=>whnf) | (conv=>whnf))
    | fail
   rw [getAt (by omega)]
   refine ⟨⟨by rw [List.length_set]; omega,rfl⟩,?_⟩
   try refine runOps_abs (fun K hK=>?_)
   conv=>whnf
   repeat' first
    | (refine AbsK.use (by assumption) ?_; conv=>whnf)
    | (refine CondP.yes ?_; conv=>whnf)
    | (refine CondP.not ?_; conv=>whnf)
    | ((first | refine CondP.dec (fun h=>?_) (fun h=>?_) | refine CondP.ndec (fun h=>?_) (fun h=>?_)) <;> first | (exfalso; first | omega | exact h (by assumption) | exact absurd h (by assumption)) | (conv=>whnf))
    | (refine Both.mk ?_ ?_ <;> (conv=>whnf))
    | (refine Keep.mk (by repeat' first | exact trivial | rfl | refine And.intro ?_ ?_) ?_; conv=>whnf)
    | (refine And.intro (by first | decide | omega) ?_; first | (refine runOps_abs (fun K hK=>?_); conv=>whnf) | (conv=>whnf))
    | fail
   refine CallP.heapIs (markOutS_own xs[k].2.2 2 (nIns (cn k + 1) xs[k].2.1) 3 (by omega) (by omega) (by omega)) rfl ktA rfl ?_
   conv=>whnf
   repeat' first
    | (refine AbsK.use (by assumption) ?_; conv=>whnf)
    | (refine CondP.yes ?_; conv=>whnf)
    | (refine CondP.not ?_; conv=>whnf)
    | ((first | refine CondP.dec (fun h=>?_) (fun h=>?_) | refine CondP.ndec (fun h=>?_) (fun h=>?_)) <;> first | (exfalso; first | omega | exact h (by assumption) | exact absurd h (by assumption)) | (conv=>whnf))
    | (refine Both.mk ?_ ?_ <;> (conv=>whnf))
    | (refine Keep.mk (by repeat' first | exact trivial | rfl | refine And.intro ?_ ?_) ?_; conv=>whnf)
    | (refine And.intro (by first | decide | omega) ?_; first | (refine runOps_abs (fun K hK=>?_); conv=>whnf) | (conv=>whnf))
    | fail
   refine ⟨k + 1,by omega,by omega,Weak.trans ?_ (toT (k + 1))⟩
   refine Weak.plant2 0 _ 3 k 1 1 _ 3 2 2 _ 2 xs[k].2.1.length xs[k].2.2.length _ _ _ _ [iv (cn k),.own 1 xs[k].2.1.length,.own 2 xs[k].2.2.length] rfl rfl rfl (by simp [mkIns_len]) (by simp [mkOuts_len]) ?_ rfl rfl ?_ (hRB (k + 1)) (inBIn _) (inBOut _) rfl ⟨⟨rfl,rfl,rfl⟩,⟨leafI (by rw [hst]; rfl),rfl,rfl⟩,⟨leafI numA,rfl,rfl⟩,trivial⟩ ⟨⟨rfl,rfl,rfl⟩,⟨leafI (by rw [hst]; rfl),rfl,rfl⟩,⟨leafI numA,rfl,rfl⟩,trivial⟩ trivial trivial rfl
   · rw [List.getElem?_set_self (by omega)]
   · rw [List.set_set]
     exact (hRs k hlt).symm
 · rw [dif_neg hlt]
   obtain rfl:k=xs.length:=by omega
   refine Goes ?_;repeat' first|apply W2.m|refine W1.m fun h=>?_
   refine FinOk.mk' [] rfl rfl rfl rfl rfl rfl rfl ⟨?_,?_,rfl⟩
   · rw [hcn,List.take_length]; rfl
   · rw [hR,mkLP_all]; rfl
theorem heldTxS_rd (xs:List TxD) (m n:Nat) (hl:xs.length≤1048576) (hp:psum sizeX xs≤1048576) (hm:m≤1000000000000):Ret Tryz.prog 96 [txsV (mkTs m xs),iv m] [] n true (Is (iv (nTs m xs)) [] n):=by
 obtain ⟨ys,hys⟩:∃ ys,ys=mkTs m xs:=⟨_,rfl⟩
 have hyl:ys.length=xs.length:=by rw [hys,mkL_len]
 have hL:(ys.map txC).length=xs.length:=by simp [hyl]
 obtain ⟨cn,hcn⟩:∃ cn:Nat→Nat,∀ k,cn k=nTs m (xs.take k):=⟨_,fun _=>rfl⟩
 have hcb:∀ k,k≤xs.length→cn k≤m + xs.length + 2 * psum sizeX xs:=fun k hk=>by rw [hcn]; exact nTs_take m xs k hk
 have hcs:∀ k (h:k < xs.length),cn (k + 1)=nT (cn k) xs[k]:=fun k h=>by rw [hcn,hcn]; exact nL_step m xs k h
 have hrow:∀ k (h:k < xs.length),(ys.map txC).getD (Int.toNat (k:Int)) []=[iv (cn k),insV (mkIns (cn k + 1) xs[k].2.1),outsV (mkOuts (nIns (cn k + 1) xs[k].2.1) xs[k].2.2)]:=fun k h=>by
  subst hys
  rw [rowK txC _ k (by rw [mkL_len]; exact h),mkL_at xs m k h (by rw [mkL_len]; exact h)]
  show txC (mkT (nTs m (xs.take k)) xs[k])=_
  rw [← hcn]
  rfl
 rw [← hys]
 have h0:m=cn 0:=by rw [hcn]; rfl
 refine Ret.fn ttOk Tryz.func96 rfl Tryz.call96 rfl rfl ?_
 refine Goes ?_;repeat' first|apply W2.m|refine W1.m fun h=>?_
 refine LoopP.go (fun k:Nat=>k≤xs.length) (fun k=>⟨[(0,txsV ys),(1,iv (cn k)),(5,iv k)],[],0⟩) (fun k=>xs.length - k) 0 (Nat.zero_le _) ?_ ?_
 · exact Weak.of rfl rfl ⟨⟨rfl,rfl⟩,⟨leafI (by rw [h0]),rfl⟩,⟨rfl,rfl⟩,trivial⟩ trivial
 intro k hk
 have hb:=hcb k hk
 by_cases hlt:k < xs.length
 · have hb1:=hcb (k + 1) hlt
   have hst:=hcs k hlt
   have hps:=psum_mem sizeX xs xs[k] (List.getElem_mem hlt)
   have hni:=nIns_eq xs[k].2.1 (cn k + 1)
   simp only [sizeX] at hps
   have w1:IntKind.i64.wrap ((cn k:Int) + 1)=((cn k + 1:Nat):Int):=by rw [IntWalk.i64_in _ (by omega)]; omega
   refine Goes ?_;repeat' first|apply W2.m|refine W1.m fun h=>?_
   rw [hrow k hlt]
   refine ⟨by rw [hL]; exact ⟨by omega,by omega,rfl⟩,?_⟩
   refine Goes ?_;repeat' first|apply W2.m|refine W1.m fun h=>?_
   rw [w1,hrow k hlt]
   refine ⟨by rw [hL]; exact ⟨by omega,by omega,rfl⟩,?_⟩
   refine Goes ?_;repeat' first|apply W2.m|refine W1.m fun h=>?_
   first | refine CallP.is (heldInS_rd xs[k].2.1 (cn k + 1) _ (by omega) (by omega) (by omega)) rfl ?_ | refine CallQ.is (heldInS_rd xs[k].2.1 (cn k + 1) _ (by omega) (by omega) (by omega)) rfl rfl ?_
   refine Goes ?_;repeat' first|apply W2.m|refine W1.m fun h=>?_
   all_goals first
    | (exfalso; omega)
    | skip
   rw [hrow k hlt]
   refine ⟨by rw [hL]; exact ⟨by omega,by omega,rfl⟩,?_⟩
   refine Goes ?_;repeat' first|apply W2.m|refine W1.m fun h=>?_
   first | refine CallP.is (heldOutS_rd xs[k].2.2 (nIns (cn k + 1) xs[k].2.1) _ (by omega) (by omega) (by omega)) rfl ?_ | refine CallQ.is (heldOutS_rd xs[k].2.2 (nIns (cn k + 1) xs[k].2.1) _ (by omega) (by omega) (by omega)) rfl rfl ?_
   refine Goes ?_;repeat' first|apply W2.m|refine W1.m fun h=>?_
   all_goals first
    | (exfalso; omega)
    | exact ⟨k + 1,by omega,by omega,Weak.of rfl rfl ⟨⟨rfl,rfl⟩,⟨leafI (by rw [hst]; rfl),rfl⟩,⟨leafI numA,rfl⟩,trivial⟩ trivial⟩
 · obtain rfl:k=xs.length:=by omega
   refine Goes ?_;repeat' first|apply W2.m|refine W1.m fun h=>?_
   refine FinOk.pure rfl rfl rfl ⟨?_,rfl,rfl⟩
   rw [hcn,List.take_length]
end Go.Proofs.YtllhgcfacgiabaaGreat
