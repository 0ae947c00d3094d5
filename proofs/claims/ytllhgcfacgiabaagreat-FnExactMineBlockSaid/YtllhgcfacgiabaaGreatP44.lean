import Derived.Test.YtllhgcfacgiabaaGreatP43
namespace Go.Proofs.YtllhgcfacgiabaaGreat
open Go Go.Am Go.RowKit
set_option linter.unusedVariables false
set_option linter.unusedSimpArgs false
def mkIns (m:Nat):List InD→List InD
 | []=>[]
 | x::r=>((m:Int),((m + 1:Nat):Int),marks (m + 2) x.2.2.length)::mkIns (m + 2 + x.2.2.length) r
def nIns (m:Nat):List InD→Nat
 | []=>m
 | x::r=>nIns (m + 2 + x.2.2.length) r
theorem mkIns_len:∀ (l:List InD) (m:Nat),(mkIns m l).length=l.length
 | [],m=>rfl
 | x::r,m=>by simp [mkIns,mkIns_len r]
theorem mkIns_app:∀ (l:List InD) (x:InD) (m:Nat),mkIns m (l++[x])=mkIns m l++[((nIns m l:Int),((nIns m l + 1:Nat):Int),marks (nIns m l + 2) x.2.2.length)]∧nIns m (l++[x])=nIns m l + 2 + x.2.2.length
 | [],x,m=>⟨rfl,rfl⟩
 | y::r,x,m=>by
   obtain ⟨h1,h2⟩:=mkIns_app r x (m + 2 + y.2.2.length)
   exact ⟨by simp only [List.cons_append,mkIns,nIns,h1],by simp only [List.cons_append,nIns,h2]⟩
theorem nIns_eq:∀ (l:List InD) (m:Nat),nIns m l=m + 2 * l.length + psum pIn l
 | [],m=>by simp [nIns,psum]
 | x::r,m=>by
   rw [nIns,nIns_eq r]
   simp only [psum,List.map_cons,List.sum_cons,List.length_cons,pIn]
   omega
def mkP (m:Nat) (xs:List InD) (k:Nat):List InD:=mkIns m (xs.take k)++xs.drop k
theorem mkP_zero (m:Nat) (xs:List InD):mkP m xs 0=xs:=by simp [mkP,mkIns]
theorem mkP_all (m:Nat) (xs:List InD):mkP m xs xs.length=mkIns m xs:=by simp [mkP]
theorem mkP_len (m:Nat) (xs:List InD) (k:Nat) (h:k≤xs.length):(mkP m xs k).length=xs.length:=by simp [mkP,mkIns_len]; omega
theorem mkP_at (m:Nat) (xs:List InD) (k:Nat) (h:k < xs.length):(mkP m xs k)[k]?=some xs[k]:=by
 rw [mkP,List.getElem?_append_right (by rw [mkIns_len,List.length_take]; omega),mkIns_len,List.length_take,List.getElem?_drop,show k + (k - min k xs.length)=k by omega,List.getElem?_eq_getElem h]
theorem mkP_set (m:Nat) (xs:List InD) (k:Nat) (h:k < xs.length):(mkP m xs k).set k ((nIns m (xs.take k):Int),((nIns m (xs.take k) + 1:Nat):Int),marks (nIns m (xs.take k) + 2) xs[k].2.2.length)=mkP m xs (k + 1):=by
 unfold mkP
 rw [takeS xs k h,(mkIns_app _ _ _).1,List.set_append_right _ _ (by rw [mkIns_len,List.length_take]; omega),mkIns_len,List.length_take,show k - min k xs.length=0 by omega,List.drop_eq_getElem_cons h,List.set_cons_zero,List.append_assoc]
 rfl
theorem markInS_own (xs:List InD) (i m n:Nat) (hl:xs.length≤1048576) (hp:psum pIn xs≤1048576) (hm:m≤1099000000000) :
 Ret Tryz.prog 94 [.own i xs.length,iv m] [(i,.nest (c:=true) 201 3 (xs.map inT))] n true (Is (iv (nIns m xs)) [(i,.nest (c:=true) 201 3 ((mkIns m xs).map inT))] n):=by
 refine Ret.of_run (tt:=tt) ttOk Tryz.func94 rfl Tryz.call94 [i] [.nest (c:=true) 201 3 (xs.map inT)] [.own 0 xs.length,iv m] true n _ rfl (nodup1 i) (by exact Nat.le_of_ble_eq_true rfl) rfl rfl ?_
 refine Goes ?_;repeat' first|apply W2.m|refine W1.m fun h=>?_
 obtain ⟨R,hR⟩:∃ R:Nat→List (List AV),∀ k,R k=(mkP m xs k).map inT:=⟨_,fun _=>rfl⟩
 obtain ⟨cn,hcn⟩:∃ cn:Nat→Nat,∀ k,cn k=nIns m (xs.take k):=⟨_,fun _=>rfl⟩
 have hRB:∀ k,∀ c∈(R k).flatten,inB c=true:=fun k=>by rw [hR]; exact inBIn _
 have hRl:∀ k,k≤xs.length→(R k).length=xs.length:=fun k hk=>by rw [hR,List.length_map,mkP_len m xs k hk]
 have hRa:∀ k (h:k < xs.length),(R k)[k]?=some (inT xs[k]):=fun k h=>by rw [hR,List.getElem?_map,mkP_at m xs k h]; rfl
 have hRs:∀ k (h:k < xs.length),(R k).set k (inT ((cn k:Int),((cn k + 1:Nat):Int),marks (cn k + 2) xs[k].2.2.length))=R (k + 1):=fun k h=>by rw [hR,hR,hcn,setM inT,mkP_set m xs k h]
 have hcb:∀ k,k≤xs.length→cn k≤m + 2 * xs.length + psum pIn xs:=fun k hk=>by
  have h1:=nIns_eq (xs.take k) m
  have h2:=psum_le pIn xs k
  rw [List.length_take] at h1
  rw [hcn]; omega
 have hcs:∀ k (h:k < xs.length),cn (k + 1)=cn k + 2 + xs[k].2.2.length:=fun k h=>by rw [hcn,hcn,takeS xs k h,(mkIns_app _ _ _).2]
 have up:∀ k (h:k < xs.length),Weak [0] ⟨[(0,.own 0 xs.length),(1,iv (cn k)),(5,iv k)],[(0,.nest (c:=true) 201 3 (R k))],1⟩ ⟨[(0,.own 0 xs.length),(1,iv (cn k)),(5,iv k)],[(0,.nest (c:=false) 201 3 ((R k).set k [iv xs[k].1,iv xs[k].2.1,.own 1 xs[k].2.2.length])),(1,.list 2 1 (ivs xs[k].2.2))],2⟩:=fun k h=>by
  refine (Weak.lift 0 _ 3 k 2 _ 1 (R k) (ivs xs[k].2.2) (inT xs[k]) rfl (hRa k h) rfl (plIvs _) rfl).trans ?_
  rw [List.length_map]
  exact Weak.of rfl rfl ⟨⟨rfl,rfl⟩,⟨rfl,rfl⟩,⟨rfl,rfl⟩,trivial⟩ ⟨⟨rfl,rfl,ltO_set (hRB k) rfl⟩,⟨rfl,rfl,rfl⟩,trivial⟩
 have toT:∀ k,Weak [0] ⟨[(0,.own 0 xs.length),(1,iv (cn k)),(5,iv k)],[(0,.nest (c:=true) 201 3 (R k))],1⟩ (if h:k < xs.length then ⟨[(0,.own 0 xs.length),(1,iv (cn k)),(5,iv k)],[(0,.nest (c:=false) 201 3 ((R k).set k [iv xs[k].1,iv xs[k].2.1,.own 1 xs[k].2.2.length])),(1,.list 2 1 (ivs xs[k].2.2))],2⟩ else ⟨[(0,.own 0 xs.length),(1,iv (cn k)),(5,iv k)],[(0,.nest (c:=true) 201 3 (R k))],1⟩):=fun k=>by
  by_cases h:k < xs.length
  · rw [dif_pos h]; exact up k h
  · rw [dif_neg h]; exact fun E a w _ hR=>hR
 have h0:m=cn 0:=by rw [hcn]; rfl
 have hR0:xs.map inT=R 0:=by rw [hR,mkP_zero]
 rw [hR0]
 refine LoopP.go (fun k:Nat=>k≤xs.length) (fun k=>if h:k < xs.length then ⟨[(0,.own 0 xs.length),(1,iv (cn k)),(5,iv k)],[(0,.nest (c:=false) 201 3 ((R k).set k [iv xs[k].1,iv xs[k].2.1,.own 1 xs[k].2.2.length])),(1,.list 2 1 (ivs xs[k].2.2))],2⟩ else ⟨[(0,.own 0 xs.length),(1,iv (cn k)),(5,iv k)],[(0,.nest (c:=true) 201 3 (R k))],1⟩) (fun k=>xs.length - k) 0 (Nat.zero_le _) (Weak.trans ?_ (toT 0)) ?_
 · exact Weak.of rfl rfl ⟨⟨rfl,rfl⟩,⟨leafI (by rw [h0]),rfl⟩,⟨rfl,rfl⟩,trivial⟩ ⟨⟨rfl,rfl,rfl⟩,trivial⟩
 intro k hk
 by_cases hlt:k < xs.length
 · rw [dif_pos hlt]
   have hb:=hcb k hk
   have hb1:=hcb (k + 1) hlt
   have hst:=hcs k hlt
   have hRk:=hRl k hk
   have hps:=psum_mem pIn xs xs[k] (List.getElem_mem hlt)
   have w1:IntKind.i64.wrap ((cn k:Int) + 1)=((cn k + 1:Nat):Int):=by rw [IntWalk.i64_in _ (by omega)]; omega
   have w2:IntKind.i64.wrap (((cn k + 1:Nat):Int) + 1)=((cn k + 2:Nat):Int):=by rw [IntWalk.i64_in _ (by omega)]; omega
   conv=>whnf
   repeat' first
    | (refine AbsK.use (by assumption) ?_; conv=>whnf)
    | (refine CondP.yes ?_; conv=>whnf)
    | (refine CondP.not ?_; conv=>whnf)
    | ((first | refine CondP.dec (fun h=>?_) (fun h=>?_) | refine CondP.ndec (fun h=>?_) (fun h=>?_)) <;> first | (exfalso; first | omega | exact h (by assumption) | exact absurd h (by assumption)) | (conv=>whnf))
    | (refine Both.mk ?_ ?_ <;> (conv=>whnf))
    | (refine Keep.mk (by repeat' first | exact trivial | rfl | refine And.intro ?_ ?_) ?_; conv=>whnf)
    | (refine And.intro (by first | decide | omega) ?_; first | (refine runOps_abs (fun K hK=>?_); conv=>whnf) | (conv=>whnf))
    | fail
   refine ⟨by rw [List.length_set]; omega,?_⟩
   rw [setAt (by omega) (row':=[iv (cn k),iv xs[k].2.1,.own 1 xs[k].2.2.length]) rfl]
   try refine runOps_abs (fun K hK=>?_)
   conv=>whnf
   repeat' first
    | (refine AbsK.use (by assumption) ?_; conv=>whnf)
    | (refine CondP.yes ?_; conv=>whnf)
    | (refine CondP.not ?_; conv=>whnf)
    | ((first | refine CondP.dec (fun h=>?_) (fun h=>?_) | refine CondP.ndec (fun h=>?_) (fun h=>?_)) <;> first | (exfalso; first | omega | exact h (by assumption) | exact absurd h (by assumption)) | (conv=>whnf))
    | (refine Both.mk ?_ ?_ <;> (conv=>whnf))
    | (refine Keep.mk (by repeat' first | exact trivial | rfl | refine And.intro ?_ ?_) ?_; conv=>whnf)
    | (refine And.intro (by first | decide | omega) ?_; first | (refine runOps_abs (fun K hK=>?_); conv=>whnf) | (conv=>whnf))
    | fail
   rw [w1]
   refine ⟨by rw [List.length_set]; omega,?_⟩
   rw [setAt (by omega) (row':=[iv (cn k),iv ((cn k + 1:Nat):Int),.own 1 xs[k].2.2.length]) rfl]
   try refine runOps_abs (fun K hK=>?_)
   conv=>whnf
   repeat' first
    | (refine AbsK.use (by assumption) ?_; conv=>whnf)
    | (refine CondP.yes ?_; conv=>whnf)
    | (refine CondP.not ?_; conv=>whnf)
    | ((first | refine CondP.dec (fun h=>?_) (fun h=>?_) | refine CondP.ndec (fun h=>?_) (fun h=>?_)) <;> first | (exfalso; first | omega | exact h (by assumption) | exact absurd h (by assumption)) | (conv=>whnf))
    | (refine Both.mk ?_ ?_ <;> (conv=>whnf))
    | (refine Keep.mk (by repeat' first | exact trivial | rfl | refine And.intro ?_ ?_) ?_; conv=>whnf)
    | (refine And.intro (by first | decide | omega) ?_; first | (refine runOps_abs (fun K hK=>?_); conv=>whnf) | (conv=>whnf))
    | fail
   rw [w2,getAt (by omega)]
   refine ⟨⟨by rw [List.length_set]; omega,rfl⟩,?_⟩
   try refine runOps_abs (fun K hK=>?_)
   conv=>whnf
   repeat' first
    | (refine AbsK.use (by assumption) ?_; conv=>whnf)
    | (refine CondP.yes ?_; conv=>whnf)
    | (refine CondP.not ?_; conv=>whnf)
    | ((first | refine CondP.dec (fun h=>?_) (fun h=>?_) | refine CondP.ndec (fun h=>?_) (fun h=>?_)) <;> first | (exfalso; first | omega | exact h (by assumption) | exact absurd h (by assumption)) | (conv=>whnf))
    | (refine Both.mk ?_ ?_ <;> (conv=>whnf))
    | (refine Keep.mk (by repeat' first | exact trivial | rfl | refine And.intro ?_ ?_) ?_; conv=>whnf)
    | (refine And.intro (by first | decide | omega) ?_; first | (refine runOps_abs (fun K hK=>?_); conv=>whnf) | (conv=>whnf))
    | fail
   refine CallP.heapIs (markInt64S_ret xs[k].2.2 1 (cn k + 2) 2 (by simp only [pIn] at hps; omega) (by omega)) rfl ktA rfl ?_
   conv=>whnf
   repeat' first
    | (refine AbsK.use (by assumption) ?_; conv=>whnf)
    | (refine CondP.yes ?_; conv=>whnf)
    | (refine CondP.not ?_; conv=>whnf)
    | ((first | refine CondP.dec (fun h=>?_) (fun h=>?_) | refine CondP.ndec (fun h=>?_) (fun h=>?_)) <;> first | (exfalso; first | omega | exact h (by assumption) | exact absurd h (by assumption)) | (conv=>whnf))
    | (refine Both.mk ?_ ?_ <;> (conv=>whnf))
    | (refine Keep.mk (by repeat' first | exact trivial | rfl | refine And.intro ?_ ?_) ?_; conv=>whnf)
    | (refine And.intro (by first | decide | omega) ?_; first | (refine runOps_abs (fun K hK=>?_); conv=>whnf) | (conv=>whnf))
    | fail
   refine ⟨k + 1,by omega,by omega,Weak.trans ?_ (toT (k + 1))⟩
   refine Weak.plant 0 _ 3 k 2 1 _ 1 xs[k].2.2.length _ _ _ [iv (cn k),iv ((cn k + 1:Nat):Int),.own 1 xs[k].2.2.length] rfl rfl (by simp [marks_len]) ?_ rfl ?_ (hRB (k + 1)) (inBIvs _) rfl ⟨⟨rfl,rfl,rfl⟩,⟨leafI (by rw [hst]),rfl,rfl⟩,⟨leafI numA,rfl,rfl⟩,trivial⟩ trivial
   · rw [List.getElem?_set_self (by omega)]
   · rw [List.set_set]
     exact (hRs k hlt).symm
 · rw [dif_neg hlt]
   obtain rfl:k=xs.length:=by omega
   refine Goes ?_;repeat' first|apply W2.m|refine W1.m fun h=>?_
   refine FinOk.mk' [] rfl rfl rfl rfl rfl rfl rfl ⟨?_,?_,rfl⟩
   · rw [hcn,List.take_length]; rfl
   · rw [hR,mkP_all]; rfl
def mkOuts (m:Nat):List OutD→List OutD
 | []=>[]
 | x::r=>((m:Int),marks (m + 1) x.2.length)::mkOuts (m + 1 + x.2.length) r
def nOuts (m:Nat):List OutD→Nat
 | []=>m
 | x::r=>nOuts (m + 1 + x.2.length) r
theorem mkOuts_len:∀ (l:List OutD) (m:Nat),(mkOuts m l).length=l.length
 | [],m=>rfl
 | x::r,m=>by simp [mkOuts,mkOuts_len r]
theorem mkOuts_app:∀ (l:List OutD) (x:OutD) (m:Nat),mkOuts m (l++[x])=mkOuts m l++[((nOuts m l:Int),marks (nOuts m l + 1) x.2.length)]∧nOuts m (l++[x])=nOuts m l + 1 + x.2.length
 | [],x,m=>⟨rfl,rfl⟩
 | y::r,x,m=>by
   obtain ⟨h1,h2⟩:=mkOuts_app r x (m + 1 + y.2.length)
   exact ⟨by simp only [List.cons_append,mkOuts,nOuts,h1],by simp only [List.cons_append,nOuts,h2]⟩
theorem nOuts_eq:∀ (l:List OutD) (m:Nat),nOuts m l=m + l.length + psum pOut l
 | [],m=>by simp [nOuts,psum]
 | x::r,m=>by
   rw [nOuts,nOuts_eq r]
   simp only [psum,List.map_cons,List.sum_cons,List.length_cons,pOut]
   omega
def mkQ (m:Nat) (xs:List OutD) (k:Nat):List OutD:=mkOuts m (xs.take k)++xs.drop k
theorem mkQ_zero (m:Nat) (xs:List OutD):mkQ m xs 0=xs:=by simp [mkQ,mkOuts]
theorem mkQ_all (m:Nat) (xs:List OutD):mkQ m xs xs.length=mkOuts m xs:=by simp [mkQ]
theorem mkQ_len (m:Nat) (xs:List OutD) (k:Nat) (h:k≤xs.length):(mkQ m xs k).length=xs.length:=by simp [mkQ,mkOuts_len]; omega
theorem mkQ_at (m:Nat) (xs:List OutD) (k:Nat) (h:k < xs.length):(mkQ m xs k)[k]?=some xs[k]:=by
 rw [mkQ,List.getElem?_append_right (by rw [mkOuts_len,List.length_take]; omega),mkOuts_len,List.length_take,List.getElem?_drop,show k + (k - min k xs.length)=k by omega,List.getElem?_eq_getElem h]
theorem mkQ_set (m:Nat) (xs:List OutD) (k:Nat) (h:k < xs.length):(mkQ m xs k).set k ((nOuts m (xs.take k):Int),marks (nOuts m (xs.take k) + 1) xs[k].2.length)=mkQ m xs (k + 1):=by
 unfold mkQ
 rw [takeS xs k h,(mkOuts_app _ _ _).1,List.set_append_right _ _ (by rw [mkOuts_len,List.length_take]; omega),mkOuts_len,List.length_take,show k - min k xs.length=0 by omega,List.drop_eq_getElem_cons h,List.set_cons_zero,List.append_assoc]
 rfl
theorem markOutS_own (xs:List OutD) (i m n:Nat) (hl:xs.length≤1048576) (hp:psum pOut xs≤1048576) (hm:m≤1099000000000) :
 Ret Tryz.prog 95 [.own i xs.length,iv m] [(i,.nest (c:=true) 203 2 (xs.map outT))] n true (Is (iv (nOuts m xs)) [(i,.nest (c:=true) 203 2 ((mkOuts m xs).map outT))] n):=by
 refine Ret.of_run (tt:=tt) ttOk Tryz.func95 rfl Tryz.call95 [i] [.nest (c:=true) 203 2 (xs.map outT)] [.own 0 xs.length,iv m] true n _ rfl (nodup1 i) (by exact Nat.le_of_ble_eq_true rfl) rfl rfl ?_
 refine Goes ?_;repeat' first|apply W2.m|refine W1.m fun h=>?_
 obtain ⟨R,hR⟩:∃ R:Nat→List (List AV),∀ k,R k=(mkQ m xs k).map outT:=⟨_,fun _=>rfl⟩
 obtain ⟨cn,hcn⟩:∃ cn:Nat→Nat,∀ k,cn k=nOuts m (xs.take k):=⟨_,fun _=>rfl⟩
 have hRB:∀ k,∀ c∈(R k).flatten,inB c=true:=fun k=>by rw [hR]; exact inBOut _
 have hRl:∀ k,k≤xs.length→(R k).length=xs.length:=fun k hk=>by rw [hR,List.length_map,mkQ_len m xs k hk]
 have hRa:∀ k (h:k < xs.length),(R k)[k]?=some (outT xs[k]):=fun k h=>by rw [hR,List.getElem?_map,mkQ_at m xs k h]; rfl
 have hRs:∀ k (h:k < xs.length),(R k).set k (outT ((cn k:Int),marks (cn k + 1) xs[k].2.length))=R (k + 1):=fun k h=>by rw [hR,hR,hcn,setM outT,mkQ_set m xs k h]
 have hcb:∀ k,k≤xs.length→cn k≤m + xs.length + psum pOut xs:=fun k hk=>by
  have h1:=nOuts_eq (xs.take k) m
  have h2:=psum_le pOut xs k
  rw [List.length_take] at h1
  rw [hcn]; omega
 have hcs:∀ k (h:k < xs.length),cn (k + 1)=cn k + 1 + xs[k].2.length:=fun k h=>by rw [hcn,hcn,takeS xs k h,(mkOuts_app _ _ _).2]
 have up:∀ k (h:k < xs.length),Weak [0] ⟨[(0,.own 0 xs.length),(1,iv (cn k)),(5,iv k)],[(0,.nest (c:=true) 203 2 (R k))],1⟩ ⟨[(0,.own 0 xs.length),(1,iv (cn k)),(5,iv k)],[(0,.nest (c:=false) 203 2 ((R k).set k [iv xs[k].1,.own 1 xs[k].2.length])),(1,.list 2 1 (ivs xs[k].2))],2⟩:=fun k h=>by
  refine (Weak.lift 0 _ 2 k 1 _ 1 (R k) (ivs xs[k].2) (outT xs[k]) rfl (hRa k h) rfl (plIvs _) rfl).trans ?_
  rw [List.length_map]
  exact Weak.of rfl rfl ⟨⟨rfl,rfl⟩,⟨rfl,rfl⟩,⟨rfl,rfl⟩,trivial⟩ ⟨⟨rfl,rfl,ltO_set (hRB k) rfl⟩,⟨rfl,rfl,rfl⟩,trivial⟩
 have toT:∀ k,Weak [0] ⟨[(0,.own 0 xs.length),(1,iv (cn k)),(5,iv k)],[(0,.nest (c:=true) 203 2 (R k))],1⟩ (if h:k < xs.length then ⟨[(0,.own 0 xs.length),(1,iv (cn k)),(5,iv k)],[(0,.nest (c:=false) 203 2 ((R k).set k [iv xs[k].1,.own 1 xs[k].2.length])),(1,.list 2 1 (ivs xs[k].2))],2⟩ else ⟨[(0,.own 0 xs.length),(1,iv (cn k)),(5,iv k)],[(0,.nest (c:=true) 203 2 (R k))],1⟩):=fun k=>by
  by_cases h:k < xs.length
  · rw [dif_pos h]; exact up k h
  · rw [dif_neg h]; exact fun E a w _ hR=>hR
 have h0:m=cn 0:=by rw [hcn]; rfl
 have hR0:xs.map outT=R 0:=by rw [hR,mkQ_zero]
 rw [hR0]
 refine LoopP.go (fun k:Nat=>k≤xs.length) (fun k=>if h:k < xs.length then ⟨[(0,.own 0 xs.length),(1,iv (cn k)),(5,iv k)],[(0,.nest (c:=false) 203 2 ((R k).set k [iv xs[k].1,.own 1 xs[k].2.length])),(1,.list 2 1 (ivs xs[k].2))],2⟩ else ⟨[(0,.own 0 xs.length),(1,iv (cn k)),(5,iv k)],[(0,.nest (c:=true) 203 2 (R k))],1⟩) (fun k=>xs.length - k) 0 (Nat.zero_le _) (Weak.trans ?_ (toT 0)) ?_
 · exact Weak.of rfl rfl ⟨⟨rfl,rfl⟩,⟨leafI (by rw [h0]),rfl⟩,⟨rfl,rfl⟩,trivial⟩ ⟨⟨rfl,rfl,rfl⟩,trivial⟩
 intro k hk
 by_cases hlt:k < xs.length
 · rw [dif_pos hlt]
   have hb:=hcb k hk
   have hb1:=hcb (k + 1) hlt
   have hst:=hcs k hlt
   have hRk:=hRl k hk
   have hps:=psum_mem pOut xs xs[k] (List.getElem_mem hlt)
   have w1:IntKind.i64.wrap ((cn k:Int) + 1)=((cn k + 1:Nat):Int):=by rw [IntWalk.i64_in _ (by omega)]; omega
   conv=>whnf
   repeat' first
    | (refine AbsK.use (by assumption) ?_; conv=>whnf)
    | (refine CondP.yes ?_; conv=>whnf)
    | (refine CondP.not ?_; conv=>whnf)
    | ((first | refine CondP.dec (fun h=>?_) (fun h=>?_) | refine CondP.ndec (fun h=>?_) (fun h=>?_)) <;> first | (exfalso; first | omega | exact h (by assumption) | exact absurd h (by assumption)) | (conv=>whnf))
    | (refine Both.mk ?_ ?_ <;> (conv=>whnf))
    | (refine Keep.mk (by repeat' first | exact trivial | rfl | refine And.intro ?_ ?_) ?_; conv=>whnf)
    | (refine And.intro (by first | decide | omega) ?_; first | (refine runOps_abs (fun K hK=>?_); conv=>whnf) | (conv=>whnf))
    | fail
   refine ⟨by rw [List.length_set]; omega,?_⟩
   rw [setAt (by omega) (row':=[iv (cn k),.own 1 xs[k].2.length]) rfl]
   try refine runOps_abs (fun K hK=>?_)
   conv=>whnf
   repeat' first
    | (refine AbsK.use (by assumption) ?_; conv=>whnf)
    | (refine CondP.yes ?_; conv=>whnf)
    | (refine CondP.not ?_; conv=>whnf)
    | ((first | refine CondP.dec (fun h=>?_) (fun h=>?_) | refine CondP.ndec (fun h=>?_) (fun h=>?_)) <;> first | (exfalso; first | omega | exact h (by assumption) | exact absurd h (by assumption)) | (conv=>whnf))
    | (refine Both.mk ?_ ?_ <;> (conv=>whnf))
    | (refine Keep.mk (by repeat' first | exact trivial | rfl | refine And.intro ?_ ?_) ?_; conv=>whnf)
    | (refine And.intro (by first | decide | omega) ?_; first | (refine runOps_abs (fun K hK=>?_); conv=>whnf) | (conv=>whnf))
    | fail
   rw [w1,getAt (by omega)]
   refine ⟨⟨by rw [List.length_set]; omega,rfl⟩,?_⟩
   try refine runOps_abs (fun K hK=>?_)
   conv=>whnf
   repeat' first
    | (refine AbsK.use (by assumption) ?_; conv=>whnf)
    | (refine CondP.yes ?_; conv=>whnf)
    | (refine CondP.not ?_; conv=>whnf)
    | ((first | refine CondP.dec (fun h=>?_) (fun h=>?_) | refine CondP.ndec (fun h=>?_) (fun h=>?_)) <;> first | (exfalso; first | omega | exact h (by assumption) | exact absurd h (by assumption)) | (conv=>whnf))
    | (refine Both.mk ?_ ?_ <;> (conv=>whnf))
    | (refine Keep.mk (by repeat' first | exact trivial | rfl | refine And.intro ?_ ?_) ?_; conv=>whnf)
    | (refine And.intro (by first | decide | omega) ?_; first | (refine runOps_abs (fun K hK=>?_); conv=>whnf) | (conv=>whnf))
    | fail
   refine CallP.heapIs (markInt64S_ret xs[k].2 1 (cn k + 1) 2 (by simp only [pOut] at hps; omega) (by omega)) rfl ktA rfl ?_
   conv=>whnf
   repeat' first
    | (refine AbsK.use (by assumption) ?_; conv=>whnf)
    | (refine CondP.yes ?_; conv=>whnf)
    | (refine CondP.not ?_; conv=>whnf)
    | ((first | refine CondP.dec (fun h=>?_) (fun h=>?_) | refine CondP.ndec (fun h=>?_) (fun h=>?_)) <;> first | (exfalso; first | omega | exact h (by assumption) | exact absurd h (by assumption)) | (conv=>whnf))
    | (refine Both.mk ?_ ?_ <;> (conv=>whnf))
    | (refine Keep.mk (by repeat' first | exact trivial | rfl | refine And.intro ?_ ?_) ?_; conv=>whnf)
    | (refine And.intro (by first | decide | omega) ?_; first | (refine runOps_abs (fun K hK=>?_); conv=>whnf) | (conv=>whnf))
    | fail
   refine ⟨k + 1,by omega,by omega,Weak.trans ?_ (toT (k + 1))⟩
   refine Weak.plant 0 _ 2 k 1 1 _ 1 xs[k].2.length _ _ _ [iv (cn k),.own 1 xs[k].2.length] rfl rfl (by simp [marks_len]) ?_ rfl ?_ (hRB (k + 1)) (inBIvs _) rfl ⟨⟨rfl,rfl,rfl⟩,⟨leafI (by rw [hst]),rfl,rfl⟩,⟨leafI numA,rfl,rfl⟩,trivial⟩ trivial
   · rw [List.getElem?_set_self (by omega)]
   · rw [List.set_set]
     exact (hRs k hlt).symm
 · rw [dif_neg hlt]
   obtain rfl:k=xs.length:=by omega
   refine Goes ?_;repeat' first|apply W2.m|refine W1.m fun h=>?_
   refine FinOk.mk' [] rfl rfl rfl rfl rfl rfl rfl ⟨?_,?_,rfl⟩
   · rw [hcn,List.take_length]; rfl
   · rw [hR,mkQ_all]; rfl
end Go.Proofs.YtllhgcfacgiabaaGreat
