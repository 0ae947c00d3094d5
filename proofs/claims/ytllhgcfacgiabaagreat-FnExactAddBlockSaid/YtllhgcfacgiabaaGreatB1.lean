import Derived.Test.YtllhgcfacgiabaaGreatP44
import Derived.Test.YtllhgcfacgiabaaGreatR2
namespace Go.Proofs.YtllhgcfacgiabaaGreat
open Go Go.Am Go.RowKit
set_option linter.unusedVariables false
set_option linter.unusedSimpArgs false
theorem a4p:∀ (xs:List InD) (m k:Nat) (h:k < xs.length) (h':k < (I1 m xs).length),(I1 m xs)[k]=((Hv m (xs.take k):Int),((Hv m (xs.take k) + 1:Nat):Int),marks (Hv m (xs.take k) + 2) xs[k].2.2.length)
 | x::r,m,0,_,_=>rfl
 | x::r,m,k + 1,h,_=>a4p r (m + 2 + x.2.2.length) k (by simpa using h) (by rw [Fv]; simpa using h)
theorem a1z:∀ (xs:List Cx) (m k:Nat) (h:k < xs.length) (h':k < (F1 m xs).length),(F1 m xs)[k]=((Hc m (xs.take k):Int),marks (Hc m (xs.take k) + 1) xs[k].2.length)
 | x::r,m,0,_,_=>rfl
 | x::r,m,k + 1,h,_=>a1z r (m + 1 + x.2.length) k (by simpa using h) (by rw [En]; simpa using h)
theorem a6g (xs:List InD) (m n:Nat) (hl:xs.length<=1048576) (hp:Bn pIn xs<=1048576) (hm:m<=1099000000000):Ret Tryz.prog 146 [Et (I1 m xs),iv m] [] n true (Is (iv (Hv m xs)) [] n):=by
 obtain ⟨ys,bL⟩:∃ ys,ys=I1 m xs:=⟨_,rfl⟩
 have fe:ys.length=xs.length:=by rw [bL,Fv]
 have hL:(ys.map A3).length=xs.length:=by simp [fe]
 obtain ⟨cn,aM⟩:∃ cn:Nat->Nat,∀ k,cn k=Hv m (xs.take k):=⟨_,fun _=>rfl⟩
 have au:∀ k,k<=xs.length->cn k<=m + 2 * xs.length + Bn pIn xs:=fun k hk=>by
  have h1:=Pq (xs.take k) m
  have h2:=H3 pIn xs k
  rw [List.length_take] at h1
  rw [aM]; omega
 have bK:∀ k (h:k < xs.length),cn (k + 1)=cn k + 2 + xs[k].2.2.length:=fun k h=>by rw [aM,aM,Bo xs k h,(Pp _ _ _).2]
 have ai:∀ k (h:k < xs.length) (h':k < ys.length),ys[k]=((cn k:Int),((cn k + 1:Nat):Int),marks (cn k + 2) xs[k].2.2.length):=fun k h h'=>by subst bL; rw [aM]; exact a4p xs m k h h'
 rw [<- bL]
 have h0:m=cn 0:=by rw [aM]; rfl
 refine Ret.fn Ad Tryz.func146 rfl Tryz.call146 rfl rfl ?_
 refine Goes ?_
 refine Ao.go (fun k:Nat=>k<=xs.length) (fun k=>⟨[(0,Et ys),(1,iv (cn k)),(5,iv k)],[],0⟩) (fun k=>xs.length - k) 0 (Nat.zero_le _) ?_ ?_
 · exact Ac.of rfl rfl ⟨⟨rfl,rfl⟩,⟨Aw (by rw [h0]),rfl⟩,⟨rfl,rfl⟩,trivial⟩ trivial
 intro k hk
 have hb:=au k hk
 refine Goes ?_;repeat' first|apply W2.m|refine W1.m fun h=>?_
 · have aa:k < xs.length:=by omega
   have bu:=au (k + 1) aa
   have ak:=bK k aa
   have co:=Ew pIn xs xs[k] (List.getElem_mem aa)
   have w1:IntKind.i64.wrap ((cn k:Int) + 1)=((cn k + 1:Nat):Int):=by rw [IntWalk.i64_in _ (by omega)]; omega
   have w2:IntKind.i64.wrap (((cn k + 1:Nat):Int) + 1)=((cn k + 2:Nat):Int):=by rw [IntWalk.i64_in _ (by omega)]; omega
   rw [A1 A3 ys k (by omega),ai k aa (by omega)]
   refine ⟨by rw [hL]; exact ⟨by omega,by omega,rfl⟩,?_⟩
   refine Goes ?_;repeat' first|apply W2.m|refine W1.m fun h=>?_
   rw [A1 A3 ys k (by omega),ai k aa (by omega)]
   refine ⟨by rw [hL]; exact ⟨by omega,by omega,rfl⟩,?_⟩
   refine Goes ?_;repeat' first|apply W2.m|refine W1.m fun h=>?_
   · exact absurd w1.symm h
   rw [A1 A3 ys k (by omega),ai k aa (by omega)]
   refine ⟨by rw [hL]; exact ⟨by omega,by omega,rfl⟩,?_⟩
   refine Goes ?_
   rw [w1,w2]
   refine Aa.is (Qc xs[k].2.2.length (cn k + 2) _ (by simp only [pIn] at co; omega) (by omega)) rfl ?_
   refine Goes ?_
   exact ⟨k + 1,by omega,by omega,Ac.of rfl rfl ⟨⟨rfl,rfl⟩,⟨Aw (by rw [ak]),rfl⟩,⟨Aw Cm,rfl⟩,trivial⟩ trivial⟩
 · obtain rfl:k=xs.length:=by omega
   refine Ab.pure rfl rfl rfl ⟨?_,rfl,rfl⟩
   rw [aM,List.take_length]
theorem a4q (xs:List Cx) (m n:Nat) (hl:xs.length<=1048576) (hp:Bn Je xs<=1048576) (hm:m<=1099000000000):Ret Tryz.prog 147 [Dh (F1 m xs),iv m] [] n true (Is (iv (Hc m xs)) [] n):=by
 obtain ⟨ys,bL⟩:∃ ys,ys=F1 m xs:=⟨_,rfl⟩
 have fe:ys.length=xs.length:=by rw [bL,En]
 have hL:(ys.map Ax).length=xs.length:=by simp [fe]
 obtain ⟨cn,aM⟩:∃ cn:Nat->Nat,∀ k,cn k=Hc m (xs.take k):=⟨_,fun _=>rfl⟩
 have au:∀ k,k<=xs.length->cn k<=m + xs.length + Bn Je xs:=fun k hk=>by
  have h1:=S4 (xs.take k) m
  have h2:=H3 Je xs k
  rw [List.length_take] at h1
  rw [aM]; omega
 have bK:∀ k (h:k < xs.length),cn (k + 1)=cn k + 1 + xs[k].2.length:=fun k h=>by rw [aM,aM,Bo xs k h,(M3 _ _ _).2]
 have ai:∀ k (h:k < xs.length) (h':k < ys.length),ys[k]=((cn k:Int),marks (cn k + 1) xs[k].2.length):=fun k h h'=>by subst bL; rw [aM]; exact a1z xs m k h h'
 rw [<- bL]
 have h0:m=cn 0:=by rw [aM]; rfl
 refine Ret.fn Ad Tryz.func147 rfl Tryz.call147 rfl rfl ?_
 refine Goes ?_
 refine Ao.go (fun k:Nat=>k<=xs.length) (fun k=>⟨[(0,Dh ys),(1,iv (cn k)),(5,iv k)],[],0⟩) (fun k=>xs.length - k) 0 (Nat.zero_le _) ?_ ?_
 · exact Ac.of rfl rfl ⟨⟨rfl,rfl⟩,⟨Aw (by rw [h0]),rfl⟩,⟨rfl,rfl⟩,trivial⟩ trivial
 intro k hk
 have hb:=au k hk
 refine Goes ?_;repeat' first|apply W2.m|refine W1.m fun h=>?_
 · have aa:k < xs.length:=by omega
   have bu:=au (k + 1) aa
   have ak:=bK k aa
   have co:=Ew Je xs xs[k] (List.getElem_mem aa)
   have w1:IntKind.i64.wrap ((cn k:Int) + 1)=((cn k + 1:Nat):Int):=by rw [IntWalk.i64_in _ (by omega)]; omega
   rw [A1 Ax ys k (by omega),ai k aa (by omega)]
   refine ⟨by rw [hL]; exact ⟨by omega,by omega,rfl⟩,?_⟩
   refine Goes ?_;repeat' first|apply W2.m|refine W1.m fun h=>?_
   rw [A1 Ax ys k (by omega),ai k aa (by omega)]
   refine ⟨by rw [hL]; exact ⟨by omega,by omega,rfl⟩,?_⟩
   refine Goes ?_
   rw [w1]
   refine Aa.is (Qc xs[k].2.length (cn k + 1) _ (by simp only [Je] at co; omega) (by omega)) rfl ?_
   refine Goes ?_
   exact ⟨k + 1,by omega,by omega,Ac.of rfl rfl ⟨⟨rfl,rfl⟩,⟨Aw (by rw [ak]),rfl⟩,⟨Aw Cm,rfl⟩,trivial⟩ trivial⟩
 · obtain rfl:k=xs.length:=by omega
   refine Ab.pure rfl rfl rfl ⟨?_,rfl,rfl⟩
   rw [aM,List.take_length]
abbrev txT (t:TxD):List AV:=[iv t.1,.tree 201 3 (t.2.1.map inT),.tree 203 2 (t.2.2.map outT)]
theorem b1n (xs:List TxD):FzR 3 (xs.map txT) (xs.map txC):=FzR.map (f:=txT) (g:=txC) (fun _=>rfl) (fun x=>⟨.val _,Fz.treeOf (b2p _),Fz.treeOf (b16 _),trivial⟩) xs
theorem Ux (xs:List TxD):∀ c∈(xs.map txT).flatten,inB c=true:=Ph (fun x c hc=>by simp only [List.mem_cons,List.not_mem_nil,or_false] at hc; rcases hc with rfl | rfl | rfl <;> rfl) xs
theorem a8H (xs:List TxD) (n:Nat) (hl:xs.length<=1048576) (hx:∀ x∈xs,Fits x):Ret Tryz.prog 43 [Im xs] [] n true (Is (.own n xs.length) [(n,.nest (c:=true) 133 3 (xs.map txT))] (n + 1)):=by
 have hL:(xs.map txC).length=xs.length:=by simp
 have hB:=Sw (f:=txT) (z:=[iv 0,nl,nl]) (fun x c hc=>Ux [x] c (by simpa using hc)) (fun c hc=>by simp only [List.mem_cons,List.not_mem_nil,or_false] at hc; rcases hc with rfl | rfl | rfl <;> rfl) xs
 refine Ret.fn Ad Tryz.func43 rfl Tryz.call43 rfl rfl ?_
 refine Goes ?_
 rw [hL]
 refine ⟨⟨by omega,by omega,by omega,by show _ * 56<=_; omega⟩,?_⟩
 refine Goes ?_
 refine Ao.go (fun k:Nat=>k<=xs.length) (fun k=>⟨[(0,Im xs),(3,.own 0 xs.length),(4,iv k)],[(0,.nest (c:=true) 133 3 (C4 txT [iv 0,nl,nl] xs k))],1⟩) (fun k=>xs.length - k) 0 (Nat.zero_le _) ?_ ?_
 · refine (Ac.nest 0 _ _ _ rfl).trans (Ac.of rfl rfl ktA ⟨⟨congrArg some (congrArg _ ?_),rfl,rfl⟩,trivial⟩)
   unfold C4; simp
 intro k hk
 have bh:=Ft txT [iv 0,nl,nl] xs k hk
 refine Goes ?_;repeat' first|apply W2.m|refine W1.m fun h=>?_
 · have aa:k < xs.length:=by omega
   rw [A1 txC xs k aa]
   refine ⟨by rw [hL]; exact ⟨by omega,by omega,rfl⟩,?_⟩
   refine Goes ?_
   refine Aa.is (a98 xs[k] _ (hx _ (List.getElem_mem aa))) rfl ?_
   refine Goes ?_
   rw [Su (by omega) (by rw [N2 txT _ xs k aa]; rfl)]
   refine ⟨k + 1,by omega,by omega,Ac.plant2 0 _ 3 k 1 1 _ 3 2 2 _ 2 xs[k].2.1.length xs[k].2.2.length _ _ _ _ [iv xs[k].1,.own 1 xs[k].2.1.length,.own 2 xs[k].2.2.length] rfl rfl rfl (by simp) (by simp) ?_ rfl rfl ?_ (hB (k + 1)) (a3W _) (Yx _) rfl ⟨⟨rfl,rfl,rfl⟩,⟨rfl,rfl,rfl⟩,⟨Aw Cm,rfl,rfl⟩,trivial⟩ ⟨⟨rfl,rfl,rfl⟩,⟨rfl,rfl,rfl⟩,⟨Aw Cm,rfl,rfl⟩,trivial⟩ trivial trivial rfl⟩
   · rw [List.getElem?_set_self (by omega)]; rfl
   · rw [List.set_set]
     exact (Ll txT _ xs k aa).symm
 · obtain rfl:k=xs.length:=by omega
   rw [Fu]
   refine Ab.mk' [0] rfl rfl rfl rfl rfl rfl rfl ⟨?_,?_,rfl⟩
   · rfl
   · rfl
def mkL {α:Type} (f:Nat->α->α) (g:Nat->α->Nat):Nat->List α->List α
 | _,[]=>[]
 | m,x::r=>f m x::mkL f g (g m x) r
def nL {α:Type} (g:Nat->α->Nat):Nat->List α->Nat
 | m,[]=>m
 | m,x::r=>nL g (g m x) r
section
variable {α:Type} {f:Nat->α->α} {g:Nat->α->Nat}
theorem D5:∀ (l:List α) (m:Nat),(mkL f g m l).length=l.length
 | [],m=>rfl
 | x::r,m=>by simp [mkL,D5 r]
theorem a62:∀ (l:List α) (x:α) (m:Nat),mkL f g m (l++[x])=mkL f g m l++[f (nL g m l) x]/\nL g m (l++[x])=g (nL g m l) x
 | [],x,m=>⟨rfl,rfl⟩
 | y::r,x,m=>by
   obtain ⟨h1,h2⟩:=a62 r x (g m y)
   exact ⟨by simp only [List.cons_append,mkL,nL,h1],by simp only [List.cons_append,nL,h2]⟩
theorem a6h:∀ (xs:List α) (m k:Nat) (h:k < xs.length) (h':k < (mkL f g m xs).length),(mkL f g m xs)[k]=f (nL g m (xs.take k)) xs[k]
 | x::r,m,0,_,_=>rfl
 | x::r,m,k + 1,h,_=>a6h r (g m x) k (by simpa using h) (by rw [D5]; simpa using h)
def Uy (f:Nat->α->α) (g:Nat->α->Nat) (m:Nat) (xs:List α) (k:Nat):List α:=mkL f g m (xs.take k)++xs.drop k
theorem a1A (m:Nat) (xs:List α):Uy f g m xs 0=xs:=by simp [Uy,mkL]
theorem a4r (m:Nat) (xs:List α):Uy f g m xs xs.length=mkL f g m xs:=by simp [Uy]
theorem a4s (m:Nat) (xs:List α) (k:Nat) (h:k<=xs.length):(Uy f g m xs k).length=xs.length:=by simp [Uy,D5]; omega
theorem a63 (m:Nat) (xs:List α) (k:Nat) (h:k < xs.length):(Uy f g m xs k)[k]?=some xs[k]:=by
 rw [Uy,List.getElem?_append_right (by rw [D5,List.length_take]; omega),D5,List.length_take,List.getElem?_drop,show k + (k - min k xs.length)=k by omega,List.getElem?_eq_getElem h]
theorem a4t (m:Nat) (xs:List α) (k:Nat) (h:k < xs.length):(Uy f g m xs k).set k (f (nL g m (xs.take k)) xs[k])=Uy f g m xs (k + 1):=by
 unfold Uy
 rw [Bo xs k h,(a62 _ _ _).1,List.set_append_right _ _ (by rw [D5,List.length_take]; omega),D5,List.length_take,show k - min k xs.length=0 by omega,List.drop_eq_getElem_cons h,List.set_cons_zero,List.append_assoc]
 rfl
theorem b0p:∀ (l:List α) (x:α) (m:Nat),nL g m (l++[x])=g (nL g m l) x
 | [],x,m=>rfl
 | y::r,x,m=>b0p r x (g m y)
theorem Wh (m:Nat) (xs:List α) (k:Nat) (h:k < xs.length):nL g m (xs.take (k + 1))=g (nL g m (xs.take k)) xs[k]:=by
 rw [Bo xs k h,b0p]
theorem b0q (s:α->Nat) (c:Nat) (hg:∀ m x,g m x<=m + c + 2 * s x):∀ (xs:List α) (m:Nat),nL g m xs<=m + c * xs.length + 2 * Bn s xs
 | [],m=>by simp [nL,Bn]
 | x::r,m=>by
   have h1:=b0q s c hg r (g m x)
   have h2:=hg m x
   have h3:Bn s (x::r)=s x + Bn s r:=by simp [Bn]
   rw [nL,h3,List.length_cons,Nat.mul_add]
   omega
end
def mkT (m:Nat) (t:TxD):TxD:=((m:Int),I1 (m + 1) t.2.1,F1 (Hv (m + 1) t.2.1) t.2.2)
def nT (m:Nat) (t:TxD):Nat:=Hc (Hv (m + 1) t.2.1) t.2.2
theorem b2e (m:Nat) (t:TxD):nT m t<=m + 1 + 2 * Cy t:=by
 have h1:=Pq t.2.1 (m + 1)
 have h2:=S4 t.2.2 (Hv (m + 1) t.2.1)
 unfold nT Cy
 omega
abbrev a8I:Nat->List TxD->List TxD:=mkL mkT nT
abbrev nTs:Nat->List TxD->Nat:=nL nT
theorem b0r (m:Nat) (xs:List TxD):nTs m xs<=m + 1 * xs.length + 2 * Bn Cy xs:=b0q Cy 1 b2e xs m
theorem a4u (m:Nat) (xs:List TxD) (k:Nat) (hk:k<=xs.length):nTs m (xs.take k)<=m + xs.length + 2 * Bn Cy xs:=by
 have h1:=b0r m (xs.take k)
 have h2:=H3 Cy xs k
 rw [List.length_take] at h1
 omega
set_option maxHeartbeats 2000000 in
theorem Vs (xs:List TxD) (i m n:Nat) (hl:xs.length<=1048576) (hp:Bn Cy xs<=1048576) (hm:m<=1000000000000) :
 Ret Tryz.prog 47 [.own i xs.length,iv m] [(i,.nest (c:=true) 133 3 (xs.map txT))] n true (Is (iv (nTs m xs)) [(i,.nest (c:=true) 133 3 ((a8I m xs).map txT))] n):=by
 refine Ret.of_run (tt:=tt) Ad Tryz.func47 rfl Tryz.call47 [i] [.nest (c:=true) 133 3 (xs.map txT)] [.own 0 xs.length,iv m] true n _ rfl (Cj i) (by exact Nat.le_of_ble_eq_true rfl) rfl rfl ?_
 refine Goes ?_
 obtain ⟨R,hR⟩:∃ R:Nat->List (List AV),∀ k,R k=(Uy mkT nT m xs k).map txT:=⟨_,fun _=>rfl⟩
 obtain ⟨cn,aM⟩:∃ cn:Nat->Nat,∀ k,cn k=nTs m (xs.take k):=⟨_,fun _=>rfl⟩
 have cc:∀ k,∀ c∈(R k).flatten,inB c=true:=fun k=>by rw [hR]; exact Ux _
 have dE:∀ k,k<=xs.length->(R k).length=xs.length:=fun k hk=>by rw [hR,List.length_map,a4s m xs k hk]
 have dF:∀ k (h:k < xs.length),(R k)[k]?=some (txT xs[k]):=fun k h=>by rw [hR,List.getElem?_map,a63 m xs k h]; rfl
 have a7:∀ k (h:k < xs.length),(R k).set k (txT (mkT (cn k) xs[k]))=R (k + 1):=fun k h=>by rw [hR,hR,aM,setM txT,a4t m xs k h]
 have au:∀ k,k<=xs.length->cn k<=m + xs.length + 2 * Bn Cy xs:=fun k hk=>by rw [aM]; exact a4u m xs k hk
 have bK:∀ k (h:k < xs.length),cn (k + 1)=nT (cn k) xs[k]:=fun k h=>by rw [aM,aM]; exact Wh m xs k h
 have up:∀ k (h:k < xs.length),Ac [0] ⟨[(0,.own 0 xs.length),(1,iv (cn k)),(5,iv k)],[(0,.nest (c:=true) 133 3 (R k))],1⟩ ⟨[(0,.own 0 xs.length),(1,iv (cn k)),(5,iv k)],[(0,.nest (c:=false) 133 3 ((R k).set k [iv xs[k].1,.own 1 xs[k].2.1.length,.own 2 xs[k].2.2.length])),(1,.nest (c:=true) 201 3 (xs[k].2.1.map inT)),(2,.nest (c:=true) 203 2 (xs[k].2.2.map outT))],3⟩:=fun k h=>by
  refine (Ac.lift2 0 _ 3 k 1 _ 3 2 _ 2 (R k) (xs[k].2.1.map inT) (xs[k].2.2.map outT) (txT xs[k]) rfl (dF k h) rfl rfl rfl).trans ?_
  rw [List.length_map,List.length_map]
  exact Ac.of rfl rfl ⟨⟨rfl,rfl⟩,⟨rfl,rfl⟩,⟨rfl,rfl⟩,trivial⟩ ⟨⟨rfl,rfl,Wa (cc k) rfl⟩,⟨rfl,rfl,rfl⟩,⟨rfl,rfl,rfl⟩,trivial⟩
 have toT:∀ k,Ac [0] ⟨[(0,.own 0 xs.length),(1,iv (cn k)),(5,iv k)],[(0,.nest (c:=true) 133 3 (R k))],1⟩ (if h:k < xs.length then ⟨[(0,.own 0 xs.length),(1,iv (cn k)),(5,iv k)],[(0,.nest (c:=false) 133 3 ((R k).set k [iv xs[k].1,.own 1 xs[k].2.1.length,.own 2 xs[k].2.2.length])),(1,.nest (c:=true) 201 3 (xs[k].2.1.map inT)),(2,.nest (c:=true) 203 2 (xs[k].2.2.map outT))],3⟩ else ⟨[(0,.own 0 xs.length),(1,iv (cn k)),(5,iv k)],[(0,.nest (c:=true) 133 3 (R k))],1⟩):=fun k=>by
  by_cases h:k < xs.length
  · rw [dif_pos h]; exact up k h
  · rw [dif_neg h]; exact fun E a w _ hR=>hR
 have h0:m=cn 0:=by rw [aM]; rfl
 have dG:xs.map txT=R 0:=by rw [hR,a1A]
 rw [dG]
 refine Ao.go (fun k:Nat=>k<=xs.length) (fun k=>if h:k < xs.length then ⟨[(0,.own 0 xs.length),(1,iv (cn k)),(5,iv k)],[(0,.nest (c:=false) 133 3 ((R k).set k [iv xs[k].1,.own 1 xs[k].2.1.length,.own 2 xs[k].2.2.length])),(1,.nest (c:=true) 201 3 (xs[k].2.1.map inT)),(2,.nest (c:=true) 203 2 (xs[k].2.2.map outT))],3⟩ else ⟨[(0,.own 0 xs.length),(1,iv (cn k)),(5,iv k)],[(0,.nest (c:=true) 133 3 (R k))],1⟩) (fun k=>xs.length - k) 0 (Nat.zero_le _) (Ac.trans ?_ (toT 0)) ?_
 · exact Ac.of rfl rfl ⟨⟨rfl,rfl⟩,⟨Aw (by rw [h0]),rfl⟩,⟨rfl,rfl⟩,trivial⟩ ⟨⟨rfl,rfl,rfl⟩,trivial⟩
 intro k hk
 by_cases aa:k < xs.length
 · rw [dif_pos aa]
   have hb:=au k hk
   have bu:=au (k + 1) aa
   have ak:=bK k aa
   have cP:=dE k hk
   have co:=Ew Cy xs xs[k] (List.getElem_mem aa)
   have eO:=Pq xs[k].2.1 (cn k + 1)
   simp only [Cy] at co
   have w1:IntKind.i64.wrap ((cn k:Int) + 1)=((cn k + 1:Nat):Int):=by rw [IntWalk.i64_in _ (by omega)]; omega
   conv=>whnf
   repeat' first | ((first | refine Bt.dec (fun h=>?_) (fun h=>?_) | refine Bt.ndec (fun h=>?_) (fun h=>?_)) <;> first | (exfalso; first | omega | exact h (by assumption) | exact absurd h (by assumption)) | (conv=>whnf)) | (refine And.intro (by first | decide | omega) ?_; first | (refine Aq (fun K hK=>?_); conv=>whnf) | (conv=>whnf)) | fail
   refine ⟨by rw [List.length_set]; omega,?_⟩
   rw [Lp (by omega) (row':=[iv (cn k),.own 1 xs[k].2.1.length,.own 2 xs[k].2.2.length]) rfl]
   try refine Aq (fun K hK=>?_)
   conv=>whnf
   repeat' first | (refine Kc.use (by assumption) ?_; conv=>whnf) | (refine And.intro (by first | decide | omega) ?_; first | (refine Aq (fun K hK=>?_); conv=>whnf) | (conv=>whnf)) | fail
   rw [w1,Ss (by omega)]
   refine ⟨⟨by rw [List.length_set]; omega,rfl⟩,?_⟩
   try refine Aq (fun K hK=>?_)
   conv=>whnf
   refine Aa.heapIs (a4o xs[k].2.1 1 (cn k + 1) 3 (by omega) (by omega) (by omega)) rfl ktA rfl ?_
   conv=>whnf
   repeat' first | (refine Kc.use (by assumption) ?_; conv=>whnf) | (refine And.intro (by first | decide | omega) ?_; first | (refine Aq (fun K hK=>?_); conv=>whnf) | (conv=>whnf)) | fail
   rw [Ss (by omega)]
   refine ⟨⟨by rw [List.length_set]; omega,rfl⟩,?_⟩
   try refine Aq (fun K hK=>?_)
   conv=>whnf
   refine Aa.heapIs (a2L xs[k].2.2 2 (Hv (cn k + 1) xs[k].2.1) 3 (by omega) (by omega) (by omega)) rfl ktA rfl ?_
   conv=>whnf
   repeat' first | (refine Kc.use (by assumption) ?_; conv=>whnf) | fail
   refine ⟨k + 1,by omega,by omega,Ac.trans ?_ (toT (k + 1))⟩
   refine Ac.plant2 0 _ 3 k 1 1 _ 3 2 2 _ 2 xs[k].2.1.length xs[k].2.2.length _ _ _ _ [iv (cn k),.own 1 xs[k].2.1.length,.own 2 xs[k].2.2.length] rfl rfl rfl (by simp [Fv]) (by simp [En]) ?_ rfl rfl ?_ (cc (k + 1)) (a3W _) (Yx _) rfl ⟨⟨rfl,rfl,rfl⟩,⟨Aw (by rw [ak]; rfl),rfl,rfl⟩,⟨Aw Cm,rfl,rfl⟩,trivial⟩ ⟨⟨rfl,rfl,rfl⟩,⟨Aw (by rw [ak]; rfl),rfl,rfl⟩,⟨Aw Cm,rfl,rfl⟩,trivial⟩ trivial trivial rfl
   · rw [List.getElem?_set_self (by omega)]
   · rw [List.set_set]
     exact (a7 k aa).symm
 · rw [dif_neg aa]
   obtain rfl:k=xs.length:=by omega
   refine Goes ?_;repeat' first|apply W2.m|refine W1.m fun h=>?_
   refine Ab.mk' [] rfl rfl rfl rfl rfl rfl rfl ⟨?_,?_,rfl⟩
   · rw [aM,List.take_length]; rfl
   · rw [hR,a4r]; rfl
theorem a6i (xs:List TxD) (m n:Nat) (hl:xs.length<=1048576) (hp:Bn Cy xs<=1048576) (hm:m<=1000000000000):Ret Tryz.prog 96 [Im (a8I m xs),iv m] [] n true (Is (iv (nTs m xs)) [] n):=by
 obtain ⟨ys,bL⟩:∃ ys,ys=a8I m xs:=⟨_,rfl⟩
 have fe:ys.length=xs.length:=by rw [bL,D5]
 have hL:(ys.map txC).length=xs.length:=by simp [fe]
 obtain ⟨cn,aM⟩:∃ cn:Nat->Nat,∀ k,cn k=nTs m (xs.take k):=⟨_,fun _=>rfl⟩
 have au:∀ k,k<=xs.length->cn k<=m + xs.length + 2 * Bn Cy xs:=fun k hk=>by rw [aM]; exact a4u m xs k hk
 have bK:∀ k (h:k < xs.length),cn (k + 1)=nT (cn k) xs[k]:=fun k h=>by rw [aM,aM]; exact Wh m xs k h
 have am:∀ k (h:k < xs.length),(ys.map txC).getD (Int.toNat (k:Int)) []=[iv (cn k),Et (I1 (cn k + 1) xs[k].2.1),Dh (F1 (Hv (cn k + 1) xs[k].2.1) xs[k].2.2)]:=fun k h=>by
  subst bL
  rw [A1 txC _ k (by rw [D5]; exact h),a6h xs m k h (by rw [D5]; exact h)]
  show txC (mkT (nTs m (xs.take k)) xs[k])=_
  rw [<- aM]
  rfl
 rw [<- bL]
 have h0:m=cn 0:=by rw [aM]; rfl
 refine Ret.fn Ad Tryz.func96 rfl Tryz.call96 rfl rfl ?_
 refine Goes ?_
 refine Ao.go (fun k:Nat=>k<=xs.length) (fun k=>⟨[(0,Im ys),(1,iv (cn k)),(5,iv k)],[],0⟩) (fun k=>xs.length - k) 0 (Nat.zero_le _) ?_ ?_
 · exact Ac.of rfl rfl ⟨⟨rfl,rfl⟩,⟨Aw (by rw [h0]),rfl⟩,⟨rfl,rfl⟩,trivial⟩ trivial
 intro k hk
 have hb:=au k hk
 by_cases aa:k < xs.length
 · have bu:=au (k + 1) aa
   have ak:=bK k aa
   have co:=Ew Cy xs xs[k] (List.getElem_mem aa)
   have eO:=Pq xs[k].2.1 (cn k + 1)
   simp only [Cy] at co
   have w1:IntKind.i64.wrap ((cn k:Int) + 1)=((cn k + 1:Nat):Int):=by rw [IntWalk.i64_in _ (by omega)]; omega
   refine Goes ?_;repeat' first|apply W2.m|refine W1.m fun h=>?_
   rw [am k aa]
   refine ⟨by rw [hL]; exact ⟨by omega,by omega,rfl⟩,?_⟩
   refine Goes ?_;repeat' first|apply W2.m|refine W1.m fun h=>?_
   rw [w1,am k aa]
   refine ⟨by rw [hL]; exact ⟨by omega,by omega,rfl⟩,?_⟩
   refine Goes ?_
   refine Aa.is (a6g xs[k].2.1 (cn k + 1) _ (by omega) (by omega) (by omega)) rfl ?_
   refine Goes ?_
   all_goals first
    | (exfalso; omega)
    | skip
   rw [am k aa]
   refine ⟨by rw [hL]; exact ⟨by omega,by omega,rfl⟩,?_⟩
   refine Goes ?_
   refine Aa.is (a4q xs[k].2.2 (Hv (cn k + 1) xs[k].2.1) _ (by omega) (by omega) (by omega)) rfl ?_
   refine Goes ?_
   all_goals first
    | (exfalso; omega)
    | exact ⟨k + 1,by omega,by omega,Ac.of rfl rfl ⟨⟨rfl,rfl⟩,⟨Aw (by rw [ak]; rfl),rfl⟩,⟨Aw Cm,rfl⟩,trivial⟩ trivial⟩
 · obtain rfl:k=xs.length:=by omega
   refine Goes ?_;repeat' first|apply W2.m|refine W1.m fun h=>?_
   refine Ab.pure rfl rfl rfl ⟨?_,rfl,rfl⟩
   rw [aM,List.take_length]
end Go.Proofs.YtllhgcfacgiabaaGreat
