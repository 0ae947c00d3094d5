import Derived.Test.YtllhgcfacgiabaaGreatB1
import Derived.Test.YtllhgcfacgiabaaGreatR12
import Derived.Test.YtllhgcfacgiabaaGreatP74
namespace Go.Proofs.YtllhgcfacgiabaaGreat
open Go Go.Am Go.RowKit
set_option linter.unusedVariables false
set_option linter.unusedSimpArgs false
abbrev a2M (n:Nat) (b:B7):List AV:=[iv b.prev,iv b.time,iv b.bits,iv b.nonce,.own n b.txs.length]
abbrev a8J (n:Nat) (xs:List TxD):Nat × A2:=(n,.nest (c:=true) 133 3 (xs.map txT))
theorem Oh (b:B7) (n:Nat) (h:B4 b):Ret Tryz.prog 18 [Fy b] [] n true (Is (.agg (a2M n b)) [a8J n b.txs] (n + 1)):=by
 refine Ret.fn Ad Tryz.func18 rfl Tryz.call18 rfl rfl ?_
 refine Goes ?_
 refine Aa.is (a8H b.txs _ h.len h.txs) rfl ?_
 refine Goes ?_
 refine Ab.mk' [3] rfl rfl rfl rfl rfl rfl rfl ⟨?_,?_,rfl⟩
 · rfl
 · rfl
theorem Qf (p t b o:Int) (xs:List TxD) (i m n:Nat) (hl:xs.length<=1048576) (hp:Bn Cy xs<=1048576) (hm:m<=1000000000000) :
 Ret Tryz.prog 23 [.agg [iv p,iv t,iv b,iv o,.own i xs.length],iv m] [a8J i xs] n true (Is (iv (nTs m xs)) [a8J i (a8I m xs)] n):=by
 refine Ret.of_run (tt:=tt) Ad Tryz.func23 rfl Tryz.call23 [i] [.nest (c:=true) 133 3 (xs.map txT)] [.agg [iv p,iv t,iv b,iv o,.own 0 xs.length],iv m] true n _ rfl (Cj i) (by exact Nat.le_of_ble_eq_true rfl) rfl rfl ?_
 refine Goes ?_
 refine Aa.heapIs (Vs xs 0 m _ hl hp hm) rfl ktA rfl ?_
 refine Goes ?_
 refine Ab.mk' [] rfl rfl rfl rfl rfl rfl rfl ⟨?_,?_,rfl⟩
 · rfl
 · rfl
abbrev Ef (x:Bh):List AV:=[iv x.up,iv x.blk.prev,iv x.blk.time,iv x.blk.bits,iv x.blk.nonce,.tree 133 3 (x.blk.txs.map txT)]
theorem a2N (xs:List Bh):FzR 6 (xs.map Ef) (xs.map A4):=FzR.map (f:=Ef) (g:=A4) (fun _=>rfl) (fun x=>⟨.val _,.val _,.val _,.val _,.val _,Fz.treeOf (b1n _),trivial⟩) xs
theorem a2O (x:Bh):∀ c∈Ef x,inB c=true:=fun c hc=>by simp only [List.mem_cons,List.not_mem_nil,or_false] at hc; rcases hc with rfl | rfl | rfl | rfl | rfl | rfl <;> rfl
theorem Ze (xs:List Bh):∀ c∈(xs.map Ef).flatten,inB c=true:=Ph a2O xs
abbrev b0s:List AV:=[iv 0,iv 0,iv 0,iv 0,iv 0,nl]
abbrev Hw (n:Nat) (xs:List Bh):Nat × A2:=(n,.nest (c:=true) 103 6 (xs.map Ef))
theorem a6j (x:Bh) (n:Nat) (h:B4 x.blk):Ret Tryz.prog 108 [a1y x] [] n true (Is (.agg (iv x.up::a2M n x.blk)) [a8J n x.blk.txs] (n + 1)):=by
 refine Ret.fn Ad Tryz.func108 rfl Tryz.call108 rfl rfl ?_
 refine Goes ?_
 refine Aa.is (Oh x.blk _ h) rfl ?_
 refine Goes ?_
 refine Ab.mk' [3] rfl rfl rfl rfl rfl rfl rfl ⟨?_,?_,rfl⟩
 · rfl
 · rfl
theorem a4v (xs:List Bh) (n:Nat) (hl:xs.length<=1048576) (hx:∀ x∈xs,B4 x.blk):Ret Tryz.prog 57 [Fo xs] [] n true (Is (.own n xs.length) [Hw n xs] (n + 1)):=by
 have hL:(xs.map A4).length=xs.length:=by simp
 have hB:=Sw (f:=Ef) (z:=b0s) a2O (fun c hc=>by simp only [List.mem_cons,List.not_mem_nil,or_false] at hc; rcases hc with rfl | rfl | rfl | rfl | rfl | rfl <;> rfl) xs
 refine Ret.fn Ad Tryz.func57 rfl Tryz.call57 rfl rfl ?_
 refine Goes ?_
 rw [hL]
 refine ⟨⟨by omega,by omega,by omega,by show _ * 64<=_; omega⟩,?_⟩
 refine Goes ?_
 refine Ao.go (fun k:Nat=>k<=xs.length) (fun k=>⟨[(0,Fo xs),(3,.own 0 xs.length),(4,iv k)],[(0,.nest (c:=true) 103 6 (C4 Ef b0s xs k))],1⟩) (fun k=>xs.length - k) 0 (Nat.zero_le _) ?_ ?_
 · refine (Ac.nest 0 _ _ _ rfl).trans (Ac.of rfl rfl ktA ⟨⟨congrArg some (congrArg _ ?_),rfl,rfl⟩,trivial⟩)
   unfold C4; simp
 intro k hk
 have bh:=Ft Ef b0s xs k hk
 refine Goes ?_;repeat' first|apply W2.m|refine W1.m fun h=>?_
 · have aa:k < xs.length:=by omega
   rw [A1 A4 xs k aa]
   refine ⟨by rw [hL]; exact ⟨by omega,by omega,rfl⟩,?_⟩
   refine Goes ?_
   refine Aa.is (a6j xs[k] _ (hx _ (List.getElem_mem aa))) rfl ?_
   refine Goes ?_
   rw [Su (by omega) (by rw [N2 Ef _ xs k aa]; rfl)]
   refine ⟨k + 1,by omega,by omega,Ac.plantN 0 _ 6 k 5 1 _ 3 xs[k].blk.txs.length _ _ _ (iv xs[k].up::a2M 1 xs[k].blk) rfl rfl (by simp) ?_ rfl ?_ (hB (k + 1)) (Ux _) rfl ⟨⟨rfl,rfl,rfl⟩,⟨rfl,rfl,rfl⟩,⟨Aw Cm,rfl,rfl⟩,trivial⟩ trivial⟩
   · rw [List.getElem?_set_self (by omega)]; rfl
   · rw [List.set_set]
     exact (Ll Ef _ xs k aa).symm
 · obtain rfl:k=xs.length:=by omega
   rw [Fu]
   refine Ab.mk' [0] rfl rfl rfl rfl rfl rfl rfl ⟨?_,?_,rfl⟩
   · rfl
   · rfl
theorem Zf (t:Br) (n:Nat) (h:F8 t):Ret Tryz.prog 13 [C5 t] [] n true (Is (.agg [iv t.bits,.own n t.nodes.length]) [Hw n t.nodes] (n + 1)):=by
 refine Ret.fn Ad Tryz.func13 rfl Tryz.call13 rfl rfl ?_
 refine Goes ?_
 refine Aa.is (a4v t.nodes _ h.len h.nodes) rfl ?_
 refine Goes ?_
 refine Ab.mk' [3] rfl rfl rfl rfl rfl rfl rfl ⟨?_,?_,rfl⟩
 · rfl
 · rfl
def a2P (m:Nat) (x:Bh):Bh:=⟨(m:Int),⟨((m + 1:Nat):Int),((m + 2:Nat):Int),((m + 3:Nat):Int),((m + 4:Nat):Int),a8I (m + 5) x.blk.txs⟩⟩
def Zg (m:Nat) (x:Bh):Nat:=nTs (m + 5) x.blk.txs
theorem b0t (m:Nat) (x:Bh):Zg m x<=m + 5 + 2 * Cs x:=by
 have h:=b0r (m + 5) x.blk.txs
 unfold Zg Cs He
 omega
abbrev a4w:Nat->List Bh->List Bh:=mkL a2P Zg
abbrev nNs:Nat->List Bh->Nat:=nL Zg
theorem S5 (m:Nat) (xs:List Bh) (k:Nat) (hk:k<=xs.length):nNs m (xs.take k)<=m + 5 * xs.length + 2 * Bn Cs xs:=by
 have h1:nNs m (xs.take k)<=m + 5 * (xs.take k).length + 2 * Bn Cs (xs.take k):=b0q Cs 5 b0t _ m
 have h2:=H3 Cs xs k
 rw [List.length_take] at h1
 omega
set_option maxHeartbeats 4000000 in
theorem a0i (xs:List Bh) (i m n:Nat) (hl:xs.length<=1048576) (hp:Bn Cs xs<=1048576) (hm:m<=900000000000) :
 Ret Tryz.prog 66 [.own i xs.length,iv m] [Hw i xs] n true (Is (iv (nNs m xs)) [Hw i (a4w m xs)] n):=by
 refine Ret.of_run (tt:=tt) Ad Tryz.func66 rfl Tryz.call66 [i] [.nest (c:=true) 103 6 (xs.map Ef)] [.own 0 xs.length,iv m] true n _ rfl (Cj i) (by exact Nat.le_of_ble_eq_true rfl) rfl rfl ?_
 refine Goes ?_
 obtain ⟨R,hR⟩:∃ R:Nat->List (List AV),∀ k,R k=(Uy a2P Zg m xs k).map Ef:=⟨_,fun _=>rfl⟩
 obtain ⟨cn,aM⟩:∃ cn:Nat->Nat,∀ k,cn k=nNs m (xs.take k):=⟨_,fun _=>rfl⟩
 have cc:∀ k,∀ c∈(R k).flatten,inB c=true:=fun k=>by rw [hR]; exact Ze _
 have dE:∀ k,k<=xs.length->(R k).length=xs.length:=fun k hk=>by rw [hR,List.length_map,a4s m xs k hk]
 have dF:∀ k (h:k < xs.length),(R k)[k]?=some (Ef xs[k]):=fun k h=>by rw [hR,List.getElem?_map,a63 m xs k h]; rfl
 have a7:∀ k (h:k < xs.length),(R k).set k (Ef (a2P (cn k) xs[k]))=R (k + 1):=fun k h=>by rw [hR,hR,aM,setM Ef,a4t m xs k h]
 have au:∀ k,k<=xs.length->cn k<=m + 5 * xs.length + 2 * Bn Cs xs:=fun k hk=>by rw [aM]; exact S5 m xs k hk
 have bK:∀ k (h:k < xs.length),cn (k + 1)=Zg (cn k) xs[k]:=fun k h=>by rw [aM,aM]; exact Wh m xs k h
 have toT:∀ k:Nat,Ac [0] ⟨[(0,.own 0 xs.length),(1,iv (cn k)),(5,iv k)],[(0,.nest (c:=true) 103 6 (R k))],1⟩ (if h:k < xs.length then ⟨[(0,.own 0 xs.length),(1,iv (cn k)),(5,iv k)],[(0,.nest (c:=false) 103 6 ((R k).set k (iv xs[k].up::a2M 1 xs[k].blk))),(1,.nest (c:=true) 133 3 (xs[k].blk.txs.map txT))],2⟩ else ⟨[(0,.own 0 xs.length),(1,iv (cn k)),(5,iv k)],[(0,.nest (c:=true) 103 6 (R k))],1⟩):=fun k=>by
  by_cases h:k < xs.length
  · rw [dif_pos h]
    refine (Ac.liftN 0 _ 6 k 5 _ 3 (R k) (xs[k].blk.txs.map txT) (Ef xs[k]) rfl (dF k h) rfl).trans ?_
    rw [List.length_map]
    exact Ac.of rfl rfl ⟨⟨rfl,rfl⟩,⟨rfl,rfl⟩,⟨rfl,rfl⟩,trivial⟩ ⟨⟨rfl,rfl,Wa (cc k) rfl⟩,⟨rfl,rfl,rfl⟩,trivial⟩
  · rw [dif_neg h]; exact fun E a w _ hR=>hR
 have h0:m=cn 0:=by rw [aM]; rfl
 have dG:xs.map Ef=R 0:=by rw [hR,a1A]
 rw [dG]
 refine Ao.go (fun k:Nat=>k<=xs.length) (fun k=>if h:k < xs.length then ⟨[(0,.own 0 xs.length),(1,iv (cn k)),(5,iv k)],[(0,.nest (c:=false) 103 6 ((R k).set k (iv xs[k].up::a2M 1 xs[k].blk))),(1,.nest (c:=true) 133 3 (xs[k].blk.txs.map txT))],2⟩ else ⟨[(0,.own 0 xs.length),(1,iv (cn k)),(5,iv k)],[(0,.nest (c:=true) 103 6 (R k))],1⟩) (fun k=>xs.length - k) 0 (Nat.zero_le _) (Ac.trans ?_ (toT 0)) ?_
 · exact Ac.of rfl rfl ⟨⟨rfl,rfl⟩,⟨Aw (by rw [h0]),rfl⟩,⟨rfl,rfl⟩,trivial⟩ ⟨⟨rfl,rfl,rfl⟩,trivial⟩
 intro k hk
 by_cases aa:k < xs.length
 · rw [dif_pos aa]
   have hb:=au k hk
   have bu:=au (k + 1) aa
   have ak:=bK k aa
   have cP:=dE k hk
   have co:=Ew Cs xs xs[k] (List.getElem_mem aa)
   simp only [Cs,He] at co
   have w:∀ j:Nat,j<=8->IntKind.i64.wrap (((cn k + j:Nat):Int) + 1)=((cn k + (j + 1):Nat):Int):=fun j hj=>by rw [IntWalk.i64_in _ (by omega)]; omega
   have w0:IntKind.i64.wrap ((cn k:Int) + 1)=((cn k + 1:Nat):Int):=w 0 (by omega)
   conv=>whnf
   repeat' first | ((first | refine Bt.dec (fun h=>?_) (fun h=>?_) | refine Bt.ndec (fun h=>?_) (fun h=>?_)) <;> first | (exfalso; first | omega | exact h (by assumption) | exact absurd h (by assumption)) | (conv=>whnf)) | (refine And.intro (by first | decide | omega) ?_; first | (refine Aq (fun K hK=>?_); conv=>whnf) | (conv=>whnf)) | fail
   refine ⟨by rw [List.length_set]; omega,?_⟩
   rw [Lp (by omega) (row':=[iv (cn k),iv xs[k].blk.prev,iv xs[k].blk.time,iv xs[k].blk.bits,iv xs[k].blk.nonce,.own 1 xs[k].blk.txs.length]) rfl]
   try refine Aq (fun K hK=>?_)
   conv=>whnf
   repeat' first | (refine Kc.use (by assumption) ?_; conv=>whnf) | (refine And.intro (by first | decide | omega) ?_; first | (refine Aq (fun K hK=>?_); conv=>whnf) | (conv=>whnf)) | fail
   rw [w0]
   refine ⟨by rw [List.length_set]; omega,?_⟩
   rw [Lp (by omega) (row':=[iv (cn k),iv ((cn k + 1:Nat):Int),iv xs[k].blk.time,iv xs[k].blk.bits,iv xs[k].blk.nonce,.own 1 xs[k].blk.txs.length]) rfl]
   try refine Aq (fun K hK=>?_)
   conv=>whnf
   repeat' first | (refine Kc.use (by assumption) ?_; conv=>whnf) | (refine And.intro (by first | decide | omega) ?_; first | (refine Aq (fun K hK=>?_); conv=>whnf) | (conv=>whnf)) | fail
   rw [w 1 (by omega)]
   refine ⟨by rw [List.length_set]; omega,?_⟩
   rw [Lp (by omega) (row':=[iv (cn k),iv ((cn k + 1:Nat):Int),iv ((cn k + 2:Nat):Int),iv xs[k].blk.bits,iv xs[k].blk.nonce,.own 1 xs[k].blk.txs.length]) rfl]
   try refine Aq (fun K hK=>?_)
   conv=>whnf
   repeat' first | (refine Kc.use (by assumption) ?_; conv=>whnf) | (refine And.intro (by first | decide | omega) ?_; first | (refine Aq (fun K hK=>?_); conv=>whnf) | (conv=>whnf)) | fail
   rw [w 2 (by omega)]
   refine ⟨by rw [List.length_set]; omega,?_⟩
   rw [Lp (by omega) (row':=[iv (cn k),iv ((cn k + 1:Nat):Int),iv ((cn k + 2:Nat):Int),iv ((cn k + 3:Nat):Int),iv xs[k].blk.nonce,.own 1 xs[k].blk.txs.length]) rfl]
   try refine Aq (fun K hK=>?_)
   conv=>whnf
   repeat' first | (refine Kc.use (by assumption) ?_; conv=>whnf) | (refine And.intro (by first | decide | omega) ?_; first | (refine Aq (fun K hK=>?_); conv=>whnf) | (conv=>whnf)) | fail
   rw [w 3 (by omega)]
   refine ⟨by rw [List.length_set]; omega,?_⟩
   rw [Lp (by omega) (row':=[iv (cn k),iv ((cn k + 1:Nat):Int),iv ((cn k + 2:Nat):Int),iv ((cn k + 3:Nat):Int),iv ((cn k + 4:Nat):Int),.own 1 xs[k].blk.txs.length]) rfl]
   try refine Aq (fun K hK=>?_)
   conv=>whnf
   repeat' first | (refine Kc.use (by assumption) ?_; conv=>whnf) | (refine And.intro (by first | decide | omega) ?_; first | (refine Aq (fun K hK=>?_); conv=>whnf) | (conv=>whnf)) | fail
   rw [w 4 (by omega),Ss (by omega)]
   refine ⟨⟨by rw [List.length_set]; omega,rfl⟩,?_⟩
   try refine Aq (fun K hK=>?_)
   conv=>whnf
   refine Aa.heapIs (Vs xs[k].blk.txs 1 (cn k + 5) 2 (by omega) (by omega) (by omega)) rfl ktA rfl ?_
   conv=>whnf
   repeat' first | (refine Kc.use (by assumption) ?_; conv=>whnf) | fail
   refine ⟨k + 1,by omega,by omega,Ac.trans ?_ (toT (k + 1))⟩
   refine Ac.plantN 0 _ 6 k 5 1 _ 3 xs[k].blk.txs.length _ _ _ [iv (cn k),iv ((cn k + 1:Nat):Int),iv ((cn k + 2:Nat):Int),iv ((cn k + 3:Nat):Int),iv ((cn k + 4:Nat):Int),.own 1 xs[k].blk.txs.length] rfl rfl (by simp [D5]) ?_ rfl ?_ (cc (k + 1)) (Ux _) rfl ⟨⟨rfl,rfl,rfl⟩,⟨Aw (by rw [ak]; rfl),rfl,rfl⟩,⟨Aw Cm,rfl,rfl⟩,trivial⟩ trivial
   · rw [List.getElem?_set_self (by omega)]
   · rw [List.set_set]
     exact (a7 k aa).symm
 · rw [dif_neg aa]
   obtain rfl:k=xs.length:=by omega
   refine Goes ?_;repeat' first|apply W2.m|refine W1.m fun h=>?_
   refine Ab.mk' [] rfl rfl rfl rfl rfl rfl rfl ⟨?_,?_,rfl⟩
   · rw [aM,List.take_length]; rfl
   · rw [hR,a4r]; rfl
theorem a2Q (xs:List Bh) (m n:Nat) (hl:xs.length<=1048576) (hp:Bn Cs xs<=1048576) (hm:m<=900000000000):Ret Tryz.prog 124 [Fo (a4w m xs),iv m] [] n true (Is (iv (nNs m xs)) [] n):=by
 obtain ⟨ys,bL⟩:∃ ys,ys=a4w m xs:=⟨_,rfl⟩
 have fe:ys.length=xs.length:=by rw [bL,D5]
 have hL:(ys.map A4).length=xs.length:=by simp [fe]
 obtain ⟨cn,aM⟩:∃ cn:Nat->Nat,∀ k,cn k=nNs m (xs.take k):=⟨_,fun _=>rfl⟩
 have au:∀ k,k<=xs.length->cn k<=m + 5 * xs.length + 2 * Bn Cs xs:=fun k hk=>by rw [aM]; exact S5 m xs k hk
 have bK:∀ k (h:k < xs.length),cn (k + 1)=Zg (cn k) xs[k]:=fun k h=>by rw [aM,aM]; exact Wh m xs k h
 have am:∀ k (h:k < xs.length),(ys.map A4).getD (Int.toNat (k:Int)) []=[iv (cn k),iv ((cn k + 1:Nat):Int),iv ((cn k + 2:Nat):Int),iv ((cn k + 3:Nat):Int),iv ((cn k + 4:Nat):Int),Im (a8I (cn k + 5) xs[k].blk.txs)]:=fun k h=>by
  subst bL
  rw [A1 A4 _ k (by rw [D5]; exact h),a6h xs m k h (by rw [D5]; exact h)]
  show A4 (a2P (nNs m (xs.take k)) xs[k])=_
  rw [<- aM]
  rfl
 rw [<- bL]
 have h0:m=cn 0:=by rw [aM]; rfl
 refine Ret.fn Ad Tryz.func124 rfl Tryz.call124 rfl rfl ?_
 refine Goes ?_
 refine Ao.go (fun k:Nat=>k<=xs.length) (fun k=>⟨[(0,Fo ys),(1,iv (cn k)),(5,iv k)],[],0⟩) (fun k=>xs.length - k) 0 (Nat.zero_le _) ?_ ?_
 · exact Ac.of rfl rfl ⟨⟨rfl,rfl⟩,⟨Aw (by rw [h0]),rfl⟩,⟨rfl,rfl⟩,trivial⟩ trivial
 intro k hk
 have hb:=au k hk
 by_cases aa:k < xs.length
 · have bu:=au (k + 1) aa
   have ak:=bK k aa
   have co:=Ew Cs xs xs[k] (List.getElem_mem aa)
   simp only [Cs,He] at co
   have w:∀ j:Nat,j<=8->IntKind.i64.wrap (((cn k + j:Nat):Int) + 1)=((cn k + (j + 1):Nat):Int):=fun j hj=>by rw [IntWalk.i64_in _ (by omega)]; omega
   have w0:IntKind.i64.wrap ((cn k:Int) + 1)=((cn k + 1:Nat):Int):=w 0 (by omega)
   refine Goes ?_;repeat' first|apply W2.m|refine W1.m fun h=>?_
   rw [am k aa]
   refine ⟨by rw [hL]; exact ⟨by omega,by omega,rfl⟩,?_⟩
   refine Goes ?_;repeat' first|apply W2.m|refine W1.m fun h=>?_
   rw [w0,am k aa]
   refine ⟨by rw [hL]; exact ⟨by omega,by omega,rfl⟩,?_⟩
   refine Goes ?_;repeat' first|apply W2.m|refine W1.m fun h=>?_
   rw [w 1 (by omega),am k aa]
   refine ⟨by rw [hL]; exact ⟨by omega,by omega,rfl⟩,?_⟩
   refine Goes ?_;repeat' first|apply W2.m|refine W1.m fun h=>?_
   rw [w 2 (by omega),am k aa]
   refine ⟨by rw [hL]; exact ⟨by omega,by omega,rfl⟩,?_⟩
   refine Goes ?_;repeat' first|apply W2.m|refine W1.m fun h=>?_
   rw [w 3 (by omega),am k aa]
   refine ⟨by rw [hL]; exact ⟨by omega,by omega,rfl⟩,?_⟩
   refine Goes ?_;repeat' first|apply W2.m|refine W1.m fun h=>?_
   rw [w 4 (by omega),am k aa]
   refine ⟨by rw [hL]; exact ⟨by omega,by omega,rfl⟩,?_⟩
   refine Goes ?_
   refine Aa.is (a6i xs[k].blk.txs (cn k + 5) _ (by omega) (by omega) (by omega)) rfl ?_
   refine Goes ?_
   all_goals first
    | (exfalso; omega)
    | exact ⟨k + 1,by omega,by omega,Ac.of rfl rfl ⟨⟨rfl,rfl⟩,⟨Aw (by rw [ak]; rfl),rfl⟩,⟨Aw Cm,rfl⟩,trivial⟩ trivial⟩
 · obtain rfl:k=xs.length:=by omega
   refine Goes ?_;repeat' first|apply W2.m|refine W1.m fun h=>?_
   refine Ab.pure rfl rfl rfl ⟨?_,rfl,rfl⟩
   rw [aM,List.take_length]
end Go.Proofs.YtllhgcfacgiabaaGreat
namespace Go.Am
open Go.RowKit
theorem Ret.ownNil {P:Program} {f:FuncId} {args:List AV} {n e s:Nat} (hs:0 < s) {Q Q':AV->Hp->Nat->Prop} (hQ:∀ r ho m,Q r ho m->Q' r ho m∨(r=nl/\ho=[]/\m=n/\Q' (.own n 0) [(n,.list e s [])] (n + 1)))
 (h:Ret P f args [] n true Q):Ret P f args [] n true Q':=by
 refine ⟨h.enter,fun w ι A vs hC h1 h2 h3 h4=>Calls.mono (h.calls w ι A vs hC h1 h2 h3 h4) ?_⟩
 rintro e' w' ⟨v,r,ho,m,ι',S',rfl,hq,fu,ay,b8,hv,hu,bG,eh,eB,bl⟩
 rcases hQ _ _ _ hq with ac | ⟨rfl,rfl,rfl,ac⟩
 · exact ⟨v,r,ho,m,ι',S',rfl,ac,fu,ay,b8,hv,hu,bG,eh,eB,bl⟩
 have h0:∀ k:Key,ι' k=none:=fun k=>b8 k rfl
 have aX:∀ (k:Key) p,put ι' (m:Key) (some .nil) k=some p->k=(m:Key)/\p=.nil:=fun k p hp=>by
  by_cases ek:k=(m:Key)
  · subst ek; rw [As] at hp; cases hp; exact ⟨rfl,rfl⟩
  · rw [Dd _ _ ek,h0 k] at hp; cases hp
 refine ⟨v,.own m 0,[(m,.list e s [])],m + 1,put ι' (m:Key) (some .nil),S',rfl,ac,Nat.le_succ _,?_,fun k hk=>?_,?_,?_,fun id o ho=>?_,fun id hid=>absurd rfl hid,fun id hid=>?_,fun id o p ho=>by cases ho⟩
 · refine ⟨ay.frame,ay.sub,ay.lt,?_,?_,?_,?_,?_,fun id p hp=>(by cases hp),ay.fxs⟩
   · rintro b hb ⟨i,c,z,hm⟩; cases (aX _ _ hm).2
   · intro i g c z hm; cases (aX _ _ hm).2
   · intro i j g c d z r hm; cases (aX _ _ hm).2
   · intro i hi
     have aQ:m + 1<=i.id:=hi
     rw [Ci _ _ (by first | omega | (dsimp only; omega) | (dsimp only at *; omega))]; exact h0 i
   · intro id o ho
     rw [Aj] at ho
     split at ho
     · rename_i ei
       subst ei
       cases ho
       exact ⟨Nat.lt_succ_self _,trivial,.nil e s (As _ _ _) hs⟩
     · cases ho
 · rw [Aj] at hk
   split at hk
   · cases hk
   · rename_i aj
     rw [Ci _ _ (by first | omega | (dsimp only; omega) | (dsimp only at *; omega))]; exact h0 k
 · cases hv with
   | one hv=>cases hv with
     | cell hv=>cases hv with
       | rd hv=>cases hv with
         | val=>exact .one (.cell (.own0 m (As _ _ _)))
 · intro e0
   rw [Ae] at e0
   cases e0
 · rw [Aj] at ho
   split at ho
   · cases ho; trivial
   · cases ho
 · unfold inH at hid
   rw [Aj] at hid
   split at hid
   · rename_i ei; exact .inr (by omega)
   · exact absurd rfl hid
end Go.Am
namespace Go.Proofs.YtllhgcfacgiabaaGreat
open Go Go.Am Go.RowKit
set_option linter.unusedVariables false
set_option linter.unusedSimpArgs false
theorem Zh (zs:List Int) (n:Nat) (hl:zs.length<=1048576):Ret Tryz.prog 199 [il zs] [] n true (Is (.own n zs.length) [(n,.list 2 1 (ivs zs))] (n + 1)) :=
 Ret.ownNil (e:=2) (s:=1) (by decide) (by
  rintro r ho m (⟨rfl,rfl,rfl⟩ | ⟨rfl,rfl,rfl,rfl⟩)
  · exact .inl ⟨rfl,rfl,rfl⟩
  · exact .inr ⟨rfl,rfl,rfl,rfl,rfl,rfl⟩) (b0c zs n hl)
theorem a2R (xs:List InD) (n:Nat) (hl:xs.length<=1048576) (aj:xs≠[]):Ret Tryz.prog 197 [.lst (xs.map A3)] [] n true (Is (.own n xs.length) [(n,.list 201 3 (xs.map A3))] (n + 1)):=by
 have hL:(xs.map A3).length=xs.length:=by simp
 refine Ret.fn Ad Tryz.func197 rfl Tryz.call197 rfl rfl ?_
 refine Goes ?_
 refine ⟨by simpa using aj,?_⟩
 refine Goes ?_
 refine ⟨⟨Az,by rw [hL]; show _ * 40<=_; omega,by rw [hL]; unfold maxLen; omega,trivial,fun r hr=>by obtain ⟨x,_,rfl⟩:=List.mem_map.1 hr; rfl⟩,?_⟩
 refine Goes ?_
 refine Ab.mk' [0] rfl rfl rfl rfl rfl rfl rfl ⟨?_,?_,rfl⟩
 · exact R5 (by simp)
 · exact R6 (by simp)
theorem a4x (cap:Nat) (n:Nat):Ret Tryz.prog 197 [.val (.slice none 0 cap)] [] n true (Is nl [] n):=by
 refine Ret.fn Ad Tryz.func197 rfl Tryz.call197 rfl rfl ?_
 refine Goes ?_
 refine Ab.pure rfl rfl rfl ⟨?_,rfl,rfl⟩
 rfl
theorem a4y (a:Addr) (cap:Nat) (n:Nat):Ret Tryz.prog 197 [.val (.slice (some a) 0 cap)] [] n true (Is (.own n 0) [(n,.list 201 3 [])] (n + 1)):=by
 refine Ret.fn Ad Tryz.func197 rfl Tryz.call197 rfl rfl ?_
 refine Goes ?_
 refine Ab.mk' [0] rfl rfl rfl rfl rfl rfl rfl ⟨?_,?_,rfl⟩
 · rfl
 · rfl
theorem a4z (xs:List InD) (n:Nat) (hl:xs.length<=1048576):Ret Tryz.prog 197 [.lst (xs.map A3)] [] n true (Is (.own n xs.length) [(n,.list 201 3 (xs.map A3))] (n + 1)):=by
 by_cases h:xs=[]
 · subst h
   refine Ret.emp fun a cap=>?_
   cases a with
   | none=>exact Ret.ownNil (e:=201) (s:=3) (by decide) (fun r ho m ⟨h1,h2,h3⟩=>.inr ⟨h1,h2,h3,rfl,rfl,rfl⟩) (a4x cap n)
   | some a=>exact a4y a cap n
 · exact a2R xs n hl h
theorem a0j (xs:List Cx) (n:Nat) (hl:xs.length<=1048576) (aj:xs≠[]):Ret Tryz.prog 198 [.lst (xs.map Ax)] [] n true (Is (.own n xs.length) [(n,.list 203 2 (xs.map Ax))] (n + 1)):=by
 have hL:(xs.map Ax).length=xs.length:=by simp
 refine Ret.fn Ad Tryz.func198 rfl Tryz.call198 rfl rfl ?_
 refine Goes ?_
 refine ⟨by simpa using aj,?_⟩
 refine Goes ?_
 refine ⟨⟨Az,by rw [hL]; show _ * 32<=_; omega,by rw [hL]; unfold maxLen; omega,trivial,fun r hr=>by obtain ⟨x,_,rfl⟩:=List.mem_map.1 hr; rfl⟩,?_⟩
 refine Goes ?_
 refine Ab.mk' [0] rfl rfl rfl rfl rfl rfl rfl ⟨?_,?_,rfl⟩
 · exact R5 (by simp)
 · exact R6 (by simp)
theorem a2S (cap:Nat) (n:Nat):Ret Tryz.prog 198 [.val (.slice none 0 cap)] [] n true (Is nl [] n):=by
 refine Ret.fn Ad Tryz.func198 rfl Tryz.call198 rfl rfl ?_
 refine Goes ?_
 refine Ab.pure rfl rfl rfl ⟨?_,rfl,rfl⟩
 rfl
theorem a2T (a:Addr) (cap:Nat) (n:Nat):Ret Tryz.prog 198 [.val (.slice (some a) 0 cap)] [] n true (Is (.own n 0) [(n,.list 203 2 [])] (n + 1)):=by
 refine Ret.fn Ad Tryz.func198 rfl Tryz.call198 rfl rfl ?_
 refine Goes ?_
 refine Ab.mk' [0] rfl rfl rfl rfl rfl rfl rfl ⟨?_,?_,rfl⟩
 · rfl
 · rfl
theorem a2U (xs:List Cx) (n:Nat) (hl:xs.length<=1048576):Ret Tryz.prog 198 [.lst (xs.map Ax)] [] n true (Is (.own n xs.length) [(n,.list 203 2 (xs.map Ax))] (n + 1)):=by
 by_cases h:xs=[]
 · subst h
   refine Ret.emp fun a cap=>?_
   cases a with
   | none=>exact Ret.ownNil (e:=203) (s:=2) (by decide) (fun r ho m ⟨h1,h2,h3⟩=>.inr ⟨h1,h2,h3,rfl,rfl,rfl⟩) (a2S cap n)
   | some a=>exact a2T a cap n
 · exact a0j xs n hl h
theorem a2V (xs:List TxD) (n:Nat) (hl:xs.length<=1048576) (aj:xs≠[]):Ret Tryz.prog 162 [.lst (xs.map txC)] [] n true (Is (.own n xs.length) [(n,.list 133 3 (xs.map txC))] (n + 1)):=by
 have hL:(xs.map txC).length=xs.length:=by simp
 refine Ret.fn Ad Tryz.func162 rfl Tryz.call162 rfl rfl ?_
 refine Goes ?_
 refine ⟨by simpa using aj,?_⟩
 refine Goes ?_
 refine ⟨⟨Az,by rw [hL]; show _ * 56<=_; omega,by rw [hL]; unfold maxLen; omega,trivial,fun r hr=>by obtain ⟨x,_,rfl⟩:=List.mem_map.1 hr; rfl⟩,?_⟩
 refine Goes ?_
 refine Ab.mk' [0] rfl rfl rfl rfl rfl rfl rfl ⟨?_,?_,rfl⟩
 · exact R5 (by simp)
 · exact R6 (by simp)
theorem a4A (cap:Nat) (n:Nat):Ret Tryz.prog 162 [.val (.slice none 0 cap)] [] n true (Is nl [] n):=by
 refine Ret.fn Ad Tryz.func162 rfl Tryz.call162 rfl rfl ?_
 refine Goes ?_
 refine Ab.pure rfl rfl rfl ⟨?_,rfl,rfl⟩
 rfl
theorem a4B (a:Addr) (cap:Nat) (n:Nat):Ret Tryz.prog 162 [.val (.slice (some a) 0 cap)] [] n true (Is (.own n 0) [(n,.list 133 3 [])] (n + 1)):=by
 refine Ret.fn Ad Tryz.func162 rfl Tryz.call162 rfl rfl ?_
 refine Goes ?_
 refine Ab.mk' [0] rfl rfl rfl rfl rfl rfl rfl ⟨?_,?_,rfl⟩
 · rfl
 · rfl
theorem a4C (xs:List TxD) (n:Nat) (hl:xs.length<=1048576):Ret Tryz.prog 162 [.lst (xs.map txC)] [] n true (Is (.own n xs.length) [(n,.list 133 3 (xs.map txC))] (n + 1)):=by
 by_cases h:xs=[]
 · subst h
   refine Ret.emp fun a cap=>?_
   cases a with
   | none=>exact Ret.ownNil (e:=133) (s:=3) (by decide) (fun r ho m ⟨h1,h2,h3⟩=>.inr ⟨h1,h2,h3,rfl,rfl,rfl⟩) (a4A cap n)
   | some a=>exact a4B a cap n
 · exact a2V xs n hl h
end Go.Proofs.YtllhgcfacgiabaaGreat
namespace Go.Proofs.YtllhgcfacgiabaaGreat
open Go Go.Am Go.RowKit
set_option linter.unusedVariables false
set_option linter.unusedSimpArgs false
def Lx {α:Type} (f g:α->List AV) (xs:List α) (k:Nat):List (List AV):=(xs.take k).map f++(xs.drop k).map g
section
variable {α:Type} {f g:α->List AV}
theorem Pr (xs:List α):Lx f g xs 0=xs.map g:=by simp [Lx]
theorem S6 (xs:List α):Lx f g xs xs.length=xs.map f:=by simp [Lx]
theorem S7 (xs:List α) (k:Nat) (h:k<=xs.length):(Lx f g xs k).length=xs.length:=by simp [Lx]; omega
theorem Wi (xs:List α) (k:Nat) (h:k < xs.length):(Lx f g xs k)[k]?=some (g xs[k]):=by
 rw [Lx,List.getElem?_append_right (by rw [List.length_map,List.length_take]; omega),List.length_map,List.length_take,List.getElem?_map,List.getElem?_drop,show k + (k - min k xs.length)=k by omega,List.getElem?_eq_getElem h]; rfl
theorem S8 (xs:List α) (k:Nat) (h:k < xs.length):(Lx f g xs k).set k (f xs[k])=Lx f g xs (k + 1):=by
 unfold Lx
 rw [Bo xs k h,List.map_append,List.set_append_right _ _ (by rw [List.length_map,List.length_take]; omega),List.length_map,List.length_take,show k - min k xs.length=0 by omega,List.drop_eq_getElem_cons h,List.map_cons,List.set_cons_zero,List.append_assoc]
 rfl
theorem S9 (hf:∀ x,∀ c∈f x,inB c=true) (hg:∀ x,∀ c∈g x,inB c=true) (xs:List α) (k:Nat):∀ c∈(Lx f g xs k).flatten,inB c=true:=by
 intro c hc
 obtain ⟨r,hr,aR⟩:=List.mem_flatten.1 hc
 rcases List.mem_append.1 hr with h | h
 · obtain ⟨x,_,rfl⟩:=List.mem_map.1 h; exact hf x c aR
 · obtain ⟨x,_,rfl⟩:=List.mem_map.1 h; exact hg x c aR
end
theorem a8K:∀ (xs:List InD) (k:Nat),∀ c∈(Lx inT A3 xs k).flatten,inB c=true :=
 S9 (fun x c hc=>by simp only [List.mem_cons,List.not_mem_nil,or_false] at hc; rcases hc with rfl | rfl | rfl <;> rfl) (fun x c hc=>by simp only [List.mem_cons,List.not_mem_nil,or_false] at hc; rcases hc with rfl | rfl | rfl <;> rfl)
theorem a6k:∀ (xs:List Cx) (k:Nat),∀ c∈(Lx outT Ax xs k).flatten,inB c=true :=
 S9 (fun x c hc=>by simp only [List.mem_cons,List.not_mem_nil,or_false] at hc; rcases hc with rfl | rfl <;> rfl) (fun x c hc=>by simp only [List.mem_cons,List.not_mem_nil,or_false] at hc; rcases hc with rfl | rfl <;> rfl)
theorem Vt {k n:Nat} (h:k < n):Int.toNat (k:Int) < n:=h
theorem Ta {α:Type} {l:List α} {k:Nat} {x:α} (h:l[k]?=some x):l.set k x=l:=by
 refine List.ext_getElem? fun i=>?_
 rw [List.getElem?_set]
 split
 · rename_i e
   subst e
   rw [h]
   simp [(List.getElem?_eq_some_iff.1 h).1]
 · rfl
theorem Wj {n e s:Nat} {R:List (List AV)} (h:∀ c∈R.flatten,inB c=true):ltO n (.nest (c:=false) e s R)=true:=by
 show (false||R.all fun r=>r.all (ltC n))=true
 rw [Bool.false_or]
 exact a6V h
set_option maxHeartbeats 2000000 in
theorem a6l (t:TxD) (n:Nat) (hF:Fits t):Ret Tryz.prog 163 [txV t] [] n true (Is (txO n t) (txH n t) (n + 2)):=by
 have hI:=hF.ins
 have hO:=hF.outs
 refine Ret.fn Ad Tryz.func163 rfl Tryz.call163 rfl rfl ?_
 refine Goes ?_
 repeat' first
  | (refine Aa.is (a4z t.2.1 _ hF.ins) rfl ?_
     refine Goes ?_)
  | (refine Aa.is (a2U t.2.2 _ hF.outs) rfl ?_
     refine Goes ?_)
 all_goals
  obtain ⟨R,hR⟩:∃ R:Nat->List (List AV),∀ k,R k=Lx inT A3 t.2.1 k:=⟨_,fun _=>rfl⟩
  have cc:∀ k,∀ c∈(R k).flatten,inB c=true:=fun k=>by rw [hR]; exact a8K _ _
  have dE:∀ k,k<=t.2.1.length->(R k).length=t.2.1.length:=fun k hk=>by rw [hR,S7 _ _ hk]
  have dF:∀ k (h:k < t.2.1.length),(R k).set k (A3 t.2.1[k])=R k:=fun k h=>by rw [hR]; exact Ta (Wi _ _ h)
  have a7:∀ k (h:k < t.2.1.length),(R k).set k (inT t.2.1[k])=R (k + 1):=fun k h=>by rw [hR,hR,S8 _ _ h]
  have toT:∀ k:Nat,Ac [] ⟨[(1,.pt 0 0 0),(2,.pt 1 0 0),(16,.own 2 t.2.1.length),(17,iv t.2.1.length),(18,iv k)],[(2,.nest (c:=true) 201 3 (R k)),(0,.box [iv t.1,.own 2 t.2.1.length,.own 3 t.2.2.length]),(1,.box [iv 0,nl,nl]),(3,.list 203 2 (t.2.2.map Ax))],4⟩ (if h:k < t.2.1.length then ⟨[(1,.pt 0 0 0),(2,.pt 1 0 0),(16,.own 2 t.2.1.length),(17,iv t.2.1.length),(18,iv k)],[(2,.nest (c:=false) 201 3 ((R k).set k (A3 t.2.1[k]))),(0,.box [iv t.1,.own 2 t.2.1.length,.own 3 t.2.2.length]),(1,.box [iv 0,nl,nl]),(3,.list 203 2 (t.2.2.map Ax))],4⟩ else ⟨[(1,.pt 0 0 0),(2,.pt 1 0 0),(16,.own 2 t.2.1.length),(17,iv t.2.1.length),(18,iv k)],[(2,.nest (c:=true) 201 3 (R k)),(0,.box [iv t.1,.own 2 t.2.1.length,.own 3 t.2.2.length]),(1,.box [iv 0,nl,nl]),(3,.list 203 2 (t.2.2.map Ax))],4⟩):=fun k=>by
   by_cases h:k < t.2.1.length
   · rw [dif_pos h,dF k h]; exact Ac.trans (Ac.openN 2 _ _ _ rfl (cc k)) (Ac.of rfl rfl ⟨⟨rfl,rfl⟩,⟨rfl,rfl⟩,⟨rfl,rfl⟩,⟨rfl,rfl⟩,⟨rfl,rfl⟩,trivial⟩ ⟨⟨rfl,rfl,Wj (cc k)⟩,⟨rfl,rfl,rfl⟩,⟨rfl,rfl,rfl⟩,⟨rfl,rfl,rfl⟩,trivial⟩)
   · rw [dif_neg h]; exact fun E a w _ hR=>hR
  have dG:t.2.1.map A3=R 0:=by rw [hR,Pr]
  rw [dG]
  refine Ao.go (fun k:Nat=>k<=t.2.1.length) (fun k=>if h:k < t.2.1.length then ⟨[(1,.pt 0 0 0),(2,.pt 1 0 0),(16,.own 2 t.2.1.length),(17,iv t.2.1.length),(18,iv k)],[(2,.nest (c:=false) 201 3 ((R k).set k (A3 t.2.1[k]))),(0,.box [iv t.1,.own 2 t.2.1.length,.own 3 t.2.2.length]),(1,.box [iv 0,nl,nl]),(3,.list 203 2 (t.2.2.map Ax))],4⟩ else ⟨[(1,.pt 0 0 0),(2,.pt 1 0 0),(16,.own 2 t.2.1.length),(17,iv t.2.1.length),(18,iv k)],[(2,.nest (c:=true) 201 3 (R k)),(0,.box [iv t.1,.own 2 t.2.1.length,.own 3 t.2.2.length]),(1,.box [iv 0,nl,nl]),(3,.list 203 2 (t.2.2.map Ax))],4⟩) (fun k=>t.2.1.length - k) 0 (Nat.zero_le _) (Ac.trans ?_ (toT 0)) ?_
  · first
     | exact Ac.trans (Ac.nest 2 _ _ _ rfl) (Ac.of rfl rfl ktA ktA)
     | exact Ac.trans (Ac.nest 3 _ _ _ rfl) (Ac.ren [0,1,3,2] rfl rfl ktA ktA)
  intro k hk
  by_cases aa:k < t.2.1.length
  · rw [dif_pos aa]
    have cP:=dE k hk
    conv=>whnf
    repeat' first | ((first | refine Bt.dec (fun h=>?_) (fun h=>?_) | refine Bt.ndec (fun h=>?_) (fun h=>?_)) <;> first | (exfalso; first | omega | exact h (by assumption) | exact absurd h (by assumption)) | (conv=>whnf)) | (refine And.intro (by first | decide | omega) ?_; first | (refine Aq (fun K hK=>?_); conv=>whnf) | (conv=>whnf)) | fail
    rw [Ss (by omega)]
    refine ⟨⟨by rw [List.length_set]; exact Vt (by omega),rfl⟩,?_⟩
    try refine Aq (fun K hK=>?_)
    conv=>whnf
    repeat' first | (refine Kc.use (by assumption) ?_; conv=>whnf) | fail
    refine Aa.is (Zh t.2.1[k].2.2 _ (hF.proofs _ (List.getElem_mem aa))) rfl ?_
    conv=>whnf
    repeat' first | (refine Pu.mk (by repeat' first | exact trivial | rfl | refine And.intro ?_ ?_) ?_; conv=>whnf) | (refine And.intro (by first | decide | omega) ?_; first | (refine Aq (fun K hK=>?_); conv=>whnf) | (conv=>whnf)) | fail
    refine ⟨by rw [List.length_set]; exact Vt (by omega),?_⟩
    rw [Lp (by omega) (row':=[iv t.2.1[k].1,iv t.2.1[k].2.1,.own 5 t.2.1[k].2.2.length]) rfl]
    try refine Aq (fun K hK=>?_)
    conv=>whnf
    repeat' first | (refine Pu.mk (by repeat' first | exact trivial | rfl | refine And.intro ?_ ?_) ?_; conv=>whnf) | fail
    refine ⟨k + 1,by omega,by omega,Ac.trans ?_ (toT (k + 1))⟩
    refine Ac.plant 2 _ 3 k 2 5 _ 1 t.2.1[k].2.2.length _ _ _ [iv t.2.1[k].1,iv t.2.1[k].2.1,.own 5 t.2.1[k].2.2.length] rfl rfl (by simp) ?_ rfl ?_ (cc (k + 1)) (Mw _) rfl ⟨⟨rfl,rfl,rfl⟩,⟨rfl,rfl,rfl⟩,⟨rfl,rfl,rfl⟩,⟨rfl,rfl,rfl⟩,⟨Aw Cm,rfl,rfl⟩,trivial⟩ ⟨⟨rfl,rfl⟩,⟨rfl,rfl⟩,⟨rfl,rfl⟩,trivial⟩
    · rw [List.getElem?_set_self (by omega)]
    · rw [List.set_set]
      exact (a7 k aa).symm
  · rw [dif_neg aa]
    obtain rfl:k=t.2.1.length:=by omega
    rw [hR,S6]
    clear hR cc dE dF a7 toT dG
    refine Goes ?_;repeat' first|apply W2.m|refine W1.m fun h=>?_
    obtain ⟨R2,hR⟩:∃ R:Nat->List (List AV),∀ k,R k=Lx outT Ax t.2.2 k:=⟨_,fun _=>rfl⟩
    have cc:∀ k,∀ c∈(R2 k).flatten,inB c=true:=fun k=>by rw [hR]; exact a6k _ _
    have dE:∀ k,k<=t.2.2.length->(R2 k).length=t.2.2.length:=fun k hk=>by rw [hR,S7 _ _ hk]
    have dF:∀ k (h:k < t.2.2.length),(R2 k).set k (Ax t.2.2[k])=R2 k:=fun k h=>by rw [hR]; exact Ta (Wi _ _ h)
    have a7:∀ k (h:k < t.2.2.length),(R2 k).set k (outT t.2.2[k])=R2 (k + 1):=fun k h=>by rw [hR,hR,S8 _ _ h]
    have toT:∀ k:Nat,Ac [] ⟨[(1,.pt 0 0 0),(2,.pt 1 0 0),(33,.own 3 t.2.2.length),(34,iv t.2.2.length),(35,iv k)],[(3,.nest (c:=true) 203 2 (R2 k)),(0,.box [iv t.1,.own 2 t.2.1.length,.own 3 t.2.2.length]),(1,.box [iv 0,nl,nl]),(2,.nest (c:=true) 201 3 (t.2.1.map inT))],4⟩ (if h:k < t.2.2.length then ⟨[(1,.pt 0 0 0),(2,.pt 1 0 0),(33,.own 3 t.2.2.length),(34,iv t.2.2.length),(35,iv k)],[(3,.nest (c:=false) 203 2 ((R2 k).set k (Ax t.2.2[k]))),(0,.box [iv t.1,.own 2 t.2.1.length,.own 3 t.2.2.length]),(1,.box [iv 0,nl,nl]),(2,.nest (c:=true) 201 3 (t.2.1.map inT))],4⟩ else ⟨[(1,.pt 0 0 0),(2,.pt 1 0 0),(33,.own 3 t.2.2.length),(34,iv t.2.2.length),(35,iv k)],[(3,.nest (c:=true) 203 2 (R2 k)),(0,.box [iv t.1,.own 2 t.2.1.length,.own 3 t.2.2.length]),(1,.box [iv 0,nl,nl]),(2,.nest (c:=true) 201 3 (t.2.1.map inT))],4⟩):=fun k=>by
     by_cases h:k < t.2.2.length
     · rw [dif_pos h,dF k h]; exact Ac.trans (Ac.openN 3 _ _ _ rfl (cc k)) (Ac.of rfl rfl ⟨⟨rfl,rfl⟩,⟨rfl,rfl⟩,⟨rfl,rfl⟩,⟨rfl,rfl⟩,⟨rfl,rfl⟩,trivial⟩ ⟨⟨rfl,rfl,Wj (cc k)⟩,⟨rfl,rfl,rfl⟩,⟨rfl,rfl,rfl⟩,⟨rfl,rfl,rfl⟩,trivial⟩)
     · rw [dif_neg h]; exact fun E a w _ hR=>hR
    have dG:t.2.2.map Ax=R2 0:=by rw [hR,Pr]
    rw [dG]
    refine Ao.go (fun k:Nat=>k<=t.2.2.length) (fun k=>if h:k < t.2.2.length then ⟨[(1,.pt 0 0 0),(2,.pt 1 0 0),(33,.own 3 t.2.2.length),(34,iv t.2.2.length),(35,iv k)],[(3,.nest (c:=false) 203 2 ((R2 k).set k (Ax t.2.2[k]))),(0,.box [iv t.1,.own 2 t.2.1.length,.own 3 t.2.2.length]),(1,.box [iv 0,nl,nl]),(2,.nest (c:=true) 201 3 (t.2.1.map inT))],4⟩ else ⟨[(1,.pt 0 0 0),(2,.pt 1 0 0),(33,.own 3 t.2.2.length),(34,iv t.2.2.length),(35,iv k)],[(3,.nest (c:=true) 203 2 (R2 k)),(0,.box [iv t.1,.own 2 t.2.1.length,.own 3 t.2.2.length]),(1,.box [iv 0,nl,nl]),(2,.nest (c:=true) 201 3 (t.2.1.map inT))],4⟩) (fun k=>t.2.2.length - k) 0 (Nat.zero_le _) (Ac.trans (Ac.trans (Ac.nest 3 _ _ _ rfl) (Ac.of rfl rfl ktA ktA)) (toT 0)) ?_
    intro k hk
    by_cases aa:k < t.2.2.length
    · rw [dif_pos aa]
      have cP:=dE k hk
      conv=>whnf
      repeat' first | ((first | refine Bt.dec (fun h=>?_) (fun h=>?_) | refine Bt.ndec (fun h=>?_) (fun h=>?_)) <;> first | (exfalso; first | omega | exact h (by assumption) | exact absurd h (by assumption)) | (conv=>whnf)) | (refine And.intro (by first | decide | omega) ?_; first | (refine Aq (fun K hK=>?_); conv=>whnf) | (conv=>whnf)) | fail
      rw [Ss (by omega)]
      refine ⟨⟨by rw [List.length_set]; exact Vt (by omega),rfl⟩,?_⟩
      try refine Aq (fun K hK=>?_)
      conv=>whnf
      repeat' first | (refine Kc.use (by assumption) ?_; conv=>whnf) | fail
      refine Aa.is (Zh t.2.2[k].2 _ (hF.locks _ (List.getElem_mem aa))) rfl ?_
      conv=>whnf
      repeat' first | (refine Pu.mk (by repeat' first | exact trivial | rfl | refine And.intro ?_ ?_) ?_; conv=>whnf) | (refine And.intro (by first | decide | omega) ?_; first | (refine Aq (fun K hK=>?_); conv=>whnf) | (conv=>whnf)) | fail
      refine ⟨by rw [List.length_set]; exact Vt (by omega),?_⟩
      rw [Lp (by omega) (row':=[iv t.2.2[k].1,.own 5 t.2.2[k].2.length]) rfl]
      try refine Aq (fun K hK=>?_)
      conv=>whnf
      repeat' first | (refine Pu.mk (by repeat' first | exact trivial | rfl | refine And.intro ?_ ?_) ?_; conv=>whnf) | fail
      refine ⟨k + 1,by omega,by omega,Ac.trans ?_ (toT (k + 1))⟩
      refine Ac.plant 3 _ 2 k 1 5 _ 1 t.2.2[k].2.length _ _ _ [iv t.2.2[k].1,.own 5 t.2.2[k].2.length] rfl rfl (by simp) ?_ rfl ?_ (cc (k + 1)) (Mw _) rfl ⟨⟨rfl,rfl,rfl⟩,⟨rfl,rfl,rfl⟩,⟨rfl,rfl,rfl⟩,⟨rfl,rfl,rfl⟩,⟨Aw Cm,rfl,rfl⟩,trivial⟩ ⟨⟨rfl,rfl⟩,⟨rfl,rfl⟩,⟨rfl,rfl⟩,trivial⟩
      · rw [List.getElem?_set_self (by omega)]
      · rw [List.set_set]
        exact (a7 k aa).symm
    · rw [dif_neg aa]
      obtain rfl:k=t.2.2.length:=by omega
      rw [hR,S6]
      refine Goes ?_;repeat' first|apply W2.m|refine W1.m fun h=>?_
      refine Ab.mk' [2,3] rfl rfl rfl rfl rfl rfl rfl ⟨?_,?_,rfl⟩
      · rfl
      · rfl
end Go.Proofs.YtllhgcfacgiabaaGreat
