import Derived.Test.YtllhgcfacgiabaaGreatB4
import Derived.Test.YtllhgcfacgiabaaGreatR12
namespace Go.Proofs.YtllhgcfacgiabaaGreat
open Go Go.Am Go.RowKit
set_option linter.unusedVariables false
set_option linter.unusedSimpArgs false
theorem a8L:∀ (xs:List TxD) (k:Nat),∀ c∈(Lx txT txC xs k).flatten,inB c=true :=
 S9 (fun x c hc=>by simp only [List.mem_cons,List.not_mem_nil,or_false] at hc; rcases hc with rfl | rfl | rfl <;> rfl) (fun x c hc=>by simp only [List.mem_cons,List.not_mem_nil,or_false] at hc; rcases hc with rfl | rfl | rfl <;> rfl)
set_option maxHeartbeats 2000000 in
theorem a4D (xs:List TxD) (n:Nat) (hl:xs.length<=1048576) (hx:∀ x∈xs,Fits x):Ret Tryz.prog 123 [Im xs] [] n true (Is (.own n xs.length) [a8J n xs] (n + 1)):=by
 refine Ret.fn Ad Tryz.func123 rfl Tryz.call123 rfl rfl ?_
 refine Goes ?_
 refine Aa.is (a4C xs _ hl) rfl ?_
 refine Goes ?_
 obtain ⟨R,hR⟩:∃ R:Nat->List (List AV),∀ k,R k=Lx txT txC xs k:=⟨_,fun _=>rfl⟩
 have cc:∀ k,∀ c∈(R k).flatten,inB c=true:=fun k=>by rw [hR]; exact a8L _ _
 have dE:∀ k,k<=xs.length->(R k).length=xs.length:=fun k hk=>by rw [hR,S7 _ _ hk]
 have dF:∀ k (h:k < xs.length),(R k).set k (txC xs[k])=R k:=fun k h=>by rw [hR]; exact Ta (Wi _ _ h)
 have a7:∀ k (h:k < xs.length),(R k).set k (txT xs[k])=R (k + 1):=fun k h=>by rw [hR,hR,S8 _ _ h]
 have toT:∀ k:Nat,Ac [] ⟨[(0,.own 0 xs.length),(7,.own 0 xs.length),(8,iv xs.length),(9,iv k)],[(0,.nest (c:=true) 133 3 (R k))],1⟩ (if h:k < xs.length then ⟨[(0,.own 0 xs.length),(7,.own 0 xs.length),(8,iv xs.length),(9,iv k)],[(0,.nest (c:=false) 133 3 ((R k).set k (txC xs[k])))],1⟩ else ⟨[(0,.own 0 xs.length),(7,.own 0 xs.length),(8,iv xs.length),(9,iv k)],[(0,.nest (c:=true) 133 3 (R k))],1⟩):=fun k=>by
  by_cases h:k < xs.length
  · rw [dif_pos h,dF k h]; exact Ac.trans (Ac.openN 0 _ _ _ rfl (cc k)) (Ac.of rfl rfl ⟨⟨rfl,rfl⟩,⟨rfl,rfl⟩,⟨rfl,rfl⟩,⟨rfl,rfl⟩,trivial⟩ ⟨⟨rfl,rfl,Wj (cc k)⟩,trivial⟩)
  · rw [dif_neg h]; exact fun E a w _ hR=>hR
 have dG:xs.map txC=R 0:=by rw [hR,Pr]
 rw [dG]
 refine Ao.go (fun k:Nat=>k<=xs.length) (fun k=>if h:k < xs.length then ⟨[(0,.own 0 xs.length),(7,.own 0 xs.length),(8,iv xs.length),(9,iv k)],[(0,.nest (c:=false) 133 3 ((R k).set k (txC xs[k])))],1⟩ else ⟨[(0,.own 0 xs.length),(7,.own 0 xs.length),(8,iv xs.length),(9,iv k)],[(0,.nest (c:=true) 133 3 (R k))],1⟩) (fun k=>xs.length - k) 0 (Nat.zero_le _) (Ac.trans (Ac.trans (Ac.nest 0 _ _ _ rfl) (Ac.of rfl rfl ktA ktA)) (toT 0)) ?_
 intro k hk
 by_cases aa:k < xs.length
 · rw [dif_pos aa]
   have cP:=dE k hk
   conv=>whnf
   repeat' first | ((first | refine Bt.dec (fun h=>?_) (fun h=>?_) | refine Bt.ndec (fun h=>?_) (fun h=>?_)) <;> first | (exfalso; first | omega | exact h (by assumption) | exact absurd h (by assumption)) | (conv=>whnf)) | (refine And.intro (by first | decide | omega) ?_; first | (refine Aq (fun K hK=>?_); conv=>whnf) | (conv=>whnf)) | fail
   rw [Ss (by omega)]
   refine ⟨⟨by rw [List.length_set]; exact Vt (by omega),rfl⟩,?_⟩
   try refine Aq (fun K hK=>?_)
   conv=>whnf
   repeat' first | (refine Kc.use (by assumption) ?_; conv=>whnf) | fail
   refine Aa.is (a6l xs[k] _ (hx _ (List.getElem_mem aa))) rfl ?_
   conv=>whnf
   repeat' first | (refine And.intro (by first | decide | omega) ?_; first | (refine Aq (fun K hK=>?_); conv=>whnf) | (conv=>whnf)) | fail
   refine ⟨by rw [List.length_set]; exact Vt (by omega),?_⟩
   rw [Lp (by omega) (row':=[iv xs[k].1,.own 2 xs[k].2.1.length,.own 3 xs[k].2.2.length]) rfl]
   try refine Aq (fun K hK=>?_)
   conv=>whnf
   repeat' first | (refine Kc.use (by assumption) ?_; conv=>whnf) | fail
   refine ⟨k + 1,by omega,by omega,Ac.trans ?_ (toT (k + 1))⟩
   refine Ac.plant2 0 _ 3 k 1 2 _ 3 2 3 _ 2 xs[k].2.1.length xs[k].2.2.length _ _ _ _ [iv xs[k].1,.own 2 xs[k].2.1.length,.own 3 xs[k].2.2.length] rfl rfl rfl (by simp) (by simp) ?_ rfl rfl ?_ (cc (k + 1)) (a3W _) (Yx _) rfl ⟨⟨rfl,rfl,rfl⟩,⟨rfl,rfl,rfl⟩,⟨rfl,rfl,rfl⟩,⟨Aw Cm,rfl,rfl⟩,trivial⟩ ⟨⟨rfl,rfl,rfl⟩,⟨rfl,rfl,rfl⟩,⟨rfl,rfl,rfl⟩,⟨Aw Cm,rfl,rfl⟩,trivial⟩ trivial trivial rfl
   · rw [List.getElem?_set_self (by omega)]
   · rw [List.set_set]
     exact (a7 k aa).symm
 · rw [dif_neg aa]
   obtain rfl:k=xs.length:=by omega
   rw [hR,S6]
   refine Goes ?_;repeat' first|apply W2.m|refine W1.m fun h=>?_
   refine Ab.mk' [0] rfl rfl rfl rfl rfl rfl rfl ⟨?_,?_,rfl⟩
   · rfl
   · rfl
theorem Qg (b:B7) (n:Nat) (h:B4 b):Ret Tryz.prog 65 [Fy b] [] n true (Is (.agg (a2M n b)) [a8J n b.txs] (n + 1)):=by
 refine Ret.fn Ad Tryz.func65 rfl Tryz.call65 rfl rfl ?_
 refine Goes ?_
 refine Aa.is (a4D b.txs _ h.len h.txs) rfl ?_
 refine Goes ?_
 refine Ab.mk' [2] rfl rfl rfl rfl rfl rfl rfl ⟨?_,?_,rfl⟩
 · rfl
 · rfl
theorem M4 (z:Int) (xs:List Bh) (i m n:Nat) (hl:xs.length<=1048576) (hp:Bn Cs xs<=1048576) (hm:m<=900000000000) :
 Ret Tryz.prog 22 [.agg [iv z,.own i xs.length],iv m] [Hw i xs] n true (Is (iv (nNs m xs)) [Hw i (a4w m xs)] n):=by
 refine Ret.of_run (tt:=tt) Ad Tryz.func22 rfl Tryz.call22 [i] [.nest (c:=true) 103 6 (xs.map Ef)] [.agg [iv z,.own 0 xs.length],iv m] true n _ rfl (Cj i) (by exact Nat.le_of_ble_eq_true rfl) rfl rfl ?_
 refine Goes ?_
 refine Aa.heapIs (a0i xs 0 m _ hl hp hm) rfl ktA rfl ?_
 refine Goes ?_
 refine Ab.mk' [] rfl rfl rfl rfl rfl rfl rfl ⟨?_,?_,rfl⟩
 · rfl
 · rfl
theorem Ra (c v z:Int) (xs:List Bh) (i m n:Nat) (hl:xs.length<=1048576) (hp:Bn Cs xs<=1048576) (hm:m<=900000000000) :
 Ret Tryz.prog 24 [.agg [iv c,iv v,iv z,.own i xs.length],iv m] [Hw i xs] n true (Is (iv (nNs m xs)) [Hw i (a4w m xs)] n):=by
 refine Ret.of_run (tt:=tt) Ad Tryz.func24 rfl Tryz.call24 [i] [.nest (c:=true) 103 6 (xs.map Ef)] [.agg [iv c,iv v,iv z,.own 0 xs.length],iv m] true n _ rfl (Cj i) (by exact Nat.le_of_ble_eq_true rfl) rfl rfl ?_
 refine Goes ?_
 refine Aa.heapIs (M4 z xs 0 m _ hl hp hm) rfl ktA rfl ?_
 refine Goes ?_
 refine Ab.mk' [] rfl rfl rfl rfl rfl rfl rfl ⟨?_,?_,rfl⟩
 · rfl
 · rfl
theorem a4E (z:Int) (xs:List Bh) (m n:Nat) (hl:xs.length<=1048576) (hp:Bn Cs xs<=1048576) (hm:m<=900000000000):Ret Tryz.prog 67 [.agg [iv z,Fo (a4w m xs)],iv m] [] n true (Is (iv (nNs m xs)) [] n):=by
 refine Ret.fn Ad Tryz.func67 rfl Tryz.call67 rfl rfl ?_
 refine Goes ?_
 refine Aa.is (a2Q xs m _ hl hp hm) rfl ?_
 refine Goes ?_
 all_goals first
  | (exfalso; omega)
  | (refine Ab.pure rfl rfl rfl ⟨?_,rfl,rfl⟩
     rfl)
theorem E7 (c v z:Int) (xs:List Bh) (m n:Nat) (hl:xs.length<=1048576) (hp:Bn Cs xs<=1048576) (hm:m<=900000000000):Ret Tryz.prog 25 [.agg [iv c,iv v,iv z,Fo (a4w m xs)],iv m] [] n true (Is (iv (nNs m xs)) [] n):=by
 refine Ret.fn Ad Tryz.func25 rfl Tryz.call25 rfl rfl ?_
 refine Goes ?_
 refine Aa.is (a4E z xs m _ hl hp hm) rfl ?_
 refine Goes ?_
 all_goals first
  | (exfalso; omega)
  | (refine Ab.pure rfl rfl rfl ⟨?_,rfl,rfl⟩
     rfl)
theorem a0k (m:Int) (n:Nat):Ret Tryz.prog 66 [nl,iv m] [] n true (Is (iv m) [] n):=by
 refine Ret.fn Ad Tryz.func66 rfl Tryz.call66 rfl rfl ?_
 refine Goes ?_
 refine Ao.go (fun _:Unit=>True) (fun _=>⟨[(0,nl),(1,iv m),(5,iv 0)],[],0⟩) (fun _=>0) () trivial (Ac.of rfl rfl ktA trivial) ?_
 intro _ _
 refine Goes ?_
 refine Ab.pure rfl rfl rfl ⟨?_,rfl,rfl⟩
 rfl
theorem a2W (z m:Int) (n:Nat):Ret Tryz.prog 22 [.agg [iv z,nl],iv m] [] n true (Is (iv m) [] n):=by
 refine Ret.fn Ad Tryz.func22 rfl Tryz.call22 rfl rfl ?_
 refine Goes ?_
 refine Aa.is (a0k m _) rfl ?_
 refine Goes ?_
 refine Ab.pure rfl rfl rfl ⟨?_,rfl,rfl⟩
 rfl
theorem Rb (c v z m:Int) (n:Nat):Ret Tryz.prog 24 [.agg [iv c,iv v,iv z,nl],iv m] [] n true (Is (iv m) [] n):=by
 refine Ret.fn Ad Tryz.func24 rfl Tryz.call24 rfl rfl ?_
 refine Goes ?_
 refine Aa.is (a2W z m _) rfl ?_
 refine Goes ?_
 refine Ab.pure rfl rfl rfl ⟨?_,rfl,rfl⟩
 rfl
theorem Dc (c v:Int) (t:Br) (n:Nat) (hf:F8 t):Ret Tryz.prog 20 [.agg (iv c::iv v::Hf t),.agg (iv c::iv v::Hf t)] [] n true (Is (bv true) [] n):=by
 refine Ret.fn Ad Tryz.func20 rfl Tryz.call20 rfl rfl ?_
 refine Goes ?_;repeat' first|apply W2.m|refine W1.m fun h=>?_
 refine Aa.is (Q9 t _ hf) rfl ?_
 refine Goes ?_
 refine Ab.pure rfl rfl rfl ⟨?_,rfl,rfl⟩
 rfl
theorem Zi (xs:List Bh) (n:Nat) (hl:xs.length<=1048576) (aj:xs≠[]):Ret Tryz.prog 122 [.lst (xs.map A4)] [] n true (Is (.own n xs.length) [(n,.list 103 6 (xs.map A4))] (n + 1)):=by
 have hL:(xs.map A4).length=xs.length:=by simp
 refine Ret.fn Ad Tryz.func122 rfl Tryz.call122 rfl rfl ?_
 refine Goes ?_
 refine ⟨by simpa using aj,?_⟩
 refine Goes ?_
 refine ⟨⟨Az,by rw [hL]; show _ * 64<=_; omega,by rw [hL]; unfold maxLen; omega,trivial,fun r hr=>by obtain ⟨x,_,rfl⟩:=List.mem_map.1 hr; rfl⟩,?_⟩
 refine Goes ?_
 refine Ab.mk' [0] rfl rfl rfl rfl rfl rfl rfl ⟨?_,?_,rfl⟩
 · exact R5 (by simp)
 · exact R6 (by simp)
theorem a0l (cap:Nat) (n:Nat):Ret Tryz.prog 122 [.val (.slice none 0 cap)] [] n true (Is nl [] n):=by
 refine Ret.fn Ad Tryz.func122 rfl Tryz.call122 rfl rfl ?_
 refine Goes ?_
 refine Ab.pure rfl rfl rfl ⟨?_,rfl,rfl⟩
 rfl
theorem a0m (a:Addr) (cap:Nat) (n:Nat):Ret Tryz.prog 122 [.val (.slice (some a) 0 cap)] [] n true (Is (.own n 0) [(n,.list 103 6 [])] (n + 1)):=by
 refine Ret.fn Ad Tryz.func122 rfl Tryz.call122 rfl rfl ?_
 refine Goes ?_
 refine Ab.mk' [0] rfl rfl rfl rfl rfl rfl rfl ⟨?_,?_,rfl⟩
 · rfl
 · rfl
theorem a0n (xs:List Bh) (n:Nat) (hl:xs.length<=1048576):Ret Tryz.prog 122 [.lst (xs.map A4)] [] n true (Is (.own n xs.length) [(n,.list 103 6 (xs.map A4))] (n + 1)):=by
 by_cases h:xs=[]
 · subst h
   refine Ret.emp fun a cap=>?_
   cases a with
   | none=>exact Ret.ownNil (e:=103) (s:=6) (by decide) (fun r ho m ⟨h1,h2,h3⟩=>.inr ⟨h1,h2,h3,rfl,rfl,rfl⟩) (a0l cap n)
   | some a=>exact a0m a cap n
 · exact Zi xs n hl h
theorem a4F:∀ (xs:List Bh) (k:Nat),∀ c∈(Lx Ef A4 xs k).flatten,inB c=true :=
 S9 a2O (fun x c hc=>by simp only [List.mem_cons,List.not_mem_nil,or_false] at hc; rcases hc with rfl | rfl | rfl | rfl | rfl | rfl <;> rfl)
abbrev b0u (n:Nat) (t:Br):AV:=.agg [iv t.bits,.own n t.nodes.length]
set_option maxHeartbeats 2000000 in
theorem a2X (t:Br) (n:Nat) (hF:F8 t):Ret Tryz.prog 64 [C5 t] [] n true (Is (b0u n t) [Hw n t.nodes] (n + 1)):=by
 have hl:=hF.len
 refine Ret.fn Ad Tryz.func64 rfl Tryz.call64 rfl rfl ?_
 refine Goes ?_
 refine Aa.is (a0n t.nodes _ hl) rfl ?_
 refine Goes ?_
 obtain ⟨R,hR⟩:∃ R:Nat->List (List AV),∀ k,R k=Lx Ef A4 t.nodes k:=⟨_,fun _=>rfl⟩
 have cc:∀ k,∀ c∈(R k).flatten,inB c=true:=fun k=>by rw [hR]; exact a4F _ _
 have dE:∀ k,k<=t.nodes.length->(R k).length=t.nodes.length:=fun k hk=>by rw [hR,S7 _ _ hk]
 have dF:∀ k (h:k < t.nodes.length),(R k).set k (A4 t.nodes[k])=R k:=fun k h=>by rw [hR]; exact Ta (Wi _ _ h)
 have a7:∀ k (h:k < t.nodes.length),(R k).set k (Ef t.nodes[k])=R (k + 1):=fun k h=>by rw [hR,hR,S8 _ _ h]
 have toT:∀ k:Nat,Ac [] ⟨[(1,.pt 0 0 0),(2,.pt 1 0 0),(10,.own 2 t.nodes.length),(11,iv t.nodes.length),(12,iv k)],[(2,.nest (c:=true) 103 6 (R k)),(0,.box [iv t.bits,.own 2 t.nodes.length]),(1,.box [iv 0,nl])],3⟩ (if h:k < t.nodes.length then ⟨[(1,.pt 0 0 0),(2,.pt 1 0 0),(10,.own 2 t.nodes.length),(11,iv t.nodes.length),(12,iv k)],[(2,.nest (c:=false) 103 6 ((R k).set k (A4 t.nodes[k]))),(0,.box [iv t.bits,.own 2 t.nodes.length]),(1,.box [iv 0,nl])],3⟩ else ⟨[(1,.pt 0 0 0),(2,.pt 1 0 0),(10,.own 2 t.nodes.length),(11,iv t.nodes.length),(12,iv k)],[(2,.nest (c:=true) 103 6 (R k)),(0,.box [iv t.bits,.own 2 t.nodes.length]),(1,.box [iv 0,nl])],3⟩):=fun k=>by
  by_cases h:k < t.nodes.length
  · rw [dif_pos h,dF k h]; exact Ac.trans (Ac.openN 2 _ _ _ rfl (cc k)) (Ac.of rfl rfl ⟨⟨rfl,rfl⟩,⟨rfl,rfl⟩,⟨rfl,rfl⟩,⟨rfl,rfl⟩,⟨rfl,rfl⟩,trivial⟩ ⟨⟨rfl,rfl,Wj (cc k)⟩,⟨rfl,rfl,rfl⟩,⟨rfl,rfl,rfl⟩,trivial⟩)
  · rw [dif_neg h]; exact fun E a w _ hR=>hR
 have dG:t.nodes.map A4=R 0:=by rw [hR,Pr]
 rw [dG]
 refine Ao.go (fun k:Nat=>k<=t.nodes.length) (fun k=>if h:k < t.nodes.length then ⟨[(1,.pt 0 0 0),(2,.pt 1 0 0),(10,.own 2 t.nodes.length),(11,iv t.nodes.length),(12,iv k)],[(2,.nest (c:=false) 103 6 ((R k).set k (A4 t.nodes[k]))),(0,.box [iv t.bits,.own 2 t.nodes.length]),(1,.box [iv 0,nl])],3⟩ else ⟨[(1,.pt 0 0 0),(2,.pt 1 0 0),(10,.own 2 t.nodes.length),(11,iv t.nodes.length),(12,iv k)],[(2,.nest (c:=true) 103 6 (R k)),(0,.box [iv t.bits,.own 2 t.nodes.length]),(1,.box [iv 0,nl])],3⟩) (fun k=>t.nodes.length - k) 0 (Nat.zero_le _) (Ac.trans (Ac.trans (Ac.nest 2 _ _ _ rfl) (Ac.of rfl rfl ktA ktA)) (toT 0)) ?_
 intro k hk
 by_cases aa:k < t.nodes.length
 · rw [dif_pos aa]
   have cP:=dE k hk
   conv=>whnf
   repeat' first | ((first | refine Bt.dec (fun h=>?_) (fun h=>?_) | refine Bt.ndec (fun h=>?_) (fun h=>?_)) <;> first | (exfalso; first | omega | exact h (by assumption) | exact absurd h (by assumption)) | (conv=>whnf)) | (refine And.intro (by first | decide | omega) ?_; first | (refine Aq (fun K hK=>?_); conv=>whnf) | (conv=>whnf)) | fail
   rw [Ss (by omega)]
   refine ⟨⟨by rw [List.length_set]; exact Vt (by omega),rfl⟩,?_⟩
   try refine Aq (fun K hK=>?_)
   conv=>whnf
   repeat' first | (refine Kc.use (by assumption) ?_; conv=>whnf) | fail
   refine Aa.is (Qg t.nodes[k].blk _ (hF.nodes _ (List.getElem_mem aa))) rfl ?_
   conv=>whnf
   repeat' first | (refine Pu.mk (by repeat' first | exact trivial | rfl | refine And.intro ?_ ?_) ?_; conv=>whnf) | (refine And.intro (by first | decide | omega) ?_; first | (refine Aq (fun K hK=>?_); conv=>whnf) | (conv=>whnf)) | fail
   refine ⟨by rw [List.length_set]; exact Vt (by omega),?_⟩
   rw [Lp (by omega) (row':=iv t.nodes[k].up::a2M 4 t.nodes[k].blk) rfl]
   try refine Aq (fun K hK=>?_)
   conv=>whnf
   repeat' first | (refine Pu.mk (by repeat' first | exact trivial | rfl | refine And.intro ?_ ?_) ?_; conv=>whnf) | fail
   refine ⟨k + 1,by omega,by omega,Ac.trans ?_ (toT (k + 1))⟩
   refine Ac.plantN 2 _ 6 k 5 4 _ 3 t.nodes[k].blk.txs.length _ _ _ (iv t.nodes[k].up::a2M 4 t.nodes[k].blk) rfl rfl (by simp) ?_ rfl ?_ (cc (k + 1)) (Ux _) rfl ⟨⟨rfl,rfl,rfl⟩,⟨rfl,rfl,rfl⟩,⟨rfl,rfl,rfl⟩,⟨rfl,rfl,rfl⟩,⟨Aw Cm,rfl,rfl⟩,trivial⟩ ⟨⟨rfl,rfl⟩,⟨rfl,rfl⟩,trivial⟩
   · rw [List.getElem?_set_self (by omega)]
   · rw [List.set_set]
     exact (a7 k aa).symm
 · rw [dif_neg aa]
   obtain rfl:k=t.nodes.length:=by omega
   rw [hR,S6]
   refine Goes ?_;repeat' first|apply W2.m|refine W1.m fun h=>?_
   refine Ab.mk' [2] rfl rfl rfl rfl rfl rfl rfl ⟨?_,?_,rfl⟩
   · rfl
   · rfl
def D4 (xs:List Ar) (s:Int):Int:=match C1 xs s with | some k=>(k:Int) + -1 | none=>-2
structure Ly (t:Br) (xs:List Ar) (i:Nat):Prop where
 good:Good t.bits xs (t.nodes.take i)
 le:i<=t.nodes.length
 cap:t.nodes.length<=8
theorem Ly.len {t:Br} {xs:List Ar} {i:Nat} (h:Ly t xs i):xs.length=i + 1:=by
 have:=h.le
 rw [h.good.len,List.length_take]; omega
theorem Ly.at {t:Br} {xs:List Ar} {i k:Nat} (h:Ly t xs i) (hk:k < i) (ck:k < t.nodes.length):-1<=t.nodes[k].up/\t.nodes[k].up + 1<=k/\B4 t.nodes[k].blk/\Dn t.nodes[k].blk=0/\∃ p,xs[(t.nodes[k].up + 1).toNat]?=some p/\xs[k + 1]?=some (I0 p t.nodes[k].up t.nodes[k].blk)/\E6 t.bits p t.nodes[k].blk=0:=by
 have hn:(t.nodes.take i)[k]?=some t.nodes[k]:=by rw [List.getElem?_take_of_lt hk]; exact List.getElem?_eq_getElem ck
 obtain ⟨a1,a2,a3⟩:=h.good.up k _ hn
 obtain ⟨b1,b2⟩:=h.good.fit _ (List.mem_of_getElem? hn)
 exact ⟨a1,a2,b1,b2,a3⟩
theorem Jm (t:Br) (xs:List Ar) (s:Int) (i n:Nat) (hu:Ly t xs i):Ret Tryz.prog 117 [.rp (Hf t),iv s,iv i] [] n true (Is (iv (D4 xs s)) [] n):=by
 have hL:(t.nodes.map A4).length=t.nodes.length:=by simp
 have fj:=hu.len
 have hi:=hu.le
 have h8:=hu.cap
 have nP:C1 xs 0=some 0:=hu.good.nodeF_at hu.good.zero
 by_cases h0:s=0
 · subst h0
   have hf:D4 xs 0=-1:=by unfold D4; rw [nP]; rfl
   rw [hf]
   refine Ret.fn Ad Tryz.func117 rfl Tryz.call117 rfl rfl ?_
   refine Goes ?_
   refine Ab.pure rfl rfl rfl ⟨?_,rfl,rfl⟩
   rfl
 have eA:∀ (q:Nat) (r:Ar),q < 0 + 1->xs[q]?=some r->r.sum≠s:=fun q r hq hr e=>by
  obtain rfl:q=0:=by omega
  rw [hu.good.zero] at hr
  cases hr
  exact h0 e.symm
 refine Ret.fn Ad Tryz.func117 rfl Tryz.call117 rfl rfl ?_
 refine Goes ?_;repeat' first|apply W2.m|refine W1.m fun h=>?_
 refine Ao.go (fun k:Nat=>k<=i/\∀ (q:Nat) (r:Ar),q < k + 1->xs[q]?=some r->r.sum≠s) (fun k=>⟨[(0,.rp (Hf t)),(1,iv s),(2,iv i),(7,iv k)],[],0⟩) (fun k=>i - k) 0 ⟨Nat.zero_le _,eA⟩ (Ac.of rfl rfl ktA trivial) ?_
 intro k ⟨hk,hp⟩
 by_cases aa:k < i
 · have aw:k < t.nodes.length:=by omega
   obtain ⟨a1,a2,hf,hb,p,a3,a4,a5⟩:=hu.at aa aw
   obtain ⟨_,bW,dY,hz⟩:=Hb hb
   have hh:=fun n=>Iq t.nodes[k].blk n bW dY hz
   refine Goes ?_;repeat' first|apply W2.m|refine W1.m fun h=>?_
   rw [A1 A4 t.nodes k aw]
   refine ⟨by rw [hL]; exact ⟨by omega,by omega,rfl⟩,?_⟩
   refine Goes ?_
   refine Aa.is (hh _) rfl ?_
   refine Goes ?_;repeat' first|apply W2.m|refine W1.m fun h=>?_
   · have hF:D4 xs s=(k:Int):=by
      unfold D4
      rw [M2.2 ⟨_,a4,by assumption,hp⟩]
      show ((k + 1:Nat):Int) + -1=k
      omega
     rw [hF]
     refine Ab.pure rfl rfl rfl ⟨?_,rfl,rfl⟩
     rfl
   · exact ⟨k + 1,⟨by omega,fun q r hq hr e=>by
      by_cases dD:q < k + 1
      · exact hp q r dD hr e
      · obtain rfl:q=k + 1:=by omega
        rw [a4] at hr
        cases hr
        exact absurd e (by assumption)⟩,by omega,(Ac.of rfl rfl ktA trivial)⟩
 · obtain rfl:k=i:=by omega
   have hF:D4 xs s=-2:=by
    unfold D4
    rw [Zb.2 fun p hp' e=>by
     obtain ⟨q,hq,rfl⟩:=List.getElem_of_mem hp'
     exact hp q _ (by omega) (List.getElem?_eq_getElem hq) e]
   rw [hF]
   refine Goes ?_;repeat' first|apply W2.m|refine W1.m fun h=>?_
   refine Ab.pure rfl rfl rfl ⟨?_,rfl,rfl⟩
   rfl
theorem Vu (t:Br) (xs:List Ar) (i k n:Nat) (z:Int) (p:Ar) (hu:Ly t xs i) (hz:z=(k:Int) + -1) (hp:xs[k]?=some p):Ret Tryz.prog 71 [.rp (Hf t),iv z] [] n true (Is (iv p.h) [] n):=by
 have hL:(t.nodes.map A4).length=t.nodes.length:=by simp
 have fj:=hu.len
 have hi:=hu.le
 have h8:=hu.cap
 have hP:=hu.good.ok
 obtain ⟨_,q1,q2⟩:=hP k p hp
 have eE:=(List.getElem?_eq_some_iff.1 hp).1
 refine Ret.fn Ad Tryz.func71 rfl Tryz.call71 rfl rfl ?_
 refine Goes ?_
 refine Ao.go (fun y:Int × Int=>0<=y.2/\∃ (k:Nat) (q:Ar),y.1=(k:Int) + -1/\xs[k]?=some q/\y.2 + q.h=p.h) (fun y=>⟨[(0,.rp (Hf t)),(1,iv y.1),(5,iv y.2)],[],0⟩) (fun y=>(y.1 + 1).toNat) (z,0) ⟨Int.le_refl _,k,p,hz,hp,by show 0 + p.h=p.h; omega⟩ (Ac.of rfl rfl ktA trivial) ?_
 rintro ⟨z,m⟩ ⟨h1,k,q,hz,h2,h3⟩
 dsimp only at h1 hz h2 h3 ⊢
 cases k with
 | zero =>
   obtain rfl:z=-1:=by omega
   rw [hu.good.zero] at h2
   cases h2
   have:m=p.h:=by have:p0.h=0:=rfl; omega
   refine Goes ?_
   refine Ab.pure rfl rfl rfl ⟨?_,rfl,rfl⟩
   rw [this]
 | succ u =>
   obtain rfl:z=(u:Int):=by omega
   have nQ:=(List.getElem?_eq_some_iff.1 h2).1
   have aw:u < t.nodes.length:=by omega
   obtain ⟨a1,a2,hf,hb,r,a3,a4,a5⟩:=hu.at (show u < i by omega) aw
   rw [a4] at h2
   cases h2
   have hh:(I0 r t.nodes[u].up t.nodes[u].blk).h=r.h + 1:=rfl
   obtain ⟨_,r1,r2⟩:=hP _ r a3
   rw [hh] at h3
   refine Goes ?_
   rw [A1 A4 t.nodes u aw]
   refine ⟨by rw [hL]; exact ⟨by omega,by omega,rfl⟩,?_⟩
   refine Goes ?_
   exact ⟨(t.nodes[u].up,m + 1),⟨by show 0<=m + 1; omega,(t.nodes[u].up + 1).toNat,r,by show t.nodes[u].up=_; omega,a3,by show m + 1 + r.h=p.h; omega⟩,by show (t.nodes[u].up + 1).toNat < ((u:Int) + 1).toNat; omega,Ac.of rfl rfl ⟨⟨rfl,rfl⟩,⟨rfl,rfl⟩,⟨Aw (by rw [IntWalk.i64_in _ (by omega)]),rfl⟩,trivial⟩ trivial⟩
theorem a6m (t:Br) (xs:List Ar) (i:Nat) (hu:Ly t xs i):∀ (k n:Nat) (z:Int) (p:Ar),z=(k:Int) + -1->xs[k]?=some p->Ret Tryz.prog 75 [.rp (Hf t),iv z] [] n true (Is (A0 p.coins) [] n):=by
 have hL:(t.nodes.map A4).length=t.nodes.length:=by simp
 have fj:=hu.len
 have hi:=hu.le
 have h8:=hu.cap
 have hP:=hu.good.ok
 intro k
 induction k using Nat.strongRecOn with
 | _ k ih =>
 intro n z p hz hp
 cases k with
 | zero =>
   obtain rfl:z=-1:=by omega
   rw [hu.good.zero] at hp
   cases hp
   refine Ret.frList (len:=0) (rows:=[]) (e:=184) (s:=6) rfl ?_
   refine Ret.fn Ad Tryz.func75 rfl Tryz.call75 rfl rfl ?_
   refine Goes ?_
   refine Ab.mk' [0] rfl rfl rfl rfl rfl rfl rfl ⟨?_,?_,rfl⟩
   · rfl
   · rfl
 | succ u =>
   obtain rfl:z=(u:Int):=by omega
   have nQ:=(List.getElem?_eq_some_iff.1 hp).1
   have aw:u < t.nodes.length:=by omega
   obtain ⟨a1,a2,hf,hb,r,a3,a4,a5⟩:=hu.at (show u < i by omega) aw
   have jW:=fun n=>Vu t xs i (u + 1) n (u:Int) p hu (by omega) hp
   rw [a4] at hp
   cases hp
   have hh:(I0 r t.nodes[u].up t.nodes[u].blk).h=r.h + 1:=rfl
   rw [hh] at jW
   obtain ⟨c0,r1,r2⟩:=hP _ r a3
   have gb:=(List.getElem?_eq_some_iff.1 a3).1
   obtain ⟨_,bW,dY,hz⟩:=Hb hb
   obtain ⟨t1,t2⟩:=a1w c0 (a4j a5).1
   have bK:=fun n=>ih (t.nodes[u].up + 1).toNat (by omega) n t.nodes[u].up r (by omega) a3
   have iF:=fun n=>a4f r.coins t.nodes[u].blk (r.h + 1) n c0 hf dY hz ⟨by omega,by omega⟩
   simp only [if_pos t1] at iF
   refine Ret.fn Ad Tryz.func75 rfl Tryz.call75 rfl rfl ?_
   refine Goes ?_
   rw [A1 A4 t.nodes u aw]
   refine ⟨by rw [hL]; exact ⟨by omega,by omega,rfl⟩,?_⟩
   refine Goes ?_
   rw [A1 A4 t.nodes u aw]
   refine ⟨by rw [hL]; exact ⟨by omega,by omega,rfl⟩,?_⟩
   refine Goes ?_
   repeat' first
    | (refine Aa.is (bK _) rfl ?_
       refine Goes ?_)
    | (refine Aa.is (jW _) rfl ?_
       refine Goes ?_)
    | (refine Aa.is (iF _) rfl ?_
       refine Goes ?_;repeat' first|apply W2.m|refine W1.m fun h=>?_)
   all_goals
    refine Ab.pure rfl rfl rfl ⟨?_,rfl,rfl⟩
    rfl
theorem Ly.time {t:Br} {xs:List Ar} {i k:Nat} {z:Int} {p:Ar} (h:Ly t xs i) (hz:z=(k:Int) + -1) (hp:xs[k]?=some p):(z=-1/\p.time=0)∨∃ u:Nat,∃ h:u < t.nodes.length,z=(u:Int)/\t.nodes[u].blk.time=p.time:=by
 have fj:=h.len
 have hi:=h.le
 have eE:=(List.getElem?_eq_some_iff.1 hp).1
 cases k with
 | zero =>
   rw [h.good.zero] at hp
   cases hp
   exact .inl ⟨by omega,rfl⟩
 | succ u =>
   have aw:u < t.nodes.length:=by omega
   obtain ⟨a1,a2,hf,hb,r,a3,a4,a5⟩:=h.at (show u < i by omega) aw
   rw [a4] at hp
   cases hp
   exact .inr ⟨u,aw,by omega,rfl⟩
theorem b1Q {α:Type} (l:List α) (d:α) (h:0 < l.length):l.headD d=l[0]:=by
 cases l with
 | nil=>simp at h
 | cons x r=>rfl
theorem b1b {α:Type} (f:α->List AV) (l:List α) (h:0 < l.length):(l.map f).getD (Int.toNat 0) []=f l[0]:=by
 cases l with
 | nil=>simp at h
 | cons x r=>rfl
set_option maxHeartbeats 2000000 in
theorem Oi (t:Br) (xs:List Ar) (i k n:Nat) (z:Int) (p:Ar) (b:B7) (hu:Ly t xs i) (hz:z=(k:Int) + -1) (hp:xs[k]?=some p) (hf:B4 b) (hb:Dn b=0):Ret Tryz.prog 118 [.rp (Hf t),iv z,.rp (Ix b)] [] n true (Is (iv (E6 t.bits p b)) [] n):=by
 have hL:(t.nodes.map A4).length=t.nodes.length:=by simp
 have fj:=hu.len
 have hi:=hu.le
 have h8:=hu.cap
 obtain ⟨c0,q1,q2⟩:=hu.good.ok k p hp
 have eE:=(List.getElem?_eq_some_iff.1 hp).1
 obtain ⟨_,bW,dY,gz⟩:=Hb hb
 have lr:okT b.txs[0]:=Ev (Lw gz _ (List.getElem_mem bW))
 have ii:b.txs.headD (0,[],[])=b.txs[0]:=b1Q _ _ bW
 have jX:(b.txs.map txC).length=b.txs.length:=by simp
 have nG:0<=Iw (p.h + 1)/\Iw (p.h + 1)<=50:=by
  unfold Iw
  exact ⟨Int.ediv_nonneg (by decide) (by exact Int.le_of_lt (Int.pow_pos (by decide))),Int.ediv_le_self _ (by decide)⟩
 have hH:=fun n=>Iq b n bW dY gz
 have hT:=fun n=>a2J b.bits n (a4i hb).2
 have hG:=fun n=>Vu t xs i k n z p hu hz hp
 have hK:=fun n=>a6m t xs i hu k n z p hz hp
 have hX:=fun n=>a4f p.coins b (p.h + 1) n c0 hf dY gz ⟨by omega,by omega⟩
 have hS:=fun n=>Z8 (p.h + 1) n ⟨by omega,by omega⟩
 have hO:=fun n=>Lu b.txs[0] n lr
 have hw:IntKind.i64.wrap (p.h + 1)=p.h + 1:=IntWalk.i64_in _ (by omega)
 have hC:E6 t.bits p b=if b.bits≠t.bits∨b.time<=p.time then 9 else if ¬ E9 b<=Q8 b.bits then 8 else if b.txs[0].1≠p.h + 1 then 1 else Iy b p.coins (p.h + 1):=by unfold E6; rw [ii]
 have gq:=hu.time hz hp
 by_cases h9:b.bits≠t.bits∨b.time<=p.time
 · rw [if_pos h9] at hC
   rw [hC]
   rcases gq with ⟨rfl,dK⟩ | ⟨u,aw,rfl,dK⟩
   · refine Ret.fn Ad Tryz.func118 rfl Tryz.call118 rfl rfl ?_
     refine Goes ?_;repeat' first|apply W2.m|refine W1.m fun h=>?_
     all_goals first
      | (exfalso; omega)
      | (refine Ab.pure rfl rfl rfl ⟨?_,rfl,rfl⟩
         rfl)
   · refine Ret.fn Ad Tryz.func118 rfl Tryz.call118 rfl rfl ?_
     refine Goes ?_
     rw [A1 A4 t.nodes u aw]
     refine ⟨by rw [hL]; exact ⟨by omega,by omega,rfl⟩,?_⟩
     refine Goes ?_;repeat' first|apply W2.m|refine W1.m fun h=>?_
     all_goals first
      | (exfalso; omega)
      | (refine Ab.pure rfl rfl rfl ⟨?_,rfl,rfl⟩
         rfl)
 rw [if_neg h9] at hC
 have nI:b.bits=t.bits:=Decidable.not_not.1 fun e=>h9 (.inl e)
 have nJ:¬ b.time<=p.time:=fun e=>h9 (.inr e)
 rcases gq with ⟨rfl,dK⟩ | ⟨u,aw,rfl,dK⟩
 · refine Ret.fn Ad Tryz.func118 rfl Tryz.call118 rfl rfl ?_
   refine Goes ?_;repeat' first|apply W2.m|refine W1.m fun h=>?_
   all_goals try (exfalso; omega)
   repeat' first
    | (refine Aa.is (hH _) rfl ?_
       refine Goes ?_)
    | (refine Aa.is (hT _) rfl ?_
       refine Goes ?_;repeat' first|apply W2.m|refine W1.m fun h=>?_)
   all_goals first
    | (exfalso; omega)
    | (have fD:¬ E9 b<=Q8 b.bits:=by omega
       rw [hC,if_pos fD]
       refine Ab.pure rfl rfl rfl ⟨?_,rfl,rfl⟩
       rfl)
    | skip
   have fD:E9 b<=Q8 b.bits:=by omega
   rw [if_neg (fun e=>e fD)] at hC
   refine Aa.is (hG _) rfl ?_
   refine Goes ?_
   rw [hw]
   rw [b1b txC b.txs bW]
   refine ⟨by rw [jX]; exact ⟨by omega,by omega,rfl⟩,?_⟩
   refine Goes ?_;repeat' first|apply W2.m|refine W1.m fun h=>?_
   all_goals first
    | (exfalso; omega)
    | (have dh:b.txs[0].1≠p.h + 1:=by omega
       rw [hC,if_pos dh]
       refine Ab.pure rfl rfl rfl ⟨?_,rfl,rfl⟩
       rfl)
    | skip
   have dh:¬ b.txs[0].1≠p.h + 1:=by omega
   rw [if_neg dh] at hC
   unfold Iy at hC
   rw [ii] at hC
   refine Aa.is (hK _) rfl ?_
   refine Goes ?_
   by_cases hA:(runT (p.h + 1) p.coins b.txs).1=0
   · simp only [if_pos hA] at hX
     rw [if_neg (fun e=>e hA)] at hC
     obtain ⟨_,f1,f2⟩:=Wg (p.h + 1) b.txs p.coins c0 hA
     have nR:IntKind.i64.wrap (Iw (p.h + 1) + (runT (p.h + 1) p.coins b.txs).2.2)=Iw (p.h + 1) + (runT (p.h + 1) p.coins b.txs).2.2:=IntWalk.i64_in _ (by omega)
     refine Aa.is (hX _) rfl ?_
     refine Goes ?_
     rw [b1b txC b.txs bW]
     refine ⟨by rw [jX]; exact ⟨by omega,by omega,rfl⟩,?_⟩
     refine Goes ?_
     refine Aa.is (hO _) rfl ?_
     refine Goes ?_
     refine Aa.is (hS _) rfl ?_
     refine Goes ?_;repeat' first|apply W2.m|refine W1.m fun h=>?_
     all_goals first
      | (rw [hC,if_pos (by omega)]
         refine Ab.pure rfl rfl rfl ⟨?_,rfl,rfl⟩
         rfl)
      | (rw [hC,if_neg (by omega)]
         refine Ab.pure rfl rfl rfl ⟨?_,rfl,rfl⟩
         rfl)
   · simp only [if_neg hA] at hX
     rw [if_pos hA] at hC
     rw [hC]
     refine Aa.is (hX _) rfl ?_
     refine Goes ?_;repeat' first|apply W2.m|refine W1.m fun h=>?_
     all_goals first
      | (exfalso; omega)
      | (refine Ab.pure rfl rfl rfl ⟨?_,rfl,rfl⟩
         rfl)
 · refine Ret.fn Ad Tryz.func118 rfl Tryz.call118 rfl rfl ?_
   refine Goes ?_
   rw [A1 A4 t.nodes u aw]
   refine ⟨by rw [hL]; exact ⟨by omega,by omega,rfl⟩,?_⟩
   refine Goes ?_;repeat' first|apply W2.m|refine W1.m fun h=>?_
   all_goals try (exfalso; omega)
   repeat' first
    | (refine Aa.is (hH _) rfl ?_
       refine Goes ?_)
    | (refine Aa.is (hT _) rfl ?_
       refine Goes ?_;repeat' first|apply W2.m|refine W1.m fun h=>?_)
   all_goals first
    | (exfalso; omega)
    | (have fD:¬ E9 b<=Q8 b.bits:=by omega
       rw [hC,if_pos fD]
       refine Ab.pure rfl rfl rfl ⟨?_,rfl,rfl⟩
       rfl)
    | skip
   have fD:E9 b<=Q8 b.bits:=by omega
   rw [if_neg (fun e=>e fD)] at hC
   refine Aa.is (hG _) rfl ?_
   refine Goes ?_
   rw [hw]
   rw [b1b txC b.txs bW]
   refine ⟨by rw [jX]; exact ⟨by omega,by omega,rfl⟩,?_⟩
   refine Goes ?_;repeat' first|apply W2.m|refine W1.m fun h=>?_
   all_goals first
    | (exfalso; omega)
    | (have dh:b.txs[0].1≠p.h + 1:=by omega
       rw [hC,if_pos dh]
       refine Ab.pure rfl rfl rfl ⟨?_,rfl,rfl⟩
       rfl)
    | skip
   have dh:¬ b.txs[0].1≠p.h + 1:=by omega
   rw [if_neg dh] at hC
   unfold Iy at hC
   rw [ii] at hC
   refine Aa.is (hK _) rfl ?_
   refine Goes ?_
   by_cases hA:(runT (p.h + 1) p.coins b.txs).1=0
   · simp only [if_pos hA] at hX
     rw [if_neg (fun e=>e hA)] at hC
     obtain ⟨_,f1,f2⟩:=Wg (p.h + 1) b.txs p.coins c0 hA
     have nR:IntKind.i64.wrap (Iw (p.h + 1) + (runT (p.h + 1) p.coins b.txs).2.2)=Iw (p.h + 1) + (runT (p.h + 1) p.coins b.txs).2.2:=IntWalk.i64_in _ (by omega)
     refine Aa.is (hX _) rfl ?_
     refine Goes ?_
     rw [b1b txC b.txs bW]
     refine ⟨by rw [jX]; exact ⟨by omega,by omega,rfl⟩,?_⟩
     refine Goes ?_
     refine Aa.is (hO _) rfl ?_
     refine Goes ?_
     refine Aa.is (hS _) rfl ?_
     refine Goes ?_;repeat' first|apply W2.m|refine W1.m fun h=>?_
     all_goals first
      | (rw [hC,if_pos (by omega)]
         refine Ab.pure rfl rfl rfl ⟨?_,rfl,rfl⟩
         rfl)
      | (rw [hC,if_neg (by omega)]
         refine Ab.pure rfl rfl rfl ⟨?_,rfl,rfl⟩
         rfl)
   · simp only [if_neg hA] at hX
     rw [if_pos hA] at hC
     rw [hC]
     refine Aa.is (hX _) rfl ?_
     refine Goes ?_;repeat' first|apply W2.m|refine W1.m fun h=>?_
     all_goals first
      | (exfalso; omega)
      | (refine Ab.pure rfl rfl rfl ⟨?_,rfl,rfl⟩
         rfl)
end Go.Proofs.YtllhgcfacgiabaaGreat
