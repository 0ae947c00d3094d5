import Derived.Test.YtllhgcfacgiabaaGreatR5
import Derived.Test.YtllhgcfacgiabaaGreatR1
namespace Go.Proofs.YtllhgcfacgiabaaGreat
open Go Go.Am Go.RowKit
set_option linter.unusedVariables false
set_option linter.unusedSimpArgs false
structure NodeD where
 up:Int
 blk:BlkD
structure TreeD where
 bits:Int
 nodes:List NodeD
abbrev nodeC (x:NodeD):List AV:=iv x.up::blkC x.blk
abbrev nodesV (l:List NodeD):AV:=.lst (l.map nodeC)
abbrev treeC (t:TreeD):List AV:=[iv t.bits,nodesV t.nodes]
def p0:PlaceD:=⟨0,0,0,0,[]⟩
def upAt (xs:List PlaceD) (x:NodeD):Option Nat:=if -1≤x.up∧x.up + 1 < xs.length∧(xs.getD (x.up + 1).toNat p0).sum=x.blk.prev then some (x.up + 1).toNat else none
def stepC (bits:Int) (xs:List PlaceD) (x:NodeD):Int :=
 if blkF x.blk≠0 then blkF x.blk else match upAt xs x with | some k=>addP bits xs (xs.getD k p0) x.blk | none=>4
def stepX (bits:Int) (xs:List PlaceD) (x:NodeD):List PlaceD :=
 if stepC bits xs x=0 then xs++[nextP (xs.getD (x.up + 1).toNat p0) x.up x.blk] else xs
def PlacesOk (xs:List PlaceD):Prop:=∀ (k:Nat) (p:PlaceD),xs[k]?=some p→coinsC p.coins=0∧0≤p.h∧p.h≤k
theorem upAt_some {xs:List PlaceD} {x:NodeD} {k:Nat} (h:upAt xs x=some k):k < xs.length∧x.up=(k:Int) + -1∧(xs.getD k p0).sum=x.blk.prev:=by
 unfold upAt at h
 split at h
 · rename_i g
   cases h
   exact ⟨by omega,by omega,g.2.2⟩
 · cases h
theorem codeP_ok {bits:Int} {p:PlaceD} {b:BlkD} (h:codeP bits p b=0):applyB b p.coins (p.h + 1)=0∧b.bits=bits∧p.time < b.time∧hdrB b≤tgtB b.bits:=by
 unfold codeP at h
 by_cases h9:b.bits≠bits∨b.time≤p.time
 · rw [if_pos h9] at h; cases h
 rw [if_neg h9] at h
 by_cases h8:¬ hdrB b≤tgtB b.bits
 · rw [if_pos h8] at h; cases h
 rw [if_neg h8] at h
 by_cases h1:(b.txs.headD (0,[],[])).1≠p.h + 1
 · rw [if_pos h1] at h; cases h
 rw [if_neg h1] at h
 exact ⟨h,Decidable.not_not.1 fun e=>h9 (.inl e),Int.not_le.1 fun e=>h9 (.inr e),Decidable.not_not.1 h8⟩
theorem applyB_ok {b:BlkD} {l:List CoinD} {hg:Int} (h0:coinsC l=0) (h:applyB b l hg=0):(runT hg l b.txs).1=0∧coinsC (runT hg l b.txs).2.1=0:=by
 unfold applyB at h
 by_cases h1:(runT hg l b.txs).1≠0
 · rw [if_pos h1] at h; exact absurd h h1
 · have h2:=Decidable.not_not.1 h1
   exact ⟨h2,(runT_ok hg b.txs l h0 h2).1⟩
theorem stepX_ok {bits:Int} {xs:List PlaceD} {x:NodeD} (h:PlacesOk xs):PlacesOk (stepX bits xs x):=by
 unfold stepX
 split
 · rename_i hs
   intro k p hp
   by_cases hk:k < xs.length
   · rw [List.getElem?_append_left hk] at hp; exact h k p hp
   · rw [List.getElem?_append_right (by omega)] at hp
     have hk0:k - xs.length=0:=by
      cases e:k - xs.length with
      | zero=>rfl
      | succ m=>rw [e] at hp; simp at hp
     rw [hk0] at hp
     cases (show some (nextP (xs.getD (x.up + 1).toNat p0) x.up x.blk)=some p from hp)
     unfold stepC at hs
     by_cases hb:blkF x.blk≠0
     · rw [if_pos hb] at hs; exact absurd hs hb
     rw [if_neg hb] at hs
     cases hu:upAt xs x with
     | none=>rw [hu] at hs; cases hs
     | some m =>
       rw [hu] at hs
       dsimp only at hs
       obtain ⟨u1,u2,u3⟩:=upAt_some hu
       have hm:=List.getElem?_eq_getElem u1
       have hg:xs.getD m p0=xs[m]:=by simp [List.getD_eq_getElem?_getD,hm]
       have hm2:(x.up + 1).toNat=m:=by omega
       rw [hm2,hg]
       rw [hg] at hs
       obtain ⟨c1,c2,c3⟩:=h m _ hm
       unfold addP at hs
       by_cases hc:codeP bits xs[m] x.blk≠0
       · rw [if_pos hc] at hs; exact absurd hs hc
       have hc0:=Decidable.not_not.1 hc
       refine ⟨(applyB_ok c1 (codeP_ok hc0).1).2,?_,?_⟩
       · show 0≤xs[m].h + 1; omega
       · show xs[m].h + 1≤k; omega
 · exact h
structure Good (bits:Int) (xs:List PlaceD) (ns:List NodeD):Prop where
 len:xs.length=ns.length + 1
 zero:xs[0]?=some p0
 fit:∀ x∈ns,FitsB x.blk∧blkF x.blk=0
 up:∀ (k:Nat) (x:NodeD),ns[k]?=some x→-1≤x.up∧x.up + 1≤k∧∃ p,xs[(x.up + 1).toNat]?=some p∧xs[k + 1]?=some (nextP p x.up x.blk)∧codeP bits p x.blk=0
 ok:PlacesOk xs
 dist:∀ (i j:Nat) (p q:PlaceD),xs[i]?=some p→xs[j]?=some q→p.sum=q.sum→i=j
theorem nodeF_none {xs:List PlaceD} {s:Int}:nodeF xs s=none↔∀ p∈xs,p.sum≠s:=by
 unfold nodeF
 rw [List.findIdx?_eq_none_iff]
 simp
theorem nodeF_some {xs:List PlaceD} {s:Int} {k:Nat}:nodeF xs s=some k↔∃ p,xs[k]?=some p∧p.sum=s∧∀ (q:Nat) (r:PlaceD),q < k→xs[q]?=some r→r.sum≠s:=by
 unfold nodeF
 rw [List.findIdx?_eq_some_iff_getElem]
 constructor
 · rintro ⟨h,h1,h2⟩
   refine ⟨xs[k],List.getElem?_eq_getElem h,by simpa using h1,fun q r hq hr=>?_⟩
   obtain ⟨hq2,e⟩:=List.getElem?_eq_some_iff.1 hr
   have:=h2 q hq
   subst e
   simpa using this
 · rintro ⟨p,h1,h2,h3⟩
   obtain ⟨h,e⟩:=List.getElem?_eq_some_iff.1 h1
   refine ⟨h,by rw [e]; simpa using h2,fun q hq=>?_⟩
   have:=h3 q _ hq (List.getElem?_eq_getElem (by omega))
   simpa using this
theorem addP_zero {bits:Int} {xs:List PlaceD} {p:PlaceD} {b:BlkD} (h:addP bits xs p b=0):codeP bits p b=0∧nodeF xs (hdrB b)=none:=by
 unfold addP at h
 by_cases h1:codeP bits p b≠0
 · rw [if_pos h1] at h; exact absurd h h1
 rw [if_neg h1] at h
 refine ⟨Decidable.not_not.1 h1,?_⟩
 cases hn:nodeF xs (hdrB b) with
 | none=>rfl
 | some k=>rw [hn] at h; cases h
theorem stepC_zero {bits:Int} {xs:List PlaceD} {x:NodeD} (h:stepC bits xs x=0):blkF x.blk=0∧∃ (k:Nat) (p:PlaceD),xs[k]?=some p∧x.up=(k:Int) + -1∧p.sum=x.blk.prev∧xs.getD (x.up + 1).toNat p0=p∧codeP bits p x.blk=0∧nodeF xs (hdrB x.blk)=none:=by
 unfold stepC at h
 by_cases hb:blkF x.blk≠0
 · rw [if_pos hb] at h; exact absurd h hb
 rw [if_neg hb] at h
 refine ⟨Decidable.not_not.1 hb,?_⟩
 cases hu:upAt xs x with
 | none=>rw [hu] at h; cases h
 | some m =>
   rw [hu] at h
   dsimp only at h
   obtain ⟨u1,u2,u3⟩:=upAt_some hu
   have hm:=List.getElem?_eq_getElem u1
   have hg:xs.getD m p0=xs[m]:=by simp [List.getD_eq_getElem?_getD,hm]
   have hm2:(x.up + 1).toNat=m:=by omega
   rw [hg] at h u3
   exact ⟨m,xs[m],hm,u2,u3,by rw [hm2,hg],addP_zero h⟩
theorem Good.nil (bits:Int):Good bits [p0] [] where
 len:=rfl
 zero:=rfl
 fit:=fun x h=>by cases h
 up:=fun k x h=>by cases h
 ok:=fun k p h=>by
  cases k with
  | zero=>cases h; exact ⟨rfl,Int.le_refl _,Int.le_refl _⟩
  | succ m=>simp at h
 dist:=fun i j p q h1 h2 _=>by
  obtain ⟨h1,_⟩:=List.getElem?_eq_some_iff.1 h1
  obtain ⟨h2,_⟩:=List.getElem?_eq_some_iff.1 h2
  simp at h1 h2
  omega
theorem Good.step {bits:Int} {xs:List PlaceD} {ns:List NodeD} {x:NodeD} (h:Good bits xs ns) (hf:FitsB x.blk) (hs:stepC bits xs x=0):Good bits (stepX bits xs x) (ns++[x]):=by
 obtain ⟨hb,k,p,hk,hu,hp,hg,hc,hn⟩:=stepC_zero hs
 have hX:stepX bits xs x=xs++[nextP p x.up x.blk]:=by unfold stepX; rw [if_pos hs,hg]
 have hok:=stepX_ok (bits:=bits) (x:=x) h.ok
 have hkl:=(List.getElem?_eq_some_iff.1 hk).1
 have hl:=h.len
 rw [hX] at hok ⊢
 have hnew:(xs++[nextP p x.up x.blk])[xs.length]?=some (nextP p x.up x.blk):=by simp
 have hold:∀ q,q < xs.length→(xs++[nextP p x.up x.blk])[q]?=xs[q]?:=fun q hq=>List.getElem?_append_left hq
 refine ⟨by simp [hl],by rw [hold 0 (by omega)]; exact h.zero,?_,?_,hok,?_⟩
 · intro y hy
   rcases List.mem_append.1 hy with hy | hy
   · exact h.fit y hy
   · rw [List.mem_singleton.1 hy]; exact ⟨hf,hb⟩
 · intro m y hy
   by_cases hm:m < ns.length
   · rw [List.getElem?_append_left hm] at hy
     obtain ⟨a1,a2,q,a3,a4,a5⟩:=h.up m y hy
     exact ⟨a1,a2,q,by rw [hold _ (by omega)]; exact a3,by rw [hold _ (by omega)]; exact a4,a5⟩
   · obtain ⟨hm2,_⟩:=List.getElem?_eq_some_iff.1 hy
     simp at hm2
     obtain rfl:m=ns.length:=by omega
     simp at hy
     subst hy
     have hk2:(x.up + 1).toNat=k:=by omega
     exact ⟨by omega,by omega,p,by rw [hk2,hold _ hkl]; exact hk,by rw [← hl]; exact hnew,hc⟩
 · have hne:∀ (q:Nat) (r:PlaceD),xs[q]?=some r→r.sum≠hdrB x.blk:=fun q r hr=>nodeF_none.1 hn r (List.mem_of_getElem? hr)
   intro i j a b ha hb' hab
   obtain ⟨hi,_⟩:=List.getElem?_eq_some_iff.1 ha
   obtain ⟨hj,_⟩:=List.getElem?_eq_some_iff.1 hb'
   simp at hi hj
   by_cases hi2:i < xs.length
   · rw [hold i hi2] at ha
     by_cases hj2:j < xs.length
     · rw [hold j hj2] at hb'
       exact h.dist i j a b ha hb' hab
     · obtain rfl:j=xs.length:=by omega
       rw [hnew] at hb'
       cases hb'
       exact absurd hab (hne i a ha)
   · obtain rfl:i=xs.length:=by omega
     rw [hnew] at ha
     cases ha
     by_cases hj2:j < xs.length
     · rw [hold j hj2] at hb'
       exact absurd hab.symm (hne j b hb')
     · omega
theorem Good.nodeF_at {bits:Int} {xs:List PlaceD} {ns:List NodeD} (h:Good bits xs ns) {k:Nat} {p:PlaceD} (hk:xs[k]?=some p):nodeF xs p.sum=some k :=
 nodeF_some.2 ⟨p,hk,rfl,fun q r hq hr e=>by have:=h.dist q k r p hr hk e; omega⟩
def goC (bits:Int):List PlaceD→List NodeD→Int
 | _,[]=>0
 | xs,x::r=>if stepC bits xs x≠0 then stepC bits xs x else goC bits (stepX bits xs x) r
def treeF (t:TreeD):Int:=if bitsB t.bits=true then (if 8 < t.nodes.length then 2 else goC t.bits [p0] t.nodes) else 3
theorem goC_at (bits:Int) (xs:List PlaceD) (ns:List NodeD) (k:Nat) (h:k < ns.length):goC bits xs (ns.drop k)=if stepC bits xs ns[k]≠0 then stepC bits xs ns[k] else goC bits (stepX bits xs ns[k]) (ns.drop (k + 1)):=by
 rw [List.drop_eq_getElem_cons h,goC]
end Go.Proofs.YtllhgcfacgiabaaGreat
namespace Go.Proofs.YtllhgcfacgiabaaGreat
open Go Go.Am Go.RowKit
set_option linter.unusedVariables false
set_option linter.unusedSimpArgs false
abbrev nodeV (x:NodeD):AV:=.agg (nodeC x)
abbrev treeV (t:TreeD):AV:=.agg (treeC t)
def sizeN (x:NodeD):Nat:=sizeB x.blk
def sizeTr (t:TreeD):Nat:=t.nodes.length + psum sizeN t.nodes
structure MemT (t:TreeD):Prop where
 len:t.nodes.length≤9223372036854775807
 nodes:∀ x∈t.nodes,MemB x.blk
 bits:isI64 t.bits
structure FitsT (t:TreeD):Prop where
 len:t.nodes.length≤1048576
 nodes:∀ x∈t.nodes,FitsB x.blk
theorem fitsT_of {t:TreeD} (h:sizeTr t≤1048576):FitsT t:=by
 unfold sizeTr at h
 exact ⟨by omega,fun x hx=>fitsB_of (by have:=psum_mem sizeN t.nodes x hx; unfold sizeN at *; omega)⟩
theorem toNode_fr (x:NodeD) (n:Nat) (h:FitsB x.blk):Ret Tryz.prog 108 [nodeV x] [] n true (Is (nodeV x) [] n):=by
 refine Ret.fn ttOk Tryz.func108 rfl Tryz.call108 rfl rfl ?_
 refine Goes ?_
 first | refine CallP.is (toBlock_fr x.blk _ h) rfl ?_ | refine CallQ.is (toBlock_fr x.blk _ h) rfl rfl ?_
 refine Goes ?_
 refine FinOk.pure rfl rfl rfl ⟨?_,rfl,rfl⟩
 rfl
theorem szNode_ret (x:NodeD) (l:Int) (n:Nat) (h0:0≤l) (h1:l≤1048576) (hm:MemB x.blk):Ret Tryz.prog 105 [nodeV x,iv l] [] n true (Is (iv (leftI l (sizeN x))) [] n):=by
 refine Ret.fn ttOk Tryz.func105 rfl Tryz.call105 rfl rfl ?_
 refine Goes ?_
 first | refine CallP.is (szBlock_ret x.blk l _ h0 h1 hm) rfl ?_ | refine CallQ.is (szBlock_ret x.blk l _ h0 h1 hm) rfl rfl ?_
 refine Goes ?_;repeat' first|apply W2.m|refine W1.m fun h=>?_
 · have h':leftI l (sizeB x.blk:Nat) < 0:=h
   refine FinOk.pure rfl rfl rfl ⟨?_,rfl,rfl⟩
   unfold sizeN
   rw [(leftI_neg h' h0).1]
 · refine FinOk.pure rfl rfl rfl ⟨?_,rfl,rfl⟩
   rfl
theorem eqNode_yes (x:NodeD) (n:Nat) (hf:FitsB x.blk):Ret Tryz.prog 111 [nodeV x,nodeV x] [] n true (Is (bv true) [] n):=by
 refine Ret.fn ttOk Tryz.func111 rfl Tryz.call111 rfl rfl ?_
 refine Goes ?_;repeat' first|apply W2.m|refine W1.m fun h=>?_
 first | refine CallP.is (eqBlock_yes x.blk _ hf) rfl ?_ | refine CallQ.is (eqBlock_yes x.blk _ hf) rfl rfl ?_
 refine Goes ?_
 refine FinOk.pure rfl rfl rfl ⟨?_,rfl,rfl⟩
 rfl
theorem toNodeS_ret (xs:List NodeD) (n:Nat) (hl:xs.length≤1048576) (hx:∀ x∈xs,∀ n,Ret Tryz.prog 108 [.agg (nodeC x)] [] n true (Is (.agg (nodeC x)) [] n)):Ret Tryz.prog 57 [.lst (xs.map nodeC)] [] n true (Is (.own n xs.length) [(n,.list 103 6 (xs.map nodeC))] (n + 1)):=by
 have hL:(xs.map nodeC).length=xs.length:=by simp
 refine Ret.fn ttOk Tryz.func57 rfl Tryz.call57 rfl rfl ?_
 refine Goes ?_
 rw [hL]
 refine ⟨⟨by omega,by omega,by omega,by show _ * 64≤_; omega⟩,?_⟩
 refine Goes ?_
 refine LoopP.go (fun k:Nat=>k≤xs.length) (fun k=>⟨[(0,.lst (xs.map nodeC)),(3,.own 0 xs.length),(4,iv k)],[(0,.list 103 6 (fillR nodeC [iv 0,iv 0,iv 0,iv 0,iv 0,nl] xs k))],1⟩) (fun k=>xs.length - k) 0 (Nat.zero_le _) ?_ ?_
 · refine Weak.of rfl rfl ktA ⟨⟨leafO ?_,rfl,rfl⟩,trivial⟩
   unfold fillR; simp
 intro k hk
 have hfl:=fillR_len nodeC [iv 0,iv 0,iv 0,iv 0,iv 0,nl] xs k hk
 refine Goes ?_;repeat' first|apply W2.m|refine W1.m fun h=>?_
 · have hlt:k < xs.length:=by omega
   rw [rowK nodeC xs k hlt]
   refine ⟨by rw [hL]; exact ⟨by omega,by omega,rfl⟩,?_⟩
   refine Goes ?_
   first | refine CallP.is (hx xs[k] (List.getElem_mem hlt) _) rfl ?_ | refine CallQ.is (hx xs[k] (List.getElem_mem hlt) _) rfl rfl ?_
   refine Goes ?_
   refine ⟨k + 1,by omega,by omega,Weak.of rfl rfl ktA ⟨⟨leafO ?_,rfl,rfl⟩,trivial⟩⟩
   exact setRowR nodeC [iv 0,iv 0,iv 0,iv 0,iv 0,nl] xs k hlt _ rfl _ rfl
 · obtain rfl:k=xs.length:=by omega
   rw [fillR_all]
   refine FinOk.mk' [0] rfl rfl rfl rfl rfl rfl rfl ⟨?_,?_,rfl⟩
   · rfl
   · rfl
theorem toNodeS_fr (xs:List NodeD) (n:Nat) (hl:xs.length≤1048576) (hx:∀ x∈xs,∀ n,Ret Tryz.prog 108 [.agg (nodeC x)] [] n true (Is (.agg (nodeC x)) [] n)):Ret Tryz.prog 57 [.lst (xs.map nodeC)] [] n true (Is (.lst (xs.map nodeC)) [] n) :=
 Ret.freeze (by rintro _ _ _ ⟨rfl,rfl,rfl⟩; exact ⟨_,frCell (look_cons_eq _ _ _) (by simp),rfl,rfl,rfl⟩) (toNodeS_ret xs n hl hx)
theorem szNodeS_ret (xs:List NodeD) (l:Int) (n:Nat) (h0:0≤l) (h1:l≤1048576) (hl:xs.length≤9223372036854775807) (hx:∀ x∈xs,∀ (l:Int) (n:Nat),0≤l→l≤1048576→Ret Tryz.prog 105 [.agg (nodeC x),iv l] [] n true (Is (iv (leftI l (sizeN x))) [] n)):Ret Tryz.prog 55 [.lst (xs.map nodeC),iv l] [] n true (Is (iv (leftI l (xs.length + psum sizeN xs:Nat))) [] n):=by
 have hL:(xs.map nodeC).length=xs.length:=by simp
 have he:IntKind.i64.wrap (l - (xs.map nodeC).length)=l - xs.length:=by rw [hL,IntWalk.i64_in _ (by omega)]
 refine Ret.fn ttOk Tryz.func55 rfl Tryz.call55 rfl rfl ?_
 refine Goes ?_;repeat' first|apply W2.m|refine W1.m fun h=>?_
 · rw [he] at h
   refine FinOk.pure rfl rfl rfl ⟨?_,rfl,rfl⟩
   unfold leftI; rw [if_neg (by omega)]
 rw [he] at h ⊢
 refine LoopP.go (fun k:Nat=>k≤xs.length∧(xs.length + psum sizeN (xs.take k):Nat)≤l) (fun k=>⟨[(0,.lst (xs.map nodeC)),(1,iv (l - (xs.length + psum sizeN (xs.take k):Nat))),(5,iv k)],[],0⟩) (fun k=>xs.length - k) 0 ⟨Nat.zero_le _,by simp [psum]; omega⟩ ?_ ?_
 · exact Weak.of rfl rfl ⟨⟨rfl,rfl⟩,⟨leafI (by simp [psum]),rfl⟩,⟨rfl,rfl⟩,trivial⟩ trivial
 intro k ⟨hk,hp⟩
 refine Goes ?_;repeat' first|apply W2.m|refine W1.m fun h=>?_
 · have hlt:k < xs.length:=by omega
   have hst:psum sizeN (xs.take (k + 1))=psum sizeN (xs.take k) + sizeN xs[k]:=psum_take sizeN xs k hlt
   have hle:=psum_le sizeN xs (k + 1)
   rw [rowK nodeC xs k hlt]
   refine ⟨by rw [hL]; exact ⟨by omega,by omega,rfl⟩,?_⟩
   refine Goes ?_
   first | refine CallP.is (hx xs[k] (List.getElem_mem hlt) _ _ (by omega) (by omega)) rfl ?_ | refine CallQ.is (hx xs[k] (List.getElem_mem hlt) _ _ (by omega) (by omega)) rfl rfl ?_
   refine Goes ?_;repeat' first|apply W2.m|refine W1.m fun h=>?_
   · obtain ⟨g1,g2⟩:=leftI_neg h (by omega)
     refine FinOk.pure rfl rfl rfl ⟨?_,rfl,rfl⟩
     unfold leftI; rw [if_neg (by omega)]
   · obtain ⟨g1,g2⟩:=leftI_pos h
     rw [g1]
     exact ⟨k + 1,⟨by omega,by omega⟩,by omega,Weak.of rfl rfl ⟨⟨rfl,rfl⟩,⟨leafI (by rw [hst]; omega),rfl⟩,⟨leafI numA,rfl⟩,trivial⟩ trivial⟩
 · obtain rfl:k=xs.length:=by omega
   rw [List.take_length] at hp ⊢
   refine FinOk.pure rfl rfl rfl ⟨?_,rfl,rfl⟩
   unfold leftI; rw [if_pos (by omega)]
theorem eqNodeS_yes (a:List NodeD) (n:Nat) (hl:a.length≤1048576) (hx:∀ x∈a,∀ n,Ret Tryz.prog 111 [.agg (nodeC x),.agg (nodeC x)] [] n true (Is (bv true) [] n)):Ret Tryz.prog 59 [.lst (a.map nodeC),.lst (a.map nodeC)] [] n true (Is (bv true) [] n):=by
 have hL:(a.map nodeC).length=a.length:=by simp
 refine Ret.fn ttOk Tryz.func59 rfl Tryz.call59 rfl rfl ?_
 refine Goes ?_;repeat' first|apply W2.m|refine W1.m fun h=>?_
 refine LoopP.go (fun k:Nat=>k≤a.length) (fun k=>⟨[(0,.lst (a.map nodeC)),(1,.lst (a.map nodeC)),(5,iv k)],[],0⟩) (fun k=>a.length - k) 0 (Nat.zero_le _) (Weak.of rfl rfl ktA trivial) ?_
 intro k hk
 refine Goes ?_;repeat' first|apply W2.m|refine W1.m fun h=>?_
 · have hka:k < a.length:=by omega
   rw [rowK nodeC a k hka]
   refine ⟨by rw [hL]; exact ⟨by omega,by omega,rfl⟩,?_⟩
   refine Goes ?_
   rw [rowK nodeC a k hka]
   refine ⟨by rw [hL]; exact ⟨by omega,by omega,rfl⟩,?_⟩
   refine Goes ?_
   first | refine CallP.is (hx a[k] (List.getElem_mem hka) _) rfl ?_ | refine CallQ.is (hx a[k] (List.getElem_mem hka) _) rfl rfl ?_
   refine Goes ?_
   exact ⟨k + 1,by omega,by omega,(Weak.of rfl rfl ktA trivial)⟩
 · refine FinOk.pure rfl rfl rfl ⟨?_,rfl,rfl⟩
   rfl
theorem toTree_fr (t:TreeD) (n:Nat) (h:FitsT t):Ret Tryz.prog 13 [treeV t] [] n true (Is (treeV t) [] n):=by
 refine Ret.fn ttOk Tryz.func13 rfl Tryz.call13 rfl rfl ?_
 refine Goes ?_
 first | refine CallP.is (toNodeS_fr t.nodes _ h.len fun x hx n=>toNode_fr x n (h.nodes x hx)) rfl ?_ | refine CallQ.is (toNodeS_fr t.nodes _ h.len fun x hx n=>toNode_fr x n (h.nodes x hx)) rfl rfl ?_
 refine Goes ?_
 refine FinOk.pure rfl rfl rfl ⟨?_,rfl,rfl⟩
 rfl
theorem szTree_ret (t:TreeD) (l:Int) (n:Nat) (h0:0≤l) (h1:l≤1048576) (hm:MemT t):Ret Tryz.prog 11 [treeV t,iv l] [] n true (Is (iv (leftI l (sizeTr t))) [] n):=by
 refine Ret.fn ttOk Tryz.func11 rfl Tryz.call11 rfl rfl ?_
 refine Goes ?_
 first | refine CallP.is (szNodeS_ret t.nodes l _ h0 h1 hm.len fun x hx l n a c=>szNode_ret x l n a c (hm.nodes x hx)) rfl ?_ | refine CallQ.is (szNodeS_ret t.nodes l _ h0 h1 hm.len fun x hx l n a c=>szNode_ret x l n a c (hm.nodes x hx)) rfl rfl ?_
 refine Goes ?_;repeat' first|apply W2.m|refine W1.m fun h=>?_
 · have h':leftI l (t.nodes.length + psum sizeN t.nodes:Nat) < 0:=h
   refine FinOk.pure rfl rfl rfl ⟨?_,rfl,rfl⟩
   unfold sizeTr
   rw [(leftI_neg h' h0).1]
 · refine FinOk.pure rfl rfl rfl ⟨?_,rfl,rfl⟩
   rfl
theorem eqTree_yes (t:TreeD) (n:Nat) (hf:FitsT t):Ret Tryz.prog 15 [treeV t,treeV t] [] n true (Is (bv true) [] n):=by
 refine Ret.fn ttOk Tryz.func15 rfl Tryz.call15 rfl rfl ?_
 refine Goes ?_;repeat' first|apply W2.m|refine W1.m fun h=>?_
 first | refine CallP.is (eqNodeS_yes t.nodes _ hf.len fun x hx n=>eqNode_yes x n (hf.nodes x hx)) rfl ?_ | refine CallQ.is (eqNodeS_yes t.nodes _ hf.len fun x hx n=>eqNode_yes x n (hf.nodes x hx)) rfl rfl ?_
 refine Goes ?_
 refine FinOk.pure rfl rfl rfl ⟨?_,rfl,rfl⟩
 rfl
end Go.Proofs.YtllhgcfacgiabaaGreat
namespace Go.Proofs.YtllhgcfacgiabaaGreat
open Go Go.Am Go.RowKit Go.ChangeShapes Go.WideShapes Go.ChangeAt Go.Deep
set_option linter.unusedVariables false
section
variable {H:Type} {enc:TypeId × Value→H} {w:World} {base:Nat} {sp:Nat→Bool} {held:Bool}
theorem allTwo {Z0 Z1:List AV→Prop} {ps:List (List AV)} (h:All2 (fun (Z:List AV→Prop) p=>Z p) [Z0,Z1] ps):∃ p0 p1,ps=[p0,p1]∧Z0 p0∧Z1 p1 :=
 match ps,h with
 | [p0,p1],h=>⟨p0,p1,rfl,h.1,h.2.1⟩
theorem info_Node:∃ f0 f1:Field,Tryz.prog.underlying 159=some (.struct #[f0,f1])∧f0.type=2∧f1.type=35∧offsB Tryz.prog 0 [f0,f1] (Tryz.prog.cellsOf 159)=true :=
 ⟨_,_,Tryz.underlying159,rfl,rfl,by kernel_rfl⟩
theorem reads_Node:Reads enc Tryz.prog w base sp held 159 fun us=>∃ x:NodeD,us=nodeC x∧MemB x.blk:=by
 obtain ⟨f0,f1,hu,h0,h1,ho⟩:=info_Node
 refine (reads_struct hu [isInt,fun us=>∃ x:BlkD,us=blkC x∧MemB x] ho ⟨?_,?_,trivial⟩).mono ?_
 · show Reads enc _ w base sp held f0.type isInt; rw [h0]; exact reads_i
 · show Reads enc _ w base sp held f1.type _; rw [h1]; exact reads_Block
 rintro us ⟨ps,hp,rfl⟩
 obtain ⟨_,_,rfl,⟨a,rfl⟩,⟨b,rfl,hb⟩⟩:=allTwo hp
 exact ⟨⟨a,b⟩,rfl,hb⟩
theorem reads_NodeS:Reads enc Tryz.prog w base sp held 22 fun us=>∃ xs:List NodeD,us=[nodesV xs]∧xs.length≤maxLen∧∀ x∈xs,MemB x.blk :=
 (reads_slice Tryz.underlying22 (by rw [show Tryz.prog.cellsOf 159=6 from by kernel_rfl]; decide) reads_Node).mono fun us ⟨rows,h1,h2,h3⟩=>by
   obtain ⟨zs,g1,g2,g3⟩:=rows_of (f:=nodeC) h3
   exact ⟨zs,by rw [h1,g1],by omega,g2⟩
theorem info_Tree:∃ f0 f1:Field,Tryz.prog.underlying 24=some (.struct #[f0,f1])∧f0.type=2∧f1.type=22∧offsB Tryz.prog 0 [f0,f1] (Tryz.prog.cellsOf 24)=true :=
 ⟨_,_,Tryz.underlying24,rfl,rfl,by kernel_rfl⟩
theorem reads_Tree:Reads enc Tryz.prog w base sp held 24 fun us=>∃ x:TreeD,us=treeC x∧MemT x:=by
 obtain ⟨f0,f1,hu,h0,h1,ho⟩:=info_Tree
 refine (reads_struct hu [isIntR,fun us=>∃ xs:List NodeD,us=[nodesV xs]∧xs.length≤maxLen∧∀ x∈xs,MemB x.blk] ho ⟨?_,?_,trivial⟩).mono ?_
 · show Reads enc _ w base sp held f0.type isIntR; rw [h0]; exact reads_ir
 · show Reads enc _ w base sp held f1.type _; rw [h1]; exact reads_NodeS
 rintro us ⟨ps,hp,rfl⟩
 obtain ⟨_,_,rfl,⟨a,rfl,ha⟩,⟨b,rfl,hb1,hb2⟩⟩:=allTwo hp
 exact ⟨⟨a,b⟩,rfl,Nat.le_trans hb1 (by decide),hb2,ha⟩
theorem tree_came {vs:Array Value} {d:DataW H} {ps:List MemPlace} (h:DataW.Trod enc Tryz.prog w base sp held 24 (.agg vs) d ps):∃ b:TreeD,MemT b∧VRel w (fun b=>b < w.heap.size) (fun _=>none) (.agg vs) (treeV b):=by
 obtain ⟨us,⟨b,rfl,hm⟩,hv⟩:=reads_agg reads_Tree h
 exact ⟨b,hm,hv⟩
end
end Go.Proofs.YtllhgcfacgiabaaGreat
namespace Go.Proofs.YtllhgcfacgiabaaGreat
open Go Go.Am Go.RowKit
set_option linter.unusedVariables false
set_option linter.unusedSimpArgs false
theorem l1Target_ret (b:Int) (n:Nat) (hb:bitsB b=true):Ret Tryz.prog 100 [iv b] [] n true (Is (iv (tgtB b)) [] n):=by
 unfold bitsB at hb
 simp only [decide_eq_true_eq] at hb
 have hr:b.tmod 256=b % 256:=Int.tmod_eq_emod_of_nonneg (by omega)
 unfold tgtB tgF
 obtain ⟨e,he⟩:∃ e,e=b / 256:=⟨_,rfl⟩
 have hq:IntKind.i64.wrap (b.tdiv 256)=e:=by rw [Int.tdiv_eq_ediv_of_nonneg (by omega),IntWalk.i64_in _ (by omega),he]
 rw [← he]
 rcases (by omega:e=0∨e=1∨e=2∨e=3) with rfl | rfl | rfl | rfl
 all_goals
  refine Ret.fn ttOk Tryz.func100 rfl Tryz.call100 rfl rfl ?_
  refine Goes ?_
  rw [hq]
  refine ⟨by decide,?_⟩
  refine Goes ?_
  refine FinOk.pure rfl rfl rfl ⟨?_,rfl,rfl⟩
  refine ivI ?_
  rw [hr]
  simp (disch:=omega) [IntKind.bits,IntWalk.i64_in,IntWalk.u64_in]
  try (simp (disch:=omega) [IntWalk.i64_in])
  try rw [Int.add_mul]
  try rw [Int.one_mul]
def findP (xs:List PlaceD) (s:Int):Int:=match nodeF xs s with | some k=>(k:Int) + -1 | none=>-2
structure Upto (t:TreeD) (xs:List PlaceD) (i:Nat):Prop where
 good:Good t.bits xs (t.nodes.take i)
 le:i≤t.nodes.length
 cap:t.nodes.length≤8
theorem Upto.len {t:TreeD} {xs:List PlaceD} {i:Nat} (h:Upto t xs i):xs.length=i + 1:=by
 have:=h.le
 rw [h.good.len,List.length_take]; omega
theorem Upto.at {t:TreeD} {xs:List PlaceD} {i k:Nat} (h:Upto t xs i) (hk:k < i) (hk2:k < t.nodes.length):-1≤t.nodes[k].up∧t.nodes[k].up + 1≤k∧FitsB t.nodes[k].blk∧blkF t.nodes[k].blk=0∧∃ p,xs[(t.nodes[k].up + 1).toNat]?=some p∧xs[k + 1]?=some (nextP p t.nodes[k].up t.nodes[k].blk)∧codeP t.bits p t.nodes[k].blk=0:=by
 have hn:(t.nodes.take i)[k]?=some t.nodes[k]:=by rw [List.getElem?_take_of_lt hk]; exact List.getElem?_eq_getElem hk2
 obtain ⟨a1,a2,a3⟩:=h.good.up k _ hn
 obtain ⟨b1,b2⟩:=h.good.fit _ (List.mem_of_getElem? hn)
 exact ⟨a1,a2,b1,b2,a3⟩
theorem l6Find_rp (t:TreeD) (xs:List PlaceD) (s:Int) (i n:Nat) (hu:Upto t xs i):Ret Tryz.prog 117 [.rp (treeC t),iv s,iv i] [] n true (Is (iv (findP xs s)) [] n):=by
 have hL:(t.nodes.map nodeC).length=t.nodes.length:=by simp
 have hxl:=hu.len
 have hi:=hu.le
 have h8:=hu.cap
 have hz0:nodeF xs 0=some 0:=hu.good.nodeF_at hu.good.zero
 by_cases h0:s=0
 · subst h0
   have hf:findP xs 0=-1:=by unfold findP; rw [hz0]; rfl
   rw [hf]
   refine Ret.fn ttOk Tryz.func117 rfl Tryz.call117 rfl rfl ?_
   refine Goes ?_
   refine FinOk.pure rfl rfl rfl ⟨?_,rfl,rfl⟩
   rfl
 have hs0:∀ (q:Nat) (r:PlaceD),q < 0 + 1→xs[q]?=some r→r.sum≠s:=fun q r hq hr e=>by
  obtain rfl:q=0:=by omega
  rw [hu.good.zero] at hr
  cases hr
  exact h0 e.symm
 refine Ret.fn ttOk Tryz.func117 rfl Tryz.call117 rfl rfl ?_
 refine Goes ?_;repeat' first|apply W2.m|refine W1.m fun h=>?_
 refine LoopP.go (fun k:Nat=>k≤i∧∀ (q:Nat) (r:PlaceD),q < k + 1→xs[q]?=some r→r.sum≠s) (fun k=>⟨[(0,.rp (treeC t)),(1,iv s),(2,iv i),(7,iv k)],[],0⟩) (fun k=>i - k) 0 ⟨Nat.zero_le _,hs0⟩ (Weak.of rfl rfl ktA trivial) ?_
 intro k ⟨hk,hp⟩
 by_cases hlt:k < i
 · have hlt2:k < t.nodes.length:=by omega
   obtain ⟨a1,a2,hf,hb,p,a3,a4,a5⟩:=hu.at hlt hlt2
   obtain ⟨_,hl1,hl4,hz⟩:=blkF_ok hb
   have hh:=fun n=>l6Header_rp t.nodes[k].blk n hl1 hl4 hz
   refine Goes ?_;repeat' first|apply W2.m|refine W1.m fun h=>?_
   rw [rowK nodeC t.nodes k hlt2]
   refine ⟨by rw [hL]; exact ⟨by omega,by omega,rfl⟩,?_⟩
   refine Goes ?_
   first | refine CallP.is (hh _) rfl ?_ | refine CallQ.is (hh _) rfl rfl ?_
   refine Goes ?_;repeat' first|apply W2.m|refine W1.m fun h=>?_
   · have hF:findP xs s=(k:Int):=by
      unfold findP
      rw [nodeF_some.2 ⟨_,a4,by assumption,hp⟩]
      show ((k + 1:Nat):Int) + -1=k
      omega
     rw [hF]
     refine FinOk.pure rfl rfl rfl ⟨?_,rfl,rfl⟩
     rfl
   · exact ⟨k + 1,⟨by omega,fun q r hq hr e=>by
      by_cases hq2:q < k + 1
      · exact hp q r hq2 hr e
      · obtain rfl:q=k + 1:=by omega
        rw [a4] at hr
        cases hr
        exact absurd e (by assumption)⟩,by omega,(Weak.of rfl rfl ktA trivial)⟩
 · obtain rfl:k=i:=by omega
   have hF:findP xs s=-2:=by
    unfold findP
    rw [nodeF_none.2 fun p hp' e=>by
     obtain ⟨q,hq,rfl⟩:=List.getElem_of_mem hp'
     exact hp q _ (by omega) (List.getElem?_eq_getElem hq) e]
   rw [hF]
   refine Goes ?_;repeat' first|apply W2.m|refine W1.m fun h=>?_
   refine FinOk.pure rfl rfl rfl ⟨?_,rfl,rfl⟩
   rfl
theorem l6Height_rp (t:TreeD) (xs:List PlaceD) (i k n:Nat) (z:Int) (p:PlaceD) (hu:Upto t xs i) (hz:z=(k:Int) + -1) (hp:xs[k]?=some p):Ret Tryz.prog 71 [.rp (treeC t),iv z] [] n true (Is (iv p.h) [] n):=by
 have hL:(t.nodes.map nodeC).length=t.nodes.length:=by simp
 have hxl:=hu.len
 have hi:=hu.le
 have h8:=hu.cap
 have hP:=hu.good.ok
 obtain ⟨_,q1,q2⟩:=hP k p hp
 have hkl:=(List.getElem?_eq_some_iff.1 hp).1
 refine Ret.fn ttOk Tryz.func71 rfl Tryz.call71 rfl rfl ?_
 refine Goes ?_
 refine LoopP.go (fun y:Int × Int=>0≤y.2∧∃ (k:Nat) (q:PlaceD),y.1=(k:Int) + -1∧xs[k]?=some q∧y.2 + q.h=p.h) (fun y=>⟨[(0,.rp (treeC t)),(1,iv y.1),(5,iv y.2)],[],0⟩) (fun y=>(y.1 + 1).toNat) (z,0) ⟨Int.le_refl _,k,p,hz,hp,by show 0 + p.h=p.h; omega⟩ (Weak.of rfl rfl ktA trivial) ?_
 rintro ⟨z,m⟩ ⟨h1,k,q,hz,h2,h3⟩
 dsimp only at h1 hz h2 h3 ⊢
 cases k with
 | zero =>
   obtain rfl:z=-1:=by omega
   rw [hu.good.zero] at h2
   cases h2
   have:m=p.h:=by have:p0.h=0:=rfl; omega
   refine Goes ?_
   refine FinOk.pure rfl rfl rfl ⟨?_,rfl,rfl⟩
   rw [this]
 | succ u =>
   obtain rfl:z=(u:Int):=by omega
   have hku:=(List.getElem?_eq_some_iff.1 h2).1
   have hlt2:u < t.nodes.length:=by omega
   obtain ⟨a1,a2,hf,hb,r,a3,a4,a5⟩:=hu.at (show u < i by omega) hlt2
   rw [a4] at h2
   cases h2
   have hh:(nextP r t.nodes[u].up t.nodes[u].blk).h=r.h + 1:=rfl
   obtain ⟨_,r1,r2⟩:=hP _ r a3
   rw [hh] at h3
   refine Goes ?_
   rw [rowK nodeC t.nodes u hlt2]
   refine ⟨by rw [hL]; exact ⟨by omega,by omega,rfl⟩,?_⟩
   refine Goes ?_
   exact ⟨(t.nodes[u].up,m + 1),⟨by show 0≤m + 1; omega,(t.nodes[u].up + 1).toNat,r,by show t.nodes[u].up=_; omega,a3,by show m + 1 + r.h=p.h; omega⟩,by show (t.nodes[u].up + 1).toNat < ((u:Int) + 1).toNat; omega,Weak.of rfl rfl ⟨⟨rfl,rfl⟩,⟨rfl,rfl⟩,⟨leafI (by rw [IntWalk.i64_in _ (by omega)]),rfl⟩,trivial⟩ trivial⟩
theorem l6Coins_rp (t:TreeD) (xs:List PlaceD) (i:Nat) (hu:Upto t xs i):∀ (k n:Nat) (z:Int) (p:PlaceD),z=(k:Int) + -1→xs[k]?=some p→Ret Tryz.prog 75 [.rp (treeC t),iv z] [] n true (Is (coinsV p.coins) [] n):=by
 have hL:(t.nodes.map nodeC).length=t.nodes.length:=by simp
 have hxl:=hu.len
 have hi:=hu.le
 have h8:=hu.cap
 have hP:=hu.good.ok
 intro k
 induction k using Nat.strongRecOn with
 | _ k ih =>
 intro n z p hz hp
 cases k with
 | zero =>
   obtain rfl:z=-1:=by omega
   rw [hu.good.zero] at hp
   cases hp
   refine Ret.frList (len:=0) (rows:=[]) (e:=184) (s:=6) rfl ?_
   refine Ret.fn ttOk Tryz.func75 rfl Tryz.call75 rfl rfl ?_
   refine Goes ?_
   refine FinOk.mk' [0] rfl rfl rfl rfl rfl rfl rfl ⟨?_,?_,rfl⟩
   · rfl
   · rfl
 | succ u =>
   obtain rfl:z=(u:Int):=by omega
   have hku:=(List.getElem?_eq_some_iff.1 hp).1
   have hlt2:u < t.nodes.length:=by omega
   obtain ⟨a1,a2,hf,hb,r,a3,a4,a5⟩:=hu.at (show u < i by omega) hlt2
   have hhg:=fun n=>l6Height_rp t xs i (u + 1) n (u:Int) p hu (by omega) hp
   rw [a4] at hp
   cases hp
   have hh:(nextP r t.nodes[u].up t.nodes[u].blk).h=r.h + 1:=rfl
   rw [hh] at hhg
   obtain ⟨c0,r1,r2⟩:=hP _ r a3
   have hrl:=(List.getElem?_eq_some_iff.1 a3).1
   obtain ⟨_,hl1,hl4,hz⟩:=blkF_ok hb
   obtain ⟨t1,t2⟩:=applyB_ok c0 (codeP_ok a5).1
   have hcs:=fun n=>ih (t.nodes[u].up + 1).toNat (by omega) n t.nodes[u].up r (by omega) a3
   have htx:=fun n=>l6Txs_rp r.coins t.nodes[u].blk (r.h + 1) n c0 hf hl4 hz ⟨by omega,by omega⟩
   simp only [if_pos t1] at htx
   refine Ret.fn ttOk Tryz.func75 rfl Tryz.call75 rfl rfl ?_
   refine Goes ?_
   rw [rowK nodeC t.nodes u hlt2]
   refine ⟨by rw [hL]; exact ⟨by omega,by omega,rfl⟩,?_⟩
   refine Goes ?_
   rw [rowK nodeC t.nodes u hlt2]
   refine ⟨by rw [hL]; exact ⟨by omega,by omega,rfl⟩,?_⟩
   refine Goes ?_
   repeat' first
    | (first | refine CallQ.is (hcs _) rfl rfl ?_ | refine CallP.is (hcs _) rfl ?_
       refine Goes ?_)
    | (first | refine CallQ.is (hhg _) rfl rfl ?_ | refine CallP.is (hhg _) rfl ?_
       refine Goes ?_)
    | (first | refine CallQ.is (htx _) rfl rfl ?_ | refine CallP.is (htx _) rfl ?_
       refine Goes ?_;repeat' first|apply W2.m|refine W1.m fun h=>?_)
   all_goals
    refine FinOk.pure rfl rfl rfl ⟨?_,rfl,rfl⟩
    rfl
end Go.Proofs.YtllhgcfacgiabaaGreat
