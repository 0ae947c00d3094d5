import Derived.Test.YtllhgcfacgiabaaGreatR5
import Derived.Test.YtllhgcfacgiabaaGreatR1
namespace Go.Proofs.YtllhgcfacgiabaaGreat
open Go Go.Am Go.RowKit
set_option linter.unusedVariables false
set_option linter.unusedSimpArgs false
structure NodeD where
 up:Int
 blk:BlkD
structure TreeD where
 bits:Int
 nodes:List NodeD
abbrev nodeC (x:NodeD):List AV:=iv x.up::blkC x.blk
abbrev nodesV (l:List NodeD):AV:=.lst (l.map nodeC)
abbrev treeC (t:TreeD):List AV:=[iv t.bits,nodesV t.nodes]
def p0:PlaceD:=⟨0,0,0,0,[]⟩
def upAt (xs:List PlaceD) (x:NodeD):Option Nat:=if -1≤x.up∧x.up + 1 < xs.length∧(xs.getD (x.up + 1).toNat p0).sum=x.blk.prev then some (x.up + 1).toNat else none
def stepC (bits:Int) (xs:List PlaceD) (x:NodeD):Int :=
 if blkF x.blk≠0 then blkF x.blk else match upAt xs x with | some k=>addP bits xs (xs.getD k p0) x.blk | none=>4
def stepX (bits:Int) (xs:List PlaceD) (x:NodeD):List PlaceD :=
 if stepC bits xs x=0 then xs++[nextP (xs.getD (x.up + 1).toNat p0) x.up x.blk] else xs
def PlacesOk (xs:List PlaceD):Prop:=∀ (k:Nat) (p:PlaceD),xs[k]?=some p→coinsC p.coins=0∧0≤p.h∧p.h≤k
theorem upAt_some {xs:List PlaceD} {x:NodeD} {k:Nat} (h:upAt xs x=some k):k < xs.length∧x.up=(k:Int) + -1∧(xs.getD k p0).sum=x.blk.prev:=by
 unfold upAt at h
 split at h
 · rename_i g
   cases h
   exact ⟨by omega,by omega,g.2.2⟩
 · cases h
theorem codeP_ok {bits:Int} {p:PlaceD} {b:BlkD} (h:codeP bits p b=0):applyB b p.coins (p.h + 1)=0∧b.bits=bits∧p.time < b.time∧hdrB b≤tgtB b.bits:=by
 unfold codeP at h
 by_cases h9:b.bits≠bits∨b.time≤p.time
 · rw [if_pos h9] at h; cases h
 rw [if_neg h9] at h
 by_cases h8:¬ hdrB b≤tgtB b.bits
 · rw [if_pos h8] at h; cases h
 rw [if_neg h8] at h
 by_cases h1:(b.txs.headD (0,[],[])).1≠p.h + 1
 · rw [if_pos h1] at h; cases h
 rw [if_neg h1] at h
 exact ⟨h,Decidable.not_not.1 fun e=>h9 (.inl e),Int.not_le.1 fun e=>h9 (.inr e),Decidable.not_not.1 h8⟩
theorem applyB_ok {b:BlkD} {l:List CoinD} {hg:Int} (h0:coinsC l=0) (h:applyB b l hg=0):(runT hg l b.txs).1=0∧coinsC (runT hg l b.txs).2.1=0:=by
 unfold applyB at h
 by_cases h1:(runT hg l b.txs).1≠0
 · rw [if_pos h1] at h; exact absurd h h1
 · have h2:=Decidable.not_not.1 h1
   exact ⟨h2,(runT_ok hg b.txs l h0 h2).1⟩
theorem stepX_ok {bits:Int} {xs:List PlaceD} {x:NodeD} (h:PlacesOk xs):PlacesOk (stepX bits xs x):=by
 unfold stepX
 split
 · rename_i hs
   intro k p hp
   by_cases hk:k < xs.length
   · rw [List.getElem?_append_left hk] at hp; exact h k p hp
   · rw [List.getElem?_append_right (by omega)] at hp
     have hk0:k - xs.length=0:=by
      cases e:k - xs.length with
      | zero=>rfl
      | succ m=>rw [e] at hp; simp at hp
     rw [hk0] at hp
     cases (show some (nextP (xs.getD (x.up + 1).toNat p0) x.up x.blk)=some p from hp)
     unfold stepC at hs
     by_cases hb:blkF x.blk≠0
     · rw [if_pos hb] at hs; exact absurd hs hb
     rw [if_neg hb] at hs
     cases hu:upAt xs x with
     | none=>rw [hu] at hs; cases hs
     | some m =>
       rw [hu] at hs
       dsimp only at hs
       obtain ⟨u1,u2,u3⟩:=upAt_some hu
       have hm:=List.getElem?_eq_getElem u1
       have hg:xs.getD m p0=xs[m]:=by simp [List.getD_eq_getElem?_getD,hm]
       have hm2:(x.up + 1).toNat=m:=by omega
       rw [hm2,hg]
       rw [hg] at hs
       obtain ⟨c1,c2,c3⟩:=h m _ hm
       unfold addP at hs
       by_cases hc:codeP bits xs[m] x.blk≠0
       · rw [if_pos hc] at hs; exact absurd hs hc
       have hc0:=Decidable.not_not.1 hc
       refine ⟨(applyB_ok c1 (codeP_ok hc0).1).2,?_,?_⟩
       · show 0≤xs[m].h + 1; omega
       · show xs[m].h + 1≤k; omega
 · exact h
structure Good (bits:Int) (xs:List PlaceD) (ns:List NodeD):Prop where
 len:xs.length=ns.length + 1
 zero:xs[0]?=some p0
 fit:∀ x∈ns,FitsB x.blk∧blkF x.blk=0
 up:∀ (k:Nat) (x:NodeD),ns[k]?=some x→-1≤x.up∧x.up + 1≤k∧∃ p,xs[(x.up + 1).toNat]?=some p∧xs[k + 1]?=some (nextP p x.up x.blk)∧codeP bits p x.blk=0
 ok:PlacesOk xs
 dist:∀ (i j:Nat) (p q:PlaceD),xs[i]?=some p→xs[j]?=some q→p.sum=q.sum→i=j
theorem nodeF_none {xs:List PlaceD} {s:Int}:nodeF xs s=none↔∀ p∈xs,p.sum≠s:=by
 unfold nodeF
 rw [List.findIdx?_eq_none_iff]
 simp
theorem nodeF_some {xs:List PlaceD} {s:Int} {k:Nat}:nodeF xs s=some k↔∃ p,xs[k]?=some p∧p.sum=s∧∀ (q:Nat) (r:PlaceD),q < k→xs[q]?=some r→r.sum≠s:=by
 unfold nodeF
 rw [List.findIdx?_eq_some_iff_getElem]
 constructor
 · rintro ⟨h,h1,h2⟩
   refine ⟨xs[k],List.getElem?_eq_getElem h,by simpa using h1,fun q r hq hr=>?_⟩
   obtain ⟨hq2,e⟩:=List.getElem?_eq_some_iff.1 hr
   have:=h2 q hq
   subst e
   simpa using this
 · rintro ⟨p,h1,h2,h3⟩
   obtain ⟨h,e⟩:=List.getElem?_eq_some_iff.1 h1
   refine ⟨h,by rw [e]; simpa using h2,fun q hq=>?_⟩
   have:=h3 q _ hq (List.getElem?_eq_getElem (by omega))
   simpa using this
theorem addP_zero {bits:Int} {xs:List PlaceD} {p:PlaceD} {b:BlkD} (h:addP bits xs p b=0):codeP bits p b=0∧nodeF xs (hdrB b)=none:=by
 unfold addP at h
 by_cases h1:codeP bits p b≠0
 · rw [if_pos h1] at h; exact absurd h h1
 rw [if_neg h1] at h
 refine ⟨Decidable.not_not.1 h1,?_⟩
 cases hn:nodeF xs (hdrB b) with
 | none=>rfl
 | some k=>rw [hn] at h; cases h
theorem stepC_zero {bits:Int} {xs:List PlaceD} {x:NodeD} (h:stepC bits xs x=0):blkF x.blk=0∧∃ (k:Nat) (p:PlaceD),xs[k]?=some p∧x.up=(k:Int) + -1∧p.sum=x.blk.prev∧xs.getD (x.up + 1).toNat p0=p∧codeP bits p x.blk=0∧nodeF xs (hdrB x.blk)=none:=by
 unfold stepC at h
 by_cases hb:blkF x.blk≠0
 · rw [if_pos hb] at h; exact absurd h hb
 rw [if_neg hb] at h
 refine ⟨Decidable.not_not.1 hb,?_⟩
 cases hu:upAt xs x with
 | none=>rw [hu] at h; cases h
 | some m =>
   rw [hu] at h
   dsimp only at h
   obtain ⟨u1,u2,u3⟩:=upAt_some hu
   have hm:=List.getElem?_eq_getElem u1
   have hg:xs.getD m p0=xs[m]:=by simp [List.getD_eq_getElem?_getD,hm]
   have hm2:(x.up + 1).toNat=m:=by omega
   rw [hg] at h u3
   exact ⟨m,xs[m],hm,u2,u3,by rw [hm2,hg],addP_zero h⟩
theorem Good.nil (bits:Int):Good bits [p0] [] where
 len:=rfl
 zero:=rfl
 fit:=fun x h=>by cases h
 up:=fun k x h=>by cases h
 ok:=fun k p h=>by
  cases k with
  | zero=>cases h; exact ⟨rfl,Int.le_refl _,Int.le_refl _⟩
  | succ m=>simp at h
 dist:=fun i j p q h1 h2 _=>by
  obtain ⟨h1,_⟩:=List.getElem?_eq_some_iff.1 h1
  obtain ⟨h2,_⟩:=List.getElem?_eq_some_iff.1 h2
  simp at h1 h2
  omega
theorem Good.step {bits:Int} {xs:List PlaceD} {ns:List NodeD} {x:NodeD} (h:Good bits xs ns) (hf:FitsB x.blk) (hs:stepC bits xs x=0):Good bits (stepX bits xs x) (ns++[x]):=by
 obtain ⟨hb,k,p,hk,hu,hp,hg,hc,hn⟩:=stepC_zero hs
 have hX:stepX bits xs x=xs++[nextP p x.up x.blk]:=by unfold stepX; rw [if_pos hs,hg]
 have hok:=stepX_ok (bits:=bits) (x:=x) h.ok
 have hkl:=(List.getElem?_eq_some_iff.1 hk).1
 have hl:=h.len
 rw [hX] at hok ⊢
 have hnew:(xs++[nextP p x.up x.blk])[xs.length]?=some (nextP p x.up x.blk):=by simp
 have hold:∀ q,q < xs.length→(xs++[nextP p x.up x.blk])[q]?=xs[q]?:=fun q hq=>List.getElem?_append_left hq
 refine ⟨by simp [hl],by rw [hold 0 (by omega)]; exact h.zero,?_,?_,hok,?_⟩
 · intro y hy
   rcases List.mem_append.1 hy with hy | hy
   · exact h.fit y hy
   · rw [List.mem_singleton.1 hy]; exact ⟨hf,hb⟩
 · intro m y hy
   by_cases hm:m < ns.length
   · rw [List.getElem?_append_left hm] at hy
     obtain ⟨a1,a2,q,a3,a4,a5⟩:=h.up m y hy
     exact ⟨a1,a2,q,by rw [hold _ (by omega)]; exact a3,by rw [hold _ (by omega)]; exact a4,a5⟩
   · obtain ⟨hm2,_⟩:=List.getElem?_eq_some_iff.1 hy
     simp at hm2
     obtain rfl:m=ns.length:=by omega
     simp at hy
     subst hy
     have hk2:(x.up + 1).toNat=k:=by omega
     exact ⟨by omega,by omega,p,by rw [hk2,hold _ hkl]; exact hk,by rw [← hl]; exact hnew,hc⟩
 · have hne:∀ (q:Nat) (r:PlaceD),xs[q]?=some r→r.sum≠hdrB x.blk:=fun q r hr=>nodeF_none.1 hn r (List.mem_of_getElem? hr)
   intro i j a b ha hb' hab
   obtain ⟨hi,_⟩:=List.getElem?_eq_some_iff.1 ha
   obtain ⟨hj,_⟩:=List.getElem?_eq_some_iff.1 hb'
   simp at hi hj
   by_cases hi2:i < xs.length
   · rw [hold i hi2] at ha
     by_cases hj2:j < xs.length
     · rw [hold j hj2] at hb'
       exact h.dist i j a b ha hb' hab
     · obtain rfl:j=xs.length:=by omega
       rw [hnew] at hb'
       cases hb'
       exact absurd hab (hne i a ha)
   · obtain rfl:i=xs.length:=by omega
     rw [hnew] at ha
     cases ha
     by_cases hj2:j < xs.length
     · rw [hold j hj2] at hb'
       exact absurd hab.symm (hne j b hb')
     · omega
theorem Good.nodeF_at {bits:Int} {xs:List PlaceD} {ns:List NodeD} (h:Good bits xs ns) {k:Nat} {p:PlaceD} (hk:xs[k]?=some p):nodeF xs p.sum=some k :=
 nodeF_some.2 ⟨p,hk,rfl,fun q r hq hr e=>by have:=h.dist q k r p hr hk e; omega⟩
def goC (bits:Int):List PlaceD→List NodeD→Int
 | _,[]=>0
 | xs,x::r=>if stepC bits xs x≠0 then stepC bits xs x else goC bits (stepX bits xs x) r
def treeF (t:TreeD):Int:=if bitsB t.bits=true then (if 8 < t.nodes.length then 2 else goC t.bits [p0] t.nodes) else 3
theorem goC_at (bits:Int) (xs:List PlaceD) (ns:List NodeD) (k:Nat) (h:k < ns.length):goC bits xs (ns.drop k)=if stepC bits xs ns[k]≠0 then stepC bits xs ns[k] else goC bits (stepX bits xs ns[k]) (ns.drop (k + 1)):=by
 rw [List.drop_eq_getElem_cons h,goC]
end Go.Proofs.YtllhgcfacgiabaaGreat
namespace Go.Proofs.YtllhgcfacgiabaaGreat
open Go Go.Am Go.RowKit
set_option linter.unusedVariables false
set_option linter.unusedSimpArgs false
abbrev nodeV (x:NodeD):AV:=.agg (nodeC x)
abbrev treeV (t:TreeD):AV:=.agg (treeC t)
def sizeN (x:NodeD):Nat:=sizeB x.blk
def sizeTr (t:TreeD):Nat:=t.nodes.length + psum sizeN t.nodes
structure MemT (t:TreeD):Prop where
 len:t.nodes.length≤9223372036854775807
 nodes:∀ x∈t.nodes,MemB x.blk
 bits:isI64 t.bits
structure FitsT (t:TreeD):Prop where
 len:t.nodes.length≤1048576
 nodes:∀ x∈t.nodes,FitsB x.blk
theorem fitsT_of {t:TreeD} (h:sizeTr t≤1048576):FitsT t:=by
 unfold sizeTr at h
 exact ⟨by omega,fun x hx=>fitsB_of (by have:=psum_mem sizeN t.nodes x hx; unfold sizeN at *; omega)⟩
theorem toNode_fr (x:NodeD) (n:Nat) (h:FitsB x.blk):Ret Tryz.prog 108 [nodeV x] [] n true (Is (nodeV x) [] n):=by
 refine Ret.fn ttOk Tryz.func108 rfl Tryz.call108 rfl rfl ?_
 refine Goes ?_;repeat' first|apply W2.m|refine W1.m fun h=>?_
 first | refine CallP.is (toBlock_fr x.blk _ h) rfl ?_ | refine CallQ.is (toBlock_fr x.blk _ h) rfl rfl ?_
 refine Goes ?_;repeat' first|apply W2.m|refine W1.m fun h=>?_
 refine FinOk.pure rfl rfl rfl ⟨?_,rfl,rfl⟩
 rfl
theorem szNode_ret (x:NodeD) (l:Int) (n:Nat) (h0:0≤l) (h1:l≤1048576) (hm:MemB x.blk):Ret Tryz.prog 105 [nodeV x,iv l] [] n true (Is (iv (leftI l (sizeN x))) [] n):=by
 refine Ret.fn ttOk Tryz.func105 rfl Tryz.call105 rfl rfl ?_
 refine Goes ?_;repeat' first|apply W2.m|refine W1.m fun h=>?_
 first | refine CallP.is (szBlock_ret x.blk l _ h0 h1 hm) rfl ?_ | refine CallQ.is (szBlock_ret x.blk l _ h0 h1 hm) rfl rfl ?_
 refine Goes ?_;repeat' first|apply W2.m|refine W1.m fun h=>?_
 · have h':leftI l (sizeB x.blk:Nat) < 0:=h
   refine FinOk.pure rfl rfl rfl ⟨?_,rfl,rfl⟩
   unfold sizeN
   rw [(leftI_neg h' h0).1]
 · refine FinOk.pure rfl rfl rfl ⟨?_,rfl,rfl⟩
   rfl
theorem eqNode_yes (x:NodeD) (n:Nat) (hf:FitsB x.blk):Ret Tryz.prog 111 [nodeV x,nodeV x] [] n true (Is (bv true) [] n):=by
 refine Ret.fn ttOk Tryz.func111 rfl Tryz.call111 rfl rfl ?_
 refine Goes ?_;repeat' first|apply W2.m|refine W1.m fun h=>?_
 first | refine CallP.is (eqBlock_yes x.blk _ hf) rfl ?_ | refine CallQ.is (eqBlock_yes x.blk _ hf) rfl rfl ?_
 refine Goes ?_;repeat' first|apply W2.m|refine W1.m fun h=>?_
 refine FinOk.pure rfl rfl rfl ⟨?_,rfl,rfl⟩
 rfl
theorem toNodeS_ret (xs:List NodeD) (n:Nat) (hl:xs.length≤1048576) (hx:∀ x∈xs,∀ n,Ret Tryz.prog 108 [.agg (nodeC x)] [] n true (Is (.agg (nodeC x)) [] n)):Ret Tryz.prog 57 [.lst (xs.map nodeC)] [] n true (Is (.own n xs.length) [(n,.list 103 6 (xs.map nodeC))] (n + 1)):=by
 have hL:(xs.map nodeC).length=xs.length:=by simp
 refine Ret.fn ttOk Tryz.func57 rfl Tryz.call57 rfl rfl ?_
 refine Goes ?_;repeat' first|apply W2.m|refine W1.m fun h=>?_
 rw [hL]
 refine ⟨⟨by omega,by omega,by omega,by show _ * 64≤_; omega⟩,?_⟩
 refine Goes ?_;repeat' first|apply W2.m|refine W1.m fun h=>?_
 refine LoopP.go (fun k:Nat=>k≤xs.length) (fun k=>⟨[(0,.lst (xs.map nodeC)),(3,.own 0 xs.length),(4,iv k)],[(0,.list 103 6 (fillR nodeC [iv 0,iv 0,iv 0,iv 0,iv 0,nl] xs k))],1⟩) (fun k=>xs.length - k) 0 (Nat.zero_le _) ?_ ?_
 · refine Weak.of rfl rfl ktA ⟨⟨leafO ?_,rfl,rfl⟩,trivial⟩
   unfold fillR; simp
 intro k hk
 have hfl:=fillR_len nodeC [iv 0,iv 0,iv 0,iv 0,iv 0,nl] xs k hk
 refine Goes ?_;repeat' first|apply W2.m|refine W1.m fun h=>?_
 · have hlt:k < xs.length:=by omega
   rw [rowK nodeC xs k hlt]
   refine ⟨by rw [hL]; exact ⟨by omega,by omega,rfl⟩,?_⟩
   refine Goes ?_;repeat' first|apply W2.m|refine W1.m fun h=>?_
   first | refine CallP.is (hx xs[k] (List.getElem_mem hlt) _) rfl ?_ | refine CallQ.is (hx xs[k] (List.getElem_mem hlt) _) rfl rfl ?_
   refine Goes ?_;repeat' first|apply W2.m|refine W1.m fun h=>?_
   refine ⟨k + 1,by omega,by omega,Weak.of rfl rfl ktA ⟨⟨leafO ?_,rfl,rfl⟩,trivial⟩⟩
   exact setRowR nodeC [iv 0,iv 0,iv 0,iv 0,iv 0,nl] xs k hlt _ rfl _ rfl
 · obtain rfl:k=xs.length:=by omega
   rw [fillR_all]
   refine FinOk.mk' [0] rfl rfl rfl rfl rfl rfl rfl ⟨?_,?_,rfl⟩
   · rfl
   · rfl
theorem toNodeS_fr (xs:List NodeD) (n:Nat) (hl:xs.length≤1048576) (hx:∀ x∈xs,∀ n,Ret Tryz.prog 108 [.agg (nodeC x)] [] n true (Is (.agg (nodeC x)) [] n)):Ret Tryz.prog 57 [.lst (xs.map nodeC)] [] n true (Is (.lst (xs.map nodeC)) [] n) :=
 Ret.freeze (by rintro _ _ _ ⟨rfl,rfl,rfl⟩; exact ⟨_,frCell (look_cons_eq _ _ _) (by simp),rfl,rfl,rfl⟩) (toNodeS_ret xs n hl hx)
theorem szNodeS_ret (xs:List NodeD) (l:Int) (n:Nat) (h0:0≤l) (h1:l≤1048576) (hl:xs.length≤9223372036854775807) (hx:∀ x∈xs,∀ (l:Int) (n:Nat),0≤l→l≤1048576→Ret Tryz.prog 105 [.agg (nodeC x),iv l] [] n true (Is (iv (leftI l (sizeN x))) [] n)):Ret Tryz.prog 55 [.lst (xs.map nodeC),iv l] [] n true (Is (iv (leftI l (xs.length + psum sizeN xs:Nat))) [] n):=by
 have hL:(xs.map nodeC).length=xs.length:=by simp
 have he:IntKind.i64.wrap (l - (xs.map nodeC).length)=l - xs.length:=by rw [hL,IntWalk.i64_in _ (by omega)]
 refine Ret.fn ttOk Tryz.func55 rfl Tryz.call55 rfl rfl ?_
 refine Goes ?_;repeat' first|apply W2.m|refine W1.m fun h=>?_
 · rw [he] at h
   refine FinOk.pure rfl rfl rfl ⟨?_,rfl,rfl⟩
   unfold leftI; rw [if_neg (by omega)]
 rw [he] at h ⊢
 refine LoopP.go (fun k:Nat=>k≤xs.length∧(xs.length + psum sizeN (xs.take k):Nat)≤l) (fun k=>⟨[(0,.lst (xs.map nodeC)),(1,iv (l - (xs.length + psum sizeN (xs.take k):Nat))),(5,iv k)],[],0⟩) (fun k=>xs.length - k) 0 ⟨Nat.zero_le _,by simp [psum]; omega⟩ ?_ ?_
 · exact Weak.of rfl rfl ⟨⟨rfl,rfl⟩,⟨leafI (by simp [psum]),rfl⟩,⟨rfl,rfl⟩,trivial⟩ trivial
 intro k ⟨hk,hp⟩
 refine Goes ?_;repeat' first|apply W2.m|refine W1.m fun h=>?_
 · have hlt:k < xs.length:=by omega
   have hst:psum sizeN (xs.take (k + 1))=psum sizeN (xs.take k) + sizeN xs[k]:=psum_take sizeN xs k hlt
   have hle:=psum_le sizeN xs (k + 1)
   rw [rowK nodeC xs k hlt]
   refine ⟨by rw [hL]; exact ⟨by omega,by omega,rfl⟩,?_⟩
   refine Goes ?_;repeat' first|apply W2.m|refine W1.m fun h=>?_
   first | refine CallP.is (hx xs[k] (List.getElem_mem hlt) _ _ (by omega) (by omega)) rfl ?_ | refine CallQ.is (hx xs[k] (List.getElem_mem hlt) _ _ (by omega) (by omega)) rfl rfl ?_
   refine Goes ?_;repeat' first|apply W2.m|refine W1.m fun h=>?_
   · obtain ⟨g1,g2⟩:=leftI_neg h (by omega)
     refine FinOk.pure rfl rfl rfl ⟨?_,rfl,rfl⟩
     unfold leftI; rw [if_neg (by omega)]
   · obtain ⟨g1,g2⟩:=leftI_pos h
     rw [g1]
     exact ⟨k + 1,⟨by omega,by omega⟩,by omega,Weak.of rfl rfl ⟨⟨rfl,rfl⟩,⟨leafI (by rw [hst]; omega),rfl⟩,⟨leafI numA,rfl⟩,trivial⟩ trivial⟩
 · obtain rfl:k=xs.length:=by omega
   rw [List.take_length] at hp ⊢
   refine FinOk.pure rfl rfl rfl ⟨?_,rfl,rfl⟩
   unfold leftI; rw [if_pos (by omega)]
theorem eqNodeS_yes (a:List NodeD) (n:Nat) (hl:a.length≤1048576) (hx:∀ x∈a,∀ n,Ret Tryz.prog 111 [.agg (nodeC x),.agg (nodeC x)] [] n true (Is (bv true) [] n)):Ret Tryz.prog 59 [.lst (a.map nodeC),.lst (a.map nodeC)] [] n true (Is (bv true) [] n):=by
 have hL:(a.map nodeC).length=a.length:=by simp
 refine Ret.fn ttOk Tryz.func59 rfl Tryz.call59 rfl rfl ?_
 refine Goes ?_;repeat' first|apply W2.m|refine W1.m fun h=>?_
 refine LoopP.go (fun k:Nat=>k≤a.length) (fun k=>⟨[(0,.lst (a.map nodeC)),(1,.lst (a.map nodeC)),(5,iv k)],[],0⟩) (fun k=>a.length - k) 0 (Nat.zero_le _) (Weak.of rfl rfl ktA trivial) ?_
 intro k hk
 refine Goes ?_;repeat' first|apply W2.m|refine W1.m fun h=>?_
 · have hka:k < a.length:=by omega
   rw [rowK nodeC a k hka]
   refine ⟨by rw [hL]; exact ⟨by omega,by omega,rfl⟩,?_⟩
   refine Goes ?_;repeat' first|apply W2.m|refine W1.m fun h=>?_
   rw [rowK nodeC a k hka]
   refine ⟨by rw [hL]; exact ⟨by omega,by omega,rfl⟩,?_⟩
   refine Goes ?_;repeat' first|apply W2.m|refine W1.m fun h=>?_
   first | refine CallP.is (hx a[k] (List.getElem_mem hka) _) rfl ?_ | refine CallQ.is (hx a[k] (List.getElem_mem hka) _) rfl rfl ?_
   refine Goes ?_;repeat' first|apply W2.m|refine W1.m fun h=>?_
   exact ⟨k + 1,by omega,by omega,(Weak.of rfl rfl ktA trivial)⟩
 · refine FinOk.pure rfl rfl rfl ⟨?_,rfl,rfl⟩
   rfl
theorem toTree_fr (t:TreeD) (n:Nat) (h:FitsT t):Ret Tryz.prog 13 [treeV t] [] n true (Is (treeV t) [] n):=by
 refine Ret.fn ttOk Tryz.func13 rfl Tryz.call13 rfl rfl ?_
 refine Goes ?_;repeat' first|apply W2.m|refine W1.m fun h=>?_
 first | refine CallP.is (toNodeS_fr t.nodes _ h.len fun x hx n=>toNode_fr x n (h.nodes x hx)) rfl ?_ | refine CallQ.is (toNodeS_fr t.nodes _ h.len fun x hx n=>toNode_fr x n (h.nodes x hx)) rfl rfl ?_
 refine Goes ?_;repeat' first|apply W2.m|refine W1.m fun h=>?_
 refine FinOk.pure rfl rfl rfl ⟨?_,rfl,rfl⟩
 rfl
theorem szTree_ret (t:TreeD) (l:Int) (n:Nat) (h0:0≤l) (h1:l≤1048576) (hm:MemT t):Ret Tryz.prog 11 [treeV t,iv l] [] n true (Is (iv (leftI l (sizeTr t))) [] n):=by
 refine Ret.fn ttOk Tryz.func11 rfl Tryz.call11 rfl rfl ?_
 refine Goes ?_;repeat' first|apply W2.m|refine W1.m fun h=>?_
 first | refine CallP.is (szNodeS_ret t.nodes l _ h0 h1 hm.len fun x hx l n a c=>szNode_ret x l n a c (hm.nodes x hx)) rfl ?_ | refine CallQ.is (szNodeS_ret t.nodes l _ h0 h1 hm.len fun x hx l n a c=>szNode_ret x l n a c (hm.nodes x hx)) rfl rfl ?_
 refine Goes ?_;repeat' first|apply W2.m|refine W1.m fun h=>?_
 · have h':leftI l (t.nodes.length + psum sizeN t.nodes:Nat) < 0:=h
   refine FinOk.pure rfl rfl rfl ⟨?_,rfl,rfl⟩
   unfold sizeTr
   rw [(leftI_neg h' h0).1]
 · refine FinOk.pure rfl rfl rfl ⟨?_,rfl,rfl⟩
   rfl
theorem eqTree_yes (t:TreeD) (n:Nat) (hf:FitsT t):Ret Tryz.prog 15 [treeV t,treeV t] [] n true (Is (bv true) [] n):=by
 refine Ret.fn ttOk Tryz.func15 rfl Tryz.call15 rfl rfl ?_
 refine Goes ?_;repeat' first|apply W2.m|refine W1.m fun h=>?_
 first | refine CallP.is (eqNodeS_yes t.nodes _ hf.len fun x hx n=>eqNode_yes x n (hf.nodes x hx)) rfl ?_ | refine CallQ.is (eqNodeS_yes t.nodes _ hf.len fun x hx n=>eqNode_yes x n (hf.nodes x hx)) rfl rfl ?_
 refine Goes ?_;repeat' first|apply W2.m|refine W1.m fun h=>?_
 refine FinOk.pure rfl rfl rfl ⟨?_,rfl,rfl⟩
 rfl
end Go.Proofs.YtllhgcfacgiabaaGreat
