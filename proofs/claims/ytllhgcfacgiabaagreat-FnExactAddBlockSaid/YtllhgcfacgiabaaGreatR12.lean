import Derived.Test.YtllhgcfacgiabaaGreatR5
import Derived.Test.YtllhgcfacgiabaaGreatR2
namespace Go.Proofs.YtllhgcfacgiabaaGreat
open Go Go.Am Go.RowKit
set_option linter.unusedVariables false
set_option linter.unusedSimpArgs false
structure Bh where
 up:Int
 blk:B7
structure Br where
 bits:Int
 nodes:List Bh
abbrev A4 (x:Bh):List AV:=iv x.up::Ix x.blk
abbrev Fo (l:List Bh):AV:=.lst (l.map A4)
abbrev Hf (t:Br):List AV:=[iv t.bits,Fo t.nodes]
def p0:Ar:=⟨0,0,0,0,[]⟩
def a2K (xs:List Ar) (x:Bh):Option Nat:=if -1<=x.up/\x.up + 1 < xs.length/\(xs.getD (x.up + 1).toNat p0).sum=x.blk.prev then some (x.up + 1).toNat else none
def Dv (bits:Int) (xs:List Ar) (x:Bh):Int :=
 if Dn x.blk≠0 then Dn x.blk else match a2K xs x with | some k=>K3 bits xs (xs.getD k p0) x.blk | none=>4
def F7 (bits:Int) (xs:List Ar) (x:Bh):List Ar :=
 if Dv bits xs x=0 then xs++[I0 (xs.getD (x.up + 1).toNat p0) x.up x.blk] else xs
def Og (xs:List Ar):Prop:=∀ (k:Nat) (p:Ar),xs[k]?=some p->A5 p.coins=0/\0<=p.h/\p.h<=k
theorem Po {xs:List Ar} {x:Bh} {k:Nat} (h:a2K xs x=some k):k < xs.length/\x.up=(k:Int) + -1/\(xs.getD k p0).sum=x.blk.prev:=by
 unfold a2K at h
 split at h
 · rename_i g
   cases h
   exact ⟨by omega,by omega,g.2.2⟩
 · cases h
theorem a4j {bits:Int} {p:Ar} {b:B7} (h:E6 bits p b=0):Iy b p.coins (p.h + 1)=0/\b.bits=bits/\p.time < b.time/\E9 b<=Q8 b.bits:=by
 unfold E6 at h
 by_cases h9:b.bits≠bits∨b.time<=p.time
 · rw [if_pos h9] at h; cases h
 rw [if_neg h9] at h
 by_cases h8:¬ E9 b<=Q8 b.bits
 · rw [if_pos h8] at h; cases h
 rw [if_neg h8] at h
 by_cases h1:(b.txs.headD (0,[],[])).1≠p.h + 1
 · rw [if_pos h1] at h; cases h
 rw [if_neg h1] at h
 exact ⟨h,Decidable.not_not.1 fun e=>h9 (.inl e),Int.not_le.1 fun e=>h9 (.inr e),Decidable.not_not.1 h8⟩
theorem a1w {b:B7} {l:List Ah} {hg:Int} (h0:A5 l=0) (h:Iy b l hg=0):(runT hg l b.txs).1=0/\A5 (runT hg l b.txs).2.1=0:=by
 unfold Iy at h
 by_cases h1:(runT hg l b.txs).1≠0
 · rw [if_pos h1] at h; exact absurd h h1
 · have h2:=Decidable.not_not.1 h1
   exact ⟨h2,(Wg hg b.txs l h0 h2).1⟩
theorem b0m {bits:Int} {xs:List Ar} {x:Bh} (h:Og xs):Og (F7 bits xs x):=by
 unfold F7
 split
 · rename_i hs
   intro k p hp
   by_cases hk:k < xs.length
   · rw [List.getElem?_append_left hk] at hp; exact h k p hp
   · rw [List.getElem?_append_right (by omega)] at hp
     have i9:k - xs.length=0:=by
      cases e:k - xs.length with
      | zero=>rfl
      | succ m=>rw [e] at hp; simp at hp
     rw [i9] at hp
     cases (show some (I0 (xs.getD (x.up + 1).toNat p0) x.up x.blk)=some p from hp)
     unfold Dv at hs
     by_cases hb:Dn x.blk≠0
     · rw [if_pos hb] at hs; exact absurd hs hb
     rw [if_neg hb] at hs
     cases hu:a2K xs x with
     | none=>rw [hu] at hs; cases hs
     | some m =>
       rw [hu] at hs
       dsimp only at hs
       obtain ⟨u1,u2,u3⟩:=Po hu
       have hm:=List.getElem?_eq_getElem u1
       have hg:xs.getD m p0=xs[m]:=by simp [List.getD_eq_getElem?_getD,hm]
       have cJ:(x.up + 1).toNat=m:=by omega
       rw [cJ,hg]
       rw [hg] at hs
       obtain ⟨c1,c2,c3⟩:=h m _ hm
       unfold K3 at hs
       by_cases hc:E6 bits xs[m] x.blk≠0
       · rw [if_pos hc] at hs; exact absurd hs hc
       have c6:=Decidable.not_not.1 hc
       refine ⟨(a1w c1 (a4j c6).1).2,?_,?_⟩
       · show 0<=xs[m].h + 1; omega
       · show xs[m].h + 1<=k; omega
 · exact h
structure Good (bits:Int) (xs:List Ar) (ns:List Bh):Prop where
 len:xs.length=ns.length + 1
 zero:xs[0]?=some p0
 fit:∀ x∈ns,B4 x.blk/\Dn x.blk=0
 up:∀ (k:Nat) (x:Bh),ns[k]?=some x->-1<=x.up/\x.up + 1<=k/\∃ p,xs[(x.up + 1).toNat]?=some p/\xs[k + 1]?=some (I0 p x.up x.blk)/\E6 bits p x.blk=0
 ok:Og xs
 dist:∀ (i j:Nat) (p q:Ar),xs[i]?=some p->xs[j]?=some q->p.sum=q.sum->i=j
theorem Zb {xs:List Ar} {s:Int}:C1 xs s=none↔∀ p∈xs,p.sum≠s:=by
 unfold C1
 rw [List.findIdx?_eq_none_iff]
 simp
theorem M2 {xs:List Ar} {s:Int} {k:Nat}:C1 xs s=some k↔∃ p,xs[k]?=some p/\p.sum=s/\∀ (q:Nat) (r:Ar),q < k->xs[q]?=some r->r.sum≠s:=by
 unfold C1
 rw [List.findIdx?_eq_some_iff_getElem]
 constructor
 · rintro ⟨h,h1,h2⟩
   refine ⟨xs[k],List.getElem?_eq_getElem h,by simpa using h1,fun q r hq hr=>?_⟩
   obtain ⟨dD,e⟩:=List.getElem?_eq_some_iff.1 hr
   have:=h2 q hq
   subst e
   simpa using this
 · rintro ⟨p,h1,h2,h3⟩
   obtain ⟨h,e⟩:=List.getElem?_eq_some_iff.1 h1
   refine ⟨h,by rw [e]; simpa using h2,fun q hq=>?_⟩
   have:=h3 q _ hq (List.getElem?_eq_getElem (by omega))
   simpa using this
theorem a1x {bits:Int} {xs:List Ar} {p:Ar} {b:B7} (h:K3 bits xs p b=0):E6 bits p b=0/\C1 xs (E9 b)=none:=by
 unfold K3 at h
 by_cases h1:E6 bits p b≠0
 · rw [if_pos h1] at h; exact absurd h h1
 rw [if_neg h1] at h
 refine ⟨Decidable.not_not.1 h1,?_⟩
 cases hn:C1 xs (E9 b) with
 | none=>rfl
 | some k=>rw [hn] at h; cases h
theorem a58 {bits:Int} {xs:List Ar} {x:Bh} (h:Dv bits xs x=0):Dn x.blk=0/\∃ (k:Nat) (p:Ar),xs[k]?=some p/\x.up=(k:Int) + -1/\p.sum=x.blk.prev/\xs.getD (x.up + 1).toNat p0=p/\E6 bits p x.blk=0/\C1 xs (E9 x.blk)=none:=by
 unfold Dv at h
 by_cases hb:Dn x.blk≠0
 · rw [if_pos hb] at h; exact absurd h hb
 rw [if_neg hb] at h
 refine ⟨Decidable.not_not.1 hb,?_⟩
 cases hu:a2K xs x with
 | none=>rw [hu] at h; cases h
 | some m =>
   rw [hu] at h
   dsimp only at h
   obtain ⟨u1,u2,u3⟩:=Po hu
   have hm:=List.getElem?_eq_getElem u1
   have hg:xs.getD m p0=xs[m]:=by simp [List.getD_eq_getElem?_getD,hm]
   have cJ:(x.up + 1).toNat=m:=by omega
   rw [hg] at h u3
   exact ⟨m,xs[m],hm,u2,u3,by rw [cJ,hg],a1x h⟩
theorem Good.nil (bits:Int):Good bits [p0] [] where
 len:=rfl
 zero:=rfl
 fit:=fun x h=>by cases h
 up:=fun k x h=>by cases h
 ok:=fun k p h=>by
  cases k with
  | zero=>cases h; exact ⟨rfl,Int.le_refl _,Int.le_refl _⟩
  | succ m=>simp at h
 dist:=fun i j p q h1 h2 _=>by
  obtain ⟨h1,_⟩:=List.getElem?_eq_some_iff.1 h1
  obtain ⟨h2,_⟩:=List.getElem?_eq_some_iff.1 h2
  simp at h1 h2
  omega
theorem Good.step {bits:Int} {xs:List Ar} {ns:List Bh} {x:Bh} (h:Good bits xs ns) (hf:B4 x.blk) (hs:Dv bits xs x=0):Good bits (F7 bits xs x) (ns++[x]):=by
 obtain ⟨hb,k,p,hk,hu,hp,hg,hc,hn⟩:=a58 hs
 have hX:F7 bits xs x=xs++[I0 p x.up x.blk]:=by unfold F7; rw [if_pos hs,hg]
 have aZ:=b0m (bits:=bits) (x:=x) h.ok
 have eE:=(List.getElem?_eq_some_iff.1 hk).1
 have hl:=h.len
 rw [hX] at aZ ⊢
 have bg:(xs++[I0 p x.up x.blk])[xs.length]?=some (I0 p x.up x.blk):=by simp
 have hold:∀ q,q < xs.length->(xs++[I0 p x.up x.blk])[q]?=xs[q]?:=fun q hq=>List.getElem?_append_left hq
 refine ⟨by simp [hl],by rw [hold 0 (by omega)]; exact h.zero,?_,?_,aZ,?_⟩
 · intro y hy
   rcases List.mem_append.1 hy with hy | hy
   · exact h.fit y hy
   · rw [List.mem_singleton.1 hy]; exact ⟨hf,hb⟩
 · intro m y hy
   by_cases hm:m < ns.length
   · rw [List.getElem?_append_left hm] at hy
     obtain ⟨a1,a2,q,a3,a4,a5⟩:=h.up m y hy
     exact ⟨a1,a2,q,by rw [hold _ (by omega)]; exact a3,by rw [hold _ (by omega)]; exact a4,a5⟩
   · obtain ⟨cJ,_⟩:=List.getElem?_eq_some_iff.1 hy
     simp at cJ
     obtain rfl:m=ns.length:=by omega
     simp at hy
     subst hy
     have ck:(x.up + 1).toNat=k:=by omega
     exact ⟨by omega,by omega,p,by rw [ck,hold _ eE]; exact hk,by rw [<- hl]; exact bg,hc⟩
 · have aj:∀ (q:Nat) (r:Ar),xs[q]?=some r->r.sum≠E9 x.blk:=fun q r hr=>Zb.1 hn r (List.mem_of_getElem? hr)
   intro i j a b ha aT dZ
   obtain ⟨hi,_⟩:=List.getElem?_eq_some_iff.1 ha
   obtain ⟨hj,_⟩:=List.getElem?_eq_some_iff.1 aT
   simp at hi hj
   by_cases fm:i < xs.length
   · rw [hold i fm] at ha
     by_cases gs:j < xs.length
     · rw [hold j gs] at aT
       exact h.dist i j a b ha aT dZ
     · obtain rfl:j=xs.length:=by omega
       rw [bg] at aT
       cases aT
       exact absurd dZ (aj i a ha)
   · obtain rfl:i=xs.length:=by omega
     rw [bg] at ha
     cases ha
     by_cases gs:j < xs.length
     · rw [hold j gs] at aT
       exact absurd dZ.symm (aj j b aT)
     · omega
theorem Good.nodeF_at {bits:Int} {xs:List Ar} {ns:List Bh} (h:Good bits xs ns) {k:Nat} {p:Ar} (hk:xs[k]?=some p):C1 xs p.sum=some k :=
 M2.2 ⟨p,hk,rfl,fun q r hq hr e=>by have:=h.dist q k r p hr hk e; omega⟩
def goC (bits:Int):List Ar->List Bh->Int
 | _,[]=>0
 | xs,x::r=>if Dv bits xs x≠0 then Dv bits xs x else goC bits (F7 bits xs x) r
def Gt (t:Br):Int:=if E4 t.bits=true then (if 8 < t.nodes.length then 2 else goC t.bits [p0] t.nodes) else 3
theorem a59 (bits:Int) (xs:List Ar) (ns:List Bh) (k:Nat) (h:k < ns.length):goC bits xs (ns.drop k)=if Dv bits xs ns[k]≠0 then Dv bits xs ns[k] else goC bits (F7 bits xs ns[k]) (ns.drop (k + 1)):=by
 rw [List.drop_eq_getElem_cons h,goC]
abbrev a1y (x:Bh):AV:=.agg (A4 x)
abbrev C5 (t:Br):AV:=.agg (Hf t)
def Cs (x:Bh):Nat:=He x.blk
def Hu (t:Br):Nat:=t.nodes.length + Bn Cs t.nodes
structure a6a (t:Br):Prop where
 len:t.nodes.length<=9223372036854775807
 nodes:∀ x∈t.nodes,Uk x.blk
 bits:Du t.bits
structure F8 (t:Br):Prop where
 len:t.nodes.length<=1048576
 nodes:∀ x∈t.nodes,B4 x.blk
theorem Zc {t:Br} (h:Hu t<=1048576):F8 t:=by
 unfold Hu at h
 exact ⟨by omega,fun x hx=>Yp (by have:=Ew Cs t.nodes x hx; unfold Cs at *; omega)⟩
theorem a8D (x:Bh) (n:Nat) (h:B4 x.blk):Ret Tryz.prog 108 [a1y x] [] n true (Is (a1y x) [] n):=by
 refine Ret.fn Ad Tryz.func108 rfl Tryz.call108 rfl rfl ?_
 refine Goes ?_
 refine Aa.is (Gd x.blk _ h) rfl ?_
 refine Goes ?_
 refine Ab.pure rfl rfl rfl ⟨?_,rfl,rfl⟩
 rfl
theorem a6b (x:Bh) (l:Int) (n:Nat) (h0:0<=l) (h1:l<=1048576) (hm:Uk x.blk):Ret Tryz.prog 105 [a1y x,iv l] [] n true (Is (iv (B1 l (Cs x))) [] n):=by
 refine Ret.fn Ad Tryz.func105 rfl Tryz.call105 rfl rfl ?_
 refine Goes ?_
 refine Aa.is (N3 x.blk l _ h0 h1 hm) rfl ?_
 refine Goes ?_;repeat' first|apply W2.m|refine W1.m fun h=>?_
 · have h':B1 l (He x.blk:Nat) < 0:=h
   refine Ab.pure rfl rfl rfl ⟨?_,rfl,rfl⟩
   unfold Cs
   rw [(E1 h' h0).1]
 · refine Ab.pure rfl rfl rfl ⟨?_,rfl,rfl⟩
   rfl
theorem a6c (x:Bh) (n:Nat) (hf:B4 x.blk):Ret Tryz.prog 111 [a1y x,a1y x] [] n true (Is (bv true) [] n):=by
 refine Ret.fn Ad Tryz.func111 rfl Tryz.call111 rfl rfl ?_
 refine Goes ?_;repeat' first|apply W2.m|refine W1.m fun h=>?_
 refine Aa.is (N4 x.blk _ hf) rfl ?_
 refine Goes ?_
 refine Ab.pure rfl rfl rfl ⟨?_,rfl,rfl⟩
 rfl
theorem a4k (xs:List Bh) (n:Nat) (hl:xs.length<=1048576) (hx:∀ x∈xs,∀ n,Ret Tryz.prog 108 [.agg (A4 x)] [] n true (Is (.agg (A4 x)) [] n)):Ret Tryz.prog 57 [.lst (xs.map A4)] [] n true (Is (.own n xs.length) [(n,.list 103 6 (xs.map A4))] (n + 1)):=by
 have hL:(xs.map A4).length=xs.length:=by simp
 refine Ret.fn Ad Tryz.func57 rfl Tryz.call57 rfl rfl ?_
 refine Goes ?_
 rw [hL]
 refine ⟨⟨by omega,by omega,by omega,by show _ * 64<=_; omega⟩,?_⟩
 refine Goes ?_
 refine Ao.go (fun k:Nat=>k<=xs.length) (fun k=>⟨[(0,.lst (xs.map A4)),(3,.own 0 xs.length),(4,iv k)],[(0,.list 103 6 (C4 A4 [iv 0,iv 0,iv 0,iv 0,iv 0,nl] xs k))],1⟩) (fun k=>xs.length - k) 0 (Nat.zero_le _) ?_ ?_
 · refine Ac.of rfl rfl ktA ⟨⟨Ch ?_,rfl,rfl⟩,trivial⟩
   unfold C4; simp
 intro k hk
 have bh:=Ft A4 [iv 0,iv 0,iv 0,iv 0,iv 0,nl] xs k hk
 refine Goes ?_;repeat' first|apply W2.m|refine W1.m fun h=>?_
 · have aa:k < xs.length:=by omega
   rw [A1 A4 xs k aa]
   refine ⟨by rw [hL]; exact ⟨by omega,by omega,rfl⟩,?_⟩
   refine Goes ?_
   refine Aa.is (hx xs[k] (List.getElem_mem aa) _) rfl ?_
   refine Goes ?_
   refine ⟨k + 1,by omega,by omega,Ac.of rfl rfl ktA ⟨⟨Ch ?_,rfl,rfl⟩,trivial⟩⟩
   exact Sg A4 [iv 0,iv 0,iv 0,iv 0,iv 0,nl] xs k aa _ rfl _ rfl
 · obtain rfl:k=xs.length:=by omega
   rw [Fu]
   refine Ab.mk' [0] rfl rfl rfl rfl rfl rfl rfl ⟨?_,?_,rfl⟩
   · rfl
   · rfl
theorem a6d (xs:List Bh) (n:Nat) (hl:xs.length<=1048576) (hx:∀ x∈xs,∀ n,Ret Tryz.prog 108 [.agg (A4 x)] [] n true (Is (.agg (A4 x)) [] n)):Ret Tryz.prog 57 [.lst (xs.map A4)] [] n true (Is (.lst (xs.map A4)) [] n) :=
 Ret.freeze (by rintro _ _ _ ⟨rfl,rfl,rfl⟩; exact ⟨_,Jz (Ae _ _ _) (by simp),rfl,rfl,rfl⟩) (a4k xs n hl hx)
theorem a4l (xs:List Bh) (l:Int) (n:Nat) (h0:0<=l) (h1:l<=1048576) (hl:xs.length<=9223372036854775807) (hx:∀ x∈xs,∀ (l:Int) (n:Nat),0<=l->l<=1048576->Ret Tryz.prog 105 [.agg (A4 x),iv l] [] n true (Is (iv (B1 l (Cs x))) [] n)):Ret Tryz.prog 55 [.lst (xs.map A4),iv l] [] n true (Is (iv (B1 l (xs.length + Bn Cs xs:Nat))) [] n):=by
 have hL:(xs.map A4).length=xs.length:=by simp
 have he:IntKind.i64.wrap (l - (xs.map A4).length)=l - xs.length:=by rw [hL,IntWalk.i64_in _ (by omega)]
 refine Ret.fn Ad Tryz.func55 rfl Tryz.call55 rfl rfl ?_
 refine Goes ?_;repeat' first|apply W2.m|refine W1.m fun h=>?_
 · rw [he] at h
   refine Ab.pure rfl rfl rfl ⟨?_,rfl,rfl⟩
   unfold B1; rw [if_neg (by omega)]
 rw [he] at h ⊢
 refine Ao.go (fun k:Nat=>k<=xs.length/\(xs.length + Bn Cs (xs.take k):Nat)<=l) (fun k=>⟨[(0,.lst (xs.map A4)),(1,iv (l - (xs.length + Bn Cs (xs.take k):Nat))),(5,iv k)],[],0⟩) (fun k=>xs.length - k) 0 ⟨Nat.zero_le _,by simp [Bn]; omega⟩ ?_ ?_
 · exact Ac.of rfl rfl ⟨⟨rfl,rfl⟩,⟨Aw (by simp [Bn]),rfl⟩,⟨rfl,rfl⟩,trivial⟩ trivial
 intro k ⟨hk,hp⟩
 refine Goes ?_;repeat' first|apply W2.m|refine W1.m fun h=>?_
 · have aa:k < xs.length:=by omega
   have ak:Bn Cs (xs.take (k + 1))=Bn Cs (xs.take k) + Cs xs[k]:=O9 Cs xs k aa
   have ax:=H3 Cs xs (k + 1)
   rw [A1 A4 xs k aa]
   refine ⟨by rw [hL]; exact ⟨by omega,by omega,rfl⟩,?_⟩
   refine Goes ?_
   refine Aa.is (hx xs[k] (List.getElem_mem aa) _ _ (by omega) (by omega)) rfl ?_
   refine Goes ?_;repeat' first|apply W2.m|refine W1.m fun h=>?_
   · obtain ⟨g1,g2⟩:=E1 h (by omega)
     refine Ab.pure rfl rfl rfl ⟨?_,rfl,rfl⟩
     unfold B1; rw [if_neg (by omega)]
   · obtain ⟨g1,g2⟩:=Ec h
     rw [g1]
     exact ⟨k + 1,⟨by omega,by omega⟩,by omega,Ac.of rfl rfl ⟨⟨rfl,rfl⟩,⟨Aw (by rw [ak]; omega),rfl⟩,⟨Aw Cm,rfl⟩,trivial⟩ trivial⟩
 · obtain rfl:k=xs.length:=by omega
   rw [List.take_length] at hp ⊢
   refine Ab.pure rfl rfl rfl ⟨?_,rfl,rfl⟩
   unfold B1; rw [if_pos (by omega)]
theorem a4m (a:List Bh) (n:Nat) (hl:a.length<=1048576) (hx:∀ x∈a,∀ n,Ret Tryz.prog 111 [.agg (A4 x),.agg (A4 x)] [] n true (Is (bv true) [] n)):Ret Tryz.prog 59 [.lst (a.map A4),.lst (a.map A4)] [] n true (Is (bv true) [] n):=by
 have hL:(a.map A4).length=a.length:=by simp
 refine Ret.fn Ad Tryz.func59 rfl Tryz.call59 rfl rfl ?_
 refine Goes ?_;repeat' first|apply W2.m|refine W1.m fun h=>?_
 refine Ao.go (fun k:Nat=>k<=a.length) (fun k=>⟨[(0,.lst (a.map A4)),(1,.lst (a.map A4)),(5,iv k)],[],0⟩) (fun k=>a.length - k) 0 (Nat.zero_le _) (Ac.of rfl rfl ktA trivial) ?_
 intro k hk
 refine Goes ?_;repeat' first|apply W2.m|refine W1.m fun h=>?_
 · have bH:k < a.length:=by omega
   rw [A1 A4 a k bH]
   refine ⟨by rw [hL]; exact ⟨by omega,by omega,rfl⟩,?_⟩
   refine Goes ?_
   rw [A1 A4 a k bH]
   refine ⟨by rw [hL]; exact ⟨by omega,by omega,rfl⟩,?_⟩
   refine Goes ?_
   refine Aa.is (hx a[k] (List.getElem_mem bH) _) rfl ?_
   refine Goes ?_
   exact ⟨k + 1,by omega,by omega,(Ac.of rfl rfl ktA trivial)⟩
 · refine Ab.pure rfl rfl rfl ⟨?_,rfl,rfl⟩
   rfl
theorem Jl (t:Br) (n:Nat) (h:F8 t):Ret Tryz.prog 13 [C5 t] [] n true (Is (C5 t) [] n):=by
 refine Ret.fn Ad Tryz.func13 rfl Tryz.call13 rfl rfl ?_
 refine Goes ?_
 refine Aa.is (a6d t.nodes _ h.len fun x hx n=>a8D x n (h.nodes x hx)) rfl ?_
 refine Goes ?_
 refine Ab.pure rfl rfl rfl ⟨?_,rfl,rfl⟩
 rfl
theorem Zd (t:Br) (l:Int) (n:Nat) (h0:0<=l) (h1:l<=1048576) (hm:a6a t):Ret Tryz.prog 11 [C5 t,iv l] [] n true (Is (iv (B1 l (Hu t))) [] n):=by
 refine Ret.fn Ad Tryz.func11 rfl Tryz.call11 rfl rfl ?_
 refine Goes ?_
 refine Aa.is (a4l t.nodes l _ h0 h1 hm.len fun x hx l n a c=>a6b x l n a c (hm.nodes x hx)) rfl ?_
 refine Goes ?_;repeat' first|apply W2.m|refine W1.m fun h=>?_
 · have h':B1 l (t.nodes.length + Bn Cs t.nodes:Nat) < 0:=h
   refine Ab.pure rfl rfl rfl ⟨?_,rfl,rfl⟩
   unfold Hu
   rw [(E1 h' h0).1]
 · refine Ab.pure rfl rfl rfl ⟨?_,rfl,rfl⟩
   rfl
theorem Q9 (t:Br) (n:Nat) (hf:F8 t):Ret Tryz.prog 15 [C5 t,C5 t] [] n true (Is (bv true) [] n):=by
 refine Ret.fn Ad Tryz.func15 rfl Tryz.call15 rfl rfl ?_
 refine Goes ?_;repeat' first|apply W2.m|refine W1.m fun h=>?_
 refine Aa.is (a4m t.nodes _ hf.len fun x hx n=>a6c x n (hf.nodes x hx)) rfl ?_
 refine Goes ?_
 refine Ab.pure rfl rfl rfl ⟨?_,rfl,rfl⟩
 rfl
end Go.Proofs.YtllhgcfacgiabaaGreat
