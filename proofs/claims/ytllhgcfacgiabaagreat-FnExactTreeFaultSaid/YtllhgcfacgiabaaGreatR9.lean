import Derived.Test.YtllhgcfacgiabaaGreatR1
import Derived.Test.YtllhgcfacgiabaaGreatR12
namespace Go.Proofs.YtllhgcfacgiabaaGreat
open Go Go.Am Go.RowKit Go.ChangeShapes Go.WideShapes Go.ChangeAt Go.Deep
set_option linter.unusedVariables false
section
variable {H:Type} {enc:TypeId × Value→H} {w:World} {base:Nat} {sp:Nat→Bool} {held:Bool}
theorem allTwo {Z0 Z1:List AV→Prop} {ps:List (List AV)} (h:All2 (fun (Z:List AV→Prop) p=>Z p) [Z0,Z1] ps):∃ p0 p1,ps=[p0,p1]∧Z0 p0∧Z1 p1 :=
 match ps,h with
 | [p0,p1],h=>⟨p0,p1,rfl,h.1,h.2.1⟩
theorem info_Node:∃ f0 f1:Field,Tryz.prog.underlying 159=some (.struct #[f0,f1])∧f0.type=2∧f1.type=35∧offsB Tryz.prog 0 [f0,f1] (Tryz.prog.cellsOf 159)=true :=
 ⟨_,_,Tryz.underlying159,rfl,rfl,by kernel_rfl⟩
theorem reads_Node:Reads enc Tryz.prog w base sp held 159 fun us=>∃ x:NodeD,us=nodeC x∧MemB x.blk:=by
 obtain ⟨f0,f1,hu,h0,h1,ho⟩:=info_Node
 refine (reads_struct hu [isInt,fun us=>∃ x:BlkD,us=blkC x∧MemB x] ho ⟨?_,?_,trivial⟩).mono ?_
 · show Reads enc _ w base sp held f0.type isInt; rw [h0]; exact reads_i
 · show Reads enc _ w base sp held f1.type _; rw [h1]; exact reads_Block
 rintro us ⟨ps,hp,rfl⟩
 obtain ⟨_,_,rfl,⟨a,rfl⟩,⟨b,rfl,hb⟩⟩:=allTwo hp
 exact ⟨⟨a,b⟩,rfl,hb⟩
theorem reads_NodeS:Reads enc Tryz.prog w base sp held 22 fun us=>∃ xs:List NodeD,us=[nodesV xs]∧xs.length≤maxLen∧∀ x∈xs,MemB x.blk :=
 (reads_slice Tryz.underlying22 (by rw [show Tryz.prog.cellsOf 159=6 from by kernel_rfl]; decide) reads_Node).mono fun us ⟨rows,h1,h2,h3⟩=>by
   obtain ⟨zs,g1,g2,g3⟩:=rows_of (f:=nodeC) h3
   exact ⟨zs,by rw [h1,g1],by omega,g2⟩
theorem info_Tree:∃ f0 f1:Field,Tryz.prog.underlying 24=some (.struct #[f0,f1])∧f0.type=2∧f1.type=22∧offsB Tryz.prog 0 [f0,f1] (Tryz.prog.cellsOf 24)=true :=
 ⟨_,_,Tryz.underlying24,rfl,rfl,by kernel_rfl⟩
theorem reads_Tree:Reads enc Tryz.prog w base sp held 24 fun us=>∃ x:TreeD,us=treeC x∧MemT x:=by
 obtain ⟨f0,f1,hu,h0,h1,ho⟩:=info_Tree
 refine (reads_struct hu [isIntR,fun us=>∃ xs:List NodeD,us=[nodesV xs]∧xs.length≤maxLen∧∀ x∈xs,MemB x.blk] ho ⟨?_,?_,trivial⟩).mono ?_
 · show Reads enc _ w base sp held f0.type isIntR; rw [h0]; exact reads_ir
 · show Reads enc _ w base sp held f1.type _; rw [h1]; exact reads_NodeS
 rintro us ⟨ps,hp,rfl⟩
 obtain ⟨_,_,rfl,⟨a,rfl,ha⟩,⟨b,rfl,hb1,hb2⟩⟩:=allTwo hp
 exact ⟨⟨a,b⟩,rfl,Nat.le_trans hb1 (by decide),hb2,ha⟩
theorem tree_came {vs:Array Value} {d:DataW H} {ps:List MemPlace} (h:DataW.Trod enc Tryz.prog w base sp held 24 (.agg vs) d ps):∃ b:TreeD,MemT b∧VRel w (fun b=>b < w.heap.size) (fun _=>none) (.agg vs) (treeV b):=by
 obtain ⟨us,⟨b,rfl,hm⟩,hv⟩:=reads_agg reads_Tree h
 exact ⟨b,hm,hv⟩
end
end Go.Proofs.YtllhgcfacgiabaaGreat
namespace Go.Proofs.YtllhgcfacgiabaaGreat
open Go Go.Am Go.RowKit
set_option linter.unusedVariables false
set_option linter.unusedSimpArgs false
theorem l1Target_ret (b:Int) (n:Nat) (hb:bitsB b=true):Ret Tryz.prog 100 [iv b] [] n true (Is (iv (tgtB b)) [] n):=by
 unfold bitsB at hb
 simp only [decide_eq_true_eq] at hb
 have hr:b.tmod 256=b % 256:=Int.tmod_eq_emod_of_nonneg (by omega)
 unfold tgtB tgF
 obtain ⟨e,he⟩:∃ e,e=b / 256:=⟨_,rfl⟩
 have hq:IntKind.i64.wrap (b.tdiv 256)=e:=by rw [Int.tdiv_eq_ediv_of_nonneg (by omega),IntWalk.i64_in _ (by omega),he]
 rw [← he]
 rcases (by omega:e=0∨e=1∨e=2∨e=3) with rfl | rfl | rfl | rfl
 all_goals
  refine Ret.fn ttOk Tryz.func100 rfl Tryz.call100 rfl rfl ?_
  refine Goes ?_;repeat' first|apply W2.m|refine W1.m fun h=>?_
  rw [hq]
  refine ⟨by decide,?_⟩
  refine Goes ?_;repeat' first|apply W2.m|refine W1.m fun h=>?_
  refine FinOk.pure rfl rfl rfl ⟨?_,rfl,rfl⟩
  refine ivI ?_
  rw [hr]
  simp (disch:=omega) [IntKind.bits,IntWalk.i64_in,IntWalk.u64_in]
  try (simp (disch:=omega) [IntWalk.i64_in])
  try rw [Int.add_mul]
  try rw [Int.one_mul]
def findP (xs:List PlaceD) (s:Int):Int:=match nodeF xs s with | some k=>(k:Int) + -1 | none=>-2
structure Upto (t:TreeD) (xs:List PlaceD) (i:Nat):Prop where
 good:Good t.bits xs (t.nodes.take i)
 le:i≤t.nodes.length
 cap:t.nodes.length≤8
theorem Upto.len {t:TreeD} {xs:List PlaceD} {i:Nat} (h:Upto t xs i):xs.length=i + 1:=by
 have:=h.le
 rw [h.good.len,List.length_take]; omega
theorem Upto.at {t:TreeD} {xs:List PlaceD} {i k:Nat} (h:Upto t xs i) (hk:k < i) (hk2:k < t.nodes.length):-1≤t.nodes[k].up∧t.nodes[k].up + 1≤k∧FitsB t.nodes[k].blk∧blkF t.nodes[k].blk=0∧∃ p,xs[(t.nodes[k].up + 1).toNat]?=some p∧xs[k + 1]?=some (nextP p t.nodes[k].up t.nodes[k].blk)∧codeP t.bits p t.nodes[k].blk=0:=by
 have hn:(t.nodes.take i)[k]?=some t.nodes[k]:=by rw [List.getElem?_take_of_lt hk]; exact List.getElem?_eq_getElem hk2
 obtain ⟨a1,a2,a3⟩:=h.good.up k _ hn
 obtain ⟨b1,b2⟩:=h.good.fit _ (List.mem_of_getElem? hn)
 exact ⟨a1,a2,b1,b2,a3⟩
theorem l6Find_rp (t:TreeD) (xs:List PlaceD) (s:Int) (i n:Nat) (hu:Upto t xs i):Ret Tryz.prog 117 [.rp (treeC t),iv s,iv i] [] n true (Is (iv (findP xs s)) [] n):=by
 have hL:(t.nodes.map nodeC).length=t.nodes.length:=by simp
 have hxl:=hu.len
 have hi:=hu.le
 have h8:=hu.cap
 have hz0:nodeF xs 0=some 0:=hu.good.nodeF_at hu.good.zero
 by_cases h0:s=0
 · subst h0
   have hf:findP xs 0=-1:=by unfold findP; rw [hz0]; rfl
   rw [hf]
   refine Ret.fn ttOk Tryz.func117 rfl Tryz.call117 rfl rfl ?_
   refine Goes ?_;repeat' first|apply W2.m|refine W1.m fun h=>?_
   refine FinOk.pure rfl rfl rfl ⟨?_,rfl,rfl⟩
   rfl
 have hs0:∀ (q:Nat) (r:PlaceD),q < 0 + 1→xs[q]?=some r→r.sum≠s:=fun q r hq hr e=>by
  obtain rfl:q=0:=by omega
  rw [hu.good.zero] at hr
  cases hr
  exact h0 e.symm
 refine Ret.fn ttOk Tryz.func117 rfl Tryz.call117 rfl rfl ?_
 refine Goes ?_;repeat' first|apply W2.m|refine W1.m fun h=>?_
 refine LoopP.go (fun k:Nat=>k≤i∧∀ (q:Nat) (r:PlaceD),q < k + 1→xs[q]?=some r→r.sum≠s) (fun k=>⟨[(0,.rp (treeC t)),(1,iv s),(2,iv i),(7,iv k)],[],0⟩) (fun k=>i - k) 0 ⟨Nat.zero_le _,hs0⟩ (Weak.of rfl rfl ktA trivial) ?_
 intro k ⟨hk,hp⟩
 by_cases hlt:k < i
 · have hlt2:k < t.nodes.length:=by omega
   obtain ⟨a1,a2,hf,hb,p,a3,a4,a5⟩:=hu.at hlt hlt2
   obtain ⟨_,hl1,hl4,hz⟩:=blkF_ok hb
   have hh:=fun n=>l6Header_rp t.nodes[k].blk n hl1 hl4 hz
   refine Goes ?_;repeat' first|apply W2.m|refine W1.m fun h=>?_
   rw [rowK nodeC t.nodes k hlt2]
   refine ⟨by rw [hL]; exact ⟨by omega,by omega,rfl⟩,?_⟩
   refine Goes ?_;repeat' first|apply W2.m|refine W1.m fun h=>?_
   first | refine CallP.is (hh _) rfl ?_ | refine CallQ.is (hh _) rfl rfl ?_
   refine Goes ?_;repeat' first|apply W2.m|refine W1.m fun h=>?_
   · have hF:findP xs s=(k:Int):=by
      unfold findP
      rw [nodeF_some.2 ⟨_,a4,by assumption,hp⟩]
      show ((k + 1:Nat):Int) + -1=k
      omega
     rw [hF]
     refine FinOk.pure rfl rfl rfl ⟨?_,rfl,rfl⟩
     rfl
   · exact ⟨k + 1,⟨by omega,fun q r hq hr e=>by
      by_cases hq2:q < k + 1
      · exact hp q r hq2 hr e
      · obtain rfl:q=k + 1:=by omega
        rw [a4] at hr
        cases hr
        exact absurd e (by assumption)⟩,by omega,(Weak.of rfl rfl ktA trivial)⟩
 · obtain rfl:k=i:=by omega
   have hF:findP xs s=-2:=by
    unfold findP
    rw [nodeF_none.2 fun p hp' e=>by
     obtain ⟨q,hq,rfl⟩:=List.getElem_of_mem hp'
     exact hp q _ (by omega) (List.getElem?_eq_getElem hq) e]
   rw [hF]
   refine Goes ?_;repeat' first|apply W2.m|refine W1.m fun h=>?_
   refine FinOk.pure rfl rfl rfl ⟨?_,rfl,rfl⟩
   rfl
theorem l6Height_rp (t:TreeD) (xs:List PlaceD) (i k n:Nat) (z:Int) (p:PlaceD) (hu:Upto t xs i) (hz:z=(k:Int) + -1) (hp:xs[k]?=some p):Ret Tryz.prog 71 [.rp (treeC t),iv z] [] n true (Is (iv p.h) [] n):=by
 have hL:(t.nodes.map nodeC).length=t.nodes.length:=by simp
 have hxl:=hu.len
 have hi:=hu.le
 have h8:=hu.cap
 have hP:=hu.good.ok
 obtain ⟨_,q1,q2⟩:=hP k p hp
 have hkl:=(List.getElem?_eq_some_iff.1 hp).1
 refine Ret.fn ttOk Tryz.func71 rfl Tryz.call71 rfl rfl ?_
 refine Goes ?_;repeat' first|apply W2.m|refine W1.m fun h=>?_
 refine LoopP.go (fun y:Int × Int=>0≤y.2∧∃ (k:Nat) (q:PlaceD),y.1=(k:Int) + -1∧xs[k]?=some q∧y.2 + q.h=p.h) (fun y=>⟨[(0,.rp (treeC t)),(1,iv y.1),(5,iv y.2)],[],0⟩) (fun y=>(y.1 + 1).toNat) (z,0) ⟨Int.le_refl _,k,p,hz,hp,by show 0 + p.h=p.h; omega⟩ (Weak.of rfl rfl ktA trivial) ?_
 rintro ⟨z,m⟩ ⟨h1,k,q,hz,h2,h3⟩
 dsimp only at h1 hz h2 h3 ⊢
 cases k with
 | zero =>
   obtain rfl:z=-1:=by omega
   rw [hu.good.zero] at h2
   cases h2
   have:m=p.h:=by have:p0.h=0:=rfl; omega
   refine Goes ?_;repeat' first|apply W2.m|refine W1.m fun h=>?_
   refine FinOk.pure rfl rfl rfl ⟨?_,rfl,rfl⟩
   rw [this]
 | succ u =>
   obtain rfl:z=(u:Int):=by omega
   have hku:=(List.getElem?_eq_some_iff.1 h2).1
   have hlt2:u < t.nodes.length:=by omega
   obtain ⟨a1,a2,hf,hb,r,a3,a4,a5⟩:=hu.at (show u < i by omega) hlt2
   rw [a4] at h2
   cases h2
   have hh:(nextP r t.nodes[u].up t.nodes[u].blk).h=r.h + 1:=rfl
   obtain ⟨_,r1,r2⟩:=hP _ r a3
   rw [hh] at h3
   refine Goes ?_;repeat' first|apply W2.m|refine W1.m fun h=>?_
   rw [rowK nodeC t.nodes u hlt2]
   refine ⟨by rw [hL]; exact ⟨by omega,by omega,rfl⟩,?_⟩
   refine Goes ?_;repeat' first|apply W2.m|refine W1.m fun h=>?_
   exact ⟨(t.nodes[u].up,m + 1),⟨by show 0≤m + 1; omega,(t.nodes[u].up + 1).toNat,r,by show t.nodes[u].up=_; omega,a3,by show m + 1 + r.h=p.h; omega⟩,by show (t.nodes[u].up + 1).toNat < ((u:Int) + 1).toNat; omega,Weak.of rfl rfl ⟨⟨rfl,rfl⟩,⟨rfl,rfl⟩,⟨leafI (by rw [IntWalk.i64_in _ (by omega)]),rfl⟩,trivial⟩ trivial⟩
theorem l6Coins_rp (t:TreeD) (xs:List PlaceD) (i:Nat) (hu:Upto t xs i):∀ (k n:Nat) (z:Int) (p:PlaceD),z=(k:Int) + -1→xs[k]?=some p→Ret Tryz.prog 75 [.rp (treeC t),iv z] [] n true (Is (coinsV p.coins) [] n):=by
 have hL:(t.nodes.map nodeC).length=t.nodes.length:=by simp
 have hxl:=hu.len
 have hi:=hu.le
 have h8:=hu.cap
 have hP:=hu.good.ok
 intro k
 induction k using Nat.strongRecOn with
 | _ k ih =>
 intro n z p hz hp
 cases k with
 | zero =>
   obtain rfl:z=-1:=by omega
   rw [hu.good.zero] at hp
   cases hp
   refine Ret.frList (len:=0) (rows:=[]) (e:=184) (s:=6) rfl ?_
   refine Ret.fn ttOk Tryz.func75 rfl Tryz.call75 rfl rfl ?_
   refine Goes ?_;repeat' first|apply W2.m|refine W1.m fun h=>?_
   refine FinOk.mk' [0] rfl rfl rfl rfl rfl rfl rfl ⟨?_,?_,rfl⟩
   · rfl
   · rfl
 | succ u =>
   obtain rfl:z=(u:Int):=by omega
   have hku:=(List.getElem?_eq_some_iff.1 hp).1
   have hlt2:u < t.nodes.length:=by omega
   obtain ⟨a1,a2,hf,hb,r,a3,a4,a5⟩:=hu.at (show u < i by omega) hlt2
   have hhg:=fun n=>l6Height_rp t xs i (u + 1) n (u:Int) p hu (by omega) hp
   rw [a4] at hp
   cases hp
   have hh:(nextP r t.nodes[u].up t.nodes[u].blk).h=r.h + 1:=rfl
   rw [hh] at hhg
   obtain ⟨c0,r1,r2⟩:=hP _ r a3
   have hrl:=(List.getElem?_eq_some_iff.1 a3).1
   obtain ⟨_,hl1,hl4,hz⟩:=blkF_ok hb
   obtain ⟨t1,t2⟩:=applyB_ok c0 (codeP_ok a5).1
   have hcs:=fun n=>ih (t.nodes[u].up + 1).toNat (by omega) n t.nodes[u].up r (by omega) a3
   have htx:=fun n=>l6Txs_rp r.coins t.nodes[u].blk (r.h + 1) n c0 hf hl4 hz ⟨by omega,by omega⟩
   simp only [if_pos t1] at htx
   refine Ret.fn ttOk Tryz.func75 rfl Tryz.call75 rfl rfl ?_
   refine Goes ?_;repeat' first|apply W2.m|refine W1.m fun h=>?_
   rw [rowK nodeC t.nodes u hlt2]
   refine ⟨by rw [hL]; exact ⟨by omega,by omega,rfl⟩,?_⟩
   refine Goes ?_;repeat' first|apply W2.m|refine W1.m fun h=>?_
   rw [rowK nodeC t.nodes u hlt2]
   refine ⟨by rw [hL]; exact ⟨by omega,by omega,rfl⟩,?_⟩
   refine Goes ?_;repeat' first|apply W2.m|refine W1.m fun h=>?_
   repeat' first
    | (first | refine CallQ.is (hcs _) rfl rfl ?_ | refine CallP.is (hcs _) rfl ?_
       refine Goes ?_;repeat' first|apply W2.m|refine W1.m fun h=>?_)
    | (first | refine CallQ.is (hhg _) rfl rfl ?_ | refine CallP.is (hhg _) rfl ?_
       refine Goes ?_;repeat' first|apply W2.m|refine W1.m fun h=>?_)
    | (first | refine CallQ.is (htx _) rfl rfl ?_ | refine CallP.is (htx _) rfl ?_
       refine Goes ?_;repeat' first|apply W2.m|refine W1.m fun h=>?_)
   all_goals
    refine FinOk.pure rfl rfl rfl ⟨?_,rfl,rfl⟩
    rfl
end Go.Proofs.YtllhgcfacgiabaaGreat
namespace Go.Proofs.YtllhgcfacgiabaaGreat
open Go Go.Am Go.RowKit
set_option linter.unusedVariables false
set_option linter.unusedSimpArgs false
theorem Upto.time {t:TreeD} {xs:List PlaceD} {i k:Nat} {z:Int} {p:PlaceD} (h:Upto t xs i) (hz:z=(k:Int) + -1) (hp:xs[k]?=some p):(z=-1∧p.time=0)∨∃ u:Nat,∃ h:u < t.nodes.length,z=(u:Int)∧t.nodes[u].blk.time=p.time:=by
 have hxl:=h.len
 have hi:=h.le
 have hkl:=(List.getElem?_eq_some_iff.1 hp).1
 cases k with
 | zero =>
   rw [h.good.zero] at hp
   cases hp
   exact .inl ⟨by omega,rfl⟩
 | succ u =>
   have hlt2:u < t.nodes.length:=by omega
   obtain ⟨a1,a2,hf,hb,r,a3,a4,a5⟩:=h.at (show u < i by omega) hlt2
   rw [a4] at hp
   cases hp
   exact .inr ⟨u,hlt2,by omega,rfl⟩
theorem headD0 {α:Type} (l:List α) (d:α) (h:0 < l.length):l.headD d=l[0]:=by
 cases l with
 | nil=>simp at h
 | cons x r=>rfl
theorem row0 {α:Type} (f:α→List AV) (l:List α) (h:0 < l.length):(l.map f).getD (Int.toNat 0) []=f l[0]:=by
 cases l with
 | nil=>simp at h
 | cons x r=>rfl
set_option maxHeartbeats 2000000 in
theorem l6Behind_rp (t:TreeD) (xs:List PlaceD) (i k n:Nat) (z:Int) (p:PlaceD) (b:BlkD) (hu:Upto t xs i) (hz:z=(k:Int) + -1) (hp:xs[k]?=some p) (hf:FitsB b) (hb:blkF b=0):Ret Tryz.prog 118 [.rp (treeC t),iv z,.rp (blkC b)] [] n true (Is (iv (codeP t.bits p b)) [] n):=by
 have hL:(t.nodes.map nodeC).length=t.nodes.length:=by simp
 have hxl:=hu.len
 have hi:=hu.le
 have h8:=hu.cap
 obtain ⟨c0,q1,q2⟩:=hu.good.ok k p hp
 have hkl:=(List.getElem?_eq_some_iff.1 hp).1
 obtain ⟨_,hl1,hl4,hzz⟩:=blkF_ok hb
 have hx0:okT b.txs[0]:=fault_ok (txsC_all hzz _ (List.getElem_mem hl1))
 have hhd:b.txs.headD (0,[],[])=b.txs[0]:=headD0 _ _ hl1
 have hLt:(b.txs.map txC).length=b.txs.length:=by simp
 have hsb:0≤subF (p.h + 1)∧subF (p.h + 1)≤50:=by
  unfold subF
  exact ⟨Int.ediv_nonneg (by decide) (by exact Int.le_of_lt (Int.pow_pos (by decide))),Int.ediv_le_self _ (by decide)⟩
 have hH:=fun n=>l6Header_rp b n hl1 hl4 hzz
 have hT:=fun n=>l1Target_ret b.bits n (bits_i64 hb).2
 have hG:=fun n=>l6Height_rp t xs i k n z p hu hz hp
 have hK:=fun n=>l6Coins_rp t xs i hu k n z p hz hp
 have hX:=fun n=>l6Txs_rp p.coins b (p.h + 1) n c0 hf hl4 hzz ⟨by omega,by omega⟩
 have hS:=fun n=>l6Subsidy_ret (p.h + 1) n ⟨by omega,by omega⟩
 have hO:=fun n=>l5Outs_rp b.txs[0] n hx0
 have hw:IntKind.i64.wrap (p.h + 1)=p.h + 1:=IntWalk.i64_in _ (by omega)
 have hC:codeP t.bits p b=if b.bits≠t.bits∨b.time≤p.time then 9 else if ¬ hdrB b≤tgtB b.bits then 8 else if b.txs[0].1≠p.h + 1 then 1 else applyB b p.coins (p.h + 1):=by unfold codeP; rw [hhd]
 have htime:=hu.time hz hp
 by_cases h9:b.bits≠t.bits∨b.time≤p.time
 · rw [if_pos h9] at hC
   rw [hC]
   rcases htime with ⟨rfl,htm⟩ | ⟨u,hlt2,rfl,htm⟩
   · refine Ret.fn ttOk Tryz.func118 rfl Tryz.call118 rfl rfl ?_
     refine Goes ?_;repeat' first|apply W2.m|refine W1.m fun h=>?_
     all_goals first
      | (exfalso; omega)
      | (refine FinOk.pure rfl rfl rfl ⟨?_,rfl,rfl⟩
         rfl)
   · refine Ret.fn ttOk Tryz.func118 rfl Tryz.call118 rfl rfl ?_
     refine Goes ?_;repeat' first|apply W2.m|refine W1.m fun h=>?_
     rw [rowK nodeC t.nodes u hlt2]
     refine ⟨by rw [hL]; exact ⟨by omega,by omega,rfl⟩,?_⟩
     refine Goes ?_;repeat' first|apply W2.m|refine W1.m fun h=>?_
     all_goals first
      | (exfalso; omega)
      | (refine FinOk.pure rfl rfl rfl ⟨?_,rfl,rfl⟩
         rfl)
 rw [if_neg h9] at hC
 have h9a:b.bits=t.bits:=Decidable.not_not.1 fun e=>h9 (.inl e)
 have h9b:¬ b.time≤p.time:=fun e=>h9 (.inr e)
 rcases htime with ⟨rfl,htm⟩ | ⟨u,hlt2,rfl,htm⟩
 · refine Ret.fn ttOk Tryz.func118 rfl Tryz.call118 rfl rfl ?_
   refine Goes ?_;repeat' first|apply W2.m|refine W1.m fun h=>?_
   all_goals try (exfalso; omega)
   repeat' first
    | (first | refine CallQ.is (hH _) rfl rfl ?_ | refine CallP.is (hH _) rfl ?_
       refine Goes ?_;repeat' first|apply W2.m|refine W1.m fun h=>?_)
    | (first | refine CallQ.is (hT _) rfl rfl ?_ | refine CallP.is (hT _) rfl ?_
       refine Goes ?_;repeat' first|apply W2.m|refine W1.m fun h=>?_)
   all_goals first
    | (exfalso; omega)
    | (have h8':¬ hdrB b≤tgtB b.bits:=by omega
       rw [hC,if_pos h8']
       refine FinOk.pure rfl rfl rfl ⟨?_,rfl,rfl⟩
       rfl)
    | skip
   have h8':hdrB b≤tgtB b.bits:=by omega
   rw [if_neg (fun e=>e h8')] at hC
   first | refine CallP.is (hG _) rfl ?_ | refine CallQ.is (hG _) rfl rfl ?_
   refine Goes ?_;repeat' first|apply W2.m|refine W1.m fun h=>?_
   rw [hw]
   rw [row0 txC b.txs hl1]
   refine ⟨by rw [hLt]; exact ⟨by omega,by omega,rfl⟩,?_⟩
   refine Goes ?_;repeat' first|apply W2.m|refine W1.m fun h=>?_
   all_goals first
    | (exfalso; omega)
    | (have h1':b.txs[0].1≠p.h + 1:=by omega
       rw [hC,if_pos h1']
       refine FinOk.pure rfl rfl rfl ⟨?_,rfl,rfl⟩
       rfl)
    | skip
   have h1':¬ b.txs[0].1≠p.h + 1:=by omega
   rw [if_neg h1'] at hC
   unfold applyB at hC
   rw [hhd] at hC
   first | refine CallP.is (hK _) rfl ?_ | refine CallQ.is (hK _) rfl rfl ?_
   refine Goes ?_;repeat' first|apply W2.m|refine W1.m fun h=>?_
   by_cases hA:(runT (p.h + 1) p.coins b.txs).1=0
   · simp only [if_pos hA] at hX
     rw [if_neg (fun e=>e hA)] at hC
     obtain ⟨_,f1,f2⟩:=runT_ok (p.h + 1) b.txs p.coins c0 hA
     have hwf:IntKind.i64.wrap (subF (p.h + 1) + (runT (p.h + 1) p.coins b.txs).2.2)=subF (p.h + 1) + (runT (p.h + 1) p.coins b.txs).2.2:=IntWalk.i64_in _ (by omega)
     first | refine CallP.is (hX _) rfl ?_ | refine CallQ.is (hX _) rfl rfl ?_
     refine Goes ?_;repeat' first|apply W2.m|refine W1.m fun h=>?_
     rw [row0 txC b.txs hl1]
     refine ⟨by rw [hLt]; exact ⟨by omega,by omega,rfl⟩,?_⟩
     refine Goes ?_;repeat' first|apply W2.m|refine W1.m fun h=>?_
     first | refine CallP.is (hO _) rfl ?_ | refine CallQ.is (hO _) rfl rfl ?_
     refine Goes ?_;repeat' first|apply W2.m|refine W1.m fun h=>?_
     first | refine CallP.is (hS _) rfl ?_ | refine CallQ.is (hS _) rfl rfl ?_
     refine Goes ?_;repeat' first|apply W2.m|refine W1.m fun h=>?_
     all_goals first
      | (rw [hC,if_pos (by omega)]
         refine FinOk.pure rfl rfl rfl ⟨?_,rfl,rfl⟩
         rfl)
      | (rw [hC,if_neg (by omega)]
         refine FinOk.pure rfl rfl rfl ⟨?_,rfl,rfl⟩
         rfl)
   · simp only [if_neg hA] at hX
     rw [if_pos hA] at hC
     rw [hC]
     first | refine CallP.is (hX _) rfl ?_ | refine CallQ.is (hX _) rfl rfl ?_
     refine Goes ?_;repeat' first|apply W2.m|refine W1.m fun h=>?_
     all_goals first
      | (exfalso; omega)
      | (refine FinOk.pure rfl rfl rfl ⟨?_,rfl,rfl⟩
         rfl)
 · refine Ret.fn ttOk Tryz.func118 rfl Tryz.call118 rfl rfl ?_
   refine Goes ?_;repeat' first|apply W2.m|refine W1.m fun h=>?_
   rw [rowK nodeC t.nodes u hlt2]
   refine ⟨by rw [hL]; exact ⟨by omega,by omega,rfl⟩,?_⟩
   refine Goes ?_;repeat' first|apply W2.m|refine W1.m fun h=>?_
   all_goals try (exfalso; omega)
   repeat' first
    | (first | refine CallQ.is (hH _) rfl rfl ?_ | refine CallP.is (hH _) rfl ?_
       refine Goes ?_;repeat' first|apply W2.m|refine W1.m fun h=>?_)
    | (first | refine CallQ.is (hT _) rfl rfl ?_ | refine CallP.is (hT _) rfl ?_
       refine Goes ?_;repeat' first|apply W2.m|refine W1.m fun h=>?_)
   all_goals first
    | (exfalso; omega)
    | (have h8':¬ hdrB b≤tgtB b.bits:=by omega
       rw [hC,if_pos h8']
       refine FinOk.pure rfl rfl rfl ⟨?_,rfl,rfl⟩
       rfl)
    | skip
   have h8':hdrB b≤tgtB b.bits:=by omega
   rw [if_neg (fun e=>e h8')] at hC
   first | refine CallP.is (hG _) rfl ?_ | refine CallQ.is (hG _) rfl rfl ?_
   refine Goes ?_;repeat' first|apply W2.m|refine W1.m fun h=>?_
   rw [hw]
   rw [row0 txC b.txs hl1]
   refine ⟨by rw [hLt]; exact ⟨by omega,by omega,rfl⟩,?_⟩
   refine Goes ?_;repeat' first|apply W2.m|refine W1.m fun h=>?_
   all_goals first
    | (exfalso; omega)
    | (have h1':b.txs[0].1≠p.h + 1:=by omega
       rw [hC,if_pos h1']
       refine FinOk.pure rfl rfl rfl ⟨?_,rfl,rfl⟩
       rfl)
    | skip
   have h1':¬ b.txs[0].1≠p.h + 1:=by omega
   rw [if_neg h1'] at hC
   unfold applyB at hC
   rw [hhd] at hC
   first | refine CallP.is (hK _) rfl ?_ | refine CallQ.is (hK _) rfl rfl ?_
   refine Goes ?_;repeat' first|apply W2.m|refine W1.m fun h=>?_
   by_cases hA:(runT (p.h + 1) p.coins b.txs).1=0
   · simp only [if_pos hA] at hX
     rw [if_neg (fun e=>e hA)] at hC
     obtain ⟨_,f1,f2⟩:=runT_ok (p.h + 1) b.txs p.coins c0 hA
     have hwf:IntKind.i64.wrap (subF (p.h + 1) + (runT (p.h + 1) p.coins b.txs).2.2)=subF (p.h + 1) + (runT (p.h + 1) p.coins b.txs).2.2:=IntWalk.i64_in _ (by omega)
     first | refine CallP.is (hX _) rfl ?_ | refine CallQ.is (hX _) rfl rfl ?_
     refine Goes ?_;repeat' first|apply W2.m|refine W1.m fun h=>?_
     rw [row0 txC b.txs hl1]
     refine ⟨by rw [hLt]; exact ⟨by omega,by omega,rfl⟩,?_⟩
     refine Goes ?_;repeat' first|apply W2.m|refine W1.m fun h=>?_
     first | refine CallP.is (hO _) rfl ?_ | refine CallQ.is (hO _) rfl rfl ?_
     refine Goes ?_;repeat' first|apply W2.m|refine W1.m fun h=>?_
     first | refine CallP.is (hS _) rfl ?_ | refine CallQ.is (hS _) rfl rfl ?_
     refine Goes ?_;repeat' first|apply W2.m|refine W1.m fun h=>?_
     all_goals first
      | (rw [hC,if_pos (by omega)]
         refine FinOk.pure rfl rfl rfl ⟨?_,rfl,rfl⟩
         rfl)
      | (rw [hC,if_neg (by omega)]
         refine FinOk.pure rfl rfl rfl ⟨?_,rfl,rfl⟩
         rfl)
   · simp only [if_neg hA] at hX
     rw [if_pos hA] at hC
     rw [hC]
     first | refine CallP.is (hX _) rfl ?_ | refine CallQ.is (hX _) rfl rfl ?_
     refine Goes ?_;repeat' first|apply W2.m|refine W1.m fun h=>?_
     all_goals first
      | (exfalso; omega)
      | (refine FinOk.pure rfl rfl rfl ⟨?_,rfl,rfl⟩
         rfl)
end Go.Proofs.YtllhgcfacgiabaaGreat
