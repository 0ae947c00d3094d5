import Derived.Test.YtllhgcfacgiabaaGreatR1
import Derived.Test.YtllhgcfacgiabaaGreatR6
import Derived.Stop.RegionWithIn
import Derived.Test.YtllhgcfacgiabaaGreatR3
namespace Go.Proofs.YtllhgcfacgiabaaGreat
open Go Go.Am Go.RowKit
set_option linter.unusedVariables false
set_option linter.unusedSimpArgs false
abbrev nodeV (x:NodeD):AV:=.agg (nodeC x)
abbrev treeV (t:TreeD):AV:=.agg (treeC t)
def sizeN (x:NodeD):Nat:=sizeB x.blk
def sizeTr (t:TreeD):Nat:=t.nodes.length + psum sizeN t.nodes
structure MemT (t:TreeD):Prop where
 len:t.nodes.length≤9223372036854775807
 nodes:∀ x∈t.nodes,MemB x.blk
 bits:isI64 t.bits
structure FitsT (t:TreeD):Prop where
 len:t.nodes.length≤1048576
 nodes:∀ x∈t.nodes,FitsB x.blk
theorem fitsT_of {t:TreeD} (h:sizeTr t≤1048576):FitsT t:=by
 unfold sizeTr at h
 exact ⟨by omega,fun x hx=>fitsB_of (by have:=psum_mem sizeN t.nodes x hx; unfold sizeN at *; omega)⟩
theorem toNode_fr (x:NodeD) (n:Nat) (h:FitsB x.blk):Ret Tryz.prog 108 [nodeV x] [] n true (Is (nodeV x) [] n):=by
 refine Ret.fn ttOk Tryz.func108 rfl Tryz.call108 rfl rfl ?_
 refine Goes ?_
 first | refine CallP.is (toBlock_fr x.blk _ h) rfl ?_ | refine CallQ.is (toBlock_fr x.blk _ h) rfl rfl ?_
 refine Goes ?_
 refine FinOk.pure rfl rfl rfl ⟨?_,rfl,rfl⟩
 rfl
theorem szNode_ret (x:NodeD) (l:Int) (n:Nat) (h0:0≤l) (h1:l≤1048576) (hm:MemB x.blk):Ret Tryz.prog 105 [nodeV x,iv l] [] n true (Is (iv (leftI l (sizeN x))) [] n):=by
 refine Ret.fn ttOk Tryz.func105 rfl Tryz.call105 rfl rfl ?_
 refine Goes ?_
 first | refine CallP.is (szBlock_ret x.blk l _ h0 h1 hm) rfl ?_ | refine CallQ.is (szBlock_ret x.blk l _ h0 h1 hm) rfl rfl ?_
 refine Goes ?_;repeat' first|apply W2.m|refine W1.m fun h=>?_
 · have h':leftI l (sizeB x.blk:Nat) < 0:=h
   refine FinOk.pure rfl rfl rfl ⟨?_,rfl,rfl⟩
   unfold sizeN
   rw [(leftI_neg h' h0).1]
 · refine FinOk.pure rfl rfl rfl ⟨?_,rfl,rfl⟩
   rfl
theorem eqNode_yes (x:NodeD) (n:Nat) (hf:FitsB x.blk):Ret Tryz.prog 111 [nodeV x,nodeV x] [] n true (Is (bv true) [] n):=by
 refine Ret.fn ttOk Tryz.func111 rfl Tryz.call111 rfl rfl ?_
 refine Goes ?_;repeat' first|apply W2.m|refine W1.m fun h=>?_
 first | refine CallP.is (eqBlock_yes x.blk _ hf) rfl ?_ | refine CallQ.is (eqBlock_yes x.blk _ hf) rfl rfl ?_
 refine Goes ?_
 refine FinOk.pure rfl rfl rfl ⟨?_,rfl,rfl⟩
 rfl
theorem toNodeS_ret (xs:List NodeD) (n:Nat) (hl:xs.length≤1048576) (hx:∀ x∈xs,∀ n,Ret Tryz.prog 108 [.agg (nodeC x)] [] n true (Is (.agg (nodeC x)) [] n)):Ret Tryz.prog 57 [.lst (xs.map nodeC)] [] n true (Is (.own n xs.length) [(n,.list 103 6 (xs.map nodeC))] (n + 1)):=by
 have hL:(xs.map nodeC).length=xs.length:=by simp
 refine Ret.fn ttOk Tryz.func57 rfl Tryz.call57 rfl rfl ?_
 refine Goes ?_
 rw [hL]
 refine ⟨⟨by omega,by omega,by omega,by show _ * 64≤_; omega⟩,?_⟩
 refine Goes ?_
 refine LoopP.go (fun k:Nat=>k≤xs.length) (fun k=>⟨[(0,.lst (xs.map nodeC)),(3,.own 0 xs.length),(4,iv k)],[(0,.list 103 6 (fillR nodeC [iv 0,iv 0,iv 0,iv 0,iv 0,nl] xs k))],1⟩) (fun k=>xs.length - k) 0 (Nat.zero_le _) ?_ ?_
 · refine Weak.of rfl rfl ktA ⟨⟨leafO ?_,rfl,rfl⟩,trivial⟩
   unfold fillR; simp
 intro k hk
 have hfl:=fillR_len nodeC [iv 0,iv 0,iv 0,iv 0,iv 0,nl] xs k hk
 refine Goes ?_;repeat' first|apply W2.m|refine W1.m fun h=>?_
 · have hlt:k < xs.length:=by omega
   rw [rowK nodeC xs k hlt]
   refine ⟨by rw [hL]; exact ⟨by omega,by omega,rfl⟩,?_⟩
   refine Goes ?_
   first | refine CallP.is (hx xs[k] (List.getElem_mem hlt) _) rfl ?_ | refine CallQ.is (hx xs[k] (List.getElem_mem hlt) _) rfl rfl ?_
   refine Goes ?_
   refine ⟨k + 1,by omega,by omega,Weak.of rfl rfl ktA ⟨⟨leafO ?_,rfl,rfl⟩,trivial⟩⟩
   exact setRowR nodeC [iv 0,iv 0,iv 0,iv 0,iv 0,nl] xs k hlt _ rfl _ rfl
 · obtain rfl:k=xs.length:=by omega
   rw [fillR_all]
   refine FinOk.mk' [0] rfl rfl rfl rfl rfl rfl rfl ⟨?_,?_,rfl⟩
   · rfl
   · rfl
theorem toNodeS_fr (xs:List NodeD) (n:Nat) (hl:xs.length≤1048576) (hx:∀ x∈xs,∀ n,Ret Tryz.prog 108 [.agg (nodeC x)] [] n true (Is (.agg (nodeC x)) [] n)):Ret Tryz.prog 57 [.lst (xs.map nodeC)] [] n true (Is (.lst (xs.map nodeC)) [] n) :=
 Ret.freeze (by rintro _ _ _ ⟨rfl,rfl,rfl⟩; exact ⟨_,frCell (look_cons_eq _ _ _) (by simp),rfl,rfl,rfl⟩) (toNodeS_ret xs n hl hx)
theorem szNodeS_ret (xs:List NodeD) (l:Int) (n:Nat) (h0:0≤l) (h1:l≤1048576) (hl:xs.length≤9223372036854775807) (hx:∀ x∈xs,∀ (l:Int) (n:Nat),0≤l→l≤1048576→Ret Tryz.prog 105 [.agg (nodeC x),iv l] [] n true (Is (iv (leftI l (sizeN x))) [] n)):Ret Tryz.prog 55 [.lst (xs.map nodeC),iv l] [] n true (Is (iv (leftI l (xs.length + psum sizeN xs:Nat))) [] n):=by
 have hL:(xs.map nodeC).length=xs.length:=by simp
 have he:IntKind.i64.wrap (l - (xs.map nodeC).length)=l - xs.length:=by rw [hL,IntWalk.i64_in _ (by omega)]
 refine Ret.fn ttOk Tryz.func55 rfl Tryz.call55 rfl rfl ?_
 refine Goes ?_;repeat' first|apply W2.m|refine W1.m fun h=>?_
 · rw [he] at h
   refine FinOk.pure rfl rfl rfl ⟨?_,rfl,rfl⟩
   unfold leftI; rw [if_neg (by omega)]
 rw [he] at h ⊢
 refine LoopP.go (fun k:Nat=>k≤xs.length∧(xs.length + psum sizeN (xs.take k):Nat)≤l) (fun k=>⟨[(0,.lst (xs.map nodeC)),(1,iv (l - (xs.length + psum sizeN (xs.take k):Nat))),(5,iv k)],[],0⟩) (fun k=>xs.length - k) 0 ⟨Nat.zero_le _,by simp [psum]; omega⟩ ?_ ?_
 · exact Weak.of rfl rfl ⟨⟨rfl,rfl⟩,⟨leafI (by simp [psum]),rfl⟩,⟨rfl,rfl⟩,trivial⟩ trivial
 intro k ⟨hk,hp⟩
 refine Goes ?_;repeat' first|apply W2.m|refine W1.m fun h=>?_
 · have hlt:k < xs.length:=by omega
   have hst:psum sizeN (xs.take (k + 1))=psum sizeN (xs.take k) + sizeN xs[k]:=psum_take sizeN xs k hlt
   have hle:=psum_le sizeN xs (k + 1)
   rw [rowK nodeC xs k hlt]
   refine ⟨by rw [hL]; exact ⟨by omega,by omega,rfl⟩,?_⟩
   refine Goes ?_
   first | refine CallP.is (hx xs[k] (List.getElem_mem hlt) _ _ (by omega) (by omega)) rfl ?_ | refine CallQ.is (hx xs[k] (List.getElem_mem hlt) _ _ (by omega) (by omega)) rfl rfl ?_
   refine Goes ?_;repeat' first|apply W2.m|refine W1.m fun h=>?_
   · obtain ⟨g1,g2⟩:=leftI_neg h (by omega)
     refine FinOk.pure rfl rfl rfl ⟨?_,rfl,rfl⟩
     unfold leftI; rw [if_neg (by omega)]
   · obtain ⟨g1,g2⟩:=leftI_pos h
     rw [g1]
     exact ⟨k + 1,⟨by omega,by omega⟩,by omega,Weak.of rfl rfl ⟨⟨rfl,rfl⟩,⟨leafI (by rw [hst]; omega),rfl⟩,⟨leafI numA,rfl⟩,trivial⟩ trivial⟩
 · obtain rfl:k=xs.length:=by omega
   rw [List.take_length] at hp ⊢
   refine FinOk.pure rfl rfl rfl ⟨?_,rfl,rfl⟩
   unfold leftI; rw [if_pos (by omega)]
theorem eqNodeS_yes (a:List NodeD) (n:Nat) (hl:a.length≤1048576) (hx:∀ x∈a,∀ n,Ret Tryz.prog 111 [.agg (nodeC x),.agg (nodeC x)] [] n true (Is (bv true) [] n)):Ret Tryz.prog 59 [.lst (a.map nodeC),.lst (a.map nodeC)] [] n true (Is (bv true) [] n):=by
 have hL:(a.map nodeC).length=a.length:=by simp
 refine Ret.fn ttOk Tryz.func59 rfl Tryz.call59 rfl rfl ?_
 refine Goes ?_;repeat' first|apply W2.m|refine W1.m fun h=>?_
 refine LoopP.go (fun k:Nat=>k≤a.length) (fun k=>⟨[(0,.lst (a.map nodeC)),(1,.lst (a.map nodeC)),(5,iv k)],[],0⟩) (fun k=>a.length - k) 0 (Nat.zero_le _) (Weak.of rfl rfl ktA trivial) ?_
 intro k hk
 refine Goes ?_;repeat' first|apply W2.m|refine W1.m fun h=>?_
 · have hka:k < a.length:=by omega
   rw [rowK nodeC a k hka]
   refine ⟨by rw [hL]; exact ⟨by omega,by omega,rfl⟩,?_⟩
   refine Goes ?_
   rw [rowK nodeC a k hka]
   refine ⟨by rw [hL]; exact ⟨by omega,by omega,rfl⟩,?_⟩
   refine Goes ?_
   first | refine CallP.is (hx a[k] (List.getElem_mem hka) _) rfl ?_ | refine CallQ.is (hx a[k] (List.getElem_mem hka) _) rfl rfl ?_
   refine Goes ?_
   exact ⟨k + 1,by omega,by omega,(Weak.of rfl rfl ktA trivial)⟩
 · refine FinOk.pure rfl rfl rfl ⟨?_,rfl,rfl⟩
   rfl
theorem toTree_fr (t:TreeD) (n:Nat) (h:FitsT t):Ret Tryz.prog 13 [treeV t] [] n true (Is (treeV t) [] n):=by
 refine Ret.fn ttOk Tryz.func13 rfl Tryz.call13 rfl rfl ?_
 refine Goes ?_
 first | refine CallP.is (toNodeS_fr t.nodes _ h.len fun x hx n=>toNode_fr x n (h.nodes x hx)) rfl ?_ | refine CallQ.is (toNodeS_fr t.nodes _ h.len fun x hx n=>toNode_fr x n (h.nodes x hx)) rfl rfl ?_
 refine Goes ?_
 refine FinOk.pure rfl rfl rfl ⟨?_,rfl,rfl⟩
 rfl
theorem szTree_ret (t:TreeD) (l:Int) (n:Nat) (h0:0≤l) (h1:l≤1048576) (hm:MemT t):Ret Tryz.prog 11 [treeV t,iv l] [] n true (Is (iv (leftI l (sizeTr t))) [] n):=by
 refine Ret.fn ttOk Tryz.func11 rfl Tryz.call11 rfl rfl ?_
 refine Goes ?_
 first | refine CallP.is (szNodeS_ret t.nodes l _ h0 h1 hm.len fun x hx l n a c=>szNode_ret x l n a c (hm.nodes x hx)) rfl ?_ | refine CallQ.is (szNodeS_ret t.nodes l _ h0 h1 hm.len fun x hx l n a c=>szNode_ret x l n a c (hm.nodes x hx)) rfl rfl ?_
 refine Goes ?_;repeat' first|apply W2.m|refine W1.m fun h=>?_
 · have h':leftI l (t.nodes.length + psum sizeN t.nodes:Nat) < 0:=h
   refine FinOk.pure rfl rfl rfl ⟨?_,rfl,rfl⟩
   unfold sizeTr
   rw [(leftI_neg h' h0).1]
 · refine FinOk.pure rfl rfl rfl ⟨?_,rfl,rfl⟩
   rfl
theorem eqTree_yes (t:TreeD) (n:Nat) (hf:FitsT t):Ret Tryz.prog 15 [treeV t,treeV t] [] n true (Is (bv true) [] n):=by
 refine Ret.fn ttOk Tryz.func15 rfl Tryz.call15 rfl rfl ?_
 refine Goes ?_;repeat' first|apply W2.m|refine W1.m fun h=>?_
 first | refine CallP.is (eqNodeS_yes t.nodes _ hf.len fun x hx n=>eqNode_yes x n (hf.nodes x hx)) rfl ?_ | refine CallQ.is (eqNodeS_yes t.nodes _ hf.len fun x hx n=>eqNode_yes x n (hf.nodes x hx)) rfl rfl ?_
 refine Goes ?_
 refine FinOk.pure rfl rfl rfl ⟨?_,rfl,rfl⟩
 rfl
end Go.Proofs.YtllhgcfacgiabaaGreat
namespace Go.Proofs.YtllhgcfacgiabaaGreat
open Go Go.Am Go.RowKit Go.ChangeShapes Go.WideShapes Go.ChangeAt Go.Deep
set_option linter.unusedVariables false
section
variable {H:Type} {enc:TypeId × Value→H} {w:World} {base:Nat} {sp:Nat→Bool} {held:Bool}
theorem allTwo {Z0 Z1:List AV→Prop} {ps:List (List AV)} (h:All2 (fun (Z:List AV→Prop) p=>Z p) [Z0,Z1] ps):∃ p0 p1,ps=[p0,p1]∧Z0 p0∧Z1 p1 :=
 match ps,h with
 | [p0,p1],h=>⟨p0,p1,rfl,h.1,h.2.1⟩
theorem info_Node:∃ f0 f1:Field,Tryz.prog.underlying 159=some (.struct #[f0,f1])∧f0.type=2∧f1.type=35∧offsB Tryz.prog 0 [f0,f1] (Tryz.prog.cellsOf 159)=true :=
 ⟨_,_,Tryz.underlying159,rfl,rfl,by kernel_rfl⟩
theorem reads_Node:Reads enc Tryz.prog w base sp held 159 fun us=>∃ x:NodeD,us=nodeC x∧MemB x.blk:=by
 obtain ⟨f0,f1,hu,h0,h1,ho⟩:=info_Node
 refine (reads_struct hu [isInt,fun us=>∃ x:BlkD,us=blkC x∧MemB x] ho ⟨?_,?_,trivial⟩).mono ?_
 · show Reads enc _ w base sp held f0.type isInt; rw [h0]; exact reads_i
 · show Reads enc _ w base sp held f1.type _; rw [h1]; exact reads_Block
 rintro us ⟨ps,hp,rfl⟩
 obtain ⟨_,_,rfl,⟨a,rfl⟩,⟨b,rfl,hb⟩⟩:=allTwo hp
 exact ⟨⟨a,b⟩,rfl,hb⟩
theorem reads_NodeS:Reads enc Tryz.prog w base sp held 22 fun us=>∃ xs:List NodeD,us=[nodesV xs]∧xs.length≤maxLen∧∀ x∈xs,MemB x.blk :=
 (reads_slice Tryz.underlying22 (by rw [show Tryz.prog.cellsOf 159=6 from by kernel_rfl]; decide) reads_Node).mono fun us ⟨rows,h1,h2,h3⟩=>by
   obtain ⟨zs,g1,g2,g3⟩:=rows_of (f:=nodeC) h3
   exact ⟨zs,by rw [h1,g1],by omega,g2⟩
theorem info_Tree:∃ f0 f1:Field,Tryz.prog.underlying 24=some (.struct #[f0,f1])∧f0.type=2∧f1.type=22∧offsB Tryz.prog 0 [f0,f1] (Tryz.prog.cellsOf 24)=true :=
 ⟨_,_,Tryz.underlying24,rfl,rfl,by kernel_rfl⟩
theorem reads_Tree:Reads enc Tryz.prog w base sp held 24 fun us=>∃ x:TreeD,us=treeC x∧MemT x:=by
 obtain ⟨f0,f1,hu,h0,h1,ho⟩:=info_Tree
 refine (reads_struct hu [isIntR,fun us=>∃ xs:List NodeD,us=[nodesV xs]∧xs.length≤maxLen∧∀ x∈xs,MemB x.blk] ho ⟨?_,?_,trivial⟩).mono ?_
 · show Reads enc _ w base sp held f0.type isIntR; rw [h0]; exact reads_ir
 · show Reads enc _ w base sp held f1.type _; rw [h1]; exact reads_NodeS
 rintro us ⟨ps,hp,rfl⟩
 obtain ⟨_,_,rfl,⟨a,rfl,ha⟩,⟨b,rfl,hb1,hb2⟩⟩:=allTwo hp
 exact ⟨⟨a,b⟩,rfl,Nat.le_trans hb1 (by decide),hb2,ha⟩
theorem tree_came {vs:Array Value} {d:DataW H} {ps:List MemPlace} (h:DataW.Trod enc Tryz.prog w base sp held 24 (.agg vs) d ps):∃ b:TreeD,MemT b∧VRel w (fun b=>b < w.heap.size) (fun _=>none) (.agg vs) (treeV b):=by
 obtain ⟨us,⟨b,rfl,hm⟩,hv⟩:=reads_agg reads_Tree h
 exact ⟨b,hm,hv⟩
end
end Go.Proofs.YtllhgcfacgiabaaGreat
namespace Go.Proofs.YtllhgcfacgiabaaGreat
open Go Go.RowKit Go.Shelf
attribute [local go_sem] Oper.semAt_some
set_option linter.unusedVariables false
set_option linter.unusedSimpArgs false
def upF (n:Nat):(k:Nat)→k≤n→List (Fin n)
 | 0,_=>[]
 | k + 1,h=>upF n k (Nat.le_of_succ_le h)++[⟨k,h⟩]
theorem upF_length (n:Nat):∀ (k:Nat) (h:k≤n),(upF n k h).length=k
 | 0,_=>rfl
 | k + 1,h=>by rw [upF,List.length_append,upF_length n k]; rfl
def enF (xs:List PW) (x:Fin xs.length):Array Value:=#[.int .i64 ((x.1:Int) + -1),xs[x.1].v]
set_option maxRecDepth 100000 in
set_option maxHeartbeats 2000000 in
theorem allF_in (n:Nat) (hn:1≤n) (l Bs g n₀:Nat) (xs:List PW) (hlen:xs.length≤1000) (J Jx:List (Fin xs.length)→World→Prop) (W:World) (hJ:AbidesFrom W.heap.size J) (hn₀:n₀≤W.heap.size)
 (hY:∀ pre x W,J pre W→pre.length < xs.length→YieldAt Fence.wide (n - 1) Tryz.prog l (enF xs x) W fun e W' =>
   (e=.returned (.bool true)∧J (pre++[x]) W'∧Below n₀ W W')∨(e=.returned (.bool false)∧Jx (pre++[x]) W'))
 (hBs:W.cell? ⟨Bs,0,none⟩=some (.pointer (some ⟨g,0,none⟩))) (hP:PlacesAt n₀ W g xs) (h0:J [] W) :
 CallsIn Fence.wide n Tryz.prog 164 #[.func (.yield l) #[] #[],.pointer (some ⟨Bs,0,none⟩)] W fun e W'=>(∃ v,e=.returned v) ∧
  ((∃ ys,ys=upF xs.length xs.length (Nat.le_refl _)∧J ys W')∨(∃ pre,(∃ k h,pre=upF xs.length k h)∧Jx pre W')):=by
 obtain ⟨b,cap,hg,hb,hgs,hc⟩:=hP.ex
 refine callsIn_of_wp Tryz.func164 rfl trivial ?_ rfl
 simp only [Tryz.ntmps164,List.size_toArray,List.length_cons,List.length_nil,Nat.reduceAdd,Nat.reduceSub,Array.replicate_succ,Array.replicate_zero,List.push_toArray,List.append_toArray,List.nil_append,List.cons_append]
 gi_wp2
 gi_loopw [10] (fun i wr=>∃ (k:Nat) (hk:k≤xs.length),i=.int .i64 k∧J (upF xs.length k hk) wr∧Below n₀ W wr)
  (fun i _=>xs.length - (intOf i).toNat)
 case atStart=>exact ⟨0,Nat.zero_le _,rfl,h0,Below.refl _ _⟩
 case round =>
  obtain ⟨k,hk,rfl,hJs,hnx⟩:=hrel
  by_cases hlt:k < xs.length
  · have hx:=List.getElem?_eq_getElem hlt
    have hcx:=fun i hi=>(hnx.cell (p:=⟨b,k * 5 + i,none⟩) hb).trans (hc k _ hx i hi)
    have c0:wr.cell? ⟨b,k * 5,none⟩=some (.int .i64 xs[k].up):=hcx 0 (by omega)
    have c1:wr.cell? ⟨b,k * 5 + 1,none⟩=some (.int .i64 xs[k].sum):=hcx 1 (by omega)
    have c2:wr.cell? ⟨b,k * 5 + 2,none⟩=some (.int .i64 xs[k].time):=hcx 2 (by omega)
    have c3:wr.cell? ⟨b,k * 5 + 3,none⟩=some (.int .i64 xs[k].h):=hcx 3 (by omega)
    have c4:wr.cell? ⟨b,k * 5 + 4,none⟩=some (.slice xs[k].a xs[k].len xs[k].cap):=hcx 4 (by omega)
    clear hcx
    have hJ1:=hJ _ wr (wr.alloc (.cells #[.int .i64 xs[k].up,.int .i64 xs[k].sum,.int .i64 xs[k].time,.int .i64 xs[k].h,.slice xs[k].a xs[k].len xs[k].cap] 109)) none hJs (World.grownBy_alloc wr _ none) (by simp)
    obtain ⟨fn,tmps,assign,body,hy,hR⟩:=hY _ ⟨k,hlt⟩ _ hJ1 (by rw [upF_length]; exact hlt)
    simp only [enF,PW.v] at hy
    gi_wp2
    refine hR.mono ?_
    rintro e W3 (⟨rfl,hJ3,hk3⟩ | ⟨rfl,hJx3⟩)
    · gi_wp2
      go_roundw
      case rel=>exact ⟨k + 1,by omega,by simp,by rw [upF]; exact hJ3,(hnx.alloc (by have:=hnx.size; omega) _).trans hk3⟩
      case measure=>simp [intOf]; omega
    · gi_wp2
      refine bodyPost_ret (results_none rfl _ _ _) rfl ?_
      exact ⟨⟨_,rfl⟩,.inr ⟨_,⟨k + 1,by omega,by rw [upF]⟩,hJx3⟩⟩
  · obtain rfl:k=xs.length:=by omega
    gi_wp2
    go_end0
    exact ⟨⟨_,rfl⟩,.inl ⟨_,rfl,hJs⟩⟩
theorem allF_stops (n:Nat) (hn:1≤n) (Bs g n₀:Nat) (xs:List PW) (hlen:xs.length≤1000) (w:World) (hBs:Bs < w.heap.size) (hn₀:n₀≤w.heap.size) (hc:w.cell? ⟨Bs,0,none⟩=some (.pointer (some ⟨g,0,none⟩))) (hP:PlacesAt n₀ w g xs) :
 SeqStopsK Fence.wide n Tryz.prog 164 #[.pointer (some ⟨Bs,0,none⟩)] (enF xs) (Below n₀) (fun ys=>ys=upF xs.length xs.length (Nat.le_refl _))
  (fun pre=>∃ k h,pre=upF xs.length k h) xs.length w:=fun l J Jx W hW hJ _ hY h0 =>
 allF_in n hn l Bs g n₀ xs hlen J Jx W hJ (Nat.le_trans hn₀ hW.size) hY ((hW.cell (p:=⟨Bs,0,none⟩) hBs).trans hc) (hP.below (hW.mono hn₀)) h0
def Boxed5 (W:World) (B:Nat):Prop:=W.heap[B]?=some (.cells #[.int .i64 0,.int .i64 0,.int .i64 0,.int .i64 0,.slice none 0 0] 109 (0,0))
theorem Boxed5.new (W:World):Boxed5 (W.alloc (.cells #[.int .i64 0,.int .i64 0,.int .i64 0,.int .i64 0,.slice none 0 0] 109)) W.heap.size:=World.alloc_heap_new W _
set_option maxHeartbeats 1000000 in
theorem at_in (n:Nat) (g n₀ k:Nat) (xs:List PW) (hk:k < xs.length) (hlen:xs.length≤1000) (W:World) (hn₀:n₀≤W.heap.size) (hP:PlacesAt n₀ W g xs) :
 CallsIn Fence.wide n Tryz.prog 73 #[.pointer (some ⟨g,0,none⟩),.int .i64 ((k:Int) + -1)] W fun e W'=>e=.returned (.agg #[.int .i64 xs[k].up,.int .i64 xs[k].sum,.int .i64 xs[k].time,.int .i64 xs[k].h,.slice xs[k].a xs[k].len xs[k].cap])∧Below W.heap.size W W':=by
 obtain ⟨b,cap,hg,hb,hgs,hc⟩:=hP.ex
 have hx:=List.getElem?_eq_getElem hk
 have hcx:=fun i hi=>hc k _ hx i hi
 obtain ⟨W1,hW1⟩:∃ W1,W.alloc (.cells #[.int .i64 0,.int .i64 0,.int .i64 0,.int .i64 0,.slice none 0 0] 109)=W1:=⟨_,rfl⟩
 have hk':((k:Int) + -1 + 1).toNat=k:=by omega
 have hb1:Below n₀ W W1:=by rw [← hW1]; exact (Below.refl _ W).alloc hn₀ _
 have hbW:Below W.heap.size W W1:=by rw [← hW1]; exact (Below.refl _ W).alloc (Nat.le_refl _) _
 have g1:W1.cell? ⟨g,1,none⟩=some (.slice (some ⟨b,0,none⟩) xs.length cap):=(hb1.cell (p:=⟨g,1,none⟩) hg).trans hgs
 have c0:W1.cell? ⟨b,k * 5,none⟩=some (.int .i64 xs[k].up):=(hb1.cell (p:=⟨b,k * 5,none⟩) hb).trans (hcx 0 (by omega))
 have c1:W1.cell? ⟨b,k * 5 + 1,none⟩=some (.int .i64 xs[k].sum):=(hb1.cell (p:=⟨b,k * 5 + 1,none⟩) hb).trans (hcx 1 (by omega))
 have c2:W1.cell? ⟨b,k * 5 + 2,none⟩=some (.int .i64 xs[k].time):=(hb1.cell (p:=⟨b,k * 5 + 2,none⟩) hb).trans (hcx 2 (by omega))
 have c3:W1.cell? ⟨b,k * 5 + 3,none⟩=some (.int .i64 xs[k].h):=(hb1.cell (p:=⟨b,k * 5 + 3,none⟩) hb).trans (hcx 3 (by omega))
 have c4:W1.cell? ⟨b,k * 5 + 4,none⟩=some (.slice xs[k].a xs[k].len xs[k].cap):=(hb1.cell (p:=⟨b,k * 5 + 4,none⟩) hb).trans (hcx 4 (by omega))
 have bR:Boxed5 W1 W.heap.size:=by rw [← hW1]; exact Boxed5.new W
 have r0:W1.cell? ⟨W.heap.size,0,none⟩=some (.int .i64 0):=by simp [World.cell?,show W1.heap[W.heap.size]?=_ from bR]
 have f0:W1.frozen? ⟨W.heap.size,0,none⟩=false:=by simp [World.frozen?,show W1.heap[W.heap.size]?=_ from bR]
 have r1:W1.cell? ⟨W.heap.size,1,none⟩=some (.int .i64 0):=by simp [World.cell?,show W1.heap[W.heap.size]?=_ from bR]
 have f1:W1.frozen? ⟨W.heap.size,1,none⟩=false:=by simp [World.frozen?,show W1.heap[W.heap.size]?=_ from bR]
 have r2:W1.cell? ⟨W.heap.size,2,none⟩=some (.int .i64 0):=by simp [World.cell?,show W1.heap[W.heap.size]?=_ from bR]
 have f2:W1.frozen? ⟨W.heap.size,2,none⟩=false:=by simp [World.frozen?,show W1.heap[W.heap.size]?=_ from bR]
 have r3:W1.cell? ⟨W.heap.size,3,none⟩=some (.int .i64 0):=by simp [World.cell?,show W1.heap[W.heap.size]?=_ from bR]
 have f3:W1.frozen? ⟨W.heap.size,3,none⟩=false:=by simp [World.frozen?,show W1.heap[W.heap.size]?=_ from bR]
 have r4:W1.cell? ⟨W.heap.size,4,none⟩=some (.slice none 0 0):=by simp [World.cell?,show W1.heap[W.heap.size]?=_ from bR]
 have f4:W1.frozen? ⟨W.heap.size,4,none⟩=false:=by simp [World.frozen?,show W1.heap[W.heap.size]?=_ from bR]
 clear hcx
 have hw:IntKind.i64.wrap ((k:Int) + -1 - -1)=(k:Int):=by rw [IntWalk.i64_in _ (by omega)]; omega
 refine callsIn_of_wp Tryz.func73 rfl trivial ?_ rfl
 simp only [Tryz.ntmps73,List.size_toArray,List.length_cons,List.length_nil,Nat.reduceAdd,Nat.reduceSub,Array.replicate_succ,Array.replicate_zero,List.push_toArray,List.append_toArray,List.nil_append,List.cons_append]
 gi_wp2
 obtain ⟨W5,hW5⟩:∃ W5,(((((W1.setCell ⟨W.heap.size,0,none⟩ (.int .i64 xs[k].up)).setCell ⟨W.heap.size,1,none⟩ (.int .i64 xs[k].sum)).setCell ⟨W.heap.size,2,none⟩ (.int .i64 xs[k].time)).setCell ⟨W.heap.size,3,none⟩ (.int .i64 xs[k].h)).setCell ⟨W.heap.size,4,none⟩ (.slice xs[k].a xs[k].len xs[k].cap))=W5:=⟨_,rfl⟩
 have hB5:Below W.heap.size W W5:=by rw [← hW5]; exact (((((hbW.setCell (p:=⟨W.heap.size,0,none⟩) (Nat.le_refl _) _).setCell (p:=⟨W.heap.size,1,none⟩) (Nat.le_refl _) _).setCell (p:=⟨W.heap.size,2,none⟩) (Nat.le_refl _) _).setCell (p:=⟨W.heap.size,3,none⟩) (Nat.le_refl _) _).setCell (p:=⟨W.heap.size,4,none⟩) (Nat.le_refl _) _)
 have e0:W5.cell? ⟨W.heap.size,0,none⟩=some (.int .i64 xs[k].up):=by
  rw [← hW5,World.cell?_setCell_other _ _ _ _ (by simp),World.cell?_setCell_other _ _ _ _ (by simp),World.cell?_setCell_other _ _ _ _ (by simp),World.cell?_setCell_other _ _ _ _ (by simp)]
  refine World.cell?_setCell_same' _ _ _ ?_
  rw [r0]; rfl
 have e1:W5.cell? ⟨W.heap.size,1,none⟩=some (.int .i64 xs[k].sum):=by
  rw [← hW5,World.cell?_setCell_other _ _ _ _ (by simp),World.cell?_setCell_other _ _ _ _ (by simp),World.cell?_setCell_other _ _ _ _ (by simp)]
  refine World.cell?_setCell_same' _ _ _ ?_
  rw [World.cell?_setCell_other _ _ _ _ (by simp)]; rw [r1]; rfl
 have e2:W5.cell? ⟨W.heap.size,2,none⟩=some (.int .i64 xs[k].time):=by
  rw [← hW5,World.cell?_setCell_other _ _ _ _ (by simp),World.cell?_setCell_other _ _ _ _ (by simp)]
  refine World.cell?_setCell_same' _ _ _ ?_
  rw [World.cell?_setCell_other _ _ _ _ (by simp),World.cell?_setCell_other _ _ _ _ (by simp)]; rw [r2]; rfl
 have e3:W5.cell? ⟨W.heap.size,3,none⟩=some (.int .i64 xs[k].h):=by
  rw [← hW5,World.cell?_setCell_other _ _ _ _ (by simp)]
  refine World.cell?_setCell_same' _ _ _ ?_
  rw [World.cell?_setCell_other _ _ _ _ (by simp),World.cell?_setCell_other _ _ _ _ (by simp),World.cell?_setCell_other _ _ _ _ (by simp)]; rw [r3]; rfl
 have e4:W5.cell? ⟨W.heap.size,4,none⟩=some (.slice xs[k].a xs[k].len xs[k].cap):=by
  rw [← hW5]
  refine World.cell?_setCell_same' _ _ _ ?_
  rw [World.cell?_setCell_other _ _ _ _ (by simp),World.cell?_setCell_other _ _ _ _ (by simp),World.cell?_setCell_other _ _ _ _ (by simp),World.cell?_setCell_other _ _ _ _ (by simp)]; rw [r4]; rfl
 rw [hW5]
 refine bodyPost_ret (v:=.agg #[.int .i64 xs[k].up,.int .i64 xs[k].sum,.int .i64 xs[k].time,.int .i64 xs[k].h,.slice xs[k].a xs[k].len xs[k].cap]) ?_ rfl ⟨rfl,hB5⟩
 simp [results,Tryz.f73,go_sem,e0,e1,e2,e3,e4,PW.v]
end Go.Proofs.YtllhgcfacgiabaaGreat
