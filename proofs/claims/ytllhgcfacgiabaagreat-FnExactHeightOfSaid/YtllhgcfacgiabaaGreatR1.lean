import Derived.Test.YtllhgcfacgiabaaGreatP36
import Derived.Test.YtllhgcfacgiabaaGreatP58
import Derived.Test.YtllhgcfacgiabaaGreatLawC
import Derived.RangeFuncNested
import Derived.RangeFuncBound
import Derived.RangeFuncCalls
import Derived.RangeFuncLeaves
import Derived.Shelf.Abstract
import Derived.WalkKit
import Derived.OwnWalkIn
import Derived.TacticsInMore
import Derived.LoopNIn
import Derived.LoopIn
import Derived.Test.YtllhgcfacgiabaaGreatProg
namespace Go.Proofs.YtllhgcfacgiabaaGreat
open Go Go.Am Go.RowKit
set_option linter.unusedVariables false
set_option linter.unusedSimpArgs false
structure BlkD where
 prev:Int
 time:Int
 bits:Int
 nonce:Int
 txs:List TxD
abbrev txsV (xs:List TxD):AV:=.lst (xs.map txC)
abbrev blkC (b:BlkD):List AV:=[iv b.prev,iv b.time,iv b.bits,iv b.nonce,txsV b.txs]
abbrev blkV (b:BlkD):AV:=.agg (blkC b)
def sizeB (b:BlkD):Nat:=b.txs.length + psum sizeX b.txs
structure MemB (b:BlkD):Prop where
 len:b.txs.length≤9223372036854775807
 txs:∀ x∈b.txs,Mem x
 bits:isI64 b.bits
structure FitsB (b:BlkD):Prop where
 len:b.txs.length≤1048576
 txs:∀ x∈b.txs,Fits x
theorem fitsB_of {b:BlkD} (h:sizeB b≤1048576):FitsB b:=by
 unfold sizeB at h
 exact ⟨by omega,fun x hx=>fits_of (by have:=psum_mem sizeX b.txs x hx; omega)⟩
theorem toTxS_ret (xs:List TxD) (n:Nat) (hl:xs.length≤1048576) (hx:∀ x∈xs,∀ n,Ret Tryz.prog 89 [.agg (txC x)] [] n true (Is (.agg (txC x)) [] n)):Ret Tryz.prog 43 [.lst (xs.map txC)] [] n true (Is (.own n xs.length) [(n,.list 133 3 (xs.map txC))] (n + 1)):=by
 have hL:(xs.map txC).length=xs.length:=by simp
 refine Ret.fn ttOk Tryz.func43 rfl Tryz.call43 rfl rfl ?_
 refine Goes ?_
 rw [hL]
 refine ⟨⟨by omega,by omega,by omega,by show _ * 56≤_; omega⟩,?_⟩
 refine Goes ?_
 refine LoopP.go (fun k:Nat=>k≤xs.length) (fun k=>⟨[(0,.lst (xs.map txC)),(3,.own 0 xs.length),(4,iv k)],[(0,.list 133 3 (fillR txC [iv 0,nl,nl] xs k))],1⟩) (fun k=>xs.length - k) 0 (Nat.zero_le _) ?_ ?_
 · refine Weak.of rfl rfl ktA ⟨⟨leafO ?_,rfl,rfl⟩,trivial⟩
   unfold fillR; simp
 intro k hk
 have hfl:=fillR_len txC [iv 0,nl,nl] xs k hk
 refine Goes ?_;repeat' first|apply W2.m|refine W1.m fun h=>?_
 · have hlt:k < xs.length:=by omega
   rw [rowK txC xs k hlt]
   refine ⟨by rw [hL]; exact ⟨by omega,by omega,rfl⟩,?_⟩
   refine Goes ?_
   first | refine CallP.is (hx xs[k] (List.getElem_mem hlt) _) rfl ?_ | refine CallQ.is (hx xs[k] (List.getElem_mem hlt) _) rfl rfl ?_
   refine Goes ?_
   refine ⟨k + 1,by omega,by omega,Weak.of rfl rfl ktA ⟨⟨leafO ?_,rfl,rfl⟩,trivial⟩⟩
   exact setRowR txC [iv 0,nl,nl] xs k hlt _ rfl _ rfl
 · obtain rfl:k=xs.length:=by omega
   rw [fillR_all]
   refine FinOk.mk' [0] rfl rfl rfl rfl rfl rfl rfl ⟨?_,?_,rfl⟩
   · rfl
   · rfl
theorem toTxS_fr (xs:List TxD) (n:Nat) (hl:xs.length≤1048576) (hx:∀ x∈xs,∀ n,Ret Tryz.prog 89 [.agg (txC x)] [] n true (Is (.agg (txC x)) [] n)):Ret Tryz.prog 43 [.lst (xs.map txC)] [] n true (Is (.lst (xs.map txC)) [] n) :=
 Ret.freeze (by rintro _ _ _ ⟨rfl,rfl,rfl⟩; exact ⟨_,frCell (look_cons_eq _ _ _) (by simp),rfl,rfl,rfl⟩) (toTxS_ret xs n hl hx)
theorem szTxS_ret (xs:List TxD) (l:Int) (n:Nat) (h0:0≤l) (h1:l≤1048576) (hl:xs.length≤9223372036854775807) (hx:∀ x∈xs,∀ (l:Int) (n:Nat),0≤l→l≤1048576→Ret Tryz.prog 85 [.agg (txC x),iv l] [] n true (Is (iv (leftI l (sizeX x))) [] n)):Ret Tryz.prog 41 [.lst (xs.map txC),iv l] [] n true (Is (iv (leftI l (xs.length + psum sizeX xs:Nat))) [] n):=by
 have hL:(xs.map txC).length=xs.length:=by simp
 have he:IntKind.i64.wrap (l - (xs.map txC).length)=l - xs.length:=by rw [hL,IntWalk.i64_in _ (by omega)]
 refine Ret.fn ttOk Tryz.func41 rfl Tryz.call41 rfl rfl ?_
 refine Goes ?_;repeat' first|apply W2.m|refine W1.m fun h=>?_
 · rw [he] at h
   refine FinOk.pure rfl rfl rfl ⟨?_,rfl,rfl⟩
   unfold leftI; rw [if_neg (by omega)]
 rw [he] at h ⊢
 refine LoopP.go (fun k:Nat=>k≤xs.length∧(xs.length + psum sizeX (xs.take k):Nat)≤l) (fun k=>⟨[(0,.lst (xs.map txC)),(1,iv (l - (xs.length + psum sizeX (xs.take k):Nat))),(5,iv k)],[],0⟩) (fun k=>xs.length - k) 0 ⟨Nat.zero_le _,by simp [psum]; omega⟩ ?_ ?_
 · exact Weak.of rfl rfl ⟨⟨rfl,rfl⟩,⟨leafI (by simp [psum]),rfl⟩,⟨rfl,rfl⟩,trivial⟩ trivial
 intro k ⟨hk,hp⟩
 refine Goes ?_;repeat' first|apply W2.m|refine W1.m fun h=>?_
 · have hlt:k < xs.length:=by omega
   have hst:psum sizeX (xs.take (k + 1))=psum sizeX (xs.take k) + sizeX xs[k]:=psum_take sizeX xs k hlt
   have hle:=psum_le sizeX xs (k + 1)
   rw [rowK txC xs k hlt]
   refine ⟨by rw [hL]; exact ⟨by omega,by omega,rfl⟩,?_⟩
   refine Goes ?_
   first | refine CallP.is (hx xs[k] (List.getElem_mem hlt) _ _ (by omega) (by omega)) rfl ?_ | refine CallQ.is (hx xs[k] (List.getElem_mem hlt) _ _ (by omega) (by omega)) rfl rfl ?_
   refine Goes ?_;repeat' first|apply W2.m|refine W1.m fun h=>?_
   · obtain ⟨g1,g2⟩:=leftI_neg h (by omega)
     refine FinOk.pure rfl rfl rfl ⟨?_,rfl,rfl⟩
     unfold leftI; rw [if_neg (by omega)]
   · obtain ⟨g1,g2⟩:=leftI_pos h
     rw [g1]
     exact ⟨k + 1,⟨by omega,by omega⟩,by omega,Weak.of rfl rfl ⟨⟨rfl,rfl⟩,⟨leafI (by rw [hst]; omega),rfl⟩,⟨leafI numA,rfl⟩,trivial⟩ trivial⟩
 · obtain rfl:k=xs.length:=by omega
   rw [List.take_length] at hp ⊢
   refine FinOk.pure rfl rfl rfl ⟨?_,rfl,rfl⟩
   unfold leftI; rw [if_pos (by omega)]
theorem eqTxS_yes (a:List TxD) (n:Nat) (hl:a.length≤1048576) (hx:∀ x∈a,∀ n,Ret Tryz.prog 93 [.agg (txC x),.agg (txC x)] [] n true (Is (bv true) [] n)):Ret Tryz.prog 46 [.lst (a.map txC),.lst (a.map txC)] [] n true (Is (bv true) [] n):=by
 have hL:(a.map txC).length=a.length:=by simp
 refine Ret.fn ttOk Tryz.func46 rfl Tryz.call46 rfl rfl ?_
 refine Goes ?_;repeat' first|apply W2.m|refine W1.m fun h=>?_
 refine LoopP.go (fun k:Nat=>k≤a.length) (fun k=>⟨[(0,.lst (a.map txC)),(1,.lst (a.map txC)),(5,iv k)],[],0⟩) (fun k=>a.length - k) 0 (Nat.zero_le _) (Weak.of rfl rfl ktA trivial) ?_
 intro k hk
 refine Goes ?_;repeat' first|apply W2.m|refine W1.m fun h=>?_
 · have hka:k < a.length:=by omega
   rw [rowK txC a k hka]
   refine ⟨by rw [hL]; exact ⟨by omega,by omega,rfl⟩,?_⟩
   refine Goes ?_
   rw [rowK txC a k hka]
   refine ⟨by rw [hL]; exact ⟨by omega,by omega,rfl⟩,?_⟩
   refine Goes ?_
   first | refine CallP.is (hx a[k] (List.getElem_mem hka) _) rfl ?_ | refine CallQ.is (hx a[k] (List.getElem_mem hka) _) rfl rfl ?_
   refine Goes ?_
   exact ⟨k + 1,by omega,by omega,(Weak.of rfl rfl ktA trivial)⟩
 · refine FinOk.pure rfl rfl rfl ⟨?_,rfl,rfl⟩
   rfl
theorem toBlock_fr (b:BlkD) (n:Nat) (h:FitsB b):Ret Tryz.prog 18 [blkV b] [] n true (Is (blkV b) [] n):=by
 refine Ret.fn ttOk Tryz.func18 rfl Tryz.call18 rfl rfl ?_
 refine Goes ?_
 first | refine CallP.is (toTxS_fr b.txs _ h.len fun x hx n=>toTx_fr x n (h.txs x hx)) rfl ?_ | refine CallQ.is (toTxS_fr b.txs _ h.len fun x hx n=>toTx_fr x n (h.txs x hx)) rfl rfl ?_
 refine Goes ?_
 refine FinOk.pure rfl rfl rfl ⟨?_,rfl,rfl⟩
 rfl
theorem szBlock_ret (b:BlkD) (l:Int) (n:Nat) (h0:0≤l) (h1:l≤1048576) (hm:MemB b):Ret Tryz.prog 16 [blkV b,iv l] [] n true (Is (iv (leftI l (sizeB b))) [] n):=by
 refine Ret.fn ttOk Tryz.func16 rfl Tryz.call16 rfl rfl ?_
 refine Goes ?_
 first | refine CallP.is (szTxS_ret b.txs l _ h0 h1 hm.len fun x hx l n a c=>szTx_ret x l n a c (hm.txs x hx)) rfl ?_ | refine CallQ.is (szTxS_ret b.txs l _ h0 h1 hm.len fun x hx l n a c=>szTx_ret x l n a c (hm.txs x hx)) rfl rfl ?_
 refine Goes ?_;repeat' first|apply W2.m|refine W1.m fun h=>?_
 · have h':leftI l (b.txs.length + psum sizeX b.txs:Nat) < 0:=h
   refine FinOk.pure rfl rfl rfl ⟨?_,rfl,rfl⟩
   unfold sizeB
   rw [(leftI_neg h' h0).1]
 · refine FinOk.pure rfl rfl rfl ⟨?_,rfl,rfl⟩
   rfl
theorem eqBlock_yes (b:BlkD) (n:Nat) (hf:FitsB b):Ret Tryz.prog 21 [blkV b,blkV b] [] n true (Is (bv true) [] n):=by
 refine Ret.fn ttOk Tryz.func21 rfl Tryz.call21 rfl rfl ?_
 refine Goes ?_;repeat' first|apply W2.m|refine W1.m fun h=>?_
 first | refine CallP.is (eqTxS_yes b.txs _ hf.len fun x hx n=>eqTx_yes x n (hf.txs x hx)) rfl ?_ | refine CallQ.is (eqTxS_yes b.txs _ hf.len fun x hx n=>eqTx_yes x n (hf.txs x hx)) rfl rfl ?_
 refine Goes ?_
 refine FinOk.pure rfl rfl rfl ⟨?_,rfl,rfl⟩
 rfl
end Go.Proofs.YtllhgcfacgiabaaGreat
namespace Go.Proofs.YtllhgcfacgiabaaGreat
open Go Go.Am Go.RowKit Go.ChangeShapes Go.WideShapes Go.ChangeAt Go.Deep
set_option linter.unusedVariables false
section
variable {H:Type} {enc:TypeId × Value→H} {w:World} {base:Nat} {sp:Nat→Bool} {held:Bool}
theorem all5 {Z0 Z1 Z2 Z3 Z4:List AV→Prop} {ps:List (List AV)} (h:All2 (fun (Z:List AV→Prop) p=>Z p) [Z0,Z1,Z2,Z3,Z4] ps):∃ p0 p1 p2 p3 p4,ps=[p0,p1,p2,p3,p4]∧Z0 p0∧Z1 p1∧Z2 p2∧Z3 p3∧Z4 p4 :=
 match ps,h with
 | [p0,p1,p2,p3,p4],h=>⟨p0,p1,p2,p3,p4,rfl,h.1,h.2.1,h.2.2.1,h.2.2.2.1,h.2.2.2.2.1⟩
abbrev isIntR:List AV→Prop:=fun us=>∃ z:Int,us=[iv z]∧isI64 z
theorem reads_ir:Reads enc Tryz.prog w base sp held 2 isIntR:=(reads_int info_i64).mono fun us ⟨z,h,hw⟩=>⟨z,h,wf_i64 hw⟩
theorem reads_TxS:Reads enc Tryz.prog w base sp held 33 fun us=>∃ xs:List TxD,us=[txsV xs]∧xs.length≤maxLen∧∀ x∈xs,Mem x :=
 (reads_slice Tryz.underlying33 (by rw [show Tryz.prog.cellsOf 126=3 from by kernel_rfl]; decide) reads_Tx).mono fun us ⟨rows,h1,h2,h3⟩=>by
   obtain ⟨zs,g1,g2,g3⟩:=rows_of (f:=txC) h3
   exact ⟨zs,by rw [h1,g1],by omega,g2⟩
theorem info_Block:∃ f0 f1 f2 f3 f4:Field,Tryz.prog.underlying 35=some (.struct #[f0,f1,f2,f3,f4])∧f0.type=2∧f1.type=2∧f2.type=2∧f3.type=2∧f4.type=33∧offsB Tryz.prog 0 [f0,f1,f2,f3,f4] (Tryz.prog.cellsOf 35)=true :=
 ⟨_,_,_,_,_,Tryz.underlying35,rfl,rfl,rfl,rfl,rfl,by kernel_rfl⟩
theorem reads_Block:Reads enc Tryz.prog w base sp held 35 fun us=>∃ x:BlkD,us=blkC x∧MemB x:=by
 obtain ⟨f0,f1,f2,f3,f4,hu,h0,h1,h2,h3,h4,ho⟩:=info_Block
 refine (reads_struct hu [isInt,isInt,isIntR,isInt,fun us=>∃ xs:List TxD,us=[txsV xs]∧xs.length≤maxLen∧∀ x∈xs,Mem x] ho ⟨?_,?_,?_,?_,?_,trivial⟩).mono ?_
 · show Reads enc _ w base sp held f0.type isInt; rw [h0]; exact reads_i
 · show Reads enc _ w base sp held f1.type isInt; rw [h1]; exact reads_i
 · show Reads enc _ w base sp held f2.type isIntR; rw [h2]; exact reads_ir
 · show Reads enc _ w base sp held f3.type isInt; rw [h3]; exact reads_i
 · show Reads enc _ w base sp held f4.type _; rw [h4]; exact reads_TxS
 rintro us ⟨ps,hp,rfl⟩
 obtain ⟨_,_,_,_,_,rfl,⟨a,rfl⟩,⟨b,rfl⟩,⟨c,rfl,hc⟩,⟨d,rfl⟩,⟨e,rfl,he1,he2⟩⟩:=all5 hp
 exact ⟨⟨a,b,c,d,e⟩,rfl,Nat.le_trans he1 (by decide),he2,hc⟩
end
end Go.Proofs.YtllhgcfacgiabaaGreat
namespace Go.Proofs.YtllhgcfacgiabaaGreat
open Go Go.RowKit Go.Shelf
attribute [local go_sem] Oper.semAt_some
set_option linter.unusedVariables false
set_option linter.unusedSimpArgs false
structure PW where
 up:Int
 sum:Int
 time:Int
 h:Int
 a:Option Addr
 len:Nat
 cap:Nat
def PW.v (x:PW):Value:=.agg #[.int .i64 x.up,.int .i64 x.sum,.int .i64 x.time,.int .i64 x.h,.slice x.a x.len x.cap]
def PW.cell (x:PW):Nat→Value
 | 0=>.int .i64 x.up
 | 1=>.int .i64 x.sum
 | 2=>.int .i64 x.time
 | 3=>.int .i64 x.h
 | _=>.slice x.a x.len x.cap
structure PlacesAt (n₀:Nat) (W:World) (g:Nat) (xs:List PW):Prop where
 ex:∃ (b:Nat) (cap:Nat),g < n₀∧b < n₀∧W.cell? ⟨g,1,none⟩=some (.slice (some ⟨b,0,none⟩) xs.length cap)∧∀ (j:Nat) (x:PW),xs[j]?=some x→∀ i,i < 5→W.cell? ⟨b,j * 5 + i,none⟩=some (x.cell i)
theorem PlacesAt.below {n₀:Nat} {A B:World} (h:Below n₀ A B) {g:Nat} {xs:List PW} (hp:PlacesAt n₀ A g xs):PlacesAt n₀ B g xs:=by
 obtain ⟨b,cap,h1,h2,h3,h4⟩:=hp.ex
 exact ⟨b,cap,h1,h2,(h.cell (p:=⟨g,1,none⟩) h1).trans h3,fun j x hx i hi=>(h.cell (p:=⟨b,j * 5 + i,none⟩) h2).trans (h4 j x hx i hi)⟩
def upto {α:Type} (f:Nat→α) (k:Nat):List α:=(List.range k).map f
theorem upto_succ {α:Type} (f:Nat→α) (k:Nat):upto f (k + 1)=upto f k++[f k]:=by simp [upto,List.range_succ]
theorem upto_length {α:Type} (f:Nat→α) (k:Nat):(upto f k).length=k:=by simp [upto]
set_option maxRecDepth 100000 in
set_option maxHeartbeats 2000000 in
theorem all1_in (n:Nat) (hn:1≤n) (l Bs g n₀:Nat) (p0:PW) (xs:List PW) (hlen:xs.length≤1000) (J Jx:List (Nat × PW)→World→Prop) (W:World) (hJ:AbidesFrom W.heap.size J) (hn₀:n₀≤W.heap.size)
 (hY:∀ pre x W,J pre W→pre.length < xs.length→YieldAt Fence.wide (n - 1) Tryz.prog l #[.int .i64 ((x.1:Int) + -1),x.2.v] W fun e W' =>
   (e=.returned (.bool true)∧J (pre++[x]) W'∧Below n₀ W W')∨(e=.returned (.bool false)∧Jx (pre++[x]) W'))
 (hBs:W.cell? ⟨Bs,0,none⟩=some (.pointer (some ⟨g,0,none⟩))) (hP:PlacesAt n₀ W g xs) (h0:J [] W) :
 CallsIn Fence.wide n Tryz.prog 164 #[.func (.yield l) #[] #[],.pointer (some ⟨Bs,0,none⟩)] W fun e W'=>(∃ v,e=.returned v) ∧
  ((∃ ys,ys=upto (fun j=>(j,xs[j]?.getD p0)) xs.length∧J ys W')∨(∃ pre,(∃ k,k≤xs.length∧pre=upto (fun j=>(j,xs[j]?.getD p0)) k)∧Jx pre W')):=by
 obtain ⟨b,cap,hg,hb,hgs,hc⟩:=hP.ex
 refine callsIn_of_wp Tryz.func164 rfl trivial ?_ rfl
 simp only [Tryz.ntmps164,List.size_toArray,List.length_cons,List.length_nil,Nat.reduceAdd,Nat.reduceSub,Array.replicate_succ,Array.replicate_zero,List.push_toArray,List.append_toArray,List.nil_append,List.cons_append]
 gi_wp2
 gi_loopw [10] (fun i wr=>∃ k:Nat,k≤xs.length∧i=.int .i64 k∧J (upto (fun j=>(j,xs[j]?.getD p0)) k) wr∧Below n₀ W wr)
  (fun i _=>xs.length - (intOf i).toNat)
 case atStart=>exact ⟨0,Nat.zero_le _,rfl,h0,Below.refl _ _⟩
 case round =>
  obtain ⟨k,hk,rfl,hJs,hnx⟩:=hrel
  by_cases hlt:k < xs.length
  · obtain ⟨x,hx⟩:∃ x,xs[k]?=some x:=⟨_,List.getElem?_eq_getElem hlt⟩
    have hcx:=fun i hi=>(hnx.cell (p:=⟨b,k * 5 + i,none⟩) hb).trans (hc k x hx i hi)
    have c0:wr.cell? ⟨b,k * 5,none⟩=some (.int .i64 x.up):=hcx 0 (by omega)
    have c1:wr.cell? ⟨b,k * 5 + 1,none⟩=some (.int .i64 x.sum):=hcx 1 (by omega)
    have c2:wr.cell? ⟨b,k * 5 + 2,none⟩=some (.int .i64 x.time):=hcx 2 (by omega)
    have c3:wr.cell? ⟨b,k * 5 + 3,none⟩=some (.int .i64 x.h):=hcx 3 (by omega)
    have c4:wr.cell? ⟨b,k * 5 + 4,none⟩=some (.slice x.a x.len x.cap):=hcx 4 (by omega)
    clear hcx
    have hget:xs[k]?.getD p0=x:=by rw [hx]; rfl
    have hJ1:=hJ _ wr (wr.alloc (.cells #[.int .i64 x.up,.int .i64 x.sum,.int .i64 x.time,.int .i64 x.h,.slice x.a x.len x.cap] 109)) none hJs (World.grownBy_alloc wr _ none) (by simp)
    obtain ⟨fn,tmps,assign,body,hy,hR⟩:=hY _ (k,x) _ hJ1 (by rw [upto_length]; exact hlt)
    simp only [PW.v] at hy
    gi_wp2
    refine hR.mono ?_
    rintro e W3 (⟨rfl,hJ3,hk3⟩ | ⟨rfl,hJx3⟩)
    · gi_wp2
      go_roundw
      case rel=>exact ⟨k + 1,by omega,by simp,by rw [upto_succ]; simpa only [hget] using hJ3,(hnx.alloc (by have:=hnx.size; omega) _).trans hk3⟩
      case measure=>simp [intOf]; omega
    · gi_wp2
      refine bodyPost_ret (results_none rfl _ _ _) rfl ?_
      exact ⟨⟨_,rfl⟩,.inr ⟨_,⟨k + 1,by omega,by rw [upto_succ,hget]⟩,hJx3⟩⟩
  · obtain rfl:k=xs.length:=by omega
    gi_wp2
    go_end0
    exact ⟨⟨_,rfl⟩,.inl ⟨_,rfl,hJs⟩⟩
set_option maxHeartbeats 1000000 in
theorem all_in (n:Nat) (g:Nat) (w:World) :
 CallsIn Fence.wide n Tryz.prog 125 #[.pointer (some ⟨g,0,none⟩)] w fun e w'=>e=.returned (.func (.func 164) #[] #[.pointer (some ⟨w.heap.size,0,none⟩)])∧w'=w.alloc (.cells #[.pointer (some ⟨g,0,none⟩)] 171):=by
 refine callsIn_of_wp Tryz.func125 rfl trivial ?_ rfl
 simp only [Tryz.ntmps125,List.size_toArray,List.length_cons,List.length_nil,Nat.reduceAdd,Nat.reduceSub,Array.replicate_succ,Array.replicate_zero,List.push_toArray,List.append_toArray,List.nil_append,List.cons_append]
 gi_wp2
 go_ret
 exact ⟨rfl,rfl⟩
theorem all_stops (n:Nat) (hn:1≤n) (Bs g n₀:Nat) (p0:PW) (xs:List PW) (hlen:xs.length≤1000) (w:World) (hBs:Bs < w.heap.size) (hn₀:n₀≤w.heap.size) (hc:w.cell? ⟨Bs,0,none⟩=some (.pointer (some ⟨g,0,none⟩))) (hP:PlacesAt n₀ w g xs) :
 SeqStopsK Fence.wide n Tryz.prog 164 #[.pointer (some ⟨Bs,0,none⟩)] (fun x:Nat × PW=>#[Value.int .i64 ((x.1:Int) + -1),x.2.v]) (Below n₀) (fun ys=>ys=upto (fun j=>(j,xs[j]?.getD p0)) xs.length)
  (fun pre=>∃ k,k≤xs.length∧pre=upto (fun j=>(j,xs[j]?.getD p0)) k) xs.length w:=fun l J Jx W hW hJ _ hY h0 =>
 all1_in n hn l Bs g n₀ p0 xs hlen J Jx W hJ (Nat.le_trans hn₀ hW.size) hY ((hW.cell (p:=⟨Bs,0,none⟩) hBs).trans hc) (hP.below (hW.mono hn₀)) h0
end Go.Proofs.YtllhgcfacgiabaaGreat
