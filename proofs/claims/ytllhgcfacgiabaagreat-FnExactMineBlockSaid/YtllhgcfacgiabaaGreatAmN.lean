import Derived.Test.YtllhgcfacgiabaaGreatM9
import Derived.Test.YtllhgcfacgiabaaGreatP58
import Derived.Test.YtllhgcfacgiabaaGreatLawC
import Derived.Test.YtllhgcfacgiabaaGreatAmG
namespace Go.Proofs.YtllhgcfacgiabaaGreat
open Go Go.Am Go.RowKit
set_option linter.unusedVariables false
set_option linter.unusedSimpArgs false
structure BlkD where
 prev:Int
 time:Int
 bits:Int
 nonce:Int
 txs:List TxD
abbrev txsV (xs:List TxD):AV:=.lst (xs.map txC)
abbrev blkC (b:BlkD):List AV:=[iv b.prev,iv b.time,iv b.bits,iv b.nonce,txsV b.txs]
abbrev blkV (b:BlkD):AV:=.agg (blkC b)
def sizeB (b:BlkD):Nat:=b.txs.length + psum sizeX b.txs
structure MemB (b:BlkD):Prop where
 len:b.txs.length≤9223372036854775807
 txs:∀ x∈b.txs,Mem x
 bits:isI64 b.bits
structure FitsB (b:BlkD):Prop where
 len:b.txs.length≤1048576
 txs:∀ x∈b.txs,Fits x
theorem fitsB_of {b:BlkD} (h:sizeB b≤1048576):FitsB b:=by
 unfold sizeB at h
 exact ⟨by omega,fun x hx=>fits_of (by have:=psum_mem sizeX b.txs x hx; omega)⟩
theorem toTxS_ret (xs:List TxD) (n:Nat) (hl:xs.length≤1048576) (hx:∀ x∈xs,∀ n,Ret Tryz.prog 89 [.agg (txC x)] [] n true (Is (.agg (txC x)) [] n)):Ret Tryz.prog 43 [.lst (xs.map txC)] [] n true (Is (.own n xs.length) [(n,.list 133 3 (xs.map txC))] (n + 1)):=by
 have hL:(xs.map txC).length=xs.length:=by simp
 refine Ret.fn ttOk Tryz.func43 rfl Tryz.call43 rfl rfl ?_
 refine Goes ?_
 rw [hL]
 refine ⟨⟨by omega,by omega,by omega,by show _ * 56≤_; omega⟩,?_⟩
 refine Goes ?_
 refine LoopP.go (fun k:Nat=>k≤xs.length) (fun k=>⟨[(0,.lst (xs.map txC)),(3,.own 0 xs.length),(4,iv k)],[(0,.list 133 3 (fillR txC [iv 0,nl,nl] xs k))],1⟩) (fun k=>xs.length - k) 0 (Nat.zero_le _) ?_ ?_
 · refine Weak.of rfl rfl ktA ⟨⟨leafO ?_,rfl,rfl⟩,trivial⟩
   unfold fillR; simp
 intro k hk
 have hfl:=fillR_len txC [iv 0,nl,nl] xs k hk
 refine Goes ?_;repeat' first|apply W2.m|refine W1.m fun h=>?_
 · have hlt:k < xs.length:=by omega
   rw [rowK txC xs k hlt]
   refine ⟨by rw [hL]; exact ⟨by omega,by omega,rfl⟩,?_⟩
   refine Goes ?_
   first | refine CallP.is (hx xs[k] (List.getElem_mem hlt) _) rfl ?_ | refine CallQ.is (hx xs[k] (List.getElem_mem hlt) _) rfl rfl ?_
   refine Goes ?_
   refine ⟨k + 1,by omega,by omega,Weak.of rfl rfl ktA ⟨⟨leafO ?_,rfl,rfl⟩,trivial⟩⟩
   exact setRowR txC [iv 0,nl,nl] xs k hlt _ rfl _ rfl
 · obtain rfl:k=xs.length:=by omega
   rw [fillR_all]
   refine FinOk.mk' [0] rfl rfl rfl rfl rfl rfl rfl ⟨?_,?_,rfl⟩
   · rfl
   · rfl
theorem toTxS_fr (xs:List TxD) (n:Nat) (hl:xs.length≤1048576) (hx:∀ x∈xs,∀ n,Ret Tryz.prog 89 [.agg (txC x)] [] n true (Is (.agg (txC x)) [] n)):Ret Tryz.prog 43 [.lst (xs.map txC)] [] n true (Is (.lst (xs.map txC)) [] n) :=
 Ret.freeze (by rintro _ _ _ ⟨rfl,rfl,rfl⟩; exact ⟨_,frCell (look_cons_eq _ _ _) (by simp),rfl,rfl,rfl⟩) (toTxS_ret xs n hl hx)
theorem szTxS_ret (xs:List TxD) (l:Int) (n:Nat) (h0:0≤l) (h1:l≤1048576) (hl:xs.length≤9223372036854775807) (hx:∀ x∈xs,∀ (l:Int) (n:Nat),0≤l→l≤1048576→Ret Tryz.prog 85 [.agg (txC x),iv l] [] n true (Is (iv (leftI l (sizeX x))) [] n)):Ret Tryz.prog 41 [.lst (xs.map txC),iv l] [] n true (Is (iv (leftI l (xs.length + psum sizeX xs:Nat))) [] n):=by
 have hL:(xs.map txC).length=xs.length:=by simp
 have he:IntKind.i64.wrap (l - (xs.map txC).length)=l - xs.length:=by rw [hL,IntWalk.i64_in _ (by omega)]
 refine Ret.fn ttOk Tryz.func41 rfl Tryz.call41 rfl rfl ?_
 refine Goes ?_;repeat' first|apply W2.m|refine W1.m fun h=>?_
 · rw [he] at h
   refine FinOk.pure rfl rfl rfl ⟨?_,rfl,rfl⟩
   unfold leftI; rw [if_neg (by omega)]
 rw [he] at h ⊢
 refine LoopP.go (fun k:Nat=>k≤xs.length∧(xs.length + psum sizeX (xs.take k):Nat)≤l) (fun k=>⟨[(0,.lst (xs.map txC)),(1,iv (l - (xs.length + psum sizeX (xs.take k):Nat))),(5,iv k)],[],0⟩) (fun k=>xs.length - k) 0 ⟨Nat.zero_le _,by simp [psum]; omega⟩ ?_ ?_
 · exact Weak.of rfl rfl ⟨⟨rfl,rfl⟩,⟨leafI (by simp [psum]),rfl⟩,⟨rfl,rfl⟩,trivial⟩ trivial
 intro k ⟨hk,hp⟩
 refine Goes ?_;repeat' first|apply W2.m|refine W1.m fun h=>?_
 · have hlt:k < xs.length:=by omega
   have hst:psum sizeX (xs.take (k + 1))=psum sizeX (xs.take k) + sizeX xs[k]:=psum_take sizeX xs k hlt
   have hle:=psum_le sizeX xs (k + 1)
   rw [rowK txC xs k hlt]
   refine ⟨by rw [hL]; exact ⟨by omega,by omega,rfl⟩,?_⟩
   refine Goes ?_
   first | refine CallP.is (hx xs[k] (List.getElem_mem hlt) _ _ (by omega) (by omega)) rfl ?_ | refine CallQ.is (hx xs[k] (List.getElem_mem hlt) _ _ (by omega) (by omega)) rfl rfl ?_
   refine Goes ?_;repeat' first|apply W2.m|refine W1.m fun h=>?_
   · obtain ⟨g1,g2⟩:=leftI_neg h (by omega)
     refine FinOk.pure rfl rfl rfl ⟨?_,rfl,rfl⟩
     unfold leftI; rw [if_neg (by omega)]
   · obtain ⟨g1,g2⟩:=leftI_pos h
     rw [g1]
     exact ⟨k + 1,⟨by omega,by omega⟩,by omega,Weak.of rfl rfl ⟨⟨rfl,rfl⟩,⟨leafI (by rw [hst]; omega),rfl⟩,⟨leafI numA,rfl⟩,trivial⟩ trivial⟩
 · obtain rfl:k=xs.length:=by omega
   rw [List.take_length] at hp ⊢
   refine FinOk.pure rfl rfl rfl ⟨?_,rfl,rfl⟩
   unfold leftI; rw [if_pos (by omega)]
theorem eqTxS_yes (a:List TxD) (n:Nat) (hl:a.length≤1048576) (hx:∀ x∈a,∀ n,Ret Tryz.prog 93 [.agg (txC x),.agg (txC x)] [] n true (Is (bv true) [] n)):Ret Tryz.prog 46 [.lst (a.map txC),.lst (a.map txC)] [] n true (Is (bv true) [] n):=by
 have hL:(a.map txC).length=a.length:=by simp
 refine Ret.fn ttOk Tryz.func46 rfl Tryz.call46 rfl rfl ?_
 refine Goes ?_;repeat' first|apply W2.m|refine W1.m fun h=>?_
 refine LoopP.go (fun k:Nat=>k≤a.length) (fun k=>⟨[(0,.lst (a.map txC)),(1,.lst (a.map txC)),(5,iv k)],[],0⟩) (fun k=>a.length - k) 0 (Nat.zero_le _) (Weak.of rfl rfl ktA trivial) ?_
 intro k hk
 refine Goes ?_;repeat' first|apply W2.m|refine W1.m fun h=>?_
 · have hka:k < a.length:=by omega
   rw [rowK txC a k hka]
   refine ⟨by rw [hL]; exact ⟨by omega,by omega,rfl⟩,?_⟩
   refine Goes ?_
   rw [rowK txC a k hka]
   refine ⟨by rw [hL]; exact ⟨by omega,by omega,rfl⟩,?_⟩
   refine Goes ?_
   first | refine CallP.is (hx a[k] (List.getElem_mem hka) _) rfl ?_ | refine CallQ.is (hx a[k] (List.getElem_mem hka) _) rfl rfl ?_
   refine Goes ?_
   exact ⟨k + 1,by omega,by omega,(Weak.of rfl rfl ktA trivial)⟩
 · refine FinOk.pure rfl rfl rfl ⟨?_,rfl,rfl⟩
   rfl
theorem toBlock_fr (b:BlkD) (n:Nat) (h:FitsB b):Ret Tryz.prog 18 [blkV b] [] n true (Is (blkV b) [] n):=by
 refine Ret.fn ttOk Tryz.func18 rfl Tryz.call18 rfl rfl ?_
 refine Goes ?_
 first | refine CallP.is (toTxS_fr b.txs _ h.len fun x hx n=>toTx_fr x n (h.txs x hx)) rfl ?_ | refine CallQ.is (toTxS_fr b.txs _ h.len fun x hx n=>toTx_fr x n (h.txs x hx)) rfl rfl ?_
 refine Goes ?_
 refine FinOk.pure rfl rfl rfl ⟨?_,rfl,rfl⟩
 rfl
theorem szBlock_ret (b:BlkD) (l:Int) (n:Nat) (h0:0≤l) (h1:l≤1048576) (hm:MemB b):Ret Tryz.prog 16 [blkV b,iv l] [] n true (Is (iv (leftI l (sizeB b))) [] n):=by
 refine Ret.fn ttOk Tryz.func16 rfl Tryz.call16 rfl rfl ?_
 refine Goes ?_
 first | refine CallP.is (szTxS_ret b.txs l _ h0 h1 hm.len fun x hx l n a c=>szTx_ret x l n a c (hm.txs x hx)) rfl ?_ | refine CallQ.is (szTxS_ret b.txs l _ h0 h1 hm.len fun x hx l n a c=>szTx_ret x l n a c (hm.txs x hx)) rfl rfl ?_
 refine Goes ?_;repeat' first|apply W2.m|refine W1.m fun h=>?_
 · have h':leftI l (b.txs.length + psum sizeX b.txs:Nat) < 0:=h
   refine FinOk.pure rfl rfl rfl ⟨?_,rfl,rfl⟩
   unfold sizeB
   rw [(leftI_neg h' h0).1]
 · refine FinOk.pure rfl rfl rfl ⟨?_,rfl,rfl⟩
   rfl
theorem eqBlock_yes (b:BlkD) (n:Nat) (hf:FitsB b):Ret Tryz.prog 21 [blkV b,blkV b] [] n true (Is (bv true) [] n):=by
 refine Ret.fn ttOk Tryz.func21 rfl Tryz.call21 rfl rfl ?_
 refine Goes ?_;repeat' first|apply W2.m|refine W1.m fun h=>?_
 first | refine CallP.is (eqTxS_yes b.txs _ hf.len fun x hx n=>eqTx_yes x n (hf.txs x hx)) rfl ?_ | refine CallQ.is (eqTxS_yes b.txs _ hf.len fun x hx n=>eqTx_yes x n (hf.txs x hx)) rfl rfl ?_
 refine Goes ?_
 refine FinOk.pure rfl rfl rfl ⟨?_,rfl,rfl⟩
 rfl
end Go.Proofs.YtllhgcfacgiabaaGreat
namespace Go.Proofs.YtllhgcfacgiabaaGreat
open Go Go.Am Go.RowKit Go.ChangeShapes Go.WideShapes Go.ChangeAt Go.Deep
set_option linter.unusedVariables false
section
variable {H:Type} {enc:TypeId × Value→H} {w:World} {base:Nat} {sp:Nat→Bool} {held:Bool}
theorem all5 {Z0 Z1 Z2 Z3 Z4:List AV→Prop} {ps:List (List AV)} (h:All2 (fun (Z:List AV→Prop) p=>Z p) [Z0,Z1,Z2,Z3,Z4] ps):∃ p0 p1 p2 p3 p4,ps=[p0,p1,p2,p3,p4]∧Z0 p0∧Z1 p1∧Z2 p2∧Z3 p3∧Z4 p4 :=
 match ps,h with
 | [p0,p1,p2,p3,p4],h=>⟨p0,p1,p2,p3,p4,rfl,h.1,h.2.1,h.2.2.1,h.2.2.2.1,h.2.2.2.2.1⟩
abbrev isIntR:List AV→Prop:=fun us=>∃ z:Int,us=[iv z]∧isI64 z
theorem reads_ir:Reads enc Tryz.prog w base sp held 2 isIntR:=(reads_int info_i64).mono fun us ⟨z,h,hw⟩=>⟨z,h,wf_i64 hw⟩
theorem reads_TxS:Reads enc Tryz.prog w base sp held 33 fun us=>∃ xs:List TxD,us=[txsV xs]∧xs.length≤maxLen∧∀ x∈xs,Mem x :=
 (reads_slice Tryz.underlying33 (by rw [show Tryz.prog.cellsOf 126=3 from by kernel_rfl]; decide) reads_Tx).mono fun us ⟨rows,h1,h2,h3⟩=>by
   obtain ⟨zs,g1,g2,g3⟩:=rows_of (f:=txC) h3
   exact ⟨zs,by rw [h1,g1],by omega,g2⟩
theorem info_Block:∃ f0 f1 f2 f3 f4:Field,Tryz.prog.underlying 35=some (.struct #[f0,f1,f2,f3,f4])∧f0.type=2∧f1.type=2∧f2.type=2∧f3.type=2∧f4.type=33∧offsB Tryz.prog 0 [f0,f1,f2,f3,f4] (Tryz.prog.cellsOf 35)=true :=
 ⟨_,_,_,_,_,Tryz.underlying35,rfl,rfl,rfl,rfl,rfl,by kernel_rfl⟩
theorem reads_Block:Reads enc Tryz.prog w base sp held 35 fun us=>∃ x:BlkD,us=blkC x∧MemB x:=by
 obtain ⟨f0,f1,f2,f3,f4,hu,h0,h1,h2,h3,h4,ho⟩:=info_Block
 refine (reads_struct hu [isInt,isInt,isIntR,isInt,fun us=>∃ xs:List TxD,us=[txsV xs]∧xs.length≤maxLen∧∀ x∈xs,Mem x] ho ⟨?_,?_,?_,?_,?_,trivial⟩).mono ?_
 · show Reads enc _ w base sp held f0.type isInt; rw [h0]; exact reads_i
 · show Reads enc _ w base sp held f1.type isInt; rw [h1]; exact reads_i
 · show Reads enc _ w base sp held f2.type isIntR; rw [h2]; exact reads_ir
 · show Reads enc _ w base sp held f3.type isInt; rw [h3]; exact reads_i
 · show Reads enc _ w base sp held f4.type _; rw [h4]; exact reads_TxS
 rintro us ⟨ps,hp,rfl⟩
 obtain ⟨_,_,_,_,_,rfl,⟨a,rfl⟩,⟨b,rfl⟩,⟨c,rfl,hc⟩,⟨d,rfl⟩,⟨e,rfl,he1,he2⟩⟩:=all5 hp
 exact ⟨⟨a,b,c,d,e⟩,rfl,Nat.le_trans he1 (by decide),he2,hc⟩
theorem block_came {vs:Array Value} {d:DataW H} {ps:List MemPlace} (h:DataW.Trod enc Tryz.prog w base sp held 35 (.agg vs) d ps):∃ b:BlkD,MemB b∧VRel w (fun b=>b < w.heap.size) (fun _=>none) (.agg vs) (blkV b):=by
 obtain ⟨us,⟨b,rfl,hm⟩,hv⟩:=reads_agg reads_Block h
 exact ⟨b,hm,hv⟩
end
end Go.Proofs.YtllhgcfacgiabaaGreat
namespace Go.Am
open Go.RowKit
set_option linter.unusedVariables false
set_option linter.unusedSimpArgs false
theorem flatten_lenW {s:Nat}:∀ {rows:List (List AV)},(∀ r∈rows,r.length=s)→rows.flatten.length=rows.length * s
 | [],_=>by simp
 | r::rs,h=>by
   rw [List.flatten_cons,List.length_append,flatten_lenW fun x hx=>h x (List.mem_cons_of_mem _ hx),h r (List.mem_cons_self ..),List.length_cons,Nat.add_mul]
   omega
theorem Weak.nest {fx:List Nat} {tm:List (Nat × AV)} {hp:Hp} {nx:Nat} (id e s:Nat) (rows:List (List AV)) (hl:look hp id=some (.list e s rows)) :
 Weak fx ⟨tm,hp,nx⟩ ⟨tm,(id,.nest (c:=true) e s rows)::hp,nx⟩:=by
 rintro E a w _ ⟨hsz,hd,ι,S,hC,hTm⟩
 obtain ⟨hid0,huse0,hob⟩:=hC.obj id _ hl
 refine ⟨hsz,hd,ι,S,⟨hC.frame,hC.sub,hC.lt,hC.dis,hC.own,hC.inj,hC.new,?_,hC.stay,hC.fxs⟩,hTm⟩
 intro i o h
 by_cases hii:id=i
 · subst hii
   rw [look_cons_eq] at h
   simp only [Option.some.injEq] at h
   subst h
   refine ⟨hid0,?_,?_⟩
   · intro h0; cases h0
   · cases hob with
     | nil _ _ h' h2=>exact .nest0 e s h' h2
     | list g cap _ _ _ vs h' hs hr hle hm hb hn hc=>exact .nest g cap e s rows vs h' hs hr hle hm hb hn fun j v c hv ha=>.inr (.rd (hc j v c hv ha))
 · rw [look_cons_ne _ _ hii] at h
   exact hC.obj i o h
end Go.Am
