import Derived.Test.YtllhgcfacgiabaaGreatB8
namespace Go.Proofs.YtllhgcfacgiabaaGreat
open Go Go.Am Go.RowKit
set_option linter.unusedVariables false
set_option linter.unusedSimpArgs false
theorem flRows {α:Type} {f:α→List AV} (h:∀ x,∀ c∈f x,FlatT c) (xs:List α):∀ c∈(xs.map f).flatten,FlatT c:=fun c hc=>by
 obtain ⟨r,hr,hcr⟩:=List.mem_flatten.1 hc
 obtain ⟨x,_,rfl⟩:=List.mem_map.1 hr
 exact h x c hcr
theorem flTzs (zs:List Int):FlatT (tl zs):=.tree _ _ _ (flRows (f:=fun z:Int=>[iv z]) (fun x c hc=>by rw [List.mem_singleton.1 hc]; exact .val _) zs)
theorem flInT (x:InD):∀ c∈inT x,FlatT c:=fun c hc=>by
 simp only [List.mem_cons,List.not_mem_nil,or_false] at hc
 rcases hc with rfl | rfl | rfl
 · exact .val _
 · exact .val _
 · exact flTzs _
theorem flOutT (x:OutD):∀ c∈outT x,FlatT c:=fun c hc=>by
 simp only [List.mem_cons,List.not_mem_nil,or_false] at hc
 rcases hc with rfl | rfl
 · exact .val _
 · exact flTzs _
theorem flTxT (x:TxD):∀ c∈txT x,FlatT c:=fun c hc=>by
 simp only [List.mem_cons,List.not_mem_nil,or_false] at hc
 rcases hc with rfl | rfl | rfl
 · exact .val _
 · exact .tree _ _ _ (flRows flInT _)
 · exact .tree _ _ _ (flRows flOutT _)
theorem flTxs {b:Bool} (xs:List TxD):flatO (.nest (c:=b) 133 3 (xs.map txT)):=fun c hc=>.inr (flRows flTxT xs c hc)
theorem cvBlk {hp:Hp} {a:Bool} {i k:Nat} {p t b o:Int} {xs:List TxD} (h:Go.Am.look hp i=some (AObj.nest (c:=a) 133 3 (xs.map txT))) (hk:k=xs.length):Cv hp [] false (.agg [iv p,iv t,iv b,iv o,.own i k]) (.agg [iv p,iv t,iv b,iv o,txsV xs]) :=
 cvAgg ⟨cvcSame rfl,cvcSame rfl,cvcSame rfl,cvcSame rfl,cvcNest h rfl (fzTxs _) (by simpa using hk),trivial⟩
theorem cvBlkS {hp:Hp} {p t b o:Int} {xs:List TxD}:Cv hp [] false (.agg [iv p,iv t,iv b,iv o,txsV xs]) (.agg [iv p,iv t,iv b,iv o,txsV xs]) :=
 cvAgg ⟨cvcSame rfl,cvcSame rfl,cvcSame rfl,cvcSame rfl,cvcSame rfl,trivial⟩
theorem cvBlkR {hp:Hp} {a:Bool} {i k:Nat} {c p t b o:Int} {xs:List TxD} (h:Go.Am.look hp i=some (AObj.nest (c:=a) 133 3 (xs.map txT))) (hk:k=xs.length):Cv hp [] false (.agg [iv c,iv p,iv t,iv b,iv o,.own i k]) (.agg [iv c,iv p,iv t,iv b,iv o,txsV xs]) :=
 cvAgg ⟨cvcSame rfl,cvcSame rfl,cvcSame rfl,cvcSame rfl,cvcSame rfl,cvcNest h rfl (fzTxs _) (by simpa using hk),trivial⟩
theorem cvBlkRS {hp:Hp} {c p t b o:Int} {xs:List TxD}:Cv hp [] false (.agg [iv c,iv p,iv t,iv b,iv o,txsV xs]) (.agg [iv c,iv p,iv t,iv b,iv o,txsV xs]) :=
 cvAgg ⟨cvcSame rfl,cvcSame rfl,cvcSame rfl,cvcSame rfl,cvcSame rfl,cvcSame rfl,trivial⟩
theorem cvBlkN {hp:Hp} {c p t b o:Int}:Cv hp [] false (.agg [iv c,iv p,iv t,iv b,iv o,nl]) (.agg [iv c,iv p,iv t,iv b,iv o,.lst []]) :=
 cvAgg ⟨cvcSame rfl,cvcSame rfl,cvcSame rfl,cvcSame rfl,cvcSame rfl,cvcNil,trivial⟩
def zeroB:BlkD:=⟨0,0,0,0,[]⟩
theorem fitsZ:FitsB zeroB:=fitsB_of (by decide)
theorem lawMine_ok (b:BlkD) (t z:Int) (n:Nat) (hm:MemB b) (hs:∀ n,FitsB b→Ret Tryz.prog 50 [blkV b,iv t] [] n true (Is (.agg (iv 0::blkC (atN b z))) [] n)) (hi:∀ n,FitsB b→Ret Tryz.prog 51 [blkV b,iv t] [] n true (Is (.agg (iv 0::blkO n (atN b z))) [txsO n b.txs] (n + 1))) (hi2:∀ n,FitsB b→Ret Tryz.prog 51 [blkV b,iv t] [] n true (Is (.agg (iv 0::blkC (atN b z))) [] n)):Ret Tryz.prog 10 [blkV b,iv t] [] n true (fun r _ _=>r=bv true):=by
 refine Ret.fn ttOk Tryz.func10 rfl Tryz.call10 rfl rfl ?_
 refine Goes ?_;repeat' first|apply W2.m|refine W1.m fun h=>?_
 first | refine CallP.is (szBlock_ret b 1048576 _ (by decide) (by decide) hm) rfl ?_ | refine CallQ.is (szBlock_ret b 1048576 _ (by decide) (by decide) hm) rfl rfl ?_
 refine Goes ?_;repeat' first|apply W2.m|refine W1.m fun h=>?_
 · exact FinOk.pure rfl rfl rfl rfl
 have hsz:sizeB b≤1048576:=by have:=(leftI_pos h).2; omega
 have hf:FitsB b:=fitsB_of hsz
 have hfz:FitsB (atN b z):=⟨hf.len,hf.txs⟩
 unfold sizeB at hsz
 have hl:=hf.len
 have hps:psum sizeX b.txs≤1048576:=by omega
 first | refine CallP.is (toBlock_fr b _ hf) rfl ?_ | refine CallQ.is (toBlock_fr b _ hf) rfl rfl ?_
 refine Goes ?_;repeat' first|apply W2.m|refine W1.m fun h=>?_
 first | refine CallP.is (hs _ hf) rfl ?_ | refine CallQ.is (hs _ hf) rfl rfl ?_
 refine Goes ?_;repeat' first|apply W2.m|refine W1.m fun h=>?_
 first | refine CallP.is (toBlock_own b _ hf) rfl ?_ | refine CallQ.is (toBlock_own b _ hf) rfl rfl ?_
 refine Goes ?_;repeat' first|apply W2.m|refine W1.m fun h=>?_
 refine CallP.convAIs (hi _ hf) ⟨cvBlk rfl rfl,cvSame rfl,trivial⟩ rfl ⟨flTxs _,trivial⟩ ?_
 refine Goes ?_;repeat' first|apply W2.m|refine W1.m fun h=>?_
 refine CallP.convAIs (eqBlockResult_yes 0 (atN b z) _ hfz) ⟨cvBlkR rfl rfl,cvBlkRS,trivial⟩ rfl trivial ?_
 refine Goes ?_;repeat' first|apply W2.m|refine W1.m fun h=>?_
 first | refine CallQ.is (toBlock_fr b _ hf) rfl rfl ?_ | refine CallP.is (toBlock_fr b _ hf) rfl ?_
 refine Goes ?_;repeat' first|apply W2.m|refine W1.m fun h=>?_
 refine CallP.convAIs (eqBlock_yes b _ hf) ⟨cvBlk rfl rfl,cvBlkS,trivial⟩ rfl trivial ?_
 refine Goes ?_;repeat' first|apply W2.m|refine W1.m fun h=>?_
 refine CallP.heapIs (markBlock_own b.prev b.time b.bits b.nonce b.txs 2 1 _ hl hps (by decide)) rfl ktA rfl ?_
 refine Goes ?_;repeat' first|apply W2.m|refine W1.m fun h=>?_
 refine CallP.convAIs (eqBlockResult_yes 0 (atN b z) _ hfz) ⟨cvBlkR rfl rfl,cvBlkRS,trivial⟩ rfl trivial ?_
 refine Goes ?_;repeat' first|apply W2.m|refine W1.m fun h=>?_
 refine CallP.heapIs (markBlockResult_own 0 b.prev b.time b.bits z b.txs 4 1 _ hl hps (by decide)) rfl ktA rfl ?_
 refine Goes ?_;repeat' first|apply W2.m|refine W1.m fun h=>?_
 refine CallP.convAIs (heldBlockResult_rd 0 b.prev b.time b.bits z b.txs 1 _ hl hps (by decide)) ⟨cvBlkR rfl (mkL_len _ _).symm,cvSame rfl,trivial⟩ rfl trivial ?_
 refine Goes ?_;repeat' first|apply W2.m|refine W1.m fun h=>?_
 first | refine CallP.is (toBlock_fr b _ hf) rfl ?_ | refine CallQ.is (toBlock_fr b _ hf) rfl rfl ?_
 refine Goes ?_;repeat' first|apply W2.m|refine W1.m fun h=>?_
 first | refine CallP.is (hi2 _ hf) rfl ?_ | refine CallQ.is (hi2 _ hf) rfl rfl ?_
 refine Goes ?_;repeat' first|apply W2.m|refine W1.m fun h=>?_
 refine CallP.convAIs (eqBlockResult_yes 0 (atN b z) _ hfz) ⟨cvBlkRS,cvBlkRS,trivial⟩ rfl trivial ?_
 refine Goes ?_;repeat' first|apply W2.m|refine W1.m fun h=>?_
 refine CallP.convAIs (heldBlockResult_rd 0 b.prev b.time b.bits z b.txs 1 _ hl hps (by decide)) ⟨cvBlkR rfl (mkL_len _ _).symm,cvSame rfl,trivial⟩ rfl trivial ?_
 refine Goes ?_;repeat' first|apply W2.m|refine W1.m fun h=>?_
 exact FinOk.pure rfl rfl rfl rfl
theorem lawMine_bad (b:BlkD) (t c:Int) (n:Nat) (hm:MemB b) (hs:∀ n,FitsB b→Ret Tryz.prog 50 [blkV b,iv t] [] n true (Is (mineBad c) [] n)) (hi:∀ n,FitsB b→Ret Tryz.prog 51 [blkV b,iv t] [] n true (Is (mineBad c) [] n)):Ret Tryz.prog 10 [blkV b,iv t] [] n true (fun r _ _=>r=bv true):=by
 refine Ret.fn ttOk Tryz.func10 rfl Tryz.call10 rfl rfl ?_
 refine Goes ?_;repeat' first|apply W2.m|refine W1.m fun h=>?_
 first | refine CallP.is (szBlock_ret b 1048576 _ (by decide) (by decide) hm) rfl ?_ | refine CallQ.is (szBlock_ret b 1048576 _ (by decide) (by decide) hm) rfl rfl ?_
 refine Goes ?_;repeat' first|apply W2.m|refine W1.m fun h=>?_
 · exact FinOk.pure rfl rfl rfl rfl
 have hsz:sizeB b≤1048576:=by have:=(leftI_pos h).2; omega
 have hf:FitsB b:=fitsB_of hsz
 unfold sizeB at hsz
 have hl:=hf.len
 have hps:psum sizeX b.txs≤1048576:=by omega
 first | refine CallP.is (toBlock_fr b _ hf) rfl ?_ | refine CallQ.is (toBlock_fr b _ hf) rfl rfl ?_
 refine Goes ?_;repeat' first|apply W2.m|refine W1.m fun h=>?_
 first | refine CallP.is (hs _ hf) rfl ?_ | refine CallQ.is (hs _ hf) rfl rfl ?_
 refine Goes ?_;repeat' first|apply W2.m|refine W1.m fun h=>?_
 first | refine CallP.is (toBlock_own b _ hf) rfl ?_ | refine CallQ.is (toBlock_own b _ hf) rfl rfl ?_
 refine Goes ?_;repeat' first|apply W2.m|refine W1.m fun h=>?_
 refine CallP.convAIs (hi _ hf) ⟨cvBlk rfl rfl,cvSame rfl,trivial⟩ rfl trivial ?_
 refine Goes ?_;repeat' first|apply W2.m|refine W1.m fun h=>?_
 refine CallP.convAIs (eqBlockResult_yes c zeroB _ fitsZ) ⟨cvBlkN,cvBlkN,trivial⟩ rfl trivial ?_
 refine Goes ?_;repeat' first|apply W2.m|refine W1.m fun h=>?_
 first | refine CallQ.is (toBlock_fr b _ hf) rfl rfl ?_ | refine CallP.is (toBlock_fr b _ hf) rfl ?_
 refine Goes ?_;repeat' first|apply W2.m|refine W1.m fun h=>?_
 refine CallP.convAIs (eqBlock_yes b _ hf) ⟨cvBlk rfl rfl,cvBlkS,trivial⟩ rfl trivial ?_
 refine Goes ?_;repeat' first|apply W2.m|refine W1.m fun h=>?_
 refine CallP.heapIs (markBlock_own b.prev b.time b.bits b.nonce b.txs 2 1 _ hl hps (by decide)) rfl ktA rfl ?_
 refine Goes ?_;repeat' first|apply W2.m|refine W1.m fun h=>?_
 refine CallP.convAIs (eqBlockResult_yes c zeroB _ fitsZ) ⟨cvBlkN,cvBlkN,trivial⟩ rfl trivial ?_
 refine Goes ?_;repeat' first|apply W2.m|refine W1.m fun h=>?_
 first | refine CallP.is (markBlockResult_nil c 0 0 0 0 1 _) rfl ?_ | refine CallQ.is (markBlockResult_nil c 0 0 0 0 1 _) rfl rfl ?_
 refine Goes ?_;repeat' first|apply W2.m|refine W1.m fun h=>?_
 refine CallP.convAIs (heldBlockResult_rd c 0 0 0 0 [] 1 _ (by decide) (by decide) (by decide)) ⟨cvBlkN,cvSame rfl,trivial⟩ rfl trivial ?_
 refine Goes ?_;repeat' first|apply W2.m|refine W1.m fun h=>?_
 first | refine CallP.is (toBlock_fr b _ hf) rfl ?_ | refine CallQ.is (toBlock_fr b _ hf) rfl rfl ?_
 refine Goes ?_;repeat' first|apply W2.m|refine W1.m fun h=>?_
 first | refine CallP.is (hi _ hf) rfl ?_ | refine CallQ.is (hi _ hf) rfl rfl ?_
 refine Goes ?_;repeat' first|apply W2.m|refine W1.m fun h=>?_
 refine CallP.convAIs (eqBlockResult_yes c zeroB _ fitsZ) ⟨cvBlkN,cvBlkN,trivial⟩ rfl trivial ?_
 refine Goes ?_;repeat' first|apply W2.m|refine W1.m fun h=>?_
 refine CallP.convAIs (heldBlockResult_rd c 0 0 0 0 [] 1 _ (by decide) (by decide) (by decide)) ⟨cvBlkN,cvSame rfl,trivial⟩ rfl trivial ?_
 refine Goes ?_;repeat' first|apply W2.m|refine W1.m fun h=>?_
 exact FinOk.pure rfl rfl rfl rfl
theorem implMine_own (b:BlkD) (t z:Int) (n:Nat) (hf:FitsB b) (hb:isI64 b.bits) (h0:blkF b=0) (ht:inR 1 200 t) (hz:mineN b t.toNat b.nonce=some z):Ret Tryz.prog 51 [blkV b,iv t] [] n true (Is (.agg (iv 0::blkO n (atN b z))) [txsO n b.txs] (n + 1)):=by
 have h1:=implMine_ret b t n hf hb h0 ht
 refine Ret.mono (fun r ho m h=>?_) h1
 unfold MineQ at h
 rw [hz] at h
 exact h
theorem implMine_fr (b:BlkD) (t z:Int) (n:Nat) (hf:FitsB b) (hb:isI64 b.bits) (h0:blkF b=0) (ht:inR 1 200 t) (hz:mineN b t.toNat b.nonce=some z):Ret Tryz.prog 51 [blkV b,iv t] [] n true (Is (.agg (iv 0::blkC (atN b z))) [] n) :=
 Ret.freeze (by
  rintro _ _ _ ⟨rfl,rfl,rfl⟩
  exact ⟨.agg (iv 0::blkC (atN b z)),FrV.agg _ (iv 0::blkC (atN b z)) ⟨.refl _ rfl (fun _ e=>by cases e),.refl _ rfl (fun _ e=>by cases e),.refl _ rfl (fun _ e=>by cases e),.refl _ rfl (fun _ e=>by cases e),.refl _ rfl (fun _ e=>by cases e),frNest (look_cons_eq _ _ _) (fzTxs _) (by simp),trivial⟩,rfl,rfl,rfl⟩) (implMine_own b t z n hf hb h0 ht hz)
theorem implMine_none (b:BlkD) (t:Int) (n:Nat) (hf:FitsB b) (hb:isI64 b.bits) (h0:blkF b=0) (ht:inR 1 200 t) (hz:mineN b t.toNat b.nonce=none):Ret Tryz.prog 51 [blkV b,iv t] [] n true (Is (mineBad 8) [] n):=by
 have h1:=implMine_ret b t n hf hb h0 ht
 refine Ret.mono (fun r ho m h=>?_) h1
 unfold MineQ at h
 rw [hz] at h
 exact h
theorem lawMineBlock (b:BlkD) (t:Int) (n:Nat) (hm:MemB b):Ret Tryz.prog 10 [blkV b,iv t] [] n true (fun r _ _=>r=bv true):=by
 by_cases h0:blkF b=0
 · by_cases ht:inR 1 200 t
   · have hs:=fun n hf=>specMine_ret b t n hf h0 ht
     unfold mineV at hs
     cases hz:mineN b t.toNat b.nonce with
     | none =>
       rw [hz] at hs
       exact lawMine_bad b t 8 n hm hs fun n hf=>implMine_none b t n hf hm.bits h0 ht hz
     | some z =>
       rw [hz] at hs
       exact lawMine_ok b t z n hm hs (fun n hf=>implMine_own b t z n hf hm.bits h0 ht hz) (fun n hf=>implMine_fr b t z n hf hm.bits h0 ht hz)
   · exact lawMine_bad b t 3 n hm (fun n hf=>specMine_range b t n hf h0 ht) (fun n hf=>implMine_range b t n hf hm.bits h0 ht)
 · exact lawMine_bad b t _ n hm (fun n hf=>specMine_fault b t n hf h0) (fun n hf=>implMine_fault b t n hf hm.bits h0)
end Go.Proofs.YtllhgcfacgiabaaGreat
