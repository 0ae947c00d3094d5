import Derived.Test.YtllhgcfacgiabaaGreatP74
import Derived.Test.YtllhgcfacgiabaaGreatP54
namespace Go.Proofs.YtllhgcfacgiabaaGreat
open Go Go.Am Go.RowKit
set_option linter.unusedVariables false
set_option linter.unusedSimpArgs false
abbrev mapL (l:List CoinD):List (List KV × AV):=l.map fun c=>(kvC c,coinV c)
abbrev keyB (t o:Int):CoinD→Bool:=fun c=>decide (c.tx=t∧c.out=o)
theorem mapL_at (t o:Int):∀ l:List CoinD,findM [.int t,.int o] (mapL l)=(atC l t o).map coinV
 | []=>rfl
 | c::r=>by
   have ih:=mapL_at t o r
   unfold atC at *
   rw [mapL,List.map_cons,findM]
   by_cases h:c.tx=t∧c.out=o
   · rw [if_pos (by simp [kvC,h]),List.find?_cons_of_pos (by simpa using h)]; rfl
   · rw [if_neg (by simpa [kvC] using h),List.find?_cons_of_neg (by simpa using h),ih]
theorem mapL_del (t o:Int):∀ l:List CoinD,delM [.int t,.int o] (mapL l)=mapL (l.eraseP (keyB t o))
 | []=>rfl
 | c::r=>by
   have ih:=mapL_del t o r
   rw [mapL,List.map_cons,delM]
   by_cases h:c.tx=t∧c.out=o
   · rw [if_pos (by simp [kvC,h]),List.eraseP_cons_of_pos (by simpa using h)]
   · rw [if_neg (by simpa [kvC] using h),List.eraseP_cons_of_neg (by simpa using h),ih]; rfl
theorem putM_new (k:List KV) (a:AV):∀ rows:List (List KV × AV),(∀ r∈rows,r.1≠k)→putM k a rows=rows++[(k,a)]
 | [],_=>rfl
 | r::rs,h=>by
   rw [putM,if_neg (h r (List.mem_cons_self ..)),putM_new k a rs fun x hx=>h x (List.mem_cons_of_mem _ hx)]; rfl
theorem mapF_take {l:List CoinD} (h:l.Pairwise lessP):∀ k,k≤l.length→mapF (l.take k)=mapL (l.take k)
 | 0,_=>by simp [mapF]
 | k + 1,hk=>by
   rw [mapF_succ l k hk,mapF_take h k (by omega),putM_new,takeS l k hk]
   · rw [mapL,mapL,List.map_append]; rfl
   · intro r hr
     obtain ⟨x,hx,rfl⟩:=List.mem_map.1 hr
     obtain ⟨i,hi,rfl⟩:=List.mem_iff_getElem.1 hx
     rw [List.length_take] at hi
     rw [List.getElem_take]
     have:=List.pairwise_iff_getElem.1 h i k (by omega) hk (by omega)
     unfold lessP at this
     simp only [kvC,ne_eq,List.cons.injEq,KV.int.injEq,and_true]
     omega
theorem mapF_list {l:List CoinD} (h:coinsC l=0):mapF l=mapL l:=by
 have:=mapF_take (cgC_apart l none (coinsC_ok h).2.1).2 l.length (Nat.le_refl _)
 rwa [List.take_length] at this
def restE (l:List CoinD) (xs:List InD):List CoinD:=xs.foldl (fun m x=>m.eraseP (keyB x.1 x.2.1)) l
theorem restE_succ (l:List CoinD) (xs:List InD) (k:Nat) (h:k < xs.length):restE l (xs.take (k + 1))=(restE l (xs.take k)).eraseP (keyB xs[k].1 xs[k].2.1):=by
 unfold restE; rw [takeS xs k h,List.foldl_append]; rfl
theorem take_ret (l cs:List CoinD) (xs:List InD) (i n:Nat) (hl:xs.length≤1048576) (hc:cs.length=xs.length) (hp:∀ c∈cs,pCoin c≤1048576) (ha:∀ (k:Nat) (h:k < xs.length),atC (restE l (xs.take k)) xs[k].1 xs[k].2.1=cs[k]?) :
 Ret Tryz.prog 225 [.mp i,insV xs] [(i,.map kks (mapL l))] n true (Is (.own n xs.length) [(i,.map kks (mapL (restE l xs))),(n,.nest (c:=true) 184 6 (cs.map coinT))] (n + 1)):=by
 have hL:(xs.map inRow).length=xs.length:=by simp
 refine Ret.of_run (tt:=tt) ttOk Tryz.func225 rfl Tryz.call225 [i] [.map kks (mapL l)] [.mp 0,insV xs] true n _ rfl (nodup1 i) (by exact Nat.le_of_ble_eq_true rfl) rfl rfl ?_
 refine Goes ?_
 rw [hL]
 refine ⟨⟨by omega,by omega,by omega,by show _ * 64≤_; omega⟩,?_⟩
 refine Goes ?_
 refine LoopP.go (fun k:Nat=>k≤xs.length) (fun k=>⟨[(0,.mp 0),(5,.own 1 k),(12,insV xs),(13,iv xs.length),(14,iv k)],[(1,.nest (c:=true) 184 6 ((cs.take k).map coinT)),(0,.map kks (mapL (restE l (xs.take k))))],2⟩) (fun k=>xs.length - k) 0 (Nat.zero_le _) ?_ ?_
 · refine (Weak.nest 1 _ _ _ rfl).trans ?_
   rw [hL]
   exact Weak.of rfl rfl ⟨⟨rfl,rfl⟩,⟨rfl,rfl⟩,⟨rfl,rfl⟩,⟨rfl,rfl⟩,⟨rfl,rfl⟩,trivial⟩ ⟨⟨rfl,rfl,rfl⟩,⟨rfl,rfl,rfl⟩,trivial⟩
 intro k hk
 refine Goes ?_;repeat' first|apply W2.m|refine W1.m fun h=>?_
 · have hlt:k < xs.length:=by omega
   have hck:=List.getElem?_eq_getElem (show k < cs.length by omega)
   have hak:=(ha k hlt).trans hck
   rw [rowK inRow xs k hlt]
   refine ⟨by rw [hL]; exact ⟨by omega,by omega,rfl⟩,?_⟩
   refine Goes ?_
   first | refine CallP.is (keyOfIn_ret xs[k] _) rfl ?_ | refine CallQ.is (keyOfIn_ret xs[k] _) rfl rfl ?_
   refine Goes ?_
   rw [mapL_at,hak]
   refine ⟨True.intro,?_⟩
   refine Goes ?_
   first | refine CallP.is (copyCoin_own cs[k] _ (hp _ (List.getElem_mem _))) rfl ?_ | refine CallQ.is (copyCoin_own cs[k] _ (hp _ (List.getElem_mem _))) rfl rfl ?_
   refine Goes ?_
   refine ⟨⟨by simp; omega,Nat.le_refl 1,by show (k + 1) * 64≤_; omega,by unfold maxLen; omega,fun c hc=>noId_inB (inBCoin _ c hc) 1,fun c hc=>by simp only [List.flatten_cons,List.flatten_nil,List.append_nil,List.mem_cons,List.not_mem_nil,or_false] at hc; rcases hc with rfl | rfl | rfl | rfl | rfl | rfl <;> simp [AV.idOf]⟩,?_⟩
   refine Goes ?_
   rw [mapL_del]
   refine ⟨True.intro,?_⟩
   refine Goes ?_
   refine ⟨k + 1,by omega,by omega,?_⟩
   rw [show ((cs.take k).map coinT).take k=(cs.take k).map coinT from List.take_of_length_le (by simp; omega),restE_succ l xs k hlt]
   refine Weak.plant 1 _ 6 k 3 4 _ 1 cs[k].lock.length _ _ _ [iv cs[k].tx,iv cs[k].out,iv cs[k].val,.own 4 cs[k].lock.length,iv cs[k].h,bv cs[k].base] rfl rfl (by simp) (getSnoc (by simp; omega)) rfl ?_ (inBCoin _) (inBIvs _) rfl ⟨⟨rfl,rfl,rfl⟩,⟨rfl,rfl,rfl⟩,⟨rfl,rfl,rfl⟩,⟨rfl,rfl,rfl⟩,⟨leafI numA,rfl,rfl⟩,trivial⟩ ⟨⟨rfl,rfl⟩,trivial⟩
   rw [setSnoc (by simp; omega),takeS cs k (by omega),List.map_append]; rfl
 · obtain rfl:k=xs.length:=by omega
   rw [List.take_length,List.take_of_length_le (by omega)]
   refine FinOk.mk' [1] rfl rfl rfl rfl rfl rfl rfl ⟨?_,?_,rfl⟩
   · rfl
   · rfl
end Go.Proofs.YtllhgcfacgiabaaGreat
namespace Go.Proofs.YtllhgcfacgiabaaGreat
open Go Go.Am Go.RowKit
set_option linter.unusedVariables false
set_option linter.unusedSimpArgs false
theorem same_sorted {xs ys zs:List CoinD} (hp:ys.Perm xs) (hs:∀ (i j:Nat) (h:i≤j) (hj:j < ys.length),¬ lessP ys[j] (ys[i]'(Nat.lt_of_le_of_lt h hj))) (hz:zs.Pairwise lessP) (hzp:zs.Perm xs):ys=zs:=by
 refine rising_eq (rising_of hs ?_) hz (hp.trans hzp.symm)
 refine ((hp.trans hzp.symm).pairwise_iff (fun {a b} h e=>h ⟨e.1.symm,e.2.symm⟩)).2 ?_
 exact hz.imp fun {a b} h e=>by unfold lessP at h; omega
theorem mapL_erase:∀ (l:List CoinD) (j:Nat),mapL (l.eraseIdx j)=(mapL l).eraseIdx j
 | [],j=>rfl
 | c::r,0=>rfl
 | c::r,j + 1=>congrArg _ (mapL_erase r j)
theorem perm_erase:∀ {l:List CoinD} {j:Nat} (h:j < l.length),(l[j]::l.eraseIdx j).Perm l
 | c::r,0,_=>List.Perm.refl _
 | c::r,j + 1,h=>(List.Perm.swap c _ _).trans ((perm_erase (l:=r) (j:=j) (by simpa using h)).cons c)
def ListQ (zs:List CoinD) (i n T:Nat):AV→Hp→Nat→Prop:=fun r ho m=>∃ x,r=.own n zs.length∧ho=[(i,x),(n,.nest (c:=true) T 6 (zs.map coinT))]∧m=n + 1
abbrev coinO (c:CoinD) (i:Nat):List AV:=[iv c.tx,iv c.out,iv c.val,.own i c.lock.length,iv c.h,bv c.base]
theorem listWith_ret (l ms zs:List CoinD) (i n:Nat) (h60:l.length + ms.length≤60) (hpl:∀ c∈l,pCoin c≤1048576) (hpm:∀ c∈ms,pCoin c≤1048576) (hz:zs.Pairwise lessP) (hzp:zs.Perm (l++ms)) :
 Ret Tryz.prog 226 [.mp i,coinsV ms] [(i,.map kks (mapL l))] n false (ListQ zs i n 184):=by
 have hL:(ms.map coinRow).length=ms.length:=by simp
 have hM:(mapL l).length=l.length:=by simp [mapL]
 have hw:IntKind.i64.wrap ((l.length:Int) + ms.length)=((l.length + ms.length:Nat):Int):=by rw [IntWalk.i64_in _ (by omega)]; omega
 refine Ret.of_runX (tt:=tt) ttOk Tryz.func226 rfl Tryz.call226 [i] [.map kks (mapL l)] [.mp 0,coinsV ms] false n _ rfl (nodup1 i) (by exact Nat.le_of_ble_eq_true rfl) rfl rfl ?_
 refine Goes ?_
 rw [hL,hM,hw]
 refine ⟨⟨by omega,by omega,by omega,by show _ * 64≤_; omega⟩,?_⟩
 refine Goes ?_
 refine LoopP.go (fun y:Option (List KV × AV) × List CoinD × List CoinD=>(y.2.1++y.2.2).Perm l) (fun y=>⟨[(1,coinsV ms),(5,.own 2 y.2.2.length),(17,.pt 0 0 0)],[(2,.nest (c:=true) 184 6 (y.2.2.map coinT)),(0,.ranged kks y.1 (mapL y.2.1))],3⟩) (fun y=>y.2.1.length) (none,l,[]) (by dsimp only; rw [List.append_nil]) ?_ ?_
 · refine (Weak.nest 2 _ _ _ rfl).trans ?_
   exact Weak.of rfl rfl ⟨⟨rfl,rfl⟩,⟨rfl,rfl⟩,⟨rfl,rfl⟩,trivial⟩ ⟨⟨rfl,rfl,rfl⟩,⟨rfl,rfl,rfl⟩,trivial⟩
 rintro ⟨cur,lf,ys⟩ hp
 dsimp only at hp ⊢
 have hpy:∀ c∈ys,pCoin c≤1048576:=fun c hc=>hpl c (hp.mem_iff.1 (List.mem_append_right _ hc))
 have hlen:=hp.length_eq
 rw [List.length_append] at hlen
 refine Goes ?_
 refine ⟨fun h0=>?_,fun j hj=>?_⟩
 · obtain rfl:lf=[]:=List.map_eq_nil_iff.1 h0
   rw [List.nil_append] at hp
   rw [List.length_nil,Nat.zero_add] at hlen
   refine Goes ?_
   refine LoopP.go (fun k:Nat=>k≤ms.length) (fun k=>⟨[(5,.own 2 (ys++ms.take k).length),(27,coinsV ms),(28,iv ms.length),(29,iv k)],[(2,.nest (c:=true) 184 6 ((ys++ms.take k).map coinT)),(0,.ranged kks cur (mapL []))],3⟩) (fun k=>ms.length - k) 0 (Nat.zero_le _) ?_ ?_
   · rw [hL,show ys++ms.take 0=ys by simp]
     exact (Weak.of rfl rfl ktA ktA)
   intro k hk
   have hlk:(ys++ms.take k).length=ys.length + k:=by simp; omega
   refine Goes ?_;repeat' first|apply W2.m|refine W1.m fun h=>?_
   · have hlt:k < ms.length:=by omega
     have hcp:=hpm ms[k] (List.getElem_mem hlt)
     rw [rowK coinRow ms k hlt]
     refine ⟨by rw [hL]; exact ⟨by omega,by omega,rfl⟩,?_⟩
     obtain ⟨c,hc⟩:∃ c,c=ms[k]:=⟨_,rfl⟩
     rw [← hc] at hcp ⊢
     refine Goes ?_
     first | refine CallP.is (copyCoin_own c _ hcp) rfl ?_ | refine CallQ.is (copyCoin_own c _ hcp) rfl rfl ?_
     refine Goes ?_
     refine ⟨⟨by simp,Nat.le_refl 1,by show ((ys++ms.take k).length + 1) * 64≤_; rw [hlk]; omega,by unfold maxLen; rw [hlk]; omega,fun c hc=>noId_inB (inBCoin _ c hc) 2,fun c hc=>by simp only [List.flatten_cons,List.flatten_nil,List.append_nil,List.mem_cons,List.not_mem_nil,or_false] at hc; rcases hc with rfl | rfl | rfl | rfl | rfl | rfl <;> simp [AV.idOf]⟩,?_⟩
     refine Goes ?_
     refine ⟨k + 1,by omega,by omega,?_⟩
     rw [show ys++ms.take (k + 1)=ys++ms.take k++[c] by rw [takeS ms k hlt,hc,List.append_assoc],show (ys++ms.take k++[c]).length=(ys++ms.take k).length + 1 from List.length_append]
     generalize ys++ms.take k=vs
     rw [show (vs.map coinT).take vs.length=vs.map coinT from List.take_of_length_le (by simp)]
     refine Weak.plant 2 _ 6 vs.length 3 4 _ 1 c.lock.length _ _ _ (coinO c 4) rfl rfl (by simp) (getSnoc (by simp)) rfl ?_ (inBCoin _) (inBIvs _) rfl ⟨⟨rfl,rfl,rfl⟩,⟨rfl,rfl,rfl⟩,⟨rfl,rfl,rfl⟩,⟨leafI numA,rfl,rfl⟩,trivial⟩ ⟨⟨rfl,rfl⟩,trivial⟩
     rw [setSnoc (by simp),List.map_append]; rfl
   · obtain rfl:k=ms.length:=by omega
     rw [List.take_length]
     refine CallP.heap (sortCoins_ret (ys++ms) 2 _ (by rw [List.length_append]; omega)) rfl ktA rfl ?_
     rintro _ _ _ ⟨rfl,rfl,us,hup,hus,rfl⟩
     have hU:us=zs:=same_sorted (hup.trans (hp.append_right ms)) hus hz hzp
     subst hU
     refine Goes ?_
     refine FinOk.mk' [2] rfl rfl rfl rfl rfl rfl rfl ⟨_,?_,rfl,rfl⟩
     rw [hup.length_eq]; rfl
 · have hj':j < lf.length:=by simpa [mapL] using hj
   obtain ⟨c,hc⟩:∃ c,c=lf[j]:=⟨_,rfl⟩
   rw [show (mapL lf)[j]=(kvC c,coinV c) from by rw [hc]; exact List.getElem_map _]
   have hcp:pCoin c≤1048576:=hpl c (hp.mem_iff.1 (List.mem_append_left _ (hc ▸ List.getElem_mem hj')))
   refine Goes ?_
   first | refine CallP.is (copyCoin_own c _ hcp) rfl ?_ | refine CallQ.is (copyCoin_own c _ hcp) rfl rfl ?_
   refine Goes ?_
   refine ⟨⟨by simp,Nat.le_refl 1,by show (ys.length + 1) * 64≤_; omega,by unfold maxLen; omega,fun c hc=>noId_inB (inBCoin _ c hc) 2,fun c hc=>by simp only [List.flatten_cons,List.flatten_nil,List.append_nil,List.mem_cons,List.not_mem_nil,or_false] at hc; rcases hc with rfl | rfl | rfl | rfl | rfl | rfl <;> simp [AV.idOf]⟩,?_⟩
   refine Goes ?_
   refine ⟨(some (kvC c,coinV c),lf.eraseIdx j,ys++[c]),?_,?_,?_⟩
   · dsimp only
     refine List.Perm.trans ?_ hp
     have h1:=(perm_erase hj').append_right ys
     rw [← hc] at h1
     refine List.Perm.trans ?_ h1
     rw [← List.append_assoc]
     exact List.perm_append_comm
   · dsimp only
     have:=(perm_erase hj').length_eq
     simp only [List.length_cons] at this
     omega
   · dsimp only
     rw [mapL_erase,show (ys++[c]).length=ys.length + 1 by simp,show (ys.map coinT).take ys.length=ys.map coinT from List.take_of_length_le (by simp)]
     refine Weak.plant 2 _ 6 ys.length 3 4 _ 1 c.lock.length _ _ _ (coinO c 4) rfl rfl (by simp) (getSnoc (by simp)) rfl ?_ (inBCoin _) (inBIvs _) rfl ⟨⟨rfl,rfl,rfl⟩,⟨rfl,rfl,rfl⟩,⟨rfl,rfl,rfl⟩,trivial⟩ ⟨⟨rfl,rfl⟩,trivial⟩
     rw [setSnoc (by simp),List.map_append]; rfl
end Go.Proofs.YtllhgcfacgiabaaGreat
namespace Go.Proofs.YtllhgcfacgiabaaGreat
open Go Go.Am Go.RowKit
set_option linter.unusedVariables false
set_option linter.unusedSimpArgs false
def madeC (t:TxD) (hg:Int):List CoinD:=t.2.2.mapIdx fun i y=>⟨textOf t,i,y.1,y.2,hg,decide (t.2.1.length=0)⟩
theorem madeC_len (t:TxD) (hg:Int):(madeC t hg).length=t.2.2.length:=by simp [madeC]
theorem madeC_at (t:TxD) (hg:Int) (k:Nat) (h:k < t.2.2.length):(madeC t hg)[k]'(by rw [madeC_len]; exact h)=⟨textOf t,k,t.2.2[k].1,t.2.2[k].2,hg,decide (t.2.1.length=0)⟩:=by simp [madeC]
theorem madeC_rising (t:TxD) (hg:Int):(madeC t hg).Pairwise lessP:=by
 rw [List.pairwise_iff_getElem]
 intro i j hi hj hij
 rw [madeC_len] at hi hj
 rw [madeC_at t hg i hi,madeC_at t hg j hj]
 unfold lessP
 dsimp only
 omega
theorem coinsMade_ret (t:TxD) (hg:Int) (n:Nat) (hz:faultC t=0) (hf:Fits t):Ret Tryz.prog 220 [txV t,iv hg] [] n true (Is (.own n (madeC t hg).length) [(n,.list 184 6 ((madeC t hg).map coinRow))] (n + 1)):=by
 have hok:=fault_ok hz
 have hl2:=hok.2.2.1
 have hL2:(t.2.2.map outRow).length=t.2.2.length:=by simp
 have hts:=fun n=>implTxSum_ret t n hf
 have hsr:sumR t=[iv 0,iv (textOf t)]:=by unfold sumR; rw [if_pos hz]
 rw [hsr] at hts
 have hlen:=madeC_len t hg
 have hat:=madeC_at t hg
 refine Ret.fn ttOk Tryz.func220 rfl Tryz.call220 rfl rfl ?_
 refine Goes ?_
 first | refine CallP.is (hts _) rfl ?_ | refine CallQ.is (hts _) rfl rfl ?_
 refine Goes ?_
 rw [hL2]
 refine ⟨⟨by omega,by omega,by omega,by show _ * 64≤_; omega⟩,?_⟩
 refine Goes ?_
 rw [hL2]
 refine LoopP.go (fun k:Nat=>k≤t.2.2.length) (fun k=>⟨[(1,iv hg),(2,.pt 0 0 0),(5,iv (textOf t)),(6,.own 1 t.2.2.length),(17,outsV t.2.2),(18,iv t.2.2.length),(19,iv k)],[(1,.list 184 6 (fillR coinRow zeroCoin (madeC t hg) k)),(0,.box (txC t))],2⟩) (fun k=>t.2.2.length - k) 0 (Nat.zero_le _) ?_ ?_
 · refine Weak.of rfl rfl ktA ⟨⟨leafO ?_,rfl,rfl⟩,⟨rfl,rfl,rfl⟩,trivial⟩
   unfold fillR; rw [hlen]; simp
 intro k hk
 have hfl:=fillR_len coinRow zeroCoin (madeC t hg) k (by omega)
 refine Goes ?_;repeat' first|apply W2.m|refine W1.m fun h=>?_
 · have hlt:k < t.2.2.length:=by omega
   rw [rowK outRow t.2.2 k hlt]
   refine ⟨by rw [hL2]; exact ⟨by omega,by omega,rfl⟩,?_⟩
   refine Goes ?_
   all_goals
    first | refine CallQ.is (isBase_ret t _) rfl rfl ?_ | refine CallP.is (isBase_ret t _) rfl ?_
    refine Goes ?_
   all_goals
    refine ⟨k + 1,by omega,by omega,Weak.of rfl rfl ktA ⟨⟨leafO ?_,rfl,rfl⟩,⟨rfl,rfl,rfl⟩,trivial⟩⟩
    exact setRowR coinRow zeroCoin (madeC t hg) k (by omega) _ (by rw [hat k hlt]; rfl) _ rfl
 · obtain rfl:k=t.2.2.length:=by omega
   rw [← hlen,fillR_all]
   refine FinOk.mk' [1] rfl rfl rfl rfl rfl rfl rfl ⟨?_,?_,rfl⟩
   · rfl
   · rfl
theorem has_ret (l:List CoinD) (c:CoinD) (i n:Nat):Ret Tryz.prog 224 [.mp i,coinV c] [(i,.map kks (mapL l))] n true (Is (bv (atC l c.tx c.out).isSome) [(i,.map kks (mapL l))] n):=by
 refine Ret.of_run (tt:=tt) ttOk Tryz.func224 rfl Tryz.call224 [i] [.map kks (mapL l)] [.mp 0,coinV c] true n _ rfl (nodup1 i) (by exact Nat.le_of_ble_eq_true rfl) rfl rfl ?_
 refine Goes ?_
 first | refine CallP.is (keyOfCoin_ret c _) rfl ?_ | refine CallQ.is (keyOfCoin_ret c _) rfl rfl ?_
 refine Goes ?_
 rw [mapL_at]
 cases atC l c.tx c.out with
 | none =>
   refine ⟨True.intro,?_⟩
   refine Goes ?_
   refine FinOk.mk' [] rfl rfl rfl rfl rfl rfl rfl ⟨?_,?_,rfl⟩
   · rfl
   · rfl
 | some d =>
   refine ⟨True.intro,?_⟩
   refine Goes ?_
   refine FinOk.mk' [] rfl rfl rfl rfl rfl rfl rfl ⟨?_,?_,rfl⟩
   · rfl
   · rfl
def anyAt (l:List CoinD):List CoinD→Nat→Int
 | [],_=>-1
 | c::r,k=>if (atC l c.tx c.out).isSome then k else anyAt l r (k + 1)
theorem indexHas_ret (l ms:List CoinD) (q i n:Nat) (hqi:q≠i) (hl:ms.length≤1048576):Ret Tryz.prog 249 [coinsV ms,.clo q] [(q,.clo 224 [.mp i] []),(i,.map kks (mapL l))] n true (Is (iv (anyAt l ms 0)) [(q,.clo 224 [.mp i] []),(i,.map kks (mapL l))] n):=by
 have hL:(ms.map coinRow).length=ms.length:=by simp
 refine Ret.of_run (tt:=tt) ttOk Tryz.func249 rfl Tryz.call249 [q,i] [.clo 224 [.mp 1] [],.map kks (mapL l)] [coinsV ms,.clo 0] true n _ rfl (nodup2 hqi) (by exact Nat.le_of_ble_eq_true rfl) rfl rfl ?_
 refine Goes ?_
 refine LoopP.go (fun k:Nat=>k≤ms.length∧anyAt l ms 0=anyAt l (ms.drop k) k) (fun k=>⟨[(0,coinsV ms),(1,.clo 0),(6,coinsV ms),(7,iv ms.length),(8,iv k)],[(0,.clo 224 [.mp 1] []),(1,.map kks (mapL l))],2⟩) (fun k=>ms.length - k) 0 ⟨Nat.zero_le _,rfl⟩ ?_ ?_
 · rw [hL]
   exact (Weak.of rfl rfl ktA ktA)
 intro k ⟨hk,hp⟩
 refine Goes ?_;repeat' first|apply W2.m|refine W1.m fun h=>?_
 · have hlt:k < ms.length:=by omega
   rw [List.drop_eq_getElem_cons hlt,anyAt] at hp
   rw [rowK coinRow ms k hlt]
   refine ⟨by rw [hL]; exact ⟨by omega,by omega,rfl⟩,?_⟩
   refine Goes ?_
   refine CallP.heapIs (has_ret l ms[k] 1 _) rfl ktA rfl ?_
   refine Goes ?_
   cases hb:(atC l ms[k].tx ms[k].out).isSome with
   | true =>
     rw [hb,if_pos rfl] at hp
     refine Goes ?_
     rw [hp]
     refine FinOk.mk' [] rfl rfl rfl rfl rfl rfl rfl ⟨?_,?_,rfl⟩
     · rfl
     · rfl
   | false =>
     rw [hb,if_neg (by simp)] at hp
     refine Goes ?_
     exact ⟨k + 1,⟨by omega,hp⟩,by omega,(Weak.of rfl rfl ktA ktA)⟩
 · obtain rfl:k=ms.length:=by omega
   rw [List.drop_length,anyAt] at hp
   rw [hp]
   refine FinOk.mk' [] rfl rfl rfl rfl rfl rfl rfl ⟨?_,?_,rfl⟩
   · rfl
   · rfl
theorem anyAt_ge (l:List CoinD):∀ (ms:List CoinD) (k:Nat),decide (0≤anyAt l ms k)=ms.any fun c=>(atC l c.tx c.out).isSome
 | [],k=>by simp [anyAt]
 | c::r,k=>by
   rw [anyAt,List.any_cons]
   cases hb:(atC l c.tx c.out).isSome with
   | true=>simp
   | false=>simpa using anyAt_ge l r (k + 1)
theorem containsHas_ret (l ms:List CoinD) (q i n:Nat) (hqi:q≠i) (hl:ms.length≤1048576):Ret Tryz.prog 223 [coinsV ms,.clo q] [(q,.clo 224 [.mp i] []),(i,.map kks (mapL l))] n true (Is (bv (ms.any fun c=>(atC l c.tx c.out).isSome)) [(q,.clo 224 [.mp i] []),(i,.map kks (mapL l))] n):=by
 refine Ret.of_run (tt:=tt) ttOk Tryz.func223 rfl Tryz.call223 [q,i] [.clo 224 [.mp 1] [],.map kks (mapL l)] [coinsV ms,.clo 0] true n _ rfl (nodup2 hqi) (by exact Nat.le_of_ble_eq_true rfl) rfl rfl ?_
 refine Goes ?_
 refine CallP.heapIs (indexHas_ret l ms 0 1 _ (by decide) hl) rfl ktA rfl ?_
 refine Goes ?_
 rw [← anyAt_ge l ms 0]
 refine FinOk.mk' [] rfl rfl rfl rfl rfl rfl rfl ⟨?_,?_,rfl⟩
 · rfl
 · rfl
end Go.Proofs.YtllhgcfacgiabaaGreat
