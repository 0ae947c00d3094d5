import Derived.Test.YtllhgcfacgiabaaGreatP61
import Derived.Test.YtllhgcfacgiabaaGreatP88
import Derived.Test.YtllhgcfacgiabaaGreatR3
namespace Go.Proofs.YtllhgcfacgiabaaGreat
open Go Go.Am Go.RowKit
set_option linter.unusedVariables false
set_option linter.unusedSimpArgs false
theorem rootB_sum {b:BlkD} (h1:1≤b.txs.length) (h2:b.txs.length≤4):isSumI (rootB b):=by
 obtain ⟨g1,g2,g3⟩:=askC_ok.1 (sumsX_ask h1 h2)
 exact topW_sum _ ⟨g1,g2,g3⟩
theorem hdr_sumIR {b:BlkD} (h:blkF b=0):sumIR [b.prev,rootB b,b.time,b.bits,b.nonce]=[iv 0,iv (hdrB b)]:=by
 obtain ⟨⟨a1,a2,a3,a4⟩,h1,h2,_⟩:=blkF_ok h
 have hr:=rootB_sum h1 h2
 unfold isSumI at hr
 unfold inR at a1 a2 a4
 unfold bitsB at a3
 simp only [decide_eq_true_eq] at a3
 unfold sumIR
 rw [if_neg (by simp),if_pos]
 · rfl
 · rw [allB_iff]
   intro z hz
   simp only [List.mem_cons,List.not_mem_nil,or_false] at hz
   rcases hz with rfl | rfl | rfl | rfl | rfl <;> omega
end Go.Proofs.YtllhgcfacgiabaaGreat
namespace Go.Proofs.YtllhgcfacgiabaaGreat
open Go Go.Am Go.RowKit
set_option linter.unusedVariables false
set_option linter.unusedSimpArgs false
theorem fitsC0 {l:List CoinD} (h:coinsC l=0):FitsC l:=⟨by have:=(coinsC_ok h).1; omega,fun c hc=>by
 have h1:=cgC_all _ _ (coinsC_ok h).2.1 c hc
 unfold coinC at h1
 split at h1
 · have:=(progC_ok h1).1; show c.lock.length≤1048576; omega
 · cases h1⟩
theorem applyC_new {l:List CoinD} {t:TxD} {hg:Int} (h:applyC l t hg=0):coinsC (newC l t hg)=0∧0≤feeC l t∧feeC l t≤4000000:=by
 obtain ⟨h0,hz,hh⟩:=applyC_parts h
 unfold applyC at h
 rw [if_neg (fun e=>e h0),if_neg (fun e=>e hz),if_neg (fun e=>e hh)] at h
 by_cases h1:¬ t.2.1.length=0∧spendQ l t hg≠0
 · rw [if_pos h1] at h; exact absurd h h1.2
 rw [if_neg h1] at h
 by_cases h2:((madeC t hg).any fun c=>(atC l c.tx c.out).isSome)=true
 · rw [if_pos h2] at h; cases h
 rw [if_neg h2] at h
 refine ⟨h,?_⟩
 unfold feeC
 by_cases hb:t.2.1.length=0
 · rw [if_pos hb]; exact ⟨Int.le_refl _,by decide⟩
 rw [if_neg hb]
 have hs:spendQ l t hg=0:=Decidable.not_not.1 fun e=>h1 ⟨hb,e⟩
 have hok:=fault_ok hz
 have b1:=sumV_toC 1000000 (valsI l t.2.1) (fun z hz=>by obtain ⟨x,_,rfl⟩:=List.mem_map.1 hz; exact valAt_bd h0 x) (valsI l t.2.1).length (Nat.le_refl _)
 have b2:=sumV_toC 2147483646 (valsO t.2.2) (fun z hz=>by obtain ⟨y,hy,rfl⟩:=List.mem_map.1 hz; exact (hok.2.2.2.2 y hy).1) (valsO t.2.2).length (Nat.le_refl _)
 rw [List.take_length] at b1 b2
 have l1:(valsI l t.2.1).length=t.2.1.length:=by simp
 rw [l1] at b1
 have l2:=hok.2.1
 unfold spendQ at hs
 split at hs
 · rename_i e; exact absurd hs e
 · split at hs
   · cases hs
   · omega
def runT (hg:Int):List CoinD→List TxD→Int × List CoinD × Int
 | l,[]=>(0,l,0)
 | l,x::r=>if applyC l x hg=0 then ((runT hg (newC l x hg) r).1,(runT hg (newC l x hg) r).2.1,feeC l x + (runT hg (newC l x hg) r).2.2) else (applyC l x hg,[],0)
abbrev addF (f:Int) (y:Int × List CoinD × Int):Int × List CoinD × Int:=(y.1,y.2.1,f + y.2.2)
theorem runT_at (hg:Int) (m:List CoinD) (xs:List TxD) (k:Nat) (h:k < xs.length):runT hg m (xs.drop k)=if applyC m xs[k] hg=0 then addF (feeC m xs[k]) (runT hg (newC m xs[k] hg) (xs.drop (k + 1))) else (applyC m xs[k] hg,[],0):=by
 rw [List.drop_eq_getElem_cons h,runT]
theorem addF_addF (f g:Int) (y:Int × List CoinD × Int):addF f (addF g y)=addF (f + g) y:=by
 show (y.1,y.2.1,f + (g + y.2.2))=(y.1,y.2.1,f + g + y.2.2)
 rw [Int.add_assoc]
theorem runT_ok (hg:Int):∀ (xs:List TxD) (l:List CoinD),coinsC l=0→(runT hg l xs).1=0→coinsC (runT hg l xs).2.1=0∧0≤(runT hg l xs).2.2∧(runT hg l xs).2.2≤4000000 * xs.length
 | [],l,h0,_=>⟨h0,Int.le_refl _,by show (0:Int)≤_; omega⟩
 | x::r,l,h0,h=>by
   rw [runT] at h ⊢
   by_cases hA:applyC l x hg=0
   · rw [if_pos hA] at h ⊢
     obtain ⟨k1,k2,k3⟩:=applyC_new hA
     obtain ⟨g1,g2,g3⟩:=runT_ok hg r (newC l x hg) k1 h
     refine ⟨g1,?_,?_⟩
     · show 0≤feeC l x + (runT hg (newC l x hg) r).2.2; omega
     · show feeC l x + (runT hg (newC l x hg) r).2.2≤4000000 * ((r.length + 1:Nat):Int)
       push_cast; omega
   · rw [if_neg hA] at h; exact absurd h hA
set_option maxHeartbeats 2000000 in
theorem l6Txs_rp (l:List CoinD) (b:BlkD) (hg:Int) (n:Nat) (h0:coinsC l=0) (hf:FitsB b) (hl4:b.txs.length≤4) (hz:txsC b.txs=0) (hh:inR 0 9999 hg) :
 Ret Tryz.prog 127 [coinsV l,.rp (blkC b),iv hg] [] n true (Is (.tup (if (runT hg l b.txs).1=0 then [coinsV (runT hg l b.txs).2.1,iv (runT hg l b.txs).2.2,iv 0] else [nl,iv 0,iv (runT hg l b.txs).1])) [] n):=by
 have hL:(b.txs.map txC).length=b.txs.length:=by simp
 refine Ret.fn ttOk Tryz.func127 rfl Tryz.call127 rfl rfl ?_
 refine Goes ?_
 refine LoopP.go (fun y:Nat × List CoinD × Int=>y.1≤b.txs.length∧coinsC y.2.1=0∧0≤y.2.2∧y.2.2≤4000000 * y.1∧runT hg l b.txs=addF y.2.2 (runT hg y.2.1 (b.txs.drop y.1))) (fun y=>⟨[(0,coinsV y.2.1),(1,.rp (blkC b)),(2,iv hg),(9,iv y.2.2),(10,iv y.1)],[],0⟩) (fun y=>b.txs.length - y.1) (0,l,0) ⟨Nat.zero_le _,h0,Int.le_refl _,by show (0:Int)≤_; omega,by show _=((runT hg l b.txs).1,(runT hg l b.txs).2.1,0 + (runT hg l b.txs).2.2); rw [Int.zero_add]⟩ (Weak.of rfl rfl ktA trivial) ?_
 rintro ⟨k,m,f⟩ ⟨g1,g2,g3,g4,g5⟩
 dsimp only at g1 g2 g3 g4 g5 ⊢
 by_cases hlt:k < b.txs.length
 · have hat:=runT_at hg m b.txs k hlt
   have hx:=txsC_all hz _ (List.getElem_mem hlt)
   have hap:=fun n=>l5Apply_rp m b.txs[k] hg n (fitsC0 g2) (hf.txs _ (List.getElem_mem hlt)) g2 hx hh
   rw [hat] at g5
   by_cases hA:applyC m b.txs[k] hg=0
   · rw [if_pos hA] at g5
     simp only [if_pos hA] at hap
     obtain ⟨k1,k2,k3⟩:=applyC_new hA
     rw [addF_addF] at g5
     refine Goes ?_;repeat' first|apply W2.m|refine W1.m fun h=>?_
     rw [rowK txC b.txs k hlt]
     refine ⟨by rw [hL]; exact ⟨by omega,by omega,rfl⟩,?_⟩
     refine Goes ?_
     first | refine CallP.is (hap _) rfl ?_ | refine CallQ.is (hap _) rfl rfl ?_
     refine Goes ?_
     rw [show IntKind.i64.wrap (f + feeC m b.txs[k])=f + feeC m b.txs[k] from IntWalk.i64_in _ (by omega)]
     exact ⟨(k + 1,newC m b.txs[k] hg,f + feeC m b.txs[k]),⟨by show k + 1≤_; omega,k1,by show 0≤f + _; omega,by show f + _≤4000000 * ((k + 1:Nat):Int); push_cast; omega,g5⟩,by show _ - (k + 1) < _; omega,Weak.of rfl rfl ⟨⟨rfl,rfl⟩,⟨rfl,rfl⟩,⟨rfl,rfl⟩,⟨rfl,rfl⟩,⟨leafI numA,rfl⟩,trivial⟩ trivial⟩
   · rw [if_neg hA] at g5
     simp only [if_neg hA] at hap
     rw [g5,if_neg (show ¬ (addF f (applyC m b.txs[k] hg,[],0)).1=0 from hA)]
     refine Goes ?_;repeat' first|apply W2.m|refine W1.m fun h=>?_
     rw [rowK txC b.txs k hlt]
     refine ⟨by rw [hL]; exact ⟨by omega,by omega,rfl⟩,?_⟩
     refine Goes ?_
     first | refine CallP.is (hap _) rfl ?_ | refine CallQ.is (hap _) rfl rfl ?_
     refine Goes ?_;repeat' first|apply W2.m|refine W1.m fun h=>?_
     all_goals
      refine FinOk.mk' [] rfl rfl rfl rfl rfl rfl rfl ⟨?_,?_,rfl⟩
      · rfl
      · rfl
 · obtain rfl:k=b.txs.length:=by omega
   rw [List.drop_length,runT] at g5
   rw [g5,if_pos (show (addF f (0,m,0)).1=0 from rfl)]
   refine Goes ?_;repeat' first|apply W2.m|refine W1.m fun h=>?_
   refine FinOk.mk' [] rfl rfl rfl rfl rfl rfl rfl ⟨?_,?_,rfl⟩
   · show AV.tup [coinsV m,iv f,iv 0]=AV.tup [coinsV m,iv (f + 0),iv 0]
     rw [Int.add_zero]
   · rfl
theorem paidBy_ret (t:TxD) (n:Nat) (hok:okT t):Ret Tryz.prog 233 [txV t] [] n true (Is (iv (sumV (valsO t.2.2))) [] n):=by
 obtain ⟨_,hl1,hl2,_,hoo⟩:=hok
 have hL2:(t.2.2.map outRow).length=t.2.2.length:=by simp
 have hb2:=sumV_toC 2147483646 (valsO t.2.2) (fun z hz=>by obtain ⟨y,hy,rfl⟩:=List.mem_map.1 hz; exact (hoo y hy).1)
 refine Ret.fn ttOk Tryz.func233 rfl Tryz.call233 rfl rfl ?_
 refine Goes ?_
 refine LoopP.go (fun k:Nat=>k≤t.2.2.length) (fun k=>⟨[(3,iv (sumV ((valsO t.2.2).take k))),(7,outsV t.2.2),(8,iv t.2.2.length),(9,iv k)],[],0⟩) (fun k=>t.2.2.length - k) 0 (Nat.zero_le _) ?_ ?_
 · rw [hL2]; exact (Weak.of rfl rfl ktA trivial)
 intro j hj
 by_cases hlt:j < t.2.2.length
 · have c1:=hb2 j (by simpa using hj)
   have c2:=hb2 (j + 1) (by simp; omega)
   have hsj:=sumV_take (valsO t.2.2) j (by simpa using hlt)
   rw [List.getElem_map] at hsj
   refine Goes ?_;repeat' first|apply W2.m|refine W1.m fun h=>?_
   rw [rowK outRow t.2.2 j hlt]
   refine ⟨by rw [hL2]; exact ⟨by omega,by omega,rfl⟩,?_⟩
   refine Goes ?_
   exact ⟨j + 1,by omega,by omega,Weak.of rfl rfl ⟨⟨leafI (by rw [IntWalk.i64_in _ (by omega)]; omega),rfl⟩,⟨rfl,rfl⟩,⟨rfl,rfl⟩,⟨leafI numA,rfl⟩,trivial⟩ trivial⟩
 · obtain rfl:j=t.2.2.length:=by omega
   refine Goes ?_;repeat' first|apply W2.m|refine W1.m fun h=>?_
   refine FinOk.pure rfl rfl rfl ⟨?_,rfl,rfl⟩
   rw [List.take_of_length_le (by simp)]
theorem base_ret (b:BlkD) (x:TxD) (r:List TxD) (n:Nat) (h:b.txs=x::r):Ret Tryz.prog 195 [.agg (sealC b)] [] n true (Is (txV x) [] n):=by
 refine Ret.fn ttOk Tryz.func195 rfl Tryz.call195 rfl rfl ?_
 refine Goes ?_
 rw [h]
 refine ⟨⟨by omega,by simp,rfl⟩,?_⟩
 refine Goes ?_
 refine FinOk.pure rfl rfl rfl ⟨?_,rfl,rfl⟩
 rfl
def applyB (b:BlkD) (l:List CoinD) (hg:Int):Int :=
 if (runT hg l b.txs).1≠0 then (runT hg l b.txs).1 else if subF hg + (runT hg l b.txs).2.2 < sumV (valsO (b.txs.headD (0,[],[])).2.2) then 7 else 0
theorem applyTo_ret (l:List CoinD) (b:BlkD) (hg:Int) (n:Nat) (h0:coinsC l=0) (hf:FitsB b) (hb:blkF b=0) (hh:inR 1 9999 hg) :
 Ret Tryz.prog 196 [.agg (sealC b),coinsV l,iv hg] [] n true (Is (.tup (if applyB b l hg=0 then [coinsV (runT hg l b.txs).2.1,iv 0] else [nl,iv (applyB b l hg)])) [] n):=by
 obtain ⟨_,hl1,hl4,hz⟩:=blkF_ok hb
 have hL:(b.txs.map txC).length=b.txs.length:=by simp
 obtain ⟨x,r,hxr⟩:∃ x r,b.txs=x::r:=by
  cases h:b.txs with
  | nil=>rw [h] at hl1; simp at hl1
  | cons x r=>exact ⟨x,r,rfl⟩
 have hx0:okT x:=fault_ok (txsC_all hz x (by rw [hxr]; exact List.mem_cons_self ..))
 have hs:=fun n=>implSubsidyAt_ret hg n
 have hsR:subR hg=[iv 0,iv (subF hg)]:=by unfold subR; rw [if_pos hh]
 rw [hsR] at hs
 have hsb:0≤subF hg∧subF hg≤50:=by
  unfold subF
  exact ⟨Int.ediv_nonneg (by decide) (by exact Int.le_of_lt (Int.pow_pos (by decide))),Int.ediv_le_self _ (by decide)⟩
 have hh9:inR 0 9999 hg:=⟨by have:=hh.1; omega,hh.2⟩
 have hbase:=fun n=>base_ret b x r n hxr
 have hpaid:=fun n=>paidBy_ret x n hx0
 unfold applyB
 have hhd:b.txs.headD (0,[],[])=x:=by rw [hxr]; rfl
 rw [hhd]
 refine Ret.fn ttOk Tryz.func196 rfl Tryz.call196 rfl rfl ?_
 refine Goes ?_
 first | refine CallP.is (hs _) rfl ?_ | refine CallQ.is (hs _) rfl rfl ?_
 refine Goes ?_
 rw [hL]
 refine LoopP.go (fun y:Nat × List CoinD × Int=>y.1≤b.txs.length∧coinsC y.2.1=0∧0≤y.2.2∧y.2.2≤4000000 * y.1∧runT hg l b.txs=addF y.2.2 (runT hg y.2.1 (b.txs.drop y.1))) (fun y=>⟨[(1,coinsV y.2.1),(2,iv hg),(3,.pt 0 0 0),(8,iv (subF hg + y.2.2)),(16,txsV b.txs),(17,iv b.txs.length),(18,iv y.1)],[(0,.box (sealC b))],1⟩) (fun y=>b.txs.length - y.1) (0,l,0) ⟨Nat.zero_le _,h0,Int.le_refl _,by show (0:Int)≤_; omega,by show _=((runT hg l b.txs).1,(runT hg l b.txs).2.1,0 + (runT hg l b.txs).2.2); rw [Int.zero_add]⟩ ?_ ?_
 · exact Weak.of rfl rfl ⟨⟨rfl,rfl⟩,⟨rfl,rfl⟩,⟨rfl,rfl⟩,⟨leafI (by show _=subF hg + 0; rw [Int.add_zero]),rfl⟩,⟨rfl,rfl⟩,⟨rfl,rfl⟩,⟨rfl,rfl⟩,trivial⟩ ⟨⟨rfl,rfl,rfl⟩,trivial⟩
 rintro ⟨k,m,f⟩ ⟨g1,g2,g3,g4,g5⟩
 dsimp only at g1 g2 g3 g4 g5 ⊢
 by_cases hlt:k < b.txs.length
 · have hat:=runT_at hg m b.txs k hlt
   have hft:=hf.txs _ (List.getElem_mem hlt)
   rw [hat] at g5
   by_cases hA:applyC m b.txs[k] hg=0
   · rw [if_pos hA] at g5
     have hap:=fun n=>implApply_fr m b.txs[k] hg n (fitsC0 g2) hft hA
     obtain ⟨k1,k2,k3⟩:=applyC_new hA
     rw [addF_addF] at g5
     refine Goes ?_;repeat' first|apply W2.m|refine W1.m fun h=>?_
     rw [rowK txC b.txs k hlt]
     refine ⟨⟨by omega,by omega,rfl⟩,?_⟩
     refine Goes ?_
     first | refine CallP.is (hap _) rfl ?_ | refine CallQ.is (hap _) rfl rfl ?_
     refine Goes ?_
     rw [show IntKind.i64.wrap (subF hg + f + feeC m b.txs[k])=subF hg + (f + feeC m b.txs[k]) from by rw [IntWalk.i64_in _ (by omega)]; omega]
     exact ⟨(k + 1,newC m b.txs[k] hg,f + feeC m b.txs[k]),⟨by show k + 1≤_; omega,k1,by show 0≤f + _; omega,by show f + _≤4000000 * ((k + 1:Nat):Int); push_cast; omega,g5⟩,by show _ - (k + 1) < _; omega,Weak.of rfl rfl ⟨⟨rfl,rfl⟩,⟨rfl,rfl⟩,⟨rfl,rfl⟩,⟨rfl,rfl⟩,⟨rfl,rfl⟩,⟨rfl,rfl⟩,⟨leafI numA,rfl⟩,trivial⟩ ⟨⟨rfl,rfl,rfl⟩,trivial⟩⟩
   · rw [if_neg hA] at g5
     have hap:=fun n=>implApply_bad m b.txs[k] hg n (fitsC0 g2) hft hA
     have hB:(if (runT hg l b.txs).1≠0 then (runT hg l b.txs).1 else if subF hg + (runT hg l b.txs).2.2 < sumV (valsO x.2.2) then 7 else 0)=applyC m b.txs[k] hg:=by rw [g5]; exact if_pos hA
     rw [hB,if_neg hA]
     refine Goes ?_;repeat' first|apply W2.m|refine W1.m fun h=>?_
     rw [rowK txC b.txs k hlt]
     refine ⟨⟨by omega,by omega,rfl⟩,?_⟩
     refine Goes ?_
     first | refine CallP.is (hap _) rfl ?_ | refine CallQ.is (hap _) rfl rfl ?_
     refine Goes ?_;repeat' first|apply W2.m|refine W1.m fun h=>?_
     all_goals
      refine FinOk.mk' [] rfl rfl rfl rfl rfl rfl rfl ⟨?_,?_,rfl⟩
      · rfl
      · rfl
 · obtain rfl:k=b.txs.length:=by omega
   rw [List.drop_length,runT] at g5
   have g6:runT hg l b.txs=(0,m,f):=by rw [g5]; show (0,m,f + 0)=_; rw [Int.add_zero]
   rw [g6]
   by_cases hp:subF hg + f < sumV (valsO x.2.2)
   · have hB:(if ((0:Int),m,f).1≠0 then ((0:Int),m,f).1 else if subF hg + ((0:Int),m,f).2.2 < sumV (valsO x.2.2) then 7 else 0)=7:=by
      rw [if_neg (fun e=>e rfl)]; exact if_pos hp
     rw [hB,if_neg (by decide)]
     refine Goes ?_;repeat' first|apply W2.m|refine W1.m fun h=>?_
     first | refine CallP.is (hbase _) rfl ?_ | refine CallQ.is (hbase _) rfl rfl ?_
     refine Goes ?_
     first | refine CallP.is (hpaid _) rfl ?_ | refine CallQ.is (hpaid _) rfl rfl ?_
     refine Goes ?_;repeat' first|apply W2.m|refine W1.m fun h=>?_
     all_goals
      refine FinOk.mk' [] rfl rfl rfl rfl rfl rfl rfl ⟨?_,?_,rfl⟩
      · rfl
      · rfl
   · have hB:(if ((0:Int),m,f).1≠0 then ((0:Int),m,f).1 else if subF hg + ((0:Int),m,f).2.2 < sumV (valsO x.2.2) then 7 else 0)=0:=by
      rw [if_neg (fun e=>e rfl)]; exact if_neg hp
     rw [hB,if_pos rfl]
     refine Goes ?_;repeat' first|apply W2.m|refine W1.m fun h=>?_
     first | refine CallP.is (hbase _) rfl ?_ | refine CallQ.is (hbase _) rfl rfl ?_
     refine Goes ?_
     first | refine CallP.is (hpaid _) rfl ?_ | refine CallQ.is (hpaid _) rfl rfl ?_
     refine Goes ?_;repeat' first|apply W2.m|refine W1.m fun h=>?_
     all_goals
      refine FinOk.mk' [] rfl rfl rfl rfl rfl rfl rfl ⟨?_,?_,rfl⟩
      · rfl
      · rfl
end Go.Proofs.YtllhgcfacgiabaaGreat
namespace Go.Proofs.YtllhgcfacgiabaaGreat
open Go Go.Am Go.RowKit
set_option linter.unusedVariables false
set_option linter.unusedSimpArgs false
abbrev hdC (b:BlkD):List AV:=[iv b.prev,iv (rootB b),iv b.time,iv b.bits,iv b.nonce]
def tgtB (b:Int):Int:=tgF (b / 256) (b % 256)
theorem bits_i64 {b:BlkD} (h:blkF b=0):isI64 b.bits∧bitsB b.bits=true:=by
 have h1:=(blkF_ok h).1.2.2.1
 refine ⟨?_,h1⟩
 unfold bitsB at h1
 simp only [decide_eq_true_eq] at h1
 unfold isI64; omega
theorem isProven_ret (b:BlkD) (n:Nat) (h:blkF b=0):Ret Tryz.prog 103 [.agg (hdC b)] [] n true (Is (bv (decide (hdrB b≤tgtB b.bits))) [] n):=by
 obtain ⟨hb,hb2⟩:=bits_i64 h
 have hs:=fun n=>header_sum b.prev (rootB b) b.time b.bits b.nonce n (hdr_sumIR h)
 have ht:=fun n=>implTargetOf_ret b.bits n hb
 have e:targR b.bits=[iv 0,iv (tgtB b.bits)]:=by unfold targR; rw [if_pos hb2]; rfl
 rw [e] at ht
 refine Ret.fn ttOk Tryz.func103 rfl Tryz.call103 rfl rfl ?_
 refine Goes ?_
 first | refine CallQ.is (hs _) rfl rfl ?_ | refine CallP.is (hs _) rfl ?_
 refine Goes ?_
 first | refine CallQ.is (ht _) rfl rfl ?_ | refine CallP.is (ht _) rfl ?_
 refine Goes ?_
 refine FinOk.pure rfl rfl rfl ⟨?_,rfl,rfl⟩
 rfl
abbrev treeO (bits:Int) (i j:Nat) (xs:List PlaceD):Hp:=[(i,.box [iv bits,.own j xs.length]),(j,.list 109 5 (xs.map placeRow))]
theorem hasN_ret (bits up:Int) (xs:List PlaceD) (i j n:Nat) (hij:i≠j) (hlen:xs.length≤9):Ret Tryz.prog 126 [.pt i 0 0,iv up] (treeO bits i j xs) n true (Is (bv (decide (-1≤up∧up + 1 < xs.length))) (treeO bits i j xs) n):=by
 refine Ret.of_run (tt:=tt) ttOk Tryz.func126 rfl Tryz.call126 [i,j] [.box [iv bits,.own 1 xs.length],.list 109 5 (xs.map placeRow)] [.pt 0 0 0,iv up] true n _ rfl (nodup2 hij) (by exact Nat.le_of_ble_eq_true rfl) rfl rfl ?_
 refine Goes ?_;repeat' first|apply W2.m|refine W1.m fun h=>?_
 · rw [show IntKind.i64.wrap ((xs.length:Int) + -1)=(xs.length:Int) + -1 from IntWalk.i64_in _ (by omega)]
   refine FinOk.mk' [] rfl rfl rfl rfl rfl rfl rfl ⟨?_,?_,rfl⟩
   · refine bvI ?_
     simp only [decide_eq_decide]
     omega
   · rfl
 · refine FinOk.mk' [] rfl rfl rfl rfl rfl rfl rfl ⟨?_,?_,rfl⟩
   · refine bvI ?_
     rw [decide_eq_false (by omega)]
   · rfl
theorem at_ret (bits:Int) (xs:List PlaceD) (k i j n:Nat) (hij:i≠j) (hk:k < xs.length) (hlen:xs.length≤9):Ret Tryz.prog 73 [.pt i 0 0,iv ((k:Int) + -1)] (treeO bits i j xs) n true (Is (.agg (placeRow xs[k])) (treeO bits i j xs) n):=by
 have hL:(xs.map placeRow).length=xs.length:=by simp
 refine Ret.of_run (tt:=tt) ttOk Tryz.func73 rfl Tryz.call73 [i,j] [.box [iv bits,.own 1 xs.length],.list 109 5 (xs.map placeRow)] [.pt 0 0 0,iv ((k:Int) + -1)] true n _ rfl (nodup2 hij) (by exact Nat.le_of_ble_eq_true rfl) rfl rfl ?_
 refine Goes ?_
 have hw:IntKind.i64.wrap ((k:Int) + -1 - -1)=(k:Int):=by rw [IntWalk.i64_in _ (by omega)]; omega
 rw [hw]
 refine ⟨⟨by omega,by omega⟩,?_⟩
 refine Goes ?_
 rw [rowK placeRow xs k hk]
 refine Goes ?_
 refine FinOk.mk' [] rfl rfl rfl rfl rfl rfl rfl ⟨?_,?_,rfl⟩
 · rfl
 · rfl
def codeP (bits:Int) (p:PlaceD) (b:BlkD):Int :=
 if b.bits≠bits∨b.time≤p.time then 9 else if ¬ hdrB b≤tgtB b.bits then 8 else if (b.txs.headD (0,[],[])).1≠p.h + 1 then 1 else applyB b p.coins (p.h + 1)
def nextP (p:PlaceD) (up:Int) (b:BlkD):PlaceD:=⟨up,hdrB b,b.time,p.h + 1,(runT (p.h + 1) p.coins b.txs).2.1⟩
abbrev placeV (p:PlaceD):AV:=.agg (placeRow p)
abbrev place0:AV:=.agg [iv 0,iv 0,iv 0,iv 0,nl]
set_option maxHeartbeats 2000000 in
theorem codeAfter_ret (bits:Int) (xs:List PlaceD) (k:Nat) (b:BlkD) (i j n:Nat) (hij:i≠j) (hk:k < xs.length) (hlen:xs.length≤9) (hf:FitsB b) (hb:blkF b=0) (hc:coinsC xs[k].coins=0) (hh:inR 0 8 xs[k].h) :
 Ret Tryz.prog 161 [.pt i 0 0,iv ((k:Int) + -1),.agg (sealC b)] (treeO bits i j xs) n true (Is (.tup (if codeP bits xs[k] b=0 then [placeV (nextP xs[k] ((k:Int) + -1) b),iv 0] else [place0,iv (codeP bits xs[k] b)])) (treeO bits i j xs) n):=by
 obtain ⟨_,hl1,hl4,hz⟩:=blkF_ok hb
 obtain ⟨x,r,hxr⟩:∃ x r,b.txs=x::r:=by
  cases h:b.txs with
  | nil=>rw [h] at hl1; simp at hl1
  | cons x r=>exact ⟨x,r,rfl⟩
 have hhd:b.txs.headD (0,[],[])=x:=by rw [hxr]; rfl
 have hbase:=fun n=>base_ret b x r n hxr
 have hhg:inR 1 9999 (xs[k].h + 1):=by unfold inR at hh ⊢; omega
 have happ:=fun n=>applyTo_ret xs[k].coins b (xs[k].h + 1) n hc hf hb hhg
 have hpr:=fun n=>isProven_ret b n hb
 have hsum:=fun n=>header_sum b.prev (rootB b) b.time b.bits b.nonce n (hdr_sumIR hb)
 have hat:=fun i j n hij=>at_ret bits xs k i j n hij hk hlen
 have hw:IntKind.i64.wrap (xs[k].h + 1)=xs[k].h + 1:=by unfold inR at hh; exact IntWalk.i64_in _ (by omega)
 have hC:codeP bits xs[k] b=if b.bits≠bits∨b.time≤xs[k].time then 9 else if ¬ hdrB b≤tgtB b.bits then 8 else if x.1≠xs[k].h + 1 then 1 else applyB b xs[k].coins (xs[k].h + 1):=by unfold codeP; rw [hhd]
 refine Ret.of_run (tt:=tt) ttOk Tryz.func161 rfl Tryz.call161 [i,j] [.box [iv bits,.own 1 xs.length],.list 109 5 (xs.map placeRow)] [.pt 0 0 0,iv ((k:Int) + -1),.agg (sealC b)] true n _ rfl (nodup2 hij) (by exact Nat.le_of_ble_eq_true rfl) rfl rfl ?_
 by_cases h9:b.bits≠bits∨b.time≤xs[k].time
 · rw [if_pos h9] at hC
   rw [hC,if_neg (by decide)]
   refine Goes ?_
   refine CallP.heapIs (hat 0 1 _ (by decide)) rfl ktA rfl ?_
   refine Goes ?_;repeat' first|apply W2.m|refine W1.m fun h=>?_
   all_goals first
    | (exfalso; omega)
    | (refine FinOk.mk' [] rfl rfl rfl rfl rfl rfl rfl ⟨?_,?_,rfl⟩
       · rfl
       · rfl)
 rw [if_neg h9] at hC
 have h9a:b.bits=bits:=Decidable.not_not.1 fun e=>h9 (.inl e)
 have h9b:¬ b.time≤xs[k].time:=fun e=>h9 (.inr e)
 by_cases h8:hdrB b≤tgtB b.bits
 case neg =>
  rw [if_pos h8] at hC
  rw [hC,if_neg (by decide)]
  refine Goes ?_
  refine CallP.heapIs (hat 0 1 _ (by decide)) rfl ktA rfl ?_
  refine Goes ?_;repeat' first|apply W2.m|refine W1.m fun h=>?_
  first | refine CallP.is (hpr _) rfl ?_ | refine CallQ.is (hpr _) rfl rfl ?_
  refine Goes ?_;repeat' first|apply W2.m|refine W1.m fun h=>?_
  all_goals first
   | (exfalso; omega)
   | (refine FinOk.mk' [] rfl rfl rfl rfl rfl rfl rfl ⟨?_,?_,rfl⟩
      · rfl
      · rfl)
 rw [if_neg (show ¬ ¬ hdrB b≤tgtB b.bits from fun e=>e h8)] at hC
 by_cases h1:x.1≠xs[k].h + 1
 · rw [if_pos h1] at hC
   rw [hC,if_neg (by decide)]
   refine Goes ?_
   refine CallP.heapIs (hat 0 1 _ (by decide)) rfl ktA rfl ?_
   refine Goes ?_;repeat' first|apply W2.m|refine W1.m fun h=>?_
   first | refine CallP.is (hpr _) rfl ?_ | refine CallQ.is (hpr _) rfl rfl ?_
   refine Goes ?_;repeat' first|apply W2.m|refine W1.m fun h=>?_
   first | refine CallP.is (hbase _) rfl ?_ | refine CallQ.is (hbase _) rfl rfl ?_
   refine Goes ?_;repeat' first|apply W2.m|refine W1.m fun h=>?_
   all_goals first
    | (exfalso; omega)
    | (refine FinOk.mk' [] rfl rfl rfl rfl rfl rfl rfl ⟨?_,?_,rfl⟩
       · rfl
       · rfl)
 rw [if_neg h1] at hC
 by_cases h0:applyB b xs[k].coins (xs[k].h + 1)=0
 · rw [h0] at hC
   rw [hC,if_pos rfl]
   simp only [if_pos h0] at happ
   refine Goes ?_
   refine CallP.heapIs (hat 0 1 _ (by decide)) rfl ktA rfl ?_
   refine Goes ?_;repeat' first|apply W2.m|refine W1.m fun h=>?_
   first | refine CallP.is (hpr _) rfl ?_ | refine CallQ.is (hpr _) rfl rfl ?_
   refine Goes ?_;repeat' first|apply W2.m|refine W1.m fun h=>?_
   first | refine CallP.is (hbase _) rfl ?_ | refine CallQ.is (hbase _) rfl rfl ?_
   refine Goes ?_;repeat' first|apply W2.m|refine W1.m fun h=>?_
   rw [hw]
   first | refine CallP.is (happ _) rfl ?_ | refine CallQ.is (happ _) rfl rfl ?_
   refine Goes ?_
   first | refine CallQ.is (hsum _) rfl rfl ?_ | refine CallP.is (hsum _) rfl ?_
   refine Goes ?_
   all_goals
    refine FinOk.mk' [] rfl rfl rfl rfl rfl rfl rfl ⟨?_,?_,rfl⟩
    · rfl
    · rfl
 · rw [hC,if_neg h0]
   simp only [if_neg h0] at happ
   refine Goes ?_
   refine CallP.heapIs (hat 0 1 _ (by decide)) rfl ktA rfl ?_
   refine Goes ?_;repeat' first|apply W2.m|refine W1.m fun h=>?_
   first | refine CallP.is (hpr _) rfl ?_ | refine CallQ.is (hpr _) rfl rfl ?_
   refine Goes ?_;repeat' first|apply W2.m|refine W1.m fun h=>?_
   first | refine CallP.is (hbase _) rfl ?_ | refine CallQ.is (hbase _) rfl rfl ?_
   refine Goes ?_;repeat' first|apply W2.m|refine W1.m fun h=>?_
   rw [hw]
   first | refine CallP.is (happ _) rfl ?_ | refine CallQ.is (happ _) rfl rfl ?_
   refine Goes ?_;repeat' first|apply W2.m|refine W1.m fun h=>?_
   all_goals first
    | (exfalso; omega)
    | (refine FinOk.mk' [] rfl rfl rfl rfl rfl rfl rfl ⟨?_,?_,rfl⟩
       · rfl
       · rfl)
def addP (bits:Int) (xs:List PlaceD) (p:PlaceD) (b:BlkD):Int:=if codeP bits p b≠0 then codeP bits p b else if (nodeF xs (hdrB b)).isSome=true then 6 else 0
def grownP (bits:Int) (xs:List PlaceD) (k:Nat) (p:PlaceD) (b:BlkD):List PlaceD:=if addP bits xs p b=0 then xs++[nextP p ((k:Int) + -1) b] else xs
set_option maxHeartbeats 2000000 in
theorem add_ret (bits:Int) (xs:List PlaceD) (k:Nat) (b:BlkD) (i j n:Nat) (hij:i≠j) (hk:k < xs.length) (hlen:xs.length≤9) (hf:FitsB b) (hb:blkF b=0) (hc:coinsC xs[k].coins=0) (hh:inR 0 8 xs[k].h) :
 Ret Tryz.prog 121 [.pt i 0 0,iv ((k:Int) + -1),.agg (sealC b)] (treeO bits i j xs) n false (Is (iv (addP bits xs xs[k] b)) (treeO bits i j (grownP bits xs k xs[k] b)) n):=by
 have hne:xs≠[]:=fun e=>by rw [e] at hk; exact absurd hk (Nat.not_lt_zero _)
 have hL:(xs.map placeRow).length=xs.length:=by simp
 have hca:=fun i j n hij=>codeAfter_ret bits xs k b i j n hij hk hlen hf hb hc hh
 have hnd:=fun i j n hij=>nodeOf_ret bits (hdrB b) xs i j n hij hlen hne
 refine Ret.of_run (tt:=tt) ttOk Tryz.func121 rfl Tryz.call121 [i,j] [.box [iv bits,.own 1 xs.length],.list 109 5 (xs.map placeRow)] [.pt 0 0 0,iv ((k:Int) + -1),.agg (sealC b)] false n _ rfl (nodup2 hij) (by exact Nat.le_of_ble_eq_true rfl) rfl rfl ?_
 by_cases h0:codeP bits xs[k] b=0
 case neg =>
  have hA:addP bits xs xs[k] b=codeP bits xs[k] b:=if_pos h0
  have hG:grownP bits xs k xs[k] b=xs:=by unfold grownP; rw [hA,if_neg h0]
  rw [hA,hG]
  simp only [if_neg h0] at hca
  refine Goes ?_
  refine CallP.heapIs (hca 0 1 _ (by decide)) rfl ktA rfl ?_
  refine Goes ?_;repeat' first|apply W2.m|refine W1.m fun h=>?_
  refine FinOk.mk' [] rfl rfl rfl rfl rfl rfl rfl ⟨?_,?_,rfl⟩
  · rfl
  · rfl
 simp only [if_pos h0] at hca
 unfold nodeR at hnd
 cases hn:nodeF xs (hdrB b) with
 | some m =>
   have hA:addP bits xs xs[k] b=6:=by unfold addP; rw [if_neg (fun e=>e h0),hn]; rfl
   have hG:grownP bits xs k xs[k] b=xs:=by unfold grownP; rw [hA,if_neg (by decide)]
   rw [hA,hG]
   rw [hn] at hnd
   refine Goes ?_
   refine CallP.heapIs (hca 0 1 _ (by decide)) rfl ktA rfl ?_
   refine Goes ?_
   refine CallP.heapIs (hnd 0 1 _ (by decide)) rfl ktA rfl ?_
   refine Goes ?_
   refine FinOk.mk' [] rfl rfl rfl rfl rfl rfl rfl ⟨?_,?_,rfl⟩
   · rfl
   · rfl
 | none =>
   have hA:addP bits xs xs[k] b=0:=by unfold addP; rw [if_neg (fun e=>e h0),hn]; rfl
   have hG:grownP bits xs k xs[k] b=xs++[nextP xs[k] ((k:Int) + -1) b]:=by unfold grownP; rw [hA,if_pos rfl]
   rw [hA,hG]
   rw [hn] at hnd
   refine Goes ?_
   refine CallP.heapIs (hca 0 1 _ (by decide)) rfl ktA rfl ?_
   refine Goes ?_
   refine CallP.heapIs (hnd 0 1 _ (by decide)) rfl ktA rfl ?_
   refine Goes ?_
   refine ⟨⟨lenA,lenA,lenA,lenA,rwsA⟩,?_⟩
   refine Goes ?_
   all_goals
    refine FinOk.mk' [] rfl rfl rfl rfl rfl rfl rfl ⟨?_,?_,rfl⟩
    · rfl
    · rw [List.take_of_length_le (show (xs.map placeRow).length≤xs.length by simp)]
      show [(i,AObj.box [iv bits,.own j (xs.length + 1)]),(j,AObj.list 109 5 (xs.map placeRow++[placeRow (nextP xs[k] ((k:Int) + -1) b)]))]=[(i,AObj.box [iv bits,.own j (xs++[nextP xs[k] ((k:Int) + -1) b]).length]),(j,AObj.list 109 5 ((xs++[nextP xs[k] ((k:Int) + -1) b]).map placeRow))]
      rw [List.length_append,List.map_append]
      rfl
end Go.Proofs.YtllhgcfacgiabaaGreat
