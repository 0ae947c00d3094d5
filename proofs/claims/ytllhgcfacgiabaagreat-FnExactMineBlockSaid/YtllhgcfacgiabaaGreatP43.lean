import Derived.Test.YtllhgcfacgiabaaGreatP16
import Derived.Test.YtllhgcfacgiabaaGreatAmP
namespace Go.Proofs.YtllhgcfacgiabaaGreat
open Go Go.Am Go.RowKit
set_option linter.unusedVariables false
set_option linter.unusedSimpArgs false
abbrev tl (zs:List Int):AV:=.tree 2 1 (ivs zs)
abbrev inT (x:InD):List AV:=[iv x.1,iv x.2.1,tl x.2.2]
abbrev outT (y:OutD):List AV:=[iv y.1,tl y.2]
theorem fzTl (zs:List Int):Fz (tl zs) (il zs):=fzVals (Value.int .i64) zs
theorem fzIn (xs:List InD):FzR 3 (xs.map inT) (xs.map inRow):=FzR.map (f:=inT) (g:=inRow) (fun _=>rfl) (fun x=>⟨.val _,.val _,fzTl x.2.2,trivial⟩) xs
theorem fzOut (ys:List OutD):FzR 2 (ys.map outT) (ys.map outRow):=FzR.map (f:=outT) (g:=outRow) (fun _=>rfl) (fun y=>⟨.val _,fzTl y.2,trivial⟩) ys
theorem inBIn (xs:List InD):∀ c∈(xs.map inT).flatten,inB c=true:=inB_map (fun x c hc=>by simp only [List.mem_cons,List.not_mem_nil,or_false] at hc; rcases hc with rfl | rfl | rfl <;> rfl) xs
theorem inBOut (ys:List OutD):∀ c∈(ys.map outT).flatten,inB c=true:=inB_map (fun x c hc=>by simp only [List.mem_cons,List.not_mem_nil,or_false] at hc; rcases hc with rfl | rfl <;> rfl) ys
theorem inBIvs (zs:List Int):∀ c∈(ivs zs).flatten,inB c=true:=inB_vals (Value.int .i64) zs
theorem plIvs (zs:List Int):∀ c∈(ivs zs).flatten,plainA c=true:=plainA_vals (Value.int .i64) zs
theorem inB_fill {α:Type} {f:α→List AV} {z:List AV} (hf:∀ x,∀ c∈f x,inB c=true) (hz:∀ c∈z,inB c=true) (xs:List α) (k:Nat):∀ c∈(fillR f z xs k).flatten,inB c=true:=by
 intro c hc
 obtain ⟨r,hr,hcr⟩:=List.mem_flatten.1 hc
 unfold fillR at hr
 rcases List.mem_append.1 hr with h | h
 · obtain ⟨x,_,rfl⟩:=List.mem_map.1 h; exact hf x c hcr
 · rw [List.eq_of_mem_replicate h] at hcr; exact hz c hcr
theorem toIn_own (x:InD) (n:Nat) (hl:x.2.2.length≤1048576):Ret Tryz.prog 171 [.agg (inRow x)] [] n true (Is (.agg [iv x.1,iv x.2.1,.own n x.2.2.length]) [(n,.list 2 1 (ivs x.2.2))] (n + 1)):=by
 refine Ret.fn ttOk Tryz.func171 rfl Tryz.call171 rfl rfl ?_
 refine Goes ?_;repeat' first|apply W2.m|refine W1.m fun h=>?_
 first | refine CallP.is (toInt64S_ret x.2.2 _ hl) rfl ?_ | refine CallQ.is (toInt64S_ret x.2.2 _ hl) rfl rfl ?_
 refine Goes ?_;repeat' first|apply W2.m|refine W1.m fun h=>?_
 refine FinOk.mk' [3] rfl rfl rfl rfl rfl rfl rfl ⟨?_,?_,rfl⟩
 · rfl
 · rfl
theorem toOut_own (y:OutD) (n:Nat) (hl:y.2.length≤1048576):Ret Tryz.prog 172 [.agg (outRow y)] [] n true (Is (.agg [iv y.1,.own n y.2.length]) [(n,.list 2 1 (ivs y.2))] (n + 1)):=by
 refine Ret.fn ttOk Tryz.func172 rfl Tryz.call172 rfl rfl ?_
 refine Goes ?_;repeat' first|apply W2.m|refine W1.m fun h=>?_
 first | refine CallP.is (toInt64S_ret y.2 _ hl) rfl ?_ | refine CallQ.is (toInt64S_ret y.2 _ hl) rfl rfl ?_
 refine Goes ?_;repeat' first|apply W2.m|refine W1.m fun h=>?_
 refine FinOk.mk' [3] rfl rfl rfl rfl rfl rfl rfl ⟨?_,?_,rfl⟩
 · rfl
 · rfl
theorem toInS_own (xs:List InD) (n:Nat) (hl:xs.length≤1048576) (hx:∀ x∈xs,x.2.2.length≤1048576):Ret Tryz.prog 136 [insV xs] [] n true (Is (.own n xs.length) [(n,.nest (c:=true) 201 3 (xs.map inT))] (n + 1)):=by
 have hL:(xs.map inRow).length=xs.length:=by simp
 have hB:=inB_fill (f:=inT) (z:=[iv 0,iv 0,nl]) (fun x c hc=>inBIn [x] c (by simpa using hc)) (fun c hc=>by simp only [List.mem_cons,List.not_mem_nil,or_false] at hc; rcases hc with rfl | rfl | rfl <;> rfl) xs
 refine Ret.fn ttOk Tryz.func136 rfl Tryz.call136 rfl rfl ?_
 refine Goes ?_;repeat' first|apply W2.m|refine W1.m fun h=>?_
 rw [hL]
 refine ⟨⟨by omega,by omega,by omega,by show _ * 40≤_; omega⟩,?_⟩
 refine Goes ?_;repeat' first|apply W2.m|refine W1.m fun h=>?_
 refine LoopP.go (fun k:Nat=>k≤xs.length) (fun k=>⟨[(0,insV xs),(3,.own 0 xs.length),(4,iv k)],[(0,.nest (c:=true) 201 3 (fillR inT [iv 0,iv 0,nl] xs k))],1⟩) (fun k=>xs.length - k) 0 (Nat.zero_le _) ?_ ?_
 · refine (Weak.nest 0 _ _ _ rfl).trans (Weak.of rfl rfl ktA ⟨⟨congrArg some (congrArg _ ?_),rfl,rfl⟩,trivial⟩)
   unfold fillR; simp
 intro k hk
 have hfl:=fillR_len inT [iv 0,iv 0,nl] xs k hk
 refine Goes ?_;repeat' first|apply W2.m|refine W1.m fun h=>?_
 · have hlt:k < xs.length:=by omega
   rw [rowK inRow xs k hlt]
   refine ⟨by rw [hL]; exact ⟨by omega,by omega,rfl⟩,?_⟩
   refine Goes ?_;repeat' first|apply W2.m|refine W1.m fun h=>?_
   first | refine CallP.is (toIn_own xs[k] _ (hx _ (List.getElem_mem hlt))) rfl ?_ | refine CallQ.is (toIn_own xs[k] _ (hx _ (List.getElem_mem hlt))) rfl rfl ?_
   refine Goes ?_;repeat' first|apply W2.m|refine W1.m fun h=>?_
   rw [storeRow (by omega) (by rw [fillR_at inT _ xs k hlt]; rfl)]
   refine ⟨k + 1,by omega,by omega,Weak.plant 0 _ 3 k 2 1 _ 1 xs[k].2.2.length _ _ _ [iv xs[k].1,iv xs[k].2.1,.own 1 xs[k].2.2.length] rfl rfl (by simp) ?_ rfl ?_ (hB (k + 1)) (inBIvs _) rfl ⟨⟨rfl,rfl,rfl⟩,⟨rfl,rfl,rfl⟩,⟨leafI numA,rfl,rfl⟩,trivial⟩ trivial⟩
   · rw [List.getElem?_set_self (by omega)]; rfl
   · rw [List.set_set]
     exact (fillR_set inT _ xs k hlt).symm
 · obtain rfl:k=xs.length:=by omega
   rw [fillR_all]
   refine FinOk.mk' [0] rfl rfl rfl rfl rfl rfl rfl ⟨?_,?_,rfl⟩
   · rfl
   · rfl
theorem toOutS_own (xs:List OutD) (n:Nat) (hl:xs.length≤1048576) (hx:∀ x∈xs,x.2.length≤1048576):Ret Tryz.prog 137 [outsV xs] [] n true (Is (.own n xs.length) [(n,.nest (c:=true) 203 2 (xs.map outT))] (n + 1)):=by
 have hL:(xs.map outRow).length=xs.length:=by simp
 have hB:=inB_fill (f:=outT) (z:=[iv 0,nl]) (fun x c hc=>inBOut [x] c (by simpa using hc)) (fun c hc=>by simp only [List.mem_cons,List.not_mem_nil,or_false] at hc; rcases hc with rfl | rfl <;> rfl) xs
 refine Ret.fn ttOk Tryz.func137 rfl Tryz.call137 rfl rfl ?_
 refine Goes ?_;repeat' first|apply W2.m|refine W1.m fun h=>?_
 rw [hL]
 refine ⟨⟨by omega,by omega,by omega,by show _ * 32≤_; omega⟩,?_⟩
 refine Goes ?_;repeat' first|apply W2.m|refine W1.m fun h=>?_
 refine LoopP.go (fun k:Nat=>k≤xs.length) (fun k=>⟨[(0,outsV xs),(3,.own 0 xs.length),(4,iv k)],[(0,.nest (c:=true) 203 2 (fillR outT [iv 0,nl] xs k))],1⟩) (fun k=>xs.length - k) 0 (Nat.zero_le _) ?_ ?_
 · refine (Weak.nest 0 _ _ _ rfl).trans (Weak.of rfl rfl ktA ⟨⟨congrArg some (congrArg _ ?_),rfl,rfl⟩,trivial⟩)
   unfold fillR; simp
 intro k hk
 have hfl:=fillR_len outT [iv 0,nl] xs k hk
 refine Goes ?_;repeat' first|apply W2.m|refine W1.m fun h=>?_
 · have hlt:k < xs.length:=by omega
   rw [rowK outRow xs k hlt]
   refine ⟨by rw [hL]; exact ⟨by omega,by omega,rfl⟩,?_⟩
   refine Goes ?_;repeat' first|apply W2.m|refine W1.m fun h=>?_
   first | refine CallP.is (toOut_own xs[k] _ (hx _ (List.getElem_mem hlt))) rfl ?_ | refine CallQ.is (toOut_own xs[k] _ (hx _ (List.getElem_mem hlt))) rfl rfl ?_
   refine Goes ?_;repeat' first|apply W2.m|refine W1.m fun h=>?_
   rw [storeRow (by omega) (by rw [fillR_at outT _ xs k hlt]; rfl)]
   refine ⟨k + 1,by omega,by omega,Weak.plant 0 _ 2 k 1 1 _ 1 xs[k].2.length _ _ _ [iv xs[k].1,.own 1 xs[k].2.length] rfl rfl (by simp) ?_ rfl ?_ (hB (k + 1)) (inBIvs _) rfl ⟨⟨rfl,rfl,rfl⟩,⟨rfl,rfl,rfl⟩,⟨leafI numA,rfl,rfl⟩,trivial⟩ trivial⟩
   · rw [List.getElem?_set_self (by omega)]; rfl
   · rw [List.set_set]
     exact (fillR_set outT _ xs k hlt).symm
 · obtain rfl:k=xs.length:=by omega
   rw [fillR_all]
   refine FinOk.mk' [0] rfl rfl rfl rfl rfl rfl rfl ⟨?_,?_,rfl⟩
   · rfl
   · rfl
abbrev txO (n:Nat) (t:TxD):AV:=.agg [iv t.1,.own n t.2.1.length,.own (n + 1) t.2.2.length]
abbrev txH (n:Nat) (t:TxD):Hp:=[(n,.nest (c:=true) 201 3 (t.2.1.map inT)),(n + 1,.nest (c:=true) 203 2 (t.2.2.map outT))]
theorem toTx_own (t:TxD) (n:Nat) (h:Fits t):Ret Tryz.prog 89 [txV t] [] n true (Is (txO n t) (txH n t) (n + 2)):=by
 refine Ret.fn ttOk Tryz.func89 rfl Tryz.call89 rfl rfl ?_
 refine Goes ?_;repeat' first|apply W2.m|refine W1.m fun h=>?_
 first | refine CallP.is (toInS_own t.2.1 _ h.ins h.proofs) rfl ?_ | refine CallQ.is (toInS_own t.2.1 _ h.ins h.proofs) rfl rfl ?_
 refine Goes ?_;repeat' first|apply W2.m|refine W1.m fun h=>?_
 first | refine CallP.is (toOutS_own t.2.2 _ h.outs h.locks) rfl ?_ | refine CallQ.is (toOutS_own t.2.2 _ h.outs h.locks) rfl rfl ?_
 refine Goes ?_;repeat' first|apply W2.m|refine W1.m fun h=>?_
 refine FinOk.mk' [3,4] rfl rfl rfl rfl rfl rfl rfl ⟨?_,?_,rfl⟩
 · rfl
 · rfl
theorem heldInt64S_rd (m k0 n:Nat) (hl:m≤1048576) (hk:k0≤1099511627776):Ret Tryz.prog 84 [il (marks k0 m),iv k0] [] n true (Is (iv ((k0 + m:Nat):Int)) [] n):=by
 have hL:(ivs (marks k0 m)).length=m:=by simp [marks_len]
 have hml:=marks_len k0 m
 refine Ret.fn ttOk Tryz.func84 rfl Tryz.call84 rfl rfl ?_
 refine Goes ?_;repeat' first|apply W2.m|refine W1.m fun h=>?_
 refine LoopP.go (fun k:Nat=>k≤m) (fun k=>⟨[(0,il (marks k0 m)),(1,iv ((k0 + k:Nat):Int)),(5,iv k)],[],0⟩) (fun k=>m - k) 0 (Nat.zero_le _) ?_ ?_
 · exact (Weak.of rfl rfl ktA trivial)
 intro k hk'
 refine Goes ?_;repeat' first|apply W2.m|refine W1.m fun h=>?_
 · have hlt:k < m:=by omega
   rw [rowK iv1 (marks k0 m) k (by omega)]
   refine ⟨by (first | exact ⟨by omega,by omega,rfl⟩ | (simp only [List.length_map]; exact ⟨by omega,by omega,rfl⟩)),?_⟩
   refine Goes ?_;repeat' first|apply W2.m|refine W1.m fun h=>?_
   · exfalso
     rw [marks_at k0 m k (by omega)] at h
     rename_i h0
     exact h rfl
   · exact ⟨k + 1,by omega,by omega,(Weak.of rfl rfl ktA trivial)⟩
 · obtain rfl:k=m:=by omega
   refine FinOk.pure rfl rfl rfl ⟨?_,rfl,rfl⟩
   rfl
end Go.Proofs.YtllhgcfacgiabaaGreat
