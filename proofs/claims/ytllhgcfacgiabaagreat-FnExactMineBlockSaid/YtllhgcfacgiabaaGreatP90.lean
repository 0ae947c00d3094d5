import Derived.Test.YtllhgcfacgiabaaGreatP44
namespace Go.Proofs.YtllhgcfacgiabaaGreat
open Go Go.Am Go.RowKit
set_option linter.unusedVariables false
set_option linter.unusedSimpArgs false
theorem mkIns_at:∀ (xs:List InD) (m k:Nat) (h:k < xs.length) (h':k < (mkIns m xs).length),(mkIns m xs)[k]=((nIns m (xs.take k):Int),((nIns m (xs.take k) + 1:Nat):Int),marks (nIns m (xs.take k) + 2) xs[k].2.2.length)
 | x::r,m,0,_,_=>rfl
 | x::r,m,k + 1,h,_=>mkIns_at r (m + 2 + x.2.2.length) k (by simpa using h) (by rw [mkIns_len]; simpa using h)
theorem mkOuts_at:∀ (xs:List OutD) (m k:Nat) (h:k < xs.length) (h':k < (mkOuts m xs).length),(mkOuts m xs)[k]=((nOuts m (xs.take k):Int),marks (nOuts m (xs.take k) + 1) xs[k].2.length)
 | x::r,m,0,_,_=>rfl
 | x::r,m,k + 1,h,_=>mkOuts_at r (m + 1 + x.2.length) k (by simpa using h) (by rw [mkOuts_len]; simpa using h)
theorem heldInS_rd (xs:List InD) (m n:Nat) (hl:xs.length≤1048576) (hp:psum pIn xs≤1048576) (hm:m≤1099000000000):Ret Tryz.prog 146 [insV (mkIns m xs),iv m] [] n true (Is (iv (nIns m xs)) [] n):=by
 obtain ⟨ys,hys⟩:∃ ys,ys=mkIns m xs:=⟨_,rfl⟩
 have hyl:ys.length=xs.length:=by rw [hys,mkIns_len]
 have hL:(ys.map inRow).length=xs.length:=by simp [hyl]
 obtain ⟨cn,hcn⟩:∃ cn:Nat→Nat,∀ k,cn k=nIns m (xs.take k):=⟨_,fun _=>rfl⟩
 have hcb:∀ k,k≤xs.length→cn k≤m + 2 * xs.length + psum pIn xs:=fun k hk=>by
  have h1:=nIns_eq (xs.take k) m
  have h2:=psum_le pIn xs k
  rw [List.length_take] at h1
  rw [hcn]; omega
 have hcs:∀ k (h:k < xs.length),cn (k + 1)=cn k + 2 + xs[k].2.2.length:=fun k h=>by rw [hcn,hcn,takeS xs k h,(mkIns_app _ _ _).2]
 have hat:∀ k (h:k < xs.length) (h':k < ys.length),ys[k]=((cn k:Int),((cn k + 1:Nat):Int),marks (cn k + 2) xs[k].2.2.length):=fun k h h'=>by subst hys; rw [hcn]; exact mkIns_at xs m k h h'
 rw [← hys]
 have h0:m=cn 0:=by rw [hcn]; rfl
 refine Ret.fn ttOk Tryz.func146 rfl Tryz.call146 rfl rfl ?_
 refine Goes ?_;repeat' first|apply W2.m|refine W1.m fun h=>?_
 refine LoopP.go (fun k:Nat=>k≤xs.length) (fun k=>⟨[(0,insV ys),(1,iv (cn k)),(5,iv k)],[],0⟩) (fun k=>xs.length - k) 0 (Nat.zero_le _) ?_ ?_
 · exact Weak.of rfl rfl ⟨⟨rfl,rfl⟩,⟨leafI (by rw [h0]),rfl⟩,⟨rfl,rfl⟩,trivial⟩ trivial
 intro k hk
 have hb:=hcb k hk
 refine Goes ?_;repeat' first|apply W2.m|refine W1.m fun h=>?_
 · have hlt:k < xs.length:=by omega
   have hb1:=hcb (k + 1) hlt
   have hst:=hcs k hlt
   have hps:=psum_mem pIn xs xs[k] (List.getElem_mem hlt)
   have w1:IntKind.i64.wrap ((cn k:Int) + 1)=((cn k + 1:Nat):Int):=by rw [IntWalk.i64_in _ (by omega)]; omega
   have w2:IntKind.i64.wrap (((cn k + 1:Nat):Int) + 1)=((cn k + 2:Nat):Int):=by rw [IntWalk.i64_in _ (by omega)]; omega
   rw [rowK inRow ys k (by omega),hat k hlt (by omega)]
   refine ⟨by rw [hL]; exact ⟨by omega,by omega,rfl⟩,?_⟩
   refine Goes ?_;repeat' first|apply W2.m|refine W1.m fun h=>?_
   rw [rowK inRow ys k (by omega),hat k hlt (by omega)]
   refine ⟨by rw [hL]; exact ⟨by omega,by omega,rfl⟩,?_⟩
   refine Goes ?_;repeat' first|apply W2.m|refine W1.m fun h=>?_
   · exact absurd w1.symm h
   rw [rowK inRow ys k (by omega),hat k hlt (by omega)]
   refine ⟨by rw [hL]; exact ⟨by omega,by omega,rfl⟩,?_⟩
   refine Goes ?_;repeat' first|apply W2.m|refine W1.m fun h=>?_
   rw [w1,w2]
   first | refine CallP.is (heldInt64S_rd xs[k].2.2.length (cn k + 2) _ (by simp only [pIn] at hps; omega) (by omega)) rfl ?_ | refine CallQ.is (heldInt64S_rd xs[k].2.2.length (cn k + 2) _ (by simp only [pIn] at hps; omega) (by omega)) rfl rfl ?_
   refine Goes ?_;repeat' first|apply W2.m|refine W1.m fun h=>?_
   exact ⟨k + 1,by omega,by omega,Weak.of rfl rfl ⟨⟨rfl,rfl⟩,⟨leafI (by rw [hst]),rfl⟩,⟨leafI numA,rfl⟩,trivial⟩ trivial⟩
 · obtain rfl:k=xs.length:=by omega
   refine FinOk.pure rfl rfl rfl ⟨?_,rfl,rfl⟩
   rw [hcn,List.take_length]
theorem heldOutS_rd (xs:List OutD) (m n:Nat) (hl:xs.length≤1048576) (hp:psum pOut xs≤1048576) (hm:m≤1099000000000):Ret Tryz.prog 147 [outsV (mkOuts m xs),iv m] [] n true (Is (iv (nOuts m xs)) [] n):=by
 obtain ⟨ys,hys⟩:∃ ys,ys=mkOuts m xs:=⟨_,rfl⟩
 have hyl:ys.length=xs.length:=by rw [hys,mkOuts_len]
 have hL:(ys.map outRow).length=xs.length:=by simp [hyl]
 obtain ⟨cn,hcn⟩:∃ cn:Nat→Nat,∀ k,cn k=nOuts m (xs.take k):=⟨_,fun _=>rfl⟩
 have hcb:∀ k,k≤xs.length→cn k≤m + xs.length + psum pOut xs:=fun k hk=>by
  have h1:=nOuts_eq (xs.take k) m
  have h2:=psum_le pOut xs k
  rw [List.length_take] at h1
  rw [hcn]; omega
 have hcs:∀ k (h:k < xs.length),cn (k + 1)=cn k + 1 + xs[k].2.length:=fun k h=>by rw [hcn,hcn,takeS xs k h,(mkOuts_app _ _ _).2]
 have hat:∀ k (h:k < xs.length) (h':k < ys.length),ys[k]=((cn k:Int),marks (cn k + 1) xs[k].2.length):=fun k h h'=>by subst hys; rw [hcn]; exact mkOuts_at xs m k h h'
 rw [← hys]
 have h0:m=cn 0:=by rw [hcn]; rfl
 refine Ret.fn ttOk Tryz.func147 rfl Tryz.call147 rfl rfl ?_
 refine Goes ?_;repeat' first|apply W2.m|refine W1.m fun h=>?_
 refine LoopP.go (fun k:Nat=>k≤xs.length) (fun k=>⟨[(0,outsV ys),(1,iv (cn k)),(5,iv k)],[],0⟩) (fun k=>xs.length - k) 0 (Nat.zero_le _) ?_ ?_
 · exact Weak.of rfl rfl ⟨⟨rfl,rfl⟩,⟨leafI (by rw [h0]),rfl⟩,⟨rfl,rfl⟩,trivial⟩ trivial
 intro k hk
 have hb:=hcb k hk
 refine Goes ?_;repeat' first|apply W2.m|refine W1.m fun h=>?_
 · have hlt:k < xs.length:=by omega
   have hb1:=hcb (k + 1) hlt
   have hst:=hcs k hlt
   have hps:=psum_mem pOut xs xs[k] (List.getElem_mem hlt)
   have w1:IntKind.i64.wrap ((cn k:Int) + 1)=((cn k + 1:Nat):Int):=by rw [IntWalk.i64_in _ (by omega)]; omega
   rw [rowK outRow ys k (by omega),hat k hlt (by omega)]
   refine ⟨by rw [hL]; exact ⟨by omega,by omega,rfl⟩,?_⟩
   refine Goes ?_;repeat' first|apply W2.m|refine W1.m fun h=>?_
   rw [rowK outRow ys k (by omega),hat k hlt (by omega)]
   refine ⟨by rw [hL]; exact ⟨by omega,by omega,rfl⟩,?_⟩
   refine Goes ?_;repeat' first|apply W2.m|refine W1.m fun h=>?_
   rw [w1]
   first | refine CallP.is (heldInt64S_rd xs[k].2.length (cn k + 1) _ (by simp only [pOut] at hps; omega) (by omega)) rfl ?_ | refine CallQ.is (heldInt64S_rd xs[k].2.length (cn k + 1) _ (by simp only [pOut] at hps; omega) (by omega)) rfl rfl ?_
   refine Goes ?_;repeat' first|apply W2.m|refine W1.m fun h=>?_
   exact ⟨k + 1,by omega,by omega,Weak.of rfl rfl ⟨⟨rfl,rfl⟩,⟨leafI (by rw [hst]),rfl⟩,⟨leafI numA,rfl⟩,trivial⟩ trivial⟩
 · obtain rfl:k=xs.length:=by omega
   refine FinOk.pure rfl rfl rfl ⟨?_,rfl,rfl⟩
   rw [hcn,List.take_length]
end Go.Proofs.YtllhgcfacgiabaaGreat
