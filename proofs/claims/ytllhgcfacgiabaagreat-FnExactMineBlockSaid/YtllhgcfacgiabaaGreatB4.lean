import Derived.Test.YtllhgcfacgiabaaGreatB3
namespace Go.Proofs.YtllhgcfacgiabaaGreat
open Go Go.Am Go.RowKit
set_option linter.unusedVariables false
set_option linter.unusedSimpArgs false
def mixR {α:Type} (f g:α→List AV) (xs:List α) (k:Nat):List (List AV):=(xs.take k).map f++(xs.drop k).map g
section
variable {α:Type} {f g:α→List AV}
theorem mixR_zero (xs:List α):mixR f g xs 0=xs.map g:=by simp [mixR]
theorem mixR_all (xs:List α):mixR f g xs xs.length=xs.map f:=by simp [mixR]
theorem mixR_len (xs:List α) (k:Nat) (h:k≤xs.length):(mixR f g xs k).length=xs.length:=by simp [mixR]; omega
theorem mixR_at (xs:List α) (k:Nat) (h:k < xs.length):(mixR f g xs k)[k]?=some (g xs[k]):=by
 rw [mixR,List.getElem?_append_right (by rw [List.length_map,List.length_take]; omega),List.length_map,List.length_take,List.getElem?_map,List.getElem?_drop,show k + (k - min k xs.length)=k by omega,List.getElem?_eq_getElem h]; rfl
theorem mixR_set (xs:List α) (k:Nat) (h:k < xs.length):(mixR f g xs k).set k (f xs[k])=mixR f g xs (k + 1):=by
 unfold mixR
 rw [takeS xs k h,List.map_append,List.set_append_right _ _ (by rw [List.length_map,List.length_take]; omega),List.length_map,List.length_take,show k - min k xs.length=0 by omega,List.drop_eq_getElem_cons h,List.map_cons,List.set_cons_zero,List.append_assoc]
 rfl
theorem mixR_inB (hf:∀ x,∀ c∈f x,inB c=true) (hg:∀ x,∀ c∈g x,inB c=true) (xs:List α) (k:Nat):∀ c∈(mixR f g xs k).flatten,inB c=true:=by
 intro c hc
 obtain ⟨r,hr,hcr⟩:=List.mem_flatten.1 hc
 rcases List.mem_append.1 hr with h | h
 · obtain ⟨x,_,rfl⟩:=List.mem_map.1 h; exact hf x c hcr
 · obtain ⟨x,_,rfl⟩:=List.mem_map.1 h; exact hg x c hcr
end
theorem mixIn_inB:∀ (xs:List InD) (k:Nat),∀ c∈(mixR inT inRow xs k).flatten,inB c=true :=
 mixR_inB (fun x c hc=>by simp only [List.mem_cons,List.not_mem_nil,or_false] at hc; rcases hc with rfl | rfl | rfl <;> rfl) (fun x c hc=>by simp only [List.mem_cons,List.not_mem_nil,or_false] at hc; rcases hc with rfl | rfl | rfl <;> rfl)
theorem mixOut_inB:∀ (xs:List OutD) (k:Nat),∀ c∈(mixR outT outRow xs k).flatten,inB c=true :=
 mixR_inB (fun x c hc=>by simp only [List.mem_cons,List.not_mem_nil,or_false] at hc; rcases hc with rfl | rfl <;> rfl) (fun x c hc=>by simp only [List.mem_cons,List.not_mem_nil,or_false] at hc; rcases hc with rfl | rfl <;> rfl)
theorem lt_of {k n:Nat} (h:k < n):Int.toNat (k:Int) < n:=h
theorem set_same {α:Type} {l:List α} {k:Nat} {x:α} (h:l[k]?=some x):l.set k x=l:=by
 refine List.ext_getElem? fun i=>?_
 rw [List.getElem?_set]
 split
 · rename_i e
   subst e
   rw [h]
   simp [(List.getElem?_eq_some_iff.1 h).1]
 · rfl
theorem ltO_all {n e s:Nat} {R:List (List AV)} (h:∀ c∈R.flatten,inB c=true):ltO n (.nest (c:=false) e s R)=true:=by
 show (false||R.all fun r=>r.all (ltC n))=true
 rw [Bool.false_or]
 exact all_inB h
set_option maxHeartbeats 2000000 in
theorem copyTx_own (t:TxD) (n:Nat) (hF:Fits t):Ret Tryz.prog 163 [txV t] [] n true (Is (txO n t) (txH n t) (n + 2)):=by
 have hI:=hF.ins
 have hO:=hF.outs
 refine Ret.fn ttOk Tryz.func163 rfl Tryz.call163 rfl rfl ?_
 refine Goes ?_;repeat' first|apply W2.m|refine W1.m fun h=>?_
 repeat' first
  | (first | refine CallP.is (cloneIn_own t.2.1 _ hF.ins) rfl ?_ | refine CallQ.is (cloneIn_own t.2.1 _ hF.ins) rfl rfl ?_
     refine Goes ?_;repeat' first|apply W2.m|refine W1.m fun h=>?_)
  | (first | refine CallP.is (cloneOut_own t.2.2 _ hF.outs) rfl ?_ | refine CallQ.is (cloneOut_own t.2.2 _ hF.outs) rfl rfl ?_
     refine Goes ?_;repeat' first|apply W2.m|refine W1.m fun h=>?_)
 all_goals
  obtain ⟨R,hR⟩:∃ R:Nat→List (List AV),∀ k,R k=mixR inT inRow t.2.1 k:=⟨_,fun _=>rfl⟩
  have hRB:∀ k,∀ c∈(R k).flatten,inB c=true:=fun k=>by rw [hR]; exact mixIn_inB _ _
  have hRl:∀ k,k≤t.2.1.length→(R k).length=t.2.1.length:=fun k hk=>by rw [hR,mixR_len _ _ hk]
  have hRa:∀ k (h:k < t.2.1.length),(R k).set k (inRow t.2.1[k])=R k:=fun k h=>by rw [hR]; exact set_same (mixR_at _ _ h)
  have hRs:∀ k (h:k < t.2.1.length),(R k).set k (inT t.2.1[k])=R (k + 1):=fun k h=>by rw [hR,hR,mixR_set _ _ h]
  have toT:∀ k:Nat,Weak [] ⟨[(1,.pt 0 0 0),(2,.pt 1 0 0),(16,.own 2 t.2.1.length),(17,iv t.2.1.length),(18,iv k)],[(2,.nest (c:=true) 201 3 (R k)),(0,.box [iv t.1,.own 2 t.2.1.length,.own 3 t.2.2.length]),(1,.box [iv 0,nl,nl]),(3,.list 203 2 (t.2.2.map outRow))],4⟩ (if h:k < t.2.1.length then ⟨[(1,.pt 0 0 0),(2,.pt 1 0 0),(16,.own 2 t.2.1.length),(17,iv t.2.1.length),(18,iv k)],[(2,.nest (c:=false) 201 3 ((R k).set k (inRow t.2.1[k]))),(0,.box [iv t.1,.own 2 t.2.1.length,.own 3 t.2.2.length]),(1,.box [iv 0,nl,nl]),(3,.list 203 2 (t.2.2.map outRow))],4⟩ else ⟨[(1,.pt 0 0 0),(2,.pt 1 0 0),(16,.own 2 t.2.1.length),(17,iv t.2.1.length),(18,iv k)],[(2,.nest (c:=true) 201 3 (R k)),(0,.box [iv t.1,.own 2 t.2.1.length,.own 3 t.2.2.length]),(1,.box [iv 0,nl,nl]),(3,.list 203 2 (t.2.2.map outRow))],4⟩):=fun k=>by
   by_cases h:k < t.2.1.length
   · rw [dif_pos h,hRa k h]; exact Weak.trans (Weak.openN 2 _ _ _ rfl (hRB k)) (Weak.of rfl rfl ⟨⟨rfl,rfl⟩,⟨rfl,rfl⟩,⟨rfl,rfl⟩,⟨rfl,rfl⟩,⟨rfl,rfl⟩,trivial⟩ ⟨⟨rfl,rfl,ltO_all (hRB k)⟩,⟨rfl,rfl,rfl⟩,⟨rfl,rfl,rfl⟩,⟨rfl,rfl,rfl⟩,trivial⟩)
   · rw [dif_neg h]; exact fun E a w _ hR=>hR
  have hR0:t.2.1.map inRow=R 0:=by rw [hR,mixR_zero]
  rw [hR0]
  refine LoopP.go (fun k:Nat=>k≤t.2.1.length) (fun k=>if h:k < t.2.1.length then ⟨[(1,.pt 0 0 0),(2,.pt 1 0 0),(16,.own 2 t.2.1.length),(17,iv t.2.1.length),(18,iv k)],[(2,.nest (c:=false) 201 3 ((R k).set k (inRow t.2.1[k]))),(0,.box [iv t.1,.own 2 t.2.1.length,.own 3 t.2.2.length]),(1,.box [iv 0,nl,nl]),(3,.list 203 2 (t.2.2.map outRow))],4⟩ else ⟨[(1,.pt 0 0 0),(2,.pt 1 0 0),(16,.own 2 t.2.1.length),(17,iv t.2.1.length),(18,iv k)],[(2,.nest (c:=true) 201 3 (R k)),(0,.box [iv t.1,.own 2 t.2.1.length,.own 3 t.2.2.length]),(1,.box [iv 0,nl,nl]),(3,.list 203 2 (t.2.2.map outRow))],4⟩) (fun k=>t.2.1.length - k) 0 (Nat.zero_le _) (Weak.trans ?_ (toT 0)) ?_
  · first
     | exact Weak.trans (Weak.nest 2 _ _ _ rfl) (Weak.of rfl rfl ktA ktA)
     | exact Weak.trans (Weak.nest 3 _ _ _ rfl) (Weak.ren [0,1,3,2] rfl rfl ktA ktA)
  intro k hk
  by_cases hlt:k < t.2.1.length
  · rw [dif_pos hlt]
    have hRk:=hRl k hk
    conv=>whnf
    repeat' first
     | (refine AbsK.use (by assumption) ?_; conv=>whnf)
     | (refine CondP.yes ?_; conv=>whnf)
     | (refine CondP.not ?_; conv=>whnf)
     | ((first | refine CondP.dec (fun h=>?_) (fun h=>?_) | refine CondP.ndec (fun h=>?_) (fun h=>?_)) <;> first | (exfalso; first | omega | exact h (by assumption) | exact absurd h (by assumption)) | (conv=>whnf))
     | (refine Both.mk ?_ ?_ <;> (conv=>whnf))
     | (refine Keep.mk (by repeat' first | exact trivial | rfl | refine And.intro ?_ ?_) ?_; conv=>whnf)
     | (refine And.intro (by first | decide | omega) ?_; first | (refine runOps_abs (fun K hK=>?_); conv=>whnf) | (conv=>whnf))
     | fail
    rw [getAt (by omega)]
    refine ⟨⟨by rw [List.length_set]; exact lt_of (by omega),rfl⟩,?_⟩
    try refine runOps_abs (fun K hK=>?_)
    conv=>whnf
    repeat' first
     | (refine AbsK.use (by assumption) ?_; conv=>whnf)
     | (refine CondP.yes ?_; conv=>whnf)
     | (refine CondP.not ?_; conv=>whnf)
     | ((first | refine CondP.dec (fun h=>?_) (fun h=>?_) | refine CondP.ndec (fun h=>?_) (fun h=>?_)) <;> first | (exfalso; first | omega | exact h (by assumption) | exact absurd h (by assumption)) | (conv=>whnf))
     | (refine Both.mk ?_ ?_ <;> (conv=>whnf))
     | (refine Keep.mk (by repeat' first | exact trivial | rfl | refine And.intro ?_ ?_) ?_; conv=>whnf)
     | (refine And.intro (by first | decide | omega) ?_; first | (refine runOps_abs (fun K hK=>?_); conv=>whnf) | (conv=>whnf))
     | fail
    first | refine CallP.is (cloneI_own t.2.1[k].2.2 _ (hF.proofs _ (List.getElem_mem hlt))) rfl ?_ | refine CallQ.is (cloneI_own t.2.1[k].2.2 _ (hF.proofs _ (List.getElem_mem hlt))) rfl rfl ?_
    conv=>whnf
    repeat' first
     | (refine AbsK.use (by assumption) ?_; conv=>whnf)
     | (refine CondP.yes ?_; conv=>whnf)
     | (refine CondP.not ?_; conv=>whnf)
     | ((first | refine CondP.dec (fun h=>?_) (fun h=>?_) | refine CondP.ndec (fun h=>?_) (fun h=>?_)) <;> first | (exfalso; first | omega | exact h (by assumption) | exact absurd h (by assumption)) | (conv=>whnf))
     | (refine Both.mk ?_ ?_ <;> (conv=>whnf))
     | (refine Keep.mk (by repeat' first | exact trivial | rfl | refine And.intro ?_ ?_) ?_; conv=>whnf)
     | (refine And.intro (by first | decide | omega) ?_; first | (refine runOps_abs (fun K hK=>?_); conv=>whnf) | (conv=>whnf))
     | fail
    refine ⟨by rw [List.length_set]; exact lt_of (by omega),?_⟩
    rw [setAt (by omega) (row':=[iv t.2.1[k].1,iv t.2.1[k].2.1,.own 5 t.2.1[k].2.2.length]) rfl]
    try refine runOps_abs (fun K hK=>?_)
    conv=>whnf
    repeat' first
     | (refine AbsK.use (by assumption) ?_; conv=>whnf)
     | (refine CondP.yes ?_; conv=>whnf)
     | (refine CondP.not ?_; conv=>whnf)
     | ((first | refine CondP.dec (fun h=>?_) (fun h=>?_) | refine CondP.ndec (fun h=>?_) (fun h=>?_)) <;> first | (exfalso; first | omega | exact h (by assumption) | exact absurd h (by assumption)) | (conv=>whnf))
     | (refine Both.mk ?_ ?_ <;> (conv=>whnf))
     | (refine Keep.mk (by repeat' first | exact trivial | rfl | refine And.intro ?_ ?_) ?_; conv=>whnf)
     | (refine And.intro (by first | decide | omega) ?_; first | (refine runOps_abs (fun K hK=>?_); conv=>whnf) | (conv=>whnf))
     | fail
    refine ⟨k + 1,by omega,by omega,Weak.trans ?_ (toT (k + 1))⟩
    refine Weak.plant 2 _ 3 k 2 5 _ 1 t.2.1[k].2.2.length _ _ _ [iv t.2.1[k].1,iv t.2.1[k].2.1,.own 5 t.2.1[k].2.2.length] rfl rfl (by simp) ?_ rfl ?_ (hRB (k + 1)) (inBIvs _) rfl ⟨⟨rfl,rfl,rfl⟩,⟨rfl,rfl,rfl⟩,⟨rfl,rfl,rfl⟩,⟨rfl,rfl,rfl⟩,⟨leafI numA,rfl,rfl⟩,trivial⟩ ⟨⟨rfl,rfl⟩,⟨rfl,rfl⟩,⟨rfl,rfl⟩,trivial⟩
    · rw [List.getElem?_set_self (by omega)]
    · rw [List.set_set]
      exact (hRs k hlt).symm
  · rw [dif_neg hlt]
    obtain rfl:k=t.2.1.length:=by omega
    rw [hR,mixR_all]
    clear hR hRB hRl hRa hRs toT hR0
    refine Goes ?_;repeat' first|apply W2.m|refine W1.m fun h=>?_
    obtain ⟨R2,hR⟩:∃ R:Nat→List (List AV),∀ k,R k=mixR outT outRow t.2.2 k:=⟨_,fun _=>rfl⟩
    have hRB:∀ k,∀ c∈(R2 k).flatten,inB c=true:=fun k=>by rw [hR]; exact mixOut_inB _ _
    have hRl:∀ k,k≤t.2.2.length→(R2 k).length=t.2.2.length:=fun k hk=>by rw [hR,mixR_len _ _ hk]
    have hRa:∀ k (h:k < t.2.2.length),(R2 k).set k (outRow t.2.2[k])=R2 k:=fun k h=>by rw [hR]; exact set_same (mixR_at _ _ h)
    have hRs:∀ k (h:k < t.2.2.length),(R2 k).set k (outT t.2.2[k])=R2 (k + 1):=fun k h=>by rw [hR,hR,mixR_set _ _ h]
    have toT:∀ k:Nat,Weak [] ⟨[(1,.pt 0 0 0),(2,.pt 1 0 0),(33,.own 3 t.2.2.length),(34,iv t.2.2.length),(35,iv k)],[(3,.nest (c:=true) 203 2 (R2 k)),(0,.box [iv t.1,.own 2 t.2.1.length,.own 3 t.2.2.length]),(1,.box [iv 0,nl,nl]),(2,.nest (c:=true) 201 3 (t.2.1.map inT))],4⟩ (if h:k < t.2.2.length then ⟨[(1,.pt 0 0 0),(2,.pt 1 0 0),(33,.own 3 t.2.2.length),(34,iv t.2.2.length),(35,iv k)],[(3,.nest (c:=false) 203 2 ((R2 k).set k (outRow t.2.2[k]))),(0,.box [iv t.1,.own 2 t.2.1.length,.own 3 t.2.2.length]),(1,.box [iv 0,nl,nl]),(2,.nest (c:=true) 201 3 (t.2.1.map inT))],4⟩ else ⟨[(1,.pt 0 0 0),(2,.pt 1 0 0),(33,.own 3 t.2.2.length),(34,iv t.2.2.length),(35,iv k)],[(3,.nest (c:=true) 203 2 (R2 k)),(0,.box [iv t.1,.own 2 t.2.1.length,.own 3 t.2.2.length]),(1,.box [iv 0,nl,nl]),(2,.nest (c:=true) 201 3 (t.2.1.map inT))],4⟩):=fun k=>by
     by_cases h:k < t.2.2.length
     · rw [dif_pos h,hRa k h]; exact Weak.trans (Weak.openN 3 _ _ _ rfl (hRB k)) (Weak.of rfl rfl ⟨⟨rfl,rfl⟩,⟨rfl,rfl⟩,⟨rfl,rfl⟩,⟨rfl,rfl⟩,⟨rfl,rfl⟩,trivial⟩ ⟨⟨rfl,rfl,ltO_all (hRB k)⟩,⟨rfl,rfl,rfl⟩,⟨rfl,rfl,rfl⟩,⟨rfl,rfl,rfl⟩,trivial⟩)
     · rw [dif_neg h]; exact fun E a w _ hR=>hR
    have hR0:t.2.2.map outRow=R2 0:=by rw [hR,mixR_zero]
    rw [hR0]
    refine LoopP.go (fun k:Nat=>k≤t.2.2.length) (fun k=>if h:k < t.2.2.length then ⟨[(1,.pt 0 0 0),(2,.pt 1 0 0),(33,.own 3 t.2.2.length),(34,iv t.2.2.length),(35,iv k)],[(3,.nest (c:=false) 203 2 ((R2 k).set k (outRow t.2.2[k]))),(0,.box [iv t.1,.own 2 t.2.1.length,.own 3 t.2.2.length]),(1,.box [iv 0,nl,nl]),(2,.nest (c:=true) 201 3 (t.2.1.map inT))],4⟩ else ⟨[(1,.pt 0 0 0),(2,.pt 1 0 0),(33,.own 3 t.2.2.length),(34,iv t.2.2.length),(35,iv k)],[(3,.nest (c:=true) 203 2 (R2 k)),(0,.box [iv t.1,.own 2 t.2.1.length,.own 3 t.2.2.length]),(1,.box [iv 0,nl,nl]),(2,.nest (c:=true) 201 3 (t.2.1.map inT))],4⟩) (fun k=>t.2.2.length - k) 0 (Nat.zero_le _) (Weak.trans (Weak.trans (Weak.nest 3 _ _ _ rfl) (Weak.of rfl rfl ktA ktA)) (toT 0)) ?_
    intro k hk
    by_cases hlt:k < t.2.2.length
    · rw [dif_pos hlt]
      have hRk:=hRl k hk
      conv=>whnf
      repeat' first
       | (refine AbsK.use (by assumption) ?_; conv=>whnf)
       | (refine CondP.yes ?_; conv=>whnf)
       | (refine CondP.not ?_; conv=>whnf)
       | ((first | refine CondP.dec (fun h=>?_) (fun h=>?_) | refine CondP.ndec (fun h=>?_) (fun h=>?_)) <;> first | (exfalso; first | omega | exact h (by assumption) | exact absurd h (by assumption)) | (conv=>whnf))
       | (refine Both.mk ?_ ?_ <;> (conv=>whnf))
       | (refine Keep.mk (by repeat' first | exact trivial | rfl | refine And.intro ?_ ?_) ?_; conv=>whnf)
       | (refine And.intro (by first | decide | omega) ?_; first | (refine runOps_abs (fun K hK=>?_); conv=>whnf) | (conv=>whnf))
       | fail
      rw [getAt (by omega)]
      refine ⟨⟨by rw [List.length_set]; exact lt_of (by omega),rfl⟩,?_⟩
      try refine runOps_abs (fun K hK=>?_)
      conv=>whnf
      repeat' first
       | (refine AbsK.use (by assumption) ?_; conv=>whnf)
       | (refine CondP.yes ?_; conv=>whnf)
       | (refine CondP.not ?_; conv=>whnf)
       | ((first | refine CondP.dec (fun h=>?_) (fun h=>?_) | refine CondP.ndec (fun h=>?_) (fun h=>?_)) <;> first | (exfalso; first | omega | exact h (by assumption) | exact absurd h (by assumption)) | (conv=>whnf))
       | (refine Both.mk ?_ ?_ <;> (conv=>whnf))
       | (refine Keep.mk (by repeat' first | exact trivial | rfl | refine And.intro ?_ ?_) ?_; conv=>whnf)
       | (refine And.intro (by first | decide | omega) ?_; first | (refine runOps_abs (fun K hK=>?_); conv=>whnf) | (conv=>whnf))
       | fail
      first | refine CallP.is (cloneI_own t.2.2[k].2 _ (hF.locks _ (List.getElem_mem hlt))) rfl ?_ | refine CallQ.is (cloneI_own t.2.2[k].2 _ (hF.locks _ (List.getElem_mem hlt))) rfl rfl ?_
      conv=>whnf
      repeat' first
       | (refine AbsK.use (by assumption) ?_; conv=>whnf)
       | (refine CondP.yes ?_; conv=>whnf)
       | (refine CondP.not ?_; conv=>whnf)
       | ((first | refine CondP.dec (fun h=>?_) (fun h=>?_) | refine CondP.ndec (fun h=>?_) (fun h=>?_)) <;> first | (exfalso; first | omega | exact h (by assumption) | exact absurd h (by assumption)) | (conv=>whnf))
       | (refine Both.mk ?_ ?_ <;> (conv=>whnf))
       | (refine Keep.mk (by repeat' first | exact trivial | rfl | refine And.intro ?_ ?_) ?_; conv=>whnf)
       | (refine And.intro (by first | decide | omega) ?_; first | (refine runOps_abs (fun K hK=>?_); conv=>whnf) | (conv=>whnf))
       | fail
      refine ⟨by rw [List.length_set]; exact lt_of (by omega),?_⟩
      rw [setAt (by omega) (row':=[iv t.2.2[k].1,.own 5 t.2.2[k].2.length]) rfl]
      try refine runOps_abs (fun K hK=>?_)
      conv=>whnf
      repeat' first
       | (refine AbsK.use (by assumption) ?_; conv=>whnf)
       | (refine CondP.yes ?_; conv=>whnf)
       | (refine CondP.not ?_; conv=>whnf)
       | ((first | refine CondP.dec (fun h=>?_) (fun h=>?_) | refine CondP.ndec (fun h=>?_) (fun h=>?_)) <;> first | (exfalso; first | omega | exact h (by assumption) | exact absurd h (by assumption)) | (conv=>whnf))
       | (refine Both.mk ?_ ?_ <;> (conv=>whnf))
       | (refine Keep.mk (by repeat' first | exact trivial | rfl | refine And.intro ?_ ?_) ?_; conv=>whnf)
       | (refine And.intro (by first | decide | omega) ?_; first | (refine runOps_abs (fun K hK=>?_); conv=>whnf) | (conv=>whnf))
       | fail
      refine ⟨k + 1,by omega,by omega,Weak.trans ?_ (toT (k + 1))⟩
      refine Weak.plant 3 _ 2 k 1 5 _ 1 t.2.2[k].2.length _ _ _ [iv t.2.2[k].1,.own 5 t.2.2[k].2.length] rfl rfl (by simp) ?_ rfl ?_ (hRB (k + 1)) (inBIvs _) rfl ⟨⟨rfl,rfl,rfl⟩,⟨rfl,rfl,rfl⟩,⟨rfl,rfl,rfl⟩,⟨rfl,rfl,rfl⟩,⟨leafI numA,rfl,rfl⟩,trivial⟩ ⟨⟨rfl,rfl⟩,⟨rfl,rfl⟩,⟨rfl,rfl⟩,trivial⟩
      · rw [List.getElem?_set_self (by omega)]
      · rw [List.set_set]
        exact (hRs k hlt).symm
    · rw [dif_neg hlt]
      obtain rfl:k=t.2.2.length:=by omega
      rw [hR,mixR_all]
      refine Goes ?_;repeat' first|apply W2.m|refine W1.m fun h=>?_
      refine FinOk.mk' [2,3] rfl rfl rfl rfl rfl rfl rfl ⟨?_,?_,rfl⟩
      · rfl
      · rfl
end Go.Proofs.YtllhgcfacgiabaaGreat
