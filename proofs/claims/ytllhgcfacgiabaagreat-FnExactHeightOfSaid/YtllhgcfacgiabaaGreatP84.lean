import Derived.Test.YtllhgcfacgiabaaGreatP51
namespace Go.Proofs.YtllhgcfacgiabaaGreat
open Go Go.Am Go.RowKit
set_option linter.unusedVariables false
set_option linter.unusedSimpArgs false
theorem l5Copy_ret (l:List CoinD) (n:Nat) (hfc:FitsC l):Ret Tryz.prog 202 [coinsV l] [] n true (Is (.own n l.length) [(n,.list 184 6 (l.map coinRow))] (n + 1)):=by
 have hL:(l.map coinRow).length=l.length:=by simp
 have hl:=hfc.len
 refine Ret.fn ttOk Tryz.func202 rfl Tryz.call202 rfl rfl ?_
 refine Goes ?_
 refine LoopP.go (fun k:Nat=>k≤l.length) (fun k=>⟨[(0,coinsV l),(3,.own 0 k),(4,iv k)],[(0,.list 184 6 ((l.take k).map coinRow))],1⟩) (fun k=>l.length - k) 0 (Nat.zero_le _) (Weak.of rfl rfl ktA ktA) ?_
 intro k hk
 refine Goes ?_;repeat' first|apply W2.m|refine W1.m fun h=>?_
 · have hlt:k < l.length:=by omega
   rw [rowK coinRow l k hlt]
   refine ⟨by rw [hL]; exact ⟨by omega,by omega,rfl⟩,?_⟩
   refine Goes ?_
   first | refine CallP.is (l5CopyCoin_fr l[k] _ (hfc.locks _ (List.getElem_mem hlt))) rfl ?_ | refine CallQ.is (l5CopyCoin_fr l[k] _ (hfc.locks _ (List.getElem_mem hlt))) rfl rfl ?_
   refine Goes ?_
   refine ⟨⟨by simp; omega,by show (k + 1) * 64≤_; omega,by show k + 1≤_; unfold maxLen; omega,Nat.le_refl 1,fun r hr=>by rw [List.mem_singleton.1 (List.mem_of_mem_take hr)]; rfl⟩,?_⟩
   refine Goes ?_
   refine ⟨k + 1,by omega,by omega,Weak.of rfl rfl ⟨⟨rfl,rfl⟩,⟨rfl,rfl⟩,⟨leafI numA,rfl⟩,trivial⟩ ⟨⟨leafO ?_,rfl,rfl⟩,trivial⟩⟩
   rw [takeS l k hlt,List.map_append,List.take_of_length_le (by simp; omega)]; rfl
 · obtain rfl:k=l.length:=by omega
   rw [List.take_length]
   refine FinOk.mk' [0] rfl rfl rfl rfl rfl rfl rfl ⟨?_,?_,rfl⟩
   · rfl
   · rfl
theorem l5Drop_ret (l:List CoinD) (k:Nat) (n:Nat) (hk:k < l.length) (hl:l.length≤1048576):Ret Tryz.prog 204 [coinsV l,iv k] [] n true (Is (.own n (l.eraseIdx k).length) [(n,.list 184 6 ((l.eraseIdx k).map coinRow))] (n + 1)):=by
 have hL:(l.map coinRow).length=l.length:=by simp
 have hw:IntKind.i64.wrap ((k:Int) + 1)=((k + 1:Nat):Int):=by rw [IntWalk.i64_in _ (by omega)]; omega
 refine Ret.fn ttOk Tryz.func204 rfl Tryz.call204 rfl rfl ?_
 refine Goes ?_
 rw [show List.take (Int.toNat (k:Int) - Int.toNat 0) (List.drop (Int.toNat 0) (l.map coinRow))=(l.take k).map coinRow from by simp]
 have hA:((l.take k).map coinRow).length=k:=by simp; omega
 rw [hA]
 refine ⟨⟨Nat.le_refl _,by show (0 + k) * 64≤_; omega,by unfold maxLen; omega,True.intro,fun r hr=>by obtain ⟨x,_,rfl⟩:=List.mem_map.1 hr; rfl⟩,?_⟩
 refine Goes ?_
 rw [hw,hL]
 refine ⟨⟨by omega,by omega,.inr (by
  have hne:0 < l.length:=by omega
  have:=rowK coinRow l 0 hne
  rw [show Int.toNat ((0:Nat):Int)=0 from rfl] at this
  rw [this]; rfl)⟩,?_⟩
 refine Goes ?_
 rw [show List.drop (Int.toNat ((k + 1:Nat):Int)) (l.map coinRow)=(l.drop (k + 1)).map coinRow from by rw [Int.toNat_natCast,List.map_drop]]
 have hB:((l.drop (k + 1)).map coinRow).length=l.length - (k + 1):=by simp
 rw [hB]
 refine ⟨⟨by simp; omega,by show (0 + k + (l.length - (k + 1))) * 64≤_; omega,by unfold maxLen; omega,True.intro,fun r hr=>by obtain ⟨x,_,rfl⟩:=List.mem_map.1 hr; rfl⟩,?_⟩
 refine Goes ?_
 have hE:(l.take k).map coinRow++(l.drop (k + 1)).map coinRow=(l.eraseIdx k).map coinRow:=by rw [List.eraseIdx_eq_take_drop_succ,List.map_append]
 refine FinOk.mk' [0] rfl rfl rfl rfl rfl rfl rfl ⟨?_,?_,rfl⟩
 · exact ownI (by rw [List.length_eraseIdx_of_lt hk]; omega)
 · refine objI ?_
   rw [← hE,List.take_zero,List.nil_append,List.take_of_length_le (by rw [hA]; omega)]
theorem l5Put_ret (l:List CoinD) (c:CoinD) (n:Nat) (hl:l.length≤1048576):Ret Tryz.prog 206 [coinsV l,coinV c] [] n true (Is (.own n (putC c l).length) [(n,.list 184 6 ((putC c l).map coinRow))] (n + 1)):=by
 have hL:(l.map coinRow).length=l.length:=by simp
 refine Ret.fn ttOk Tryz.func206 rfl Tryz.call206 rfl rfl ?_
 have hP:∀ k,k≤l.length→(∀ x∈l.take k,lessP x c)→putC c l=l.take k++putC c (l.drop k):=by
  intro k
  induction k with
  | zero=>intro _ _; simp
  | succ k ih =>
    intro hk hx
    rw [ih (by omega) fun x hx'=>hx x (by rw [takeS l k hk]; exact List.mem_append_left _ hx'),takeS l k hk,List.drop_eq_getElem_cons hk,putC,if_pos (hx _ (by rw [takeS l k hk]; exact List.mem_append_right _ (List.mem_singleton.2 rfl))),List.append_assoc]; rfl
 refine Goes ?_
 refine LoopP.go (fun k:Nat=>k≤l.length∧∀ x∈l.take k,lessP x c) (fun k=>⟨[(0,coinsV l),(3,.pt 0 0 0),(5,iv k)],[(0,.box (coinRow c))],1⟩) (fun k=>l.length - k) 0 ⟨Nat.zero_le _,fun x hx=>by simp at hx⟩ (Weak.of rfl rfl ktA ktA) ?_
 intro k ⟨hk,hx⟩
 refine Goes ?_;repeat' first|apply W2.m|refine W1.m fun h=>?_
 · have hlt:k < l.length:=by omega
   rw [rowK coinRow l k hlt]
   refine ⟨by rw [hL]; exact ⟨by omega,by omega,rfl⟩,?_⟩
   refine Goes ?_;repeat' first|apply W2.m|refine W1.m fun h=>?_
   refine CallP.convAIs (l5Less_ret l[k] c _) ⟨cvSame rfl,cvBox rfl ⟨cvcSame rfl,cvcSame rfl,cvcSame rfl,cvcSame rfl,cvcSame rfl,cvcSame rfl,trivial⟩ rfl,trivial⟩ rfl trivial ?_
   by_cases hlc:lessP l[k] c
   · refine Goes ?_;repeat' first|apply W2.m|refine W1.m fun h=>?_
     exact ⟨k + 1,⟨by omega,fun x hx'=>by
      rw [takeS l k hlt] at hx'
      rcases List.mem_append.1 hx' with hx' | hx'
      · exact hx x hx'
      · rw [List.mem_singleton.1 hx']; exact hlc⟩,by omega,(Weak.of rfl rfl ktA ktA)⟩
   · have hput:putC c l=l.take k++c::l.drop k:=by rw [hP k hk hx,List.drop_eq_getElem_cons hlt,putC,if_neg hlc]
     refine Goes ?_;repeat' first|apply W2.m|refine W1.m fun h=>?_
     rw [show List.take (Int.toNat (k:Int) - Int.toNat 0) (List.drop (Int.toNat 0) (l.map coinRow))=(l.take k).map coinRow from by simp]
     have hA:((l.take k).map coinRow).length=k:=by simp; omega
     rw [hA]
     have hsl:(k:Int)=0∨((l.map coinRow).getD 0 []).length=6:=by
      by_cases hz:0 < l.length
      · have h0:=rowK coinRow l 0 hz
        rw [show Int.toNat ((0:Nat):Int)=0 from rfl] at h0
        rw [h0]; exact .inr rfl
      · exact .inl (by omega)
     have hD:List.drop (Int.toNat (k:Int)) (l.map coinRow)=(l.drop k).map coinRow:=by rw [Int.toNat_natCast,List.map_drop]
     have hB:((l.drop k).map coinRow).length=l.length - k:=by simp
     have hE:(l.take k).map coinRow++[coinRow c]++(l.drop k).map coinRow=(putC c l).map coinRow:=by rw [hput,List.map_append,List.map_cons,List.append_assoc]; rfl
     have hN:(putC c l).length=k + 1 + (l.length - k):=by rw [hput,List.length_append,List.length_take,List.length_cons,List.length_drop]; omega
     refine ⟨⟨Nat.le_refl _,by show (0 + k) * 64≤_; omega,by unfold maxLen; omega,True.intro,fun r hr=>by obtain ⟨x,_,rfl⟩:=List.mem_map.1 hr; rfl⟩,?_⟩
     refine Goes ?_;repeat' first|apply W2.m|refine W1.m fun h=>?_
     all_goals repeat' first
      | refine And.intro ⟨by simp; omega,by show (0 + k + 1) * 64≤_; omega,by show 0 + k + 1≤_; unfold maxLen; omega,Nat.le_refl 1,fun r hr=>by rw [List.mem_singleton.1 (List.mem_of_mem_take hr)]; rfl⟩ ?_
        refine Goes ?_
      | refine And.intro ⟨by omega,by rw [hL]; omega,hsl⟩ ?_
        refine Goes ?_
      | rw [hD,hB]
        refine And.intro ⟨by simp; omega,by show (0 + k + 1 + (l.length - k)) * 64≤_; omega,by show 0 + k + 1 + (l.length - k)≤_; unfold maxLen; omega,True.intro,fun r hr=>by obtain ⟨x,_,rfl⟩:=List.mem_map.1 hr; rfl⟩ ?_
        refine Goes ?_
     all_goals
      refine FinOk.mk' [1] rfl rfl rfl rfl rfl rfl rfl ⟨?_,?_,rfl⟩
      · exact ownI (by rw [hN]; show 0 + k + 1 + (l.length - k)=_; omega)
      · refine objI ?_
        rw [← hE,List.take_zero,List.nil_append,show List.take (0 + k) ((l.take k).map coinRow)=(l.take k).map coinRow from List.take_of_length_le (by rw [hA]; omega)]
        refine congrArg (·++(l.drop k).map coinRow) ((List.take_of_length_le ?_).trans rfl)
        rw [List.length_append,hA]
        show k + 1≤0 + k + 1
        omega
 · obtain rfl:k=l.length:=by omega
   have hput:putC c l=l.take l.length++c::l.drop l.length:=by rw [hP l.length (Nat.le_refl _) hx,List.drop_length,putC]
   have hk:=Nat.le_refl l.length
   obtain ⟨k,hkk⟩:∃ k,k=l.length:=⟨_,rfl⟩
   rw [← hkk] at hput hk ⊢
   rw [show List.take (Int.toNat (k:Int) - Int.toNat 0) (List.drop (Int.toNat 0) (l.map coinRow))=(l.take k).map coinRow from by simp]
   have hA:((l.take k).map coinRow).length=k:=by simp; omega
   rw [hA]
   have hsl:(k:Int)=0∨((l.map coinRow).getD 0 []).length=6:=by
    by_cases hz:0 < l.length
    · have h0:=rowK coinRow l 0 hz
      rw [show Int.toNat ((0:Nat):Int)=0 from rfl] at h0
      rw [h0]; exact .inr rfl
    · exact .inl (by omega)
   have hD:List.drop (Int.toNat (k:Int)) (l.map coinRow)=(l.drop k).map coinRow:=by rw [Int.toNat_natCast,List.map_drop]
   have hB:((l.drop k).map coinRow).length=l.length - k:=by simp
   have hE:(l.take k).map coinRow++[coinRow c]++(l.drop k).map coinRow=(putC c l).map coinRow:=by rw [hput,List.map_append,List.map_cons,List.append_assoc]; rfl
   have hN:(putC c l).length=k + 1 + (l.length - k):=by rw [hput,List.length_append,List.length_take,List.length_cons,List.length_drop]; omega
   refine ⟨⟨Nat.le_refl _,by show (0 + k) * 64≤_; omega,by unfold maxLen; omega,True.intro,fun r hr=>by obtain ⟨x,_,rfl⟩:=List.mem_map.1 hr; rfl⟩,?_⟩
   refine Goes ?_;repeat' first|apply W2.m|refine W1.m fun h=>?_
   all_goals repeat' first
    | refine And.intro ⟨by simp; omega,by show (0 + k + 1) * 64≤_; omega,by show 0 + k + 1≤_; unfold maxLen; omega,Nat.le_refl 1,fun r hr=>by rw [List.mem_singleton.1 (List.mem_of_mem_take hr)]; rfl⟩ ?_
      refine Goes ?_
    | refine And.intro ⟨by omega,by rw [hL]; omega,hsl⟩ ?_
      refine Goes ?_
    | rw [hD,hB]
      refine And.intro ⟨by simp; omega,by show (0 + k + 1 + (l.length - k)) * 64≤_; omega,by show 0 + k + 1 + (l.length - k)≤_; unfold maxLen; omega,True.intro,fun r hr=>by obtain ⟨x,_,rfl⟩:=List.mem_map.1 hr; rfl⟩ ?_
      refine Goes ?_
   all_goals
    refine FinOk.mk' [1] rfl rfl rfl rfl rfl rfl rfl ⟨?_,?_,rfl⟩
    · exact ownI (by rw [hN]; show 0 + k + 1 + (l.length - k)=_; omega)
    · refine objI ?_
      rw [← hE,List.take_zero,List.nil_append,show List.take (0 + k) ((l.take k).map coinRow)=(l.take k).map coinRow from List.take_of_length_le (by rw [hA]; omega)]
      refine congrArg (·++(l.drop k).map coinRow) ((List.take_of_length_le ?_).trans rfl)
      rw [List.length_append,hA]
      show k + 1≤0 + k + 1
      omega
end Go.Proofs.YtllhgcfacgiabaaGreat
namespace Go.Proofs.YtllhgcfacgiabaaGreat
open Go Go.Am Go.RowKit
set_option linter.unusedVariables false
set_option linter.unusedSimpArgs false
theorem outsC_vals:∀ (ys:List OutD) (s:Int),outsC s ys=0→∀ y∈ys,inR 0 1000000 y.1∧progC y.2=0
 | [],_,_,y,hy=>by cases hy
 | x::r,s,h,y,hy=>by
   rw [outsC] at h
   by_cases h1:inR 0 1000000 x.1
   · rw [if_neg (fun e=>e h1)] at h
     by_cases h2:progC x.2≠0
     · rw [if_pos h2] at h; exact absurd h h2
     · rw [if_neg h2] at h
       rcases List.mem_cons.1 hy with rfl | hy
       · exact ⟨h1,Decidable.not_not.1 h2⟩
       · exact outsC_vals r _ h y hy
   · rw [if_pos h1] at h; cases h
theorem madeC_ok {t:TxD} {hg:Int} (hz:faultC t=0) (hh:inR 0 9999 hg):∀ c∈madeC t hg,coinC c=0:=by
 intro c hc
 obtain ⟨k,hk,rfl⟩:=List.mem_iff_getElem.1 hc
 rw [madeC_len] at hk
 rw [madeC_at t hg k hk]
 have h4:=(fault_parts hz).2.2.2.1
 obtain ⟨g1,g2⟩:=outsC_vals _ _ (fault_parts hz).2.2.2.2.2 _ (List.getElem_mem hk)
 have hs:=sumF_bd (packT (bareT t))
 unfold coinC
 dsimp only
 rw [if_pos ⟨⟨hs.1,hs.2⟩,⟨by omega,by omega⟩,g1,hh⟩]
 exact g2
theorem cgC_all:∀ (l:List CoinD) (p:Option CoinD),cgC p l=0→∀ c∈l,coinC c=0
 | [],_,_,c,hc=>by cases hc
 | d::r,p,h,c,hc=>by
   rw [cgC] at h
   by_cases h1:coinC d≠0
   · rw [if_pos h1] at h; exact absurd h h1
   · rw [if_neg h1] at h
     by_cases h2:ordP p d=true
     · rw [if_pos h2] at h
       rcases List.mem_cons.1 hc with rfl | hc
       · exact Decidable.not_not.1 h1
       · exact cgC_all r _ h c hc
     · rw [if_neg h2] at h; cases h
theorem cgC_of:∀ (l:List CoinD) (p:Option CoinD),(∀ c∈l,coinC c=0)→l.Pairwise lessP→(∀ q,p=some q→∀ c∈l,lessP q c)→cgC p l=0
 | [],_,_,_,_=>rfl
 | d::r,p,h,hp,hq=>by
   have hd:=List.pairwise_cons.1 hp
   rw [cgC,if_neg (fun e=>e (h d (List.mem_cons_self ..))),if_pos]
   · exact cgC_of r (some d) (fun c hc=>h c (List.mem_cons_of_mem _ hc)) hd.2 fun q hq' c hc=>by cases hq'; exact hd.1 c hc
   · cases p with
     | none=>rfl
     | some q=>simpa [ordP] using hq q rfl d (List.mem_cons_self ..)
theorem restE_len:∀ (xs:List InD) (l:List CoinD),(∀ x∈xs,∃ c,atC l x.1 x.2.1=some c)→xs.Pairwise (fun a b=>¬ (a.1=b.1∧a.2.1=b.2.1))→(restE l xs).length + xs.length=l.length
 | [],l,_,_=>rfl
 | x::r,l,h,hp=>by
   have hx:=List.pairwise_cons.1 hp
   obtain ⟨c,hc⟩:=h x (List.mem_cons_self ..)
   have hm:=List.mem_of_find?_eq_some hc
   have hk:=List.find?_some hc
   have h1:=List.length_eraseP_of_mem (p:=keyB x.1 x.2.1) hm hk
   have hpos:=List.length_pos_of_mem hm
   have ih:=restE_len r (l.eraseP (keyB x.1 x.2.1)) (fun y hy=>by
    rw [atC_erase (hx.1 y hy)]
    exact h y (List.mem_cons_of_mem _ hy)) hx.2
   show (restE (l.eraseP (keyB x.1 x.2.1)) r).length + (r.length + 1)=l.length
   omega
theorem newC_len {l:List CoinD} {t:TxD} {hg:Int} (hz:faultC t=0) (hq:∀ x∈t.2.1,∃ c,atC l x.1 x.2.1=some c):(newC l t hg).length + t.2.1.length=l.length + t.2.2.length:=by
 have h1:=restE_len _ _ hq (insC_apart _ _ (fault_parts hz).2.2.2.2.1).2
 have h2:=(newC_perm l t hg).length_eq
 rw [List.length_append,madeC_len] at h2
 omega
theorem newC_code {l:List CoinD} {t:TxD} {hg:Int} (h0:coinsC l=0) (hz:faultC t=0) (hh:inR 0 9999 hg) (ha:((madeC t hg).any fun c=>(atC l c.tx c.out).isSome)=false) :
 coinsC (newC l t hg)=if 40 < (newC l t hg).length then 2 else if inR 0 1000000 (sumV (valsC (newC l t hg))) then 0 else 7:=by
 have hcg:cgC none (newC l t hg)=0:=cgC_of _ _ (fun c hc=>by
  rcases List.mem_append.1 ((newC_perm l t hg).mem_iff.1 hc) with hc | hc
  · exact cgC_all _ _ (coinsC_ok h0).2.1 c ((restE_sub _ _).subset hc)
  · exact madeC_ok hz hh c hc) (newC_rising h0 ha) fun q hq=>by cases hq
 unfold coinsC
 rw [if_neg (c:=cgC none (newC l t hg)≠0) (fun e=>e hcg)]
end Go.Proofs.YtllhgcfacgiabaaGreat
namespace Go.Proofs.YtllhgcfacgiabaaGreat
open Go Go.Am Go.RowKit
set_option linter.unusedVariables false
set_option linter.unusedSimpArgs false
theorem l5Copy_fr (l:List CoinD) (n:Nat) (hfc:FitsC l):Ret Tryz.prog 202 [coinsV l] [] n true (Is (coinsV l) [] n):=Ret.frList (by simp) (l5Copy_ret l n hfc)
theorem l5Drop_fr (l:List CoinD) (k:Nat) (n:Nat) (hk:k < l.length) (hl:l.length≤1048576):Ret Tryz.prog 204 [coinsV l,iv k] [] n true (Is (coinsV (l.eraseIdx k)) [] n):=Ret.frList (by simp) (l5Drop_ret l k n hk hl)
theorem l5Put_fr (l:List CoinD) (c:CoinD) (n:Nat) (hl:l.length≤1048576):Ret Tryz.prog 206 [coinsV l,coinV c] [] n true (Is (coinsV (putC c l)) [] n):=Ret.frList (by simp) (l5Put_ret l c n hl)
abbrev coinsBad' (z:Int):AV:=.agg [iv z,iv 0,nl,nl]
theorem taken_vals (l:List CoinD) (t:TxD):valsI l t.2.1=valsC (takenC l t):=by
 unfold valsI valsC takenC
 rw [List.map_map]
 refine List.map_congr_left fun x _=>?_
 unfold valAt
 show _=((atC l x.1 x.2.1).getD coin0).val
 cases atC l x.1 x.2.1 <;> rfl
theorem atI_erase {l:List CoinD} {t o:Int} {j:Nat} (e:atI l t o=j):l.eraseIdx j=l.eraseP (keyB t o):=by
 rw [List.eraseP_eq_eraseIdx]
 show _=match l.findIdx? (fun c=>decide (c.tx=t∧c.out=o)) with | none=>l | some i=>l.eraseIdx i
 unfold atI at e
 cases hi:l.findIdx? (fun c=>decide (c.tx=t∧c.out=o)) with
 | none=>rw [hi] at e; dsimp only at e; omega
 | some k =>
   rw [hi] at e
   dsimp only at e
   obtain rfl:k=j:=by omega
   rfl
theorem l5Bad_ret (z:Int) (n:Nat):Ret Tryz.prog 74 [iv z] [] n true (Is (coinsBad' z) [] n):=by
 refine Ret.fn ttOk Tryz.func74 rfl Tryz.call74 rfl rfl ?_
 refine Goes ?_
 refine FinOk.pure rfl rfl rfl ⟨?_,rfl,rfl⟩
 rfl
end Go.Proofs.YtllhgcfacgiabaaGreat
namespace Go.Proofs.YtllhgcfacgiabaaGreat
open Go Go.Am Go.RowKit
set_option linter.unusedVariables false
set_option linter.unusedSimpArgs false
abbrev coinsBad (z:Int):AV:=.agg [iv z,iv 0,nl,nl]
def ApplyQ (l:List CoinD) (t:TxD) (hg:Int) (n T:Nat):AV→Hp→Nat→Prop:=fun r ho m =>
 (applyC l t hg≠0∧r=coinsBad (applyC l t hg)∧ho=[]∧m=n) ∨
 (applyC l t hg=0∧r=.agg [iv 0,iv (feeC l t),.own n (takenC l t).length,.own (n + 1) (newC l t hg).length]∧ho=[(n,.nest (c:=true) T 6 ((takenC l t).map coinT)),(n + 1,.nest (c:=true) T 6 ((newC l t hg).map coinT))]∧m=n + 2)
theorem setOfCoins_ret2 (l:List CoinD) (n:Nat) (h0:coinsC l=0) (hl:l.length≤1048576):Ret Tryz.prog 219 [coinsV l] [] n true (Is (.mp n) [(n,.map kks (mapL l))] (n + 1)):=by
 rw [← mapF_list h0]; exact setOfCoins_ret l n hl
theorem coinsMade_fr (t:TxD) (hg:Int) (n:Nat) (hz:faultC t=0) (hf:Fits t):Ret Tryz.prog 220 [txV t,iv hg] [] n true (Is (coinsV (madeC t hg)) [] n) :=
 Ret.freeze (by rintro _ _ _ ⟨rfl,rfl,rfl⟩; exact ⟨_,frCell (look_cons_eq _ _ _) (by simp),rfl,rfl,rfl⟩) (coinsMade_ret t hg n hz hf)
set_option maxHeartbeats 2000000 in
theorem implApply_ret (l:List CoinD) (t:TxD) (hg:Int) (n:Nat) (hfc:FitsC l) (hf:Fits t):Ret Tryz.prog 178 [coinsV l,txV t,iv hg] [] n true (ApplyQ l t hg n 184):=by
 have hl:=hfc.len
 have he:=fun n=>effect_ret l t hg n hl hf
 by_cases h1:coinsC l≠0
 · have hA:applyC l t hg=coinsC l:=by unfold applyC; rw [if_pos h1]
   simp only [if_pos h1] at he
   refine Ret.fn ttOk Tryz.func178 rfl Tryz.call178 rfl rfl ?_
   refine Goes ?_
   first | refine CallP.is (he _) rfl ?_ | refine CallQ.is (he _) rfl rfl ?_
   refine Goes ?_;repeat' first|apply W2.m|refine W1.m fun h=>?_
   refine FinOk.pure rfl rfl rfl (.inl ⟨by rw [hA]; exact h1,?_,rfl,rfl⟩)
   rw [hA]
 by_cases h2:faultC t≠0
 · have hA:applyC l t hg=faultC t:=by unfold applyC; rw [if_neg h1,if_pos h2]
   simp only [if_neg h1,if_pos h2] at he
   refine Ret.fn ttOk Tryz.func178 rfl Tryz.call178 rfl rfl ?_
   refine Goes ?_
   first | refine CallP.is (he _) rfl ?_ | refine CallQ.is (he _) rfl rfl ?_
   refine Goes ?_;repeat' first|apply W2.m|refine W1.m fun h=>?_
   refine FinOk.pure rfl rfl rfl (.inl ⟨by rw [hA]; exact h2,?_,rfl,rfl⟩)
   rw [hA]
 by_cases h3:inR 0 9999 hg
 case neg =>
  have hA:applyC l t hg=3:=by unfold applyC; rw [if_neg h1,if_neg h2,if_pos h3]
  simp only [if_neg h1,if_neg h2,if_neg h3] at he
  refine Ret.fn ttOk Tryz.func178 rfl Tryz.call178 rfl rfl ?_
  refine Goes ?_
  first | refine CallP.is (he _) rfl ?_ | refine CallQ.is (he _) rfl rfl ?_
  refine Goes ?_
  refine FinOk.pure rfl rfl rfl (.inl ⟨by rw [hA]; decide,?_,rfl,rfl⟩)
  rw [hA]
 simp only [if_neg h1,if_neg h2,if_pos h3] at he
 have h0:coinsC l=0:=Decidable.not_not.1 h1
 have hz:faultC t=0:=Decidable.not_not.1 h2
 have hok:=fault_ok hz
 refine Ret.fn ttOk Tryz.func178 rfl Tryz.call178 rfl rfl ?_
 refine Goes ?_
 have hl2:=hok.2.2.1
 have hli:t.2.1.length≤1048576:=by have:=hok.2.1; omega
 have hlm:(madeC t hg).length≤1048576:=by rw [madeC_len]; omega
 have hl40:=(coinsC_ok h0).1
 have hlr:=(restE_sub t.2.1 l).length_le
 have h60:(restE l t.2.1).length + (madeC t hg).length≤60:=by rw [madeC_len]; omega
 have hpr:∀ c∈restE l t.2.1,pCoin c≤1048576:=fun c hc=>hfc.locks c ((restE_sub _ _).subset hc)
 have hpm:∀ c∈madeC t hg,pCoin c≤1048576:=fun c hc=>by
  obtain ⟨k,hk,rfl⟩:=List.mem_iff_getElem.1 hc
  rw [madeC_len] at hk
  rw [madeC_at t hg k hk]
  exact hf.locks _ (List.getElem_mem hk)
 have hlz:(newC l t hg).length≤1048576:=by rw [(newC_perm l t hg).length_eq,List.length_append]; omega
 have hsp:∀ i n,Ret Tryz.prog 221 [.mp i,txV t,iv hg] [(i,.map kks (mapL l))] n true (Is (iv (spendQ l t hg)) [(i,.map kks (mapL l))] n):=fun i n=>by
  rw [← mapF_list h0]; exact spendFault_ret l t hg i n h0 hz h3 hf
 have hex:∀ i n,Ret Tryz.prog 222 [.mp i,txV t] [(i,.map kks (mapL l))] n true (Is (iv (sumV (valsI l t.2.1) - sumV (valsO t.2.2))) [(i,.map kks (mapL l))] n):=fun i n=>by
  rw [← mapF_list h0]; exact excess_ret l t i n h0 hok
 first | refine CallP.is (he _) rfl ?_ | refine CallQ.is (he _) rfl rfl ?_
 refine Goes ?_
 first | refine CallP.is (setOfCoins_ret2 l _ h0 hl) rfl ?_ | refine CallQ.is (setOfCoins_ret2 l _ h0 hl) rfl rfl ?_
 refine Goes ?_
 first | refine CallP.is (coinsMade_fr t hg _ hz hf) rfl ?_ | refine CallQ.is (coinsMade_fr t hg _ hz hf) rfl rfl ?_
 refine Goes ?_
 by_cases hb:t.2.1.length=0
 · have hns:¬ (¬ t.2.1.length=0∧spendQ l t hg≠0):=fun h=>h.1 hb
   have hins:=spendQ_ins hns
   have hpt:∀ c∈takenC l t,pCoin c≤1048576:=fun c hc=>hfc.locks c (takenC_mem hins hc)
   have hfee:feeC l t=0:=by unfold feeC; rw [if_pos hb]
   first | refine CallP.is (isBase_ret t _) rfl ?_ | refine CallQ.is (isBase_ret t _) rfl rfl ?_
   refine Goes ?_;repeat' first|apply W2.m|refine W1.m fun h=>?_
   refine CallP.heapIs (containsHas_ret l (madeC t hg) 3 2 _ (by decide) hlm) rfl ktA rfl ?_
   refine Goes ?_
   cases ha:((madeC t hg).any fun c=>(atC l c.tx c.out).isSome) with
   | true =>
     have hA:applyC l t hg=6:=by unfold applyC; rw [if_neg h1,if_neg h2,if_neg (fun h=>h h3),if_neg hns,if_pos ha]
     refine Goes ?_
     refine FinOk.pure rfl rfl rfl (.inl ⟨by rw [hA]; decide,?_,rfl,rfl⟩)
     rw [hA]
   | false =>
     have hA:applyC l t hg=coinsC (newC l t hg):=by unfold applyC; rw [if_neg h1,if_neg h2,if_neg (fun h=>h h3),if_neg hns,if_neg (by rw [ha]; decide)]
     have hri:=newC_rising (hg:=hg) h0 ha
     refine Goes ?_
     refine CallP.heapIs (take_ret l (takenC l t) t.2.1 2 _ hli (takenC_len l t) hpt (takenC_at hz hins)) rfl ktA rfl ?_
     refine Goes ?_
     refine CallP.heap (listWith_ret (restE l t.2.1) (madeC t hg) (newC l t hg) 2 _ h60 hpr hpm hri (newC_perm l t hg)) rfl ktA rfl ?_
     rintro _ _ _ ⟨x,rfl,rfl,rfl⟩
     refine Goes ?_
     refine CallP.convAIs (implCoinsFault_ret (newC l t hg) _ hlz) ⟨cvNest rfl rfl (fzCoin _) (by simp),trivial⟩ rfl trivial ?_
     by_cases hcz:coinsC (newC l t hg)=0
     · refine Goes ?_;repeat' first|apply W2.m|refine W1.m fun h=>?_
       refine FinOk.mk' [4,5] rfl rfl rfl rfl rfl rfl rfl (.inr ⟨by rw [hA]; exact hcz,?_,rfl,rfl⟩)
       rw [takenC_len,hfee]; rfl
     · refine Goes ?_;repeat' first|apply W2.m|refine W1.m fun h=>?_
       refine FinOk.pure rfl rfl rfl (.inl ⟨by rw [hA]; exact hcz,?_,rfl,rfl⟩)
       rw [hA]
 · have hfee:feeC l t=sumV (valsI l t.2.1) - sumV (valsO t.2.2):=by unfold feeC; rw [if_neg hb]
   by_cases hs:spendQ l t hg=0
   · have hns:¬ (¬ t.2.1.length=0∧spendQ l t hg≠0):=fun h=>h.2 hs
     have hins:=spendQ_ins hns
     have hpt:∀ c∈takenC l t,pCoin c≤1048576:=fun c hc=>hfc.locks c (takenC_mem hins hc)
     first | refine CallP.is (isBase_ret t _) rfl ?_ | refine CallQ.is (isBase_ret t _) rfl rfl ?_
     refine Goes ?_;repeat' first|apply W2.m|refine W1.m fun h=>?_
     refine CallP.heapIs (hsp 2 _) rfl ktA rfl ?_
     refine Goes ?_;repeat' first|apply W2.m|refine W1.m fun h=>?_
     refine CallP.heapIs (hex 2 _) rfl ktA rfl ?_
     refine Goes ?_
     refine CallP.heapIs (containsHas_ret l (madeC t hg) 3 2 _ (by decide) hlm) rfl ktA rfl ?_
     refine Goes ?_
     cases ha:((madeC t hg).any fun c=>(atC l c.tx c.out).isSome) with
     | true =>
       have hA:applyC l t hg=6:=by unfold applyC; rw [if_neg h1,if_neg h2,if_neg (fun h=>h h3),if_neg hns,if_pos ha]
       refine Goes ?_
       refine FinOk.pure rfl rfl rfl (.inl ⟨by rw [hA]; decide,?_,rfl,rfl⟩)
       rw [hA]
     | false =>
       have hA:applyC l t hg=coinsC (newC l t hg):=by unfold applyC; rw [if_neg h1,if_neg h2,if_neg (fun h=>h h3),if_neg hns,if_neg (by rw [ha]; decide)]
       have hri:=newC_rising (hg:=hg) h0 ha
       refine Goes ?_
       refine CallP.heapIs (take_ret l (takenC l t) t.2.1 2 _ hli (takenC_len l t) hpt (takenC_at hz hins)) rfl ktA rfl ?_
       refine Goes ?_
       refine CallP.heap (listWith_ret (restE l t.2.1) (madeC t hg) (newC l t hg) 2 _ h60 hpr hpm hri (newC_perm l t hg)) rfl ktA rfl ?_
       rintro _ _ _ ⟨x,rfl,rfl,rfl⟩
       refine Goes ?_
       refine CallP.convAIs (implCoinsFault_ret (newC l t hg) _ hlz) ⟨cvNest rfl rfl (fzCoin _) (by simp),trivial⟩ rfl trivial ?_
       by_cases hcz:coinsC (newC l t hg)=0
       · refine Goes ?_;repeat' first|apply W2.m|refine W1.m fun h=>?_
         refine FinOk.mk' [4,5] rfl rfl rfl rfl rfl rfl rfl (.inr ⟨by rw [hA]; exact hcz,?_,rfl,rfl⟩)
         rw [takenC_len,hfee]; rfl
       · refine Goes ?_;repeat' first|apply W2.m|refine W1.m fun h=>?_
         refine FinOk.pure rfl rfl rfl (.inl ⟨by rw [hA]; exact hcz,?_,rfl,rfl⟩)
         rw [hA]
   · have hA:applyC l t hg=spendQ l t hg:=by unfold applyC; rw [if_neg h1,if_neg h2,if_neg (fun h=>h h3),if_pos ⟨hb,hs⟩]
     first | refine CallP.is (isBase_ret t _) rfl ?_ | refine CallQ.is (isBase_ret t _) rfl rfl ?_
     refine Goes ?_;repeat' first|apply W2.m|refine W1.m fun h=>?_
     refine CallP.heapIs (hsp 2 _) rfl ktA rfl ?_
     refine Goes ?_;repeat' first|apply W2.m|refine W1.m fun h=>?_
     refine FinOk.pure rfl rfl rfl (.inl ⟨by rw [hA]; exact hs,?_,rfl,rfl⟩)
     rw [hA]
end Go.Proofs.YtllhgcfacgiabaaGreat
namespace Go.Proofs.YtllhgcfacgiabaaGreat
open Go Go.Am Go.RowKit
set_option linter.unusedVariables false
set_option linter.unusedSimpArgs false
abbrev appV (l:List CoinD) (t:TxD) (hg:Int):AV:=.agg [iv 0,iv (feeC l t),coinsV (takenC l t),coinsV (newC l t hg)]
theorem applyC_parts {l:List CoinD} {t:TxD} {hg:Int} (h:applyC l t hg=0):coinsC l=0∧faultC t=0∧inR 0 9999 hg:=by
 unfold applyC at h
 by_cases h1:coinsC l≠0
 · rw [if_pos h1] at h; exact absurd h h1
 rw [if_neg h1] at h
 by_cases h2:faultC t≠0
 · rw [if_pos h2] at h; exact absurd h h2
 rw [if_neg h2] at h
 by_cases h3:inR 0 9999 hg
 · exact ⟨Decidable.not_not.1 h1,Decidable.not_not.1 h2,h3⟩
 · rw [if_pos h3] at h; cases h
theorem implApply_fr (l:List CoinD) (t:TxD) (hg:Int) (n:Nat) (hfc:FitsC l) (hf:Fits t) (hA:applyC l t hg=0):Ret Tryz.prog 178 [coinsV l,txV t,iv hg] [] n true (Is (appV l t hg) [] n):=by
 refine Ret.freeze ?_ (implApply_ret l t hg n hfc hf)
 rintro _ _ _ (⟨h,_⟩ | ⟨_,rfl,rfl,rfl⟩)
 · exact absurd hA h
 · exact ⟨_,.agg _ [iv 0,iv (feeC l t),coinsV (takenC l t),coinsV (newC l t hg)] ⟨fr0 rfl,fr0 rfl,frNest (look_cons_eq _ _ _) (fzCoin _) (by simp),frNest ((look_cons_ne _ _ (by omega)).trans (look_cons_eq _ _ _)) (fzCoin _) (by simp),trivial⟩,rfl,rfl,rfl⟩
theorem implApply_bad (l:List CoinD) (t:TxD) (hg:Int) (n:Nat) (hfc:FitsC l) (hf:Fits t) (hA:applyC l t hg≠0):Ret Tryz.prog 178 [coinsV l,txV t,iv hg] [] n true (Is (coinsBad (applyC l t hg)) [] n):=by
 refine Ret.mono ?_ (implApply_ret l t hg n hfc hf)
 rintro _ _ _ (⟨_,rfl,rfl,rfl⟩ | ⟨h,_⟩)
 · exact ⟨rfl,rfl,rfl⟩
 · exact absurd h hA
end Go.Proofs.YtllhgcfacgiabaaGreat
