import Derived.Test.YtllhgcfacgiabaaGreatLawC
import Derived.Test.YtllhgcfacgiabaaGreatR3
namespace Go.Proofs.YtllhgcfacgiabaaGreat
open Go Go.Am Go.RowKit
set_option linter.unusedVariables false
set_option linter.unusedSimpArgs false
theorem isNaN_ret (a:Int) (n:Nat):Ret Tryz.prog 271 [iv a] [] n true (Is (bv false) [] n):=by
 refine Ret.fn ttOk Tryz.func271 rfl Tryz.call271 rfl rfl ?_
 refine Goes ?_
 refine FinOk.pure rfl rfl rfl ⟨?_,rfl,rfl⟩
 refine bvI ?_
 simp
theorem compare_ret (a b:Int) (n:Nat):Ret Tryz.prog 265 [iv a,iv b] [] n true (Is (iv (cmpI a b)) [] n):=by
 refine Ret.fn ttOk Tryz.func265 rfl Tryz.call265 rfl rfl ?_
 refine Goes ?_
 first | refine CallP.is (isNaN_ret a _) rfl ?_ | refine CallQ.is (isNaN_ret a _) rfl rfl ?_
 refine Goes ?_
 first | refine CallP.is (isNaN_ret b _) rfl ?_ | refine CallQ.is (isNaN_ret b _) rfl rfl ?_
 refine Goes ?_;repeat' first|apply W2.m|refine W1.m fun h=>?_
 all_goals (refine FinOk.pure rfl rfl rfl ⟨?_,rfl,rfl⟩; refine ivI ?_; simp [cmpI, *])
def orF:List Int→Int
 | []=>0
 | x::r=>if x≠0 then x else orF r
theorem orF_at (l:List Int) (k:Nat) (h:k < l.length):orF (l.drop k)=if l[k]≠0 then l[k] else orF (l.drop (k + 1)):=by rw [List.drop_eq_getElem_cons h,orF]
theorem cmpOr_ret (l:List Int) (n:Nat) (hl:l.length≤100):Ret Tryz.prog 264 [il l] [] n true (Is (iv (orF l)) [] n):=by
 have hL:(ivs l).length=l.length:=by simp
 refine Ret.fn ttOk Tryz.func264 rfl Tryz.call264 rfl rfl ?_
 refine Goes ?_
 rw [hL]
 refine LoopP.go (fun k:Nat=>k≤l.length∧orF l=orF (l.drop k)) (fun k=>⟨[(3,iv 0),(6,il l),(7,iv l.length),(8,iv k)],[],0⟩) (fun k=>l.length - k) 0 ⟨Nat.zero_le _,rfl⟩ (Weak.of rfl rfl ktA trivial) ?_
 intro k ⟨hk,hp⟩
 refine Goes ?_;repeat' first|apply W2.m|refine W1.m fun h=>?_
 · have hlt:k < l.length:=by omega
   have hat:=orF_at l k hlt
   rw [rowK iv1 l k (by omega)]
   refine ⟨by (first | exact ⟨by omega,by omega,rfl⟩ | (simp only [List.length_map]; exact ⟨by omega,by omega,rfl⟩)),?_⟩
   refine Goes ?_;repeat' first|apply W2.m|refine W1.m fun h=>?_
   · have h':l[k]≠0:=h
     rw [if_pos h'] at hat
     refine FinOk.pure rfl rfl rfl ⟨?_,rfl,rfl⟩
     rw [hp,hat]
   · have h':¬ l[k]≠0:=h
     rw [if_neg h'] at hat
     exact ⟨k + 1,⟨by omega,by rw [hp,hat]⟩,by omega,(Weak.of rfl rfl ktA trivial)⟩
 · obtain rfl:k=l.length:=by omega
   rw [List.drop_length] at hp
   refine FinOk.pure rfl rfl rfl ⟨?_,rfl,rfl⟩
   rw [hp,orF]
theorem compareCoins_ret (a b:CoinD) (n:Nat):Ret Tryz.prog 252 [coinV a,coinV b] [] n true (Is (iv (cmpC a b)) [] n):=by
 refine Ret.fn ttOk Tryz.func252 rfl Tryz.call252 rfl rfl ?_
 refine Goes ?_
 first | refine CallQ.is (compare_ret a.tx b.tx _) rfl rfl ?_ | refine CallP.is (compare_ret a.tx b.tx _) rfl ?_
 refine Goes ?_
 first | refine CallQ.is (compare_ret a.out b.out _) rfl rfl ?_ | refine CallP.is (compare_ret a.out b.out _) rfl ?_
 refine Goes ?_
 first | refine CallP.is (cmpOr_ret [cmpI a.tx b.tx,cmpI a.out b.out] _ (Nat.le_of_ble_eq_true rfl)) rfl ?_ | refine CallQ.is (cmpOr_ret [cmpI a.tx b.tx,cmpI a.out b.out] _ (Nat.le_of_ble_eq_true rfl)) rfl rfl ?_
 refine Goes ?_
 refine FinOk.pure rfl rfl rfl ⟨?_,rfl,rfl⟩
 refine ivI ?_
 simp only [orF,cmpC]
 split <;> first | rfl | (split <;> first | rfl | omega)
theorem l5Less_ret (a b:CoinD) (n:Nat):Ret Tryz.prog 235 [.rp (coinRow a),.rp (coinRow b)] [] n true (Is (bv (decide (lessP a b))) [] n):=by
 refine Ret.fn ttOk Tryz.func235 rfl Tryz.call235 rfl rfl ?_
 refine Goes ?_;repeat' first|apply W2.m|refine W1.m fun h=>?_
 all_goals (refine FinOk.pure rfl rfl rfl ⟨?_,rfl,rfl⟩; refine bvI ?_; simp [lessP, *])
theorem l5Worth_ret (l:List CoinD) (n:Nat) (hl:l.length≤1048576) (hv:∀ z∈valsC l,inR 0 1000000 z):Ret Tryz.prog 208 [coinsV l] [] n true (Is (iv (sumV (valsC l))) [] n):=by
 have hL:(l.map coinRow).length=l.length:=by simp
 have hV:(valsC l).length=l.length:=by simp
 refine Ret.fn ttOk Tryz.func208 rfl Tryz.call208 rfl rfl ?_
 refine Goes ?_
 refine LoopP.go (fun k:Nat=>k≤l.length) (fun k=>⟨[(0,coinsV l),(3,iv (sumV ((valsC l).take k))),(4,iv k)],[],0⟩) (fun k=>l.length - k) 0 (Nat.zero_le _) (Weak.of rfl rfl ktA trivial) ?_
 intro k hk
 refine Goes ?_;repeat' first|apply W2.m|refine W1.m fun h=>?_
 · have hlt:k < l.length:=by omega
   have hst:=sumV_take (valsC l) k (by omega)
   have hb:=sumV_bd _ (fun z hz=>hv z (List.mem_of_mem_take hz):∀ z∈(valsC l).take (k + 1),inR 0 1000000 z)
   rw [List.length_take] at hb
   rw [rowK coinRow l k hlt]
   refine ⟨by rw [hL]; exact ⟨by omega,by omega,rfl⟩,?_⟩
   refine Goes ?_
   have hg:(valsC l)[k]=l[k].val:=by simp
   rw [hg] at hst
   exact ⟨k + 1,by omega,by omega,Weak.of rfl rfl ⟨⟨rfl,rfl⟩,⟨leafI (by rw [hst] at hb ⊢; rw [IntWalk.i64_in _ (by omega)]),rfl⟩,⟨leafI numA,rfl⟩,trivial⟩ trivial⟩
 · obtain rfl:k=l.length:=by omega
   rw [List.take_of_length_le (by omega)]
   refine FinOk.pure rfl rfl rfl ⟨?_,rfl,rfl⟩
   rfl
theorem l5Fault_ret (l:List CoinD) (n:Nat) (hl:l.length≤1048576):Ret Tryz.prog 207 [coinsV l] [] n true (Is (iv (coinsC l)) [] n):=by
 have hL:(l.map coinRow).length=l.length:=by simp
 refine Ret.fn ttOk Tryz.func207 rfl Tryz.call207 rfl rfl ?_
 refine Goes ?_;repeat' first|apply W2.m|refine W1.m fun h=>?_
 · refine FinOk.pure rfl rfl rfl ⟨?_,rfl,rfl⟩
   unfold coinsC; rw [if_pos (by omega)]
 have g0:¬ 40 < l.length:=by omega
 refine LoopP.go (fun k:Nat=>k≤l.length∧cgC none l=cgC (prevC l k) (l.drop k)∧∀ z∈(valsC l).take k,inR 0 1000000 z) (fun k=>⟨[(0,coinsV l),(3,iv k)],[],0⟩) (fun k=>l.length - k) 0 ⟨Nat.zero_le _,by rw [prevC_zero]; rfl,by simp⟩ (Weak.of rfl rfl ktA trivial) ?_
 intro k ⟨hk,hp,hv⟩
 refine Goes ?_;repeat' first|apply W2.m|refine W1.m fun h=>?_
 · have hlt:k < l.length:=by omega
   have hat:=cgC_at l k hlt
   rw [rowK coinRow l k hlt]
   refine ⟨by rw [hL]; exact ⟨by omega,by omega,rfl⟩,?_⟩
   refine Goes ?_
   have bad:¬ (inR 0 2147483646 l[k].tx∧inR 0 3 l[k].out∧inR 0 1000000 l[k].val∧inR 0 9999 l[k].h)→coinsC l=3:=fun h'=>by
    have:coinC l[k]=3:=by unfold coinC; rw [if_neg h']
    unfold coinsC
    rw [if_neg g0,hp,hat,this]; rfl
   first | refine CallP.is (l1In_ret _ _ _ _) rfl ?_ | refine CallQ.is (l1In_ret _ _ _ _) rfl rfl ?_
   refine Goes ?_;repeat' first|apply W2.m|refine W1.m fun h=>?_
   · have h':¬ inR 0 2147483646 l[k].tx:=h
     refine FinOk.pure rfl rfl rfl ⟨?_,rfl,rfl⟩
     rw [bad (fun e=>h' e.1)]
   have q1:inR 0 2147483646 l[k].tx:=h
   first | refine CallP.is (l1In_ret _ _ _ _) rfl ?_ | refine CallQ.is (l1In_ret _ _ _ _) rfl rfl ?_
   refine Goes ?_;repeat' first|apply W2.m|refine W1.m fun h=>?_
   · have h':¬ inR 0 3 l[k].out:=h
     refine FinOk.pure rfl rfl rfl ⟨?_,rfl,rfl⟩
     rw [bad (fun e=>h' e.2.1)]
   have q2:inR 0 3 l[k].out:=h
   first | refine CallP.is (l1Amount_ret _ _) rfl ?_ | refine CallQ.is (l1Amount_ret _ _) rfl rfl ?_
   refine Goes ?_;repeat' first|apply W2.m|refine W1.m fun h=>?_
   · have h':¬ inR 0 1000000 l[k].val:=h
     refine FinOk.pure rfl rfl rfl ⟨?_,rfl,rfl⟩
     rw [bad (fun e=>h' e.2.2.1)]
   have q3:inR 0 1000000 l[k].val:=h
   first | refine CallP.is (l1In_ret _ _ _ _) rfl ?_ | refine CallQ.is (l1In_ret _ _ _ _) rfl rfl ?_
   refine Goes ?_;repeat' first|apply W2.m|refine W1.m fun h=>?_
   · have h':¬ inR 0 9999 l[k].h:=h
     refine FinOk.pure rfl rfl rfl ⟨?_,rfl,rfl⟩
     rw [bad (fun e=>h' e.2.2.2)]
   have q4:inR 0 9999 l[k].h:=h
   have hc:coinC l[k]=progC l[k].lock:=by unfold coinC; rw [if_pos ⟨q1,q2,q3,q4⟩]
   rw [hc] at hat
   first | refine CallP.is (l2Fault_ret l[k].lock _) rfl ?_ | refine CallQ.is (l2Fault_ret l[k].lock _) rfl rfl ?_
   refine Goes ?_;repeat' first|apply W2.m|refine W1.m fun h=>?_
   · have h':progC l[k].lock≠0:=h
     rw [if_pos h'] at hat
     refine FinOk.pure rfl rfl rfl ⟨?_,rfl,rfl⟩
     unfold coinsC
     rw [if_neg g0,hp,hat,if_pos h']
   · have h':¬ progC l[k].lock≠0:=by assumption
     rw [if_neg h'] at hat
     obtain ⟨j,rfl⟩:∃ j,k=j + 1:=⟨k - 1,by omega⟩
     have hj:j < l.length:=by omega
     rw [show IntKind.i64.wrap (((j + 1:Nat):Int) - 1)=(j:Int) from by rw [IntWalk.i64_in _ (by omega)]; omega,rowK coinRow l j hj]
     refine ⟨by rw [hL]; exact ⟨by omega,by omega,rfl⟩,?_⟩
     refine Goes ?_;repeat' first|apply W2.m|refine W1.m fun h=>?_
     rw [prevC_succ l j hj] at hat
     first | refine CallP.is (l5Less_ret l[j] l[j + 1] _) rfl ?_ | refine CallQ.is (l5Less_ret l[j] l[j + 1] _) rfl rfl ?_
     refine Goes ?_;repeat' first|apply W2.m|refine W1.m fun h=>?_
     · have h2:¬ lessP l[j] l[j + 1]:=h
       rw [if_neg (by simp [ordP,h2])] at hat
       refine FinOk.pure rfl rfl rfl ⟨?_,rfl,rfl⟩
       unfold coinsC
       rw [if_neg g0,hp,prevC_succ l j hj,hat]; rfl
     · have h2:lessP l[j] l[j + 1]:=by assumption
       rw [if_pos (by simp [ordP,h2])] at hat
       exact ⟨j + 1 + 1,⟨by omega,by rw [hp,prevC_succ l j hj,hat],by
        rw [takeS (valsC l) (j + 1) (by simpa using hlt)]
        intro z hz
        rcases List.mem_append.1 hz with hz | hz
        · exact hv z hz
        · simp only [List.mem_singleton,List.getElem_map] at hz; subst hz; exact q3⟩,by omega,(Weak.of rfl rfl ktA trivial)⟩
   · have h':¬ progC l[k].lock≠0:=by assumption
     rw [if_neg h'] at hat
     obtain rfl:k=0:=by omega
     rw [prevC_zero,if_pos (show ordP none l[0]=true from rfl)] at hat
     exact ⟨0 + 1,⟨by omega,by rw [hp,prevC_zero,hat],by
      rw [takeS (valsC l) 0 (by simpa using hlt)]
      intro z hz
      rcases List.mem_append.1 hz with hz | hz
      · exact hv z hz
      · simp only [List.mem_singleton,List.getElem_map] at hz; subst hz; exact q3⟩,by omega,(Weak.of rfl rfl ktA trivial)⟩
 · obtain rfl:k=l.length:=by omega
   rw [cgC_end] at hp
   rw [List.take_of_length_le (by simp)] at hv
   first | refine CallP.is (l5Worth_ret l _ hl hv) rfl ?_ | refine CallQ.is (l5Worth_ret l _ hl hv) rfl rfl ?_
   refine Goes ?_
   first | refine CallP.is (l1Amount_ret _ _) rfl ?_ | refine CallQ.is (l1Amount_ret _ _) rfl rfl ?_
   refine Goes ?_;repeat' first|apply W2.m|refine W1.m fun h=>?_
   · have h':¬ inR 0 1000000 (sumV (valsC l)):=h
     refine FinOk.pure rfl rfl rfl ⟨?_,rfl,rfl⟩
     unfold coinsC; rw [if_neg g0,hp,if_neg h']; rfl
   · have h':inR 0 1000000 (sumV (valsC l)):=h
     refine FinOk.pure rfl rfl rfl ⟨?_,rfl,rfl⟩
     unfold coinsC; rw [if_neg g0,hp,if_pos h']; rfl
theorem cgC_vals:∀ (l:List CoinD) (p:Option CoinD),cgC p l=0→∀ z∈valsC l,inR 0 1000000 z
 | [],p,_=>by simp
 | c::r,p,h=>by
   rw [cgC] at h
   by_cases h1:coinC c≠0
   · rw [if_pos h1] at h; exact absurd h h1
   · rw [if_neg h1] at h
     by_cases h2:ordP p c=true
     · rw [if_pos h2] at h
       intro z hz
       rcases List.mem_cons.1 hz with rfl | hz
       · exact coinC_val h1
       · exact cgC_vals r (some c) h z hz
     · rw [if_neg h2] at h; exact absurd h (by decide)
theorem coinsC_ok {l:List CoinD} (h:coinsC l=0):l.length≤40∧cgC none l=0∧inR 0 1000000 (sumV (valsC l)):=by
 unfold coinsC at h
 split at h
 · exact absurd h (by decide)
 · split at h
   · rename_i h1; exact absurd h h1
   · rename_i h1
     split at h
     · rename_i h2; exact ⟨by omega,Decidable.not_not.1 h1,h2⟩
     · exact absurd h (by decide)
theorem coinFault_ret (c:CoinD) (n:Nat):Ret Tryz.prog 253 [coinV c] [] n true (Is (iv (coinC c)) [] n):=by
 have bad:¬ (inR 0 2147483646 c.tx∧inR 0 3 c.out∧inR 0 1000000 c.val∧inR 0 9999 c.h)→coinC c=3:=fun h'=>by unfold coinC; rw [if_neg h']
 refine Ret.fn ttOk Tryz.func253 rfl Tryz.call253 rfl rfl ?_
 refine Goes ?_
 first | refine CallP.is (isSum_ret _ _) rfl ?_ | refine CallQ.is (isSum_ret _ _) rfl rfl ?_
 refine Goes ?_;repeat' first|apply W2.m|refine W1.m fun h=>?_
 · have h':¬ inR 0 2147483646 c.tx:=h
   refine FinOk.pure rfl rfl rfl ⟨?_,rfl,rfl⟩
   rw [bad (fun e=>h' e.1)]
 have q1:inR 0 2147483646 c.tx:=h
 first | refine CallP.is (isOut_ret _ _) rfl ?_ | refine CallQ.is (isOut_ret _ _) rfl rfl ?_
 refine Goes ?_;repeat' first|apply W2.m|refine W1.m fun h=>?_
 · have h':¬ inR 0 3 c.out:=h
   refine FinOk.pure rfl rfl rfl ⟨?_,rfl,rfl⟩
   rw [bad (fun e=>h' e.2.1)]
 have q2:inR 0 3 c.out:=h
 first | refine CallP.is (valid_ret _ _) rfl ?_ | refine CallQ.is (valid_ret _ _) rfl rfl ?_
 refine Goes ?_;repeat' first|apply W2.m|refine W1.m fun h=>?_
 · have h':¬ inR 0 1000000 c.val:=h
   refine FinOk.pure rfl rfl rfl ⟨?_,rfl,rfl⟩
   rw [bad (fun e=>h' e.2.2.1)]
 have q3:inR 0 1000000 c.val:=h
 first | refine CallP.is (isHeight_ret _ _) rfl ?_ | refine CallQ.is (isHeight_ret _ _) rfl rfl ?_
 refine Goes ?_;repeat' first|apply W2.m|refine W1.m fun h=>?_
 · have h':¬ inR 0 9999 c.h:=h
   refine FinOk.pure rfl rfl rfl ⟨?_,rfl,rfl⟩
   rw [bad (fun e=>h' e.2.2.2)]
 have q4:inR 0 9999 c.h:=h
 first | refine CallP.is (implProgramFault_ret c.lock _) rfl ?_ | refine CallQ.is (implProgramFault_ret c.lock _) rfl rfl ?_
 refine Goes ?_
 refine FinOk.pure rfl rfl rfl ⟨?_,rfl,rfl⟩
 unfold coinC; rw [if_pos ⟨q1,q2,q3,q4⟩]
theorem valuesOf_ret (l:List CoinD) (n:Nat) (hl:l.length≤1048576):Ret Tryz.prog 254 [coinsV l] [] n true (Is (.own n l.length) [(n,.list 2 1 (ivs (valsC l)))] (n + 1)):=by
 have hL:(l.map coinRow).length=l.length:=by simp
 have hV:(valsC l).length=l.length:=by simp
 refine Ret.fn ttOk Tryz.func254 rfl Tryz.call254 rfl rfl ?_
 refine Goes ?_
 rw [hL]
 refine ⟨⟨by omega,by omega,by omega,by show _ * 8≤_; omega⟩,?_⟩
 refine Goes ?_
 rw [hL]
 refine LoopP.go (fun k:Nat=>k≤l.length) (fun k=>⟨[(9,coinsV l),(10,iv l.length),(11,iv k),(3,.own 0 l.length)],[(0,.list 2 1 (ivs (fillZ (valsC l) k)))],1⟩) (fun k=>l.length - k) 0 (Nat.zero_le _) ?_ ?_
 · refine Weak.of rfl rfl ktA ⟨⟨leafO ?_,rfl,rfl⟩,trivial⟩
   rw [fillZ_zero,hV]; simp
 intro k hk
 have hfl:=fillZ_len (valsC l) k (by omega)
 refine Goes ?_;repeat' first|apply W2.m|refine W1.m fun h=>?_
 · have hlt:k < l.length:=by omega
   rw [rowK coinRow l k hlt]
   refine ⟨by rw [hL]; exact ⟨by omega,by omega,rfl⟩,?_⟩
   refine Goes ?_
   refine ⟨by rw [List.length_map]; omega,?_⟩
   refine Goes ?_
   refine ⟨k + 1,by omega,by omega,Weak.of rfl rfl ktA ⟨⟨leafO ?_,rfl,rfl⟩,trivial⟩⟩
   have e:(valsC l)[k]'(by omega)=l[k].val:=by simp
   rw [← e,← fillZ_set (valsC l) k (by omega)]
   exact setRow _ k _ (by omega) _ rfl
 · obtain rfl:k=l.length:=by omega
   have:=fillZ_all (valsC l)
   rw [hV] at this
   rw [this]
   refine FinOk.mk' [0] rfl rfl rfl rfl rfl rfl rfl ⟨?_,?_,rfl⟩
   · rfl
   · rfl
theorem valuesOf_fr (l:List CoinD) (n:Nat) (hl:l.length≤1048576):Ret Tryz.prog 254 [coinsV l] [] n true (Is (il (valsC l)) [] n) :=
 Ret.freeze (by rintro _ _ _ ⟨rfl,rfl,rfl⟩; exact ⟨_,frCell (look_cons_eq _ _ _) (by simp),rfl,rfl,rfl⟩) (valuesOf_ret l n hl)
theorem implCoinsFault_ret (l:List CoinD) (n:Nat) (hl:l.length≤1048576):Ret Tryz.prog 227 [coinsV l] [] n true (Is (iv (coinsC l)) [] n):=by
 have hL:(l.map coinRow).length=l.length:=by simp
 refine Ret.fn ttOk Tryz.func227 rfl Tryz.call227 rfl rfl ?_
 refine Goes ?_;repeat' first|apply W2.m|refine W1.m fun h=>?_
 · refine FinOk.pure rfl rfl rfl ⟨?_,rfl,rfl⟩
   unfold coinsC; rw [if_pos (by omega)]
 have g0:¬ 40 < l.length:=by omega
 rw [hL]
 refine LoopP.go (fun k:Nat=>k≤l.length∧cgC none l=cgC (prevC l k) (l.drop k)) (fun k=>⟨[(0,coinsV l),(9,coinsV l),(10,iv l.length),(11,iv k)],[],0⟩) (fun k=>l.length - k) 0 ⟨Nat.zero_le _,by rw [prevC_zero]; rfl⟩ (Weak.of rfl rfl ktA trivial) ?_
 intro k ⟨hk,hp⟩
 refine Goes ?_;repeat' first|apply W2.m|refine W1.m fun h=>?_
 · have hlt:k < l.length:=by omega
   have hat:=cgC_at l k hlt
   rw [rowK coinRow l k hlt]
   refine ⟨by rw [hL]; exact ⟨by omega,by omega,rfl⟩,?_⟩
   refine Goes ?_
   first | refine CallP.is (coinFault_ret l[k] _) rfl ?_ | refine CallQ.is (coinFault_ret l[k] _) rfl rfl ?_
   refine Goes ?_;repeat' first|apply W2.m|refine W1.m fun h=>?_
   · have h':coinC l[k]≠0:=h
     rw [if_pos h'] at hat
     refine FinOk.pure rfl rfl rfl ⟨?_,rfl,rfl⟩
     unfold coinsC
     rw [if_neg g0,hp,hat,if_pos h']
   · have h':¬ coinC l[k]≠0:=by assumption
     rw [if_neg h'] at hat
     obtain ⟨j,rfl⟩:∃ j,k=j + 1:=⟨k - 1,by omega⟩
     have hj:j < l.length:=by omega
     rw [show IntKind.i64.wrap (((j + 1:Nat):Int) - 1)=(j:Int) from by rw [IntWalk.i64_in _ (by omega)]; omega,rowK coinRow l j hj]
     refine ⟨by rw [hL]; exact ⟨by omega,by omega,rfl⟩,?_⟩
     refine Goes ?_;repeat' first|apply W2.m|refine W1.m fun h=>?_
     rw [prevC_succ l j hj] at hat
     first | refine CallP.is (compareCoins_ret l[j] l[j + 1] _) rfl ?_ | refine CallQ.is (compareCoins_ret l[j] l[j + 1] _) rfl rfl ?_
     refine Goes ?_;repeat' first|apply W2.m|refine W1.m fun h=>?_
     · have h2:¬ lessP l[j] l[j + 1]:=fun e=>(cmpC_less _ _).2 e h
       rw [if_neg (by simp [ordP,h2])] at hat
       refine FinOk.pure rfl rfl rfl ⟨?_,rfl,rfl⟩
       unfold coinsC
       rw [if_neg g0,hp,prevC_succ l j hj,hat]; rfl
     · have h2:lessP l[j] l[j + 1]:=(cmpC_less _ _).1 h
       rw [if_pos (by simp [ordP,h2])] at hat
       exact ⟨j + 1 + 1,⟨by omega,by rw [hp,prevC_succ l j hj,hat]⟩,by omega,(Weak.of rfl rfl ktA trivial)⟩
   · have h':¬ coinC l[k]≠0:=by assumption
     rw [if_neg h'] at hat
     obtain rfl:k=0:=by omega
     rw [prevC_zero,if_pos (show ordP none l[0]=true from rfl)] at hat
     exact ⟨0 + 1,⟨by omega,by rw [hp,prevC_zero,hat]⟩,by omega,(Weak.of rfl rfl ktA trivial)⟩
 · obtain rfl:k=l.length:=by omega
   rw [cgC_end] at hp
   first | refine CallP.is (valuesOf_fr l _ hl) rfl ?_ | refine CallQ.is (valuesOf_fr l _ hl) rfl rfl ?_
   refine Goes ?_
   have ht:=fun n=>implTotalOf_ret (valsC l) n (cgC_vals l none hp) (by simp; omega)
   by_cases hm:inR 0 1000000 (sumV (valsC l))
   · simp only [if_pos hm] at ht
     first | refine CallP.is (ht _) rfl ?_ | refine CallQ.is (ht _) rfl rfl ?_
     refine Goes ?_
     refine FinOk.pure rfl rfl rfl ⟨?_,rfl,rfl⟩
     unfold coinsC; rw [if_neg g0,hp,if_pos hm]; rfl
   · simp only [if_neg hm] at ht
     first | refine CallP.is (ht _) rfl ?_ | refine CallQ.is (ht _) rfl rfl ?_
     refine Goes ?_
     refine FinOk.pure rfl rfl rfl ⟨?_,rfl,rfl⟩
     unfold coinsC; rw [if_neg g0,hp,if_neg hm]; rfl
theorem keyOfCoin_ret (c:CoinD) (n:Nat):Ret Tryz.prog 246 [coinV c] [] n true (Is (.agg [iv c.tx,iv c.out]) [] n):=by
 refine Ret.fn ttOk Tryz.func246 rfl Tryz.call246 rfl rfl ?_
 refine Goes ?_
 refine FinOk.pure rfl rfl rfl ⟨?_,rfl,rfl⟩
 rfl
end Go.Proofs.YtllhgcfacgiabaaGreat
