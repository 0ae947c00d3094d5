import Derived.Test.YtllhgcfacgiabaaGreatP5
import Derived.Test.YtllhgcfacgiabaaGreatP74
import Derived.Test.YtllhgcfacgiabaaGreatP20
namespace Go.Proofs.YtllhgcfacgiabaaGreat
open Go Go.Am Go.RowKit
set_option linter.unusedVariables false
set_option linter.unusedSimpArgs false
theorem l2Run_ret (p s:List Int) (t u:Int) (n:Nat) (hp:opsB p=true) (hpl:p.length≤12) (hl:s.length≤8) (hs:allB 0 9999 s=true):Ret Tryz.prog 272 [il p,il s,iv t,iv u] [] n true (StQ n (run2 t u p s)):=by
 refine Ret.fn ttOk Tryz.func272 rfl Tryz.call272 rfl rfl ?_
 refine Goes ?_
 first | refine CallP.is (l1Ints_ret s _ (by omega)) rfl ?_ | refine CallQ.is (l1Ints_ret s _ (by omega)) rfl rfl ?_
 refine Goes ?_
 refine LoopP.go (fun y:Nat × List Int=>y.1≤p.length∧y.2.length≤8∧allB 0 9999 y.2=true∧run2 t u p s=run2 t u (p.drop y.1) y.2)
  (fun y=>⟨[(0,il p),(2,iv t),(3,iv u),(10,.own 0 y.2.length),(11,iv y.1)],[(0,.list 2 1 (ivs y.2))],1⟩) (fun y=>p.length - y.1) (0,s) ⟨Nat.zero_le _,hl,hs,by rw [List.drop_zero]⟩ ?_ ?_
 · exact Weak.of rfl rfl ktA ktA
 rintro ⟨k,s'⟩ ⟨hk,hl',hs',hr⟩
 dsimp only at hk hl' hs' hr ⊢
 refine Goes ?_;repeat' first|apply W2.m|refine W1.m fun h=>?_
 · simp only [List.length_map] at h
   have hlt:k < p.length:=by omega
   rw [rowK iv1 p k (by omega)]
   refine ⟨by (first | exact ⟨by omega,by omega,rfl⟩ | (simp only [List.length_map]; exact ⟨by omega,by omega,rfl⟩)),?_⟩
   refine Goes ?_
   have hst:=l2Step_ret p[k] s' t u 1 (opsB_at hp hlt) hl' hs'
   rw [List.drop_eq_getElem_cons hlt,run2] at hr
   refine CallP.conv hst (by show [iv p[k],AV.lst (List.take s'.length (ivs s')),iv t,iv u]=_; rw [takeI]) (by repeat' first | exact trivial | exact Nat.le_refl _ | (show _≤List.length _; exact lenA) | refine And.intro ?_ ?_) ?_
   rintro r ho m hq
   rcases hq with ⟨hc,rfl,rfl,rfl⟩ | ⟨hc,rfl,rfl,rfl⟩
   · refine ⟨⟨rfl,flat_ivs _,trivial⟩,?_⟩
     rw [if_pos hc] at hr
     obtain ⟨g1,g2⟩:=step2_ok (opsB_at hp hlt) hl' hs' hc
     refine Goes ?_
     refine ⟨(k + 1,(step2 p[k] s' t u).2),⟨by show k + 1≤_; omega,g1,g2,hr⟩,by show _ - (k + 1) < _ - k; omega,?_⟩
     exact Weak.ren [1] rfl rfl ktA ktA
   · refine ⟨⟨rfl,trivial⟩,?_⟩
     rw [if_neg hc] at hr
     refine Goes ?_;repeat' first|apply W2.m|refine W1.m fun h=>?_
     rw [hr]
     exact FinOk.mk' [] rfl rfl rfl rfl rfl rfl rfl (.inr ⟨hc,rfl,rfl,rfl⟩)
 · simp only [List.length_map] at h
   obtain rfl:k=p.length:=by omega
   rw [List.drop_length,run2] at hr
   rw [hr]
   exact FinOk.mk' [0] rfl rfl rfl rfl rfl rfl rfl (.inl ⟨rfl,rfl,rfl,rfl⟩)
theorem specRun_bad (p s:List Int) (t u:Int) (n:Nat) (hbad:runC p s t u≠0):Ret Tryz.prog 266 [il p,il s,iv t,iv u] [] n true (Is (.agg [iv (runC p s t u),nl]) [] n):=by
 refine Ret.fn ttOk Tryz.func266 rfl Tryz.call266 rfl rfl ?_
 refine Goes ?_
 have hL:(ivs s).length=s.length:=by simp
 first | refine CallP.is (l2Fault_ret _ _) rfl ?_ | refine CallQ.is (l2Fault_ret _ _) rfl rfl ?_
 refine Goes ?_;repeat' first|apply W2.m|refine W1.m fun h=>?_
 · have h1:¬ progC p=0:=by assumption
   refine FinOk.pure rfl rfl rfl ⟨?_,rfl,rfl⟩
   unfold runC; rw [if_neg h1]
 · have h1:progC p=0:=by omega
   have h2:8 < s.length:=by omega
   refine FinOk.pure rfl rfl rfl ⟨?_,rfl,rfl⟩
   unfold runC stackC; rw [if_pos h1,if_pos h2]; rfl
 have h1:progC p=0:=by omega
 have h2:¬ 8 < s.length:=by omega
 have ha:=l1All_ret s 0 9999
 cases h3:allB 0 9999 s with
 | false =>
   rw [h3] at ha
   first | refine CallP.is (ha _ (by omega)) rfl ?_ | refine CallQ.is (ha _ (by omega)) rfl rfl ?_
   refine Goes ?_
   refine FinOk.pure rfl rfl rfl ⟨?_,rfl,rfl⟩
   unfold runC stackC; rw [if_pos h1,if_neg h2,h3]; rfl
 | true =>
   rw [h3] at ha
   first | refine CallP.is (ha _ (by omega)) rfl ?_ | refine CallQ.is (ha _ (by omega)) rfl rfl ?_
   refine Goes ?_
   have h4:stackC s=0:=by unfold stackC; rw [if_neg h2,h3]; rfl
   first | refine CallP.is (l1In_ret _ _ _ _) rfl ?_ | refine CallQ.is (l1In_ret _ _ _ _) rfl rfl ?_
   refine Goes ?_;repeat' first|apply W2.m|refine W1.m fun h=>?_
   · have h5:¬ inR 0 2147483646 t:=by assumption
     refine FinOk.pure rfl rfl rfl ⟨?_,rfl,rfl⟩
     unfold runC; rw [if_pos h1,if_pos h4,if_neg (fun h'=>h5 h'.1)]
   have h5:inR 0 2147483646 t:=by assumption
   first | refine CallP.is (l1In_ret _ _ _ _) rfl ?_ | refine CallQ.is (l1In_ret _ _ _ _) rfl rfl ?_
   refine Goes ?_;repeat' first|apply W2.m|refine W1.m fun h=>?_
   · have h6:¬ inR 0 9999 u:=by assumption
     refine FinOk.pure rfl rfl rfl ⟨?_,rfl,rfl⟩
     unfold runC; rw [if_pos h1,if_pos h4,if_neg (fun h'=>h6 h'.2)]
   · have h6:inR 0 9999 u:=by assumption
     exfalso
     refine absurd ?_ hbad
     unfold runC; rw [if_pos h1,if_pos h4,if_pos ⟨h5,h6⟩]
theorem specRun_ret (p s:List Int) (t u:Int) (n:Nat) (h:runC p s t u=0):Ret Tryz.prog 266 [il p,il s,iv t,iv u] [] n true (RunQ (run2 t u p s) n):=by
 obtain ⟨h1,h2,h3,h4,h5,h6⟩:=runC_ok h
 have hpc:progC p=0:=by unfold progC; rw [if_neg (by omega),if_pos h2]
 have hf:=l2Fault_ret p
 rw [hpc] at hf
 have ha:=l1All_ret s 0 9999
 rw [h4] at ha
 have hL:(ivs s).length=s.length:=by simp
 refine Ret.fn ttOk Tryz.func266 rfl Tryz.call266 rfl rfl ?_
 refine Goes ?_
 first | refine CallP.is (hf _) rfl ?_ | refine CallQ.is (hf _) rfl rfl ?_
 refine Goes ?_;repeat' first|apply W2.m|refine W1.m fun h=>?_
 first | refine CallP.is (ha _ (by omega)) rfl ?_ | refine CallQ.is (ha _ (by omega)) rfl rfl ?_
 refine Goes ?_
 first | refine CallP.is (l1In_ret _ _ _ _) rfl ?_ | refine CallQ.is (l1In_ret _ _ _ _) rfl rfl ?_
 refine Goes ?_;repeat' first|apply W2.m|refine W1.m fun h=>?_
 first | refine CallP.is (l1In_ret _ _ _ _) rfl ?_ | refine CallQ.is (l1In_ret _ _ _ _) rfl rfl ?_
 refine Goes ?_;repeat' first|apply W2.m|refine W1.m fun h=>?_
 refine CallP.pure (l2Run_ret p s t u _ h2 h1 h3 h4) rfl ?_
 rintro r ho m hq
 rcases hq with ⟨hc,rfl,rfl,rfl⟩ | ⟨hc,rfl,rfl,rfl⟩
 · refine Goes ?_
   exact FinOk.mk' [1] rfl rfl rfl rfl rfl rfl rfl (.inl ⟨hc,rfl,rfl,rfl⟩)
 · refine Goes ?_
   exact FinOk.mk' [] rfl rfl rfl rfl rfl rfl rfl (.inr ⟨hc,rfl,rfl,rfl⟩)
def topB (x:Int × List Int):Bool:=decide (x.1=0)&&(decide (0 < x.2.length)&&!decide (x.2.getD (x.2.length - 1) 0=0))
def opensB (p s:List Int) (t u:Int):Bool:=decide (runC p s t u=0)&&topB (run2 t u p s)
theorem run2_len (t u:Int):∀ (p s:List Int),opsB p=true→s.length≤8→allB 0 9999 s=true→(run2 t u p s).2.length≤8
 | [],s,_,hl,_=>hl
 | op::p,s,hp,hl,hs=>by
   have hop:opB op=true∧opsB p=true:=by unfold opsB at *; rw [List.all_cons,Bool.and_eq_true] at hp; exact hp
   rw [run2]
   split
   · rename_i h
     obtain ⟨g1,g2⟩:=step2_ok hop.1 hl hs h
     exact run2_len t u p _ hop.2 g1 g2
   · simp
theorem implOpens_ret (p s:List Int) (t u:Int) (n:Nat):Ret Tryz.prog 248 [il p,il s,iv t,iv u] [] n true (Is (bv (opensB p s t u)) [] n):=by
 by_cases h:runC p s t u=0
 · have hI:=fun n=>implRun_ret p s t u n h
   unfold opensB
   rw [decide_eq_true h,Bool.true_and]
   have hlen:(run2 t u p s).2.length≤8:=by
    obtain ⟨_,h2,h3,h4,_,_⟩:=runC_ok h
    exact run2_len t u p s h2 h3 h4
   generalize run2 t u p s=xx at hI hlen ⊢
   obtain ⟨c0,l⟩:=xx
   refine Ret.fn ttOk Tryz.func248 rfl Tryz.call248 rfl rfl ?_
   refine Goes ?_
   refine CallP.pure (hI _) rfl ?_
   rintro r ho m hq
   rcases hq with ⟨hc,rfl,rfl,rfl⟩ | ⟨hc,rfl,rfl,rfl⟩
   · dsimp only at hc ⊢
     subst hc
     rcases List.eq_nil_or_concat l with rfl | ⟨l1,x,rfl⟩
     · refine Goes ?_
       refine FinOk.pure rfl rfl rfl ⟨?_,rfl,rfl⟩
       rfl
     rw [List.concat_eq_append] at *
     dsimp only at hlen
     have hL:(l1++[x]).length=l1.length + 1:=by simp
     have htop:topB (0,l1++[x])=!decide (x=0):=by
      unfold topB; simp [List.getD_eq_getElem?_getD]
     rw [htop]
     have hw:IntKind.i64.wrap (((l1++[x]).length:Int) - 1)=(l1.length:Int):=lenS l1 x (by omega)
     refine Goes ?_;repeat' first|apply W2.m|refine W1.m fun h=>?_
     simp only [hw]
     rw [getL0]
     refine ⟨by simp,?_⟩
     refine Goes ?_
     refine FinOk.pure rfl rfl rfl ⟨?_,rfl,rfl⟩
     refine bvI ?_
     by_cases hx:x=0 <;> simp [hx]
   · dsimp only at hc ⊢
     have htop:topB (c0,l)=false:=by unfold topB; rw [decide_eq_false hc]; rfl
     rw [htop]
     refine Goes ?_;repeat' first|apply W2.m|refine W1.m fun h=>?_
     all_goals first
      | (refine FinOk.pure rfl rfl rfl ⟨?_,rfl,rfl⟩; rfl)
      | (exfalso; exact hc (by first | assumption | omega))
 · refine Ret.fn ttOk Tryz.func248 rfl Tryz.call248 rfl rfl ?_
   refine Goes ?_
   first | refine CallP.is (implRun_bad p s t u _ h) rfl ?_ | refine CallQ.is (implRun_bad p s t u _ h) rfl rfl ?_
   refine Goes ?_;repeat' first|apply W2.m|refine W1.m fun h=>?_
   refine FinOk.pure rfl rfl rfl ⟨?_,rfl,rfl⟩
   refine bvI ?_
   unfold opensB; rw [decide_eq_false h]; rfl
theorem l2Opens_ret (p s:List Int) (t u:Int) (n:Nat):Ret Tryz.prog 258 [il p,il s,iv t,iv u] [] n true (Is (bv (opensB p s t u)) [] n):=by
 by_cases h:runC p s t u=0
 · have hI:=fun n=>specRun_ret p s t u n h
   unfold opensB
   rw [decide_eq_true h,Bool.true_and]
   have hlen:(run2 t u p s).2.length≤8:=by
    obtain ⟨_,h2,h3,h4,_,_⟩:=runC_ok h
    exact run2_len t u p s h2 h3 h4
   generalize run2 t u p s=xx at hI hlen ⊢
   obtain ⟨c0,l⟩:=xx
   refine Ret.fn ttOk Tryz.func258 rfl Tryz.call258 rfl rfl ?_
   refine Goes ?_
   refine CallP.pure (hI _) rfl ?_
   rintro r ho m hq
   rcases hq with ⟨hc,rfl,rfl,rfl⟩ | ⟨hc,rfl,rfl,rfl⟩
   · dsimp only at hc ⊢
     subst hc
     rcases List.eq_nil_or_concat l with rfl | ⟨l1,x,rfl⟩
     · refine Goes ?_
       refine FinOk.pure rfl rfl rfl ⟨?_,rfl,rfl⟩
       rfl
     rw [List.concat_eq_append] at *
     dsimp only at hlen
     have hL:(l1++[x]).length=l1.length + 1:=by simp
     have htop:topB (0,l1++[x])=!decide (x=0):=by
      unfold topB; simp [List.getD_eq_getElem?_getD]
     rw [htop]
     have hw:IntKind.i64.wrap (((l1++[x]).length:Int) - 1)=(l1.length:Int):=lenS l1 x (by omega)
     refine Goes ?_;repeat' first|apply W2.m|refine W1.m fun h=>?_
     simp only [hw]
     rw [getL0]
     refine ⟨by simp,?_⟩
     refine Goes ?_;repeat' first|apply W2.m|refine W1.m fun h=>?_
     refine FinOk.pure rfl rfl rfl ⟨?_,rfl,rfl⟩
     refine bvI ?_
     by_cases hx:x=0 <;> simp [hx]
   · dsimp only at hc ⊢
     have htop:topB (c0,l)=false:=by unfold topB; rw [decide_eq_false hc]; rfl
     rw [htop]
     refine Goes ?_;repeat' first|apply W2.m|refine W1.m fun h=>?_
     all_goals first
      | (refine FinOk.pure rfl rfl rfl ⟨?_,rfl,rfl⟩; rfl)
      | (exfalso; exact hc (by first | assumption | omega))
 · refine Ret.fn ttOk Tryz.func258 rfl Tryz.call258 rfl rfl ?_
   refine Goes ?_
   first | refine CallP.is (specRun_bad p s t u _ h) rfl ?_ | refine CallQ.is (specRun_bad p s t u _ h) rfl rfl ?_
   refine Goes ?_;repeat' first|apply W2.m|refine W1.m fun h=>?_
   refine FinOk.pure rfl rfl rfl ⟨?_,rfl,rfl⟩
   refine bvI ?_
   unfold opensB; rw [decide_eq_false h]; rfl
end Go.Proofs.YtllhgcfacgiabaaGreat
namespace Go.Proofs.YtllhgcfacgiabaaGreat
open Go Go.Am Go.RowKit
set_option linter.unusedVariables false
set_option linter.unusedSimpArgs false
theorem keyOfIn_ret (x:InD) (n:Nat):Ret Tryz.prog 247 [.agg (inRow x)] [] n true (Is (.agg [iv x.1,iv x.2.1]) [] n):=by
 refine Ret.fn ttOk Tryz.func247 rfl Tryz.call247 rfl rfl ?_
 refine Goes ?_
 refine FinOk.pure rfl rfl rfl ⟨?_,rfl,rfl⟩
 rfl
def valAt (l:List CoinD) (x:InD):Int:=match atC l x.1 x.2.1 with | some c=>c.val | none=>0
abbrev valsI (l:List CoinD) (xs:List InD):List Int:=xs.map (valAt l)
abbrev valsO (ys:List OutD):List Int:=ys.map (·.1)
theorem valAt_bd {l:List CoinD} (h:coinsC l=0) (x:InD):inR 0 1000000 (valAt l x):=by
 unfold valAt
 cases ha:atC l x.1 x.2.1 with
 | none=>exact ⟨by decide,by decide⟩
 | some c=>exact cgC_vals l none (coinsC_ok h).2.1 _ (List.mem_map_of_mem (List.mem_of_find?_eq_some ha))
theorem sumV_toC (c:Int) (l:List Int) (h:∀ z∈l,inR 0 c z):∀ k,k≤l.length→0≤sumV (l.take k)∧sumV (l.take k)≤c * k
 | 0,_=>by simp [sumV]
 | k + 1,hk=>by
   have h1:=sumV_toC c l h k (by omega)
   have h2:=h l[k] (List.getElem_mem hk)
   rw [sumV_take l k hk]
   unfold inR at h2
   have:c * ((k + 1:Nat):Int)=c * k + c:=by push_cast; rw [Int.mul_add]; omega
   omega
theorem excess_ret (l:List CoinD) (t:TxD) (i n:Nat) (h0:coinsC l=0) (hok:okT t):Ret Tryz.prog 222 [.mp i,txV t] [(i,.map kks (mapF l))] n true (Is (iv (sumV (valsI l t.2.1) - sumV (valsO t.2.2))) [(i,.map kks (mapF l))] n):=by
 obtain ⟨_,hl1,hl2,_,hoo⟩:=hok
 have hL1:(t.2.1.map inRow).length=t.2.1.length:=by simp
 have hL2:(t.2.2.map outRow).length=t.2.2.length:=by simp
 have hb1:=sumV_toC 1000000 (valsI l t.2.1) (fun z hz=>by obtain ⟨x,_,rfl⟩:=List.mem_map.1 hz; exact valAt_bd h0 x)
 have hb2:=sumV_toC 2147483646 (valsO t.2.2) (fun z hz=>by obtain ⟨y,hy,rfl⟩:=List.mem_map.1 hz; exact (hoo y hy).1)
 refine Ret.of_run (tt:=tt) ttOk Tryz.func222 rfl Tryz.call222 [i] [.map kks (mapF l)] [.mp 0,txV t] true n _ rfl (nodup1 i) (by exact Nat.le_of_ble_eq_true rfl) rfl rfl ?_
 refine Goes ?_
 refine LoopP.go (fun k:Nat=>k≤t.2.1.length) (fun k=>⟨[(0,.mp 0),(3,.pt 1 0 0),(5,iv (sumV ((valsI l t.2.1).take k))),(11,insV t.2.1),(12,iv t.2.1.length),(13,iv k)],[(0,.map kks (mapF l)),(1,.box (txC t))],2⟩) (fun k=>t.2.1.length - k) 0 (Nat.zero_le _) ?_ ?_
 · rw [hL1]
   exact Weak.of rfl rfl ⟨⟨rfl,rfl⟩,⟨rfl,rfl⟩,⟨rfl,rfl⟩,⟨rfl,rfl⟩,⟨rfl,rfl⟩,⟨rfl,rfl⟩,trivial⟩ ⟨⟨rfl,rfl,rfl⟩,⟨rfl,rfl,rfl⟩,trivial⟩
 intro k hk
 refine Goes ?_;repeat' first|apply W2.m|refine W1.m fun h=>?_
 · have hlt:k < t.2.1.length:=by omega
   have b1:=hb1 k (by simpa using hk)
   have b2:=hb1 (k + 1) (by simp; omega)
   have hst:=sumV_take (valsI l t.2.1) k (by simpa using hlt)
   rw [List.getElem_map] at hst
   rw [rowK inRow t.2.1 k hlt]
   refine ⟨by rw [hL1]; exact ⟨by omega,by omega,rfl⟩,?_⟩
   refine Goes ?_
   first | refine CallP.is (keyOfIn_ret t.2.1[k] _) rfl ?_ | refine CallQ.is (keyOfIn_ret t.2.1[k] _) rfl rfl ?_
   refine Goes ?_
   rw [mapF_at h0]
   have fin:IntKind.i64.wrap (sumV ((valsI l t.2.1).take k) + valAt l t.2.1[k])=sumV ((valsI l t.2.1).take (k + 1)):=by rw [hst,IntWalk.i64_in _ (by omega)]
   cases ha:atC l t.2.1[k].1 t.2.1[k].2.1 with
   | none =>
     have hv:valAt l t.2.1[k]=0:=by unfold valAt; rw [ha]
     refine ⟨True.intro,?_⟩
     refine Goes ?_
     exact ⟨k + 1,by omega,by omega,Weak.of rfl rfl ⟨⟨rfl,rfl⟩,⟨rfl,rfl⟩,⟨leafI (by rw [← fin,hv]),rfl⟩,⟨rfl,rfl⟩,⟨rfl,rfl⟩,⟨leafI numA,rfl⟩,trivial⟩ ⟨⟨rfl,rfl,rfl⟩,⟨rfl,rfl,rfl⟩,trivial⟩⟩
   | some c =>
     have hv:valAt l t.2.1[k]=c.val:=by unfold valAt; rw [ha]
     refine ⟨True.intro,?_⟩
     refine Goes ?_
     exact ⟨k + 1,by omega,by omega,Weak.of rfl rfl ⟨⟨rfl,rfl⟩,⟨rfl,rfl⟩,⟨leafI (by rw [← fin,hv]),rfl⟩,⟨rfl,rfl⟩,⟨rfl,rfl⟩,⟨leafI numA,rfl⟩,trivial⟩ ⟨⟨rfl,rfl,rfl⟩,⟨rfl,rfl,rfl⟩,trivial⟩⟩
 · obtain rfl:k=t.2.1.length:=by omega
   rw [List.take_of_length_le (by simp)]
   have bi:=hb1 t.2.1.length (by simp)
   rw [List.take_of_length_le (by simp)] at bi
   rw [hL2]
   generalize hsi:sumV (valsI l t.2.1)=si at *
   refine LoopP.go (fun k:Nat=>k≤t.2.2.length) (fun k=>⟨[(0,.mp 0),(5,iv (si - sumV ((valsO t.2.2).take k))),(26,outsV t.2.2),(27,iv t.2.2.length),(28,iv k)],[(0,.map kks (mapF l))],1⟩) (fun k=>t.2.2.length - k) 0 (Nat.zero_le _) ?_ ?_
   · exact Weak.of rfl rfl ⟨⟨rfl,rfl⟩,⟨leafI (by simp [sumV]),rfl⟩,⟨rfl,rfl⟩,⟨rfl,rfl⟩,⟨rfl,rfl⟩,trivial⟩ ⟨⟨rfl,rfl,rfl⟩,trivial⟩
   intro j hj
   refine Goes ?_;repeat' first|apply W2.m|refine W1.m fun h=>?_
   · have hlt:j < t.2.2.length:=by omega
     have c1:=hb2 j (by simpa using hj)
     have c2:=hb2 (j + 1) (by simp; omega)
     have hsj:=sumV_take (valsO t.2.2) j (by simpa using hlt)
     rw [List.getElem_map] at hsj
     rw [rowK outRow t.2.2 j hlt]
     refine ⟨by rw [hL2]; exact ⟨by omega,by omega,rfl⟩,?_⟩
     refine Goes ?_
     exact ⟨j + 1,by omega,by omega,Weak.of rfl rfl ⟨⟨rfl,rfl⟩,⟨leafI (by rw [IntWalk.i64_in _ (by omega)]; omega),rfl⟩,⟨rfl,rfl⟩,⟨rfl,rfl⟩,⟨leafI numA,rfl⟩,trivial⟩ ⟨⟨rfl,rfl,rfl⟩,trivial⟩⟩
   · obtain rfl:j=t.2.2.length:=by omega
     rw [List.take_of_length_le (by simp)]
     refine FinOk.mk' [] rfl rfl rfl rfl rfl rfl rfl ⟨?_,?_,rfl⟩
     · rfl
     · rfl
def inQ (l:List CoinD) (text h:Int) (x:InD):Int:=match atC l x.1 x.2.1 with
 | none=>4
 | some c=>if c.base=true∧h < c.h + 2 then 9 else if opensB c.lock x.2.2 text h=true then 0 else 8
def insQ (l:List CoinD) (text h:Int):List InD→Int
 | []=>0
 | x::r=>if inQ l text h x≠0 then inQ l text h x else insQ l text h r
def spendQ (l:List CoinD) (t:TxD) (h:Int):Int:=if insQ l (textOf t) h t.2.1≠0 then insQ l (textOf t) h t.2.1 else if sumV (valsI l t.2.1) < sumV (valsO t.2.2) then 7 else 0
theorem insQ_at (l:List CoinD) (text h:Int) (xs:List InD) (k:Nat) (hk:k < xs.length):insQ l text h (xs.drop k)=if inQ l text h xs[k]≠0 then inQ l text h xs[k] else insQ l text h (xs.drop (k + 1)):=by
 rw [List.drop_eq_getElem_cons hk,insQ]
theorem coin_h {l:List CoinD} (h0:coinsC l=0) {c:CoinD} (hc:c∈l):inR 0 9999 c.h:=by
 have:∀ (l:List CoinD) (p:Option CoinD),cgC p l=0→∀ c∈l,inR 0 9999 c.h:=by
  intro l
  induction l with
  | nil=>intro p _ c hc; cases hc
  | cons d r ih =>
    intro p hp c hc
    rw [cgC] at hp
    by_cases h1:coinC d≠0
    · rw [if_pos h1] at hp; exact absurd hp h1
    · rw [if_neg h1] at hp
      by_cases h2:ordP p d=true
      · rw [if_pos h2] at hp
        rcases List.mem_cons.1 hc with rfl | hc
        · unfold coinC at h1
          split at h1
          · rename_i h'; exact h'.2.2.2
          · simp at h1
        · exact ih _ hp c hc
      · rw [if_neg h2] at hp; cases hp
 exact this l none (coinsC_ok h0).2.1 c hc
theorem spendFault_ret (l:List CoinD) (t:TxD) (hg:Int) (i n:Nat) (h0:coinsC l=0) (hz:faultC t=0) (hh:inR 0 9999 hg) (hf:Fits t):Ret Tryz.prog 221 [.mp i,txV t,iv hg] [(i,.map kks (mapF l))] n true (Is (iv (spendQ l t hg)) [(i,.map kks (mapF l))] n):=by
 have hok:=fault_ok hz
 have hl1:=hok.2.1
 have hL1:(t.2.1.map inRow).length=t.2.1.length:=by simp
 have hts:=fun n=>implTxSum_ret t n hf
 have hsr:sumR t=[iv 0,iv (textOf t)]:=by unfold sumR; rw [if_pos hz]
 rw [hsr] at hts
 unfold spendQ
 unfold inR at hh
 generalize textOf t=text at *
 refine Ret.of_run (tt:=tt) ttOk Tryz.func221 rfl Tryz.call221 [i] [.map kks (mapF l)] [.mp 0,txV t,iv hg] true n _ rfl (nodup1 i) (by exact Nat.le_of_ble_eq_true rfl) rfl rfl ?_
 refine Goes ?_
 first | refine CallP.is (hts _) rfl ?_ | refine CallQ.is (hts _) rfl rfl ?_
 refine Goes ?_
 refine LoopP.go (fun k:Nat=>k≤t.2.1.length∧insQ l text hg t.2.1=insQ l text hg (t.2.1.drop k)) (fun k=>⟨[(0,.mp 0),(2,iv hg),(4,.pt 1 0 0),(7,iv text),(16,insV t.2.1),(17,iv t.2.1.length),(18,iv k)],[(0,.map kks (mapF l)),(1,.box (txC t))],2⟩) (fun k=>t.2.1.length - k) 0 ⟨Nat.zero_le _,rfl⟩ ?_ ?_
 · rw [hL1]
   exact Weak.of rfl rfl ⟨⟨rfl,rfl⟩,⟨rfl,rfl⟩,⟨rfl,rfl⟩,⟨rfl,rfl⟩,⟨rfl,rfl⟩,⟨rfl,rfl⟩,⟨rfl,rfl⟩,trivial⟩ ⟨⟨rfl,rfl,rfl⟩,⟨rfl,rfl,rfl⟩,trivial⟩
 intro k ⟨hk,hp⟩
 refine Goes ?_;repeat' first|apply W2.m|refine W1.m fun h=>?_
 · have hlt:k < t.2.1.length:=by omega
   have hat:=insQ_at l text hg t.2.1 k hlt
   rw [← hp] at hat
   rw [rowK inRow t.2.1 k hlt]
   refine ⟨by rw [hL1]; exact ⟨by omega,by omega,rfl⟩,?_⟩
   refine Goes ?_
   first | refine CallP.is (keyOfIn_ret t.2.1[k] _) rfl ?_ | refine CallQ.is (keyOfIn_ret t.2.1[k] _) rfl rfl ?_
   refine Goes ?_
   rw [mapF_at h0]
   cases ha:atC l t.2.1[k].1 t.2.1[k].2.1 with
   | none =>
     have e:inQ l text hg t.2.1[k]=4:=by unfold inQ; rw [ha]
     rw [e,if_pos (by decide)] at hat
     refine ⟨True.intro,?_⟩
     refine Goes ?_
     refine FinOk.mk' [] rfl rfl rfl rfl rfl rfl rfl ⟨?_,?_,rfl⟩
     · rw [hat]; rfl
     · rfl
   | some c =>
     have hch:=coin_h h0 (List.mem_of_find?_eq_some ha)
     unfold inR at hch
     have ho:=fun n=>implOpens_ret c.lock t.2.1[k].2.2 text hg n
     have e:inQ l text hg t.2.1[k]=if c.base=true∧hg < c.h + 2 then 9 else if opensB c.lock t.2.1[k].2.2 text hg=true then 0 else 8:=by unfold inQ; rw [ha]
     generalize opensB c.lock t.2.1[k].2.2 text hg=op at e ho
     generalize inQ l text hg t.2.1[k]=q at e hat
     obtain ⟨ctx,cout,cval,clock,ch,cbase⟩:=c
     dsimp only at e hch ho
     have hw:IntKind.i64.wrap (ch + 2)=ch + 2:=IntWalk.i64_in _ (by omega)
     refine ⟨True.intro,?_⟩
     cases cbase with
     | true =>
       refine Goes ?_;repeat' first|apply W2.m|refine W1.m fun h=>?_
       · have hlt2:hg < ch + 2:=(by have h':hg < IntKind.i64.wrap (ch + 2):=(by assumption); omega)
         simp only [true_and,if_pos hlt2] at e
         rw [e,if_pos (by decide)] at hat
         refine FinOk.mk' [] rfl rfl rfl rfl rfl rfl rfl ⟨?_,?_,rfl⟩
         · rw [hat]; rfl
         · rfl
       · have hlt2:¬ hg < ch + 2:=(by have h':¬ hg < IntKind.i64.wrap (ch + 2):=(by assumption); omega)
         simp only [true_and,if_neg hlt2] at e
         first | refine CallP.is (ho _) rfl ?_ | refine CallQ.is (ho _) rfl rfl ?_
         refine Goes ?_
         cases op with
         | true =>
           simp only [if_true] at e
           rw [e,if_neg (by decide)] at hat
           refine Goes ?_
           exact ⟨k + 1,⟨by omega,hat⟩,by omega,Weak.of rfl rfl ⟨⟨rfl,rfl⟩,⟨rfl,rfl⟩,⟨rfl,rfl⟩,⟨rfl,rfl⟩,⟨rfl,rfl⟩,⟨rfl,rfl⟩,⟨leafI numA,rfl⟩,trivial⟩ ⟨⟨rfl,rfl,rfl⟩,⟨rfl,rfl,rfl⟩,trivial⟩⟩
         | false =>
           simp only [Bool.false_eq_true,if_false] at e
           rw [e,if_pos (by decide)] at hat
           refine Goes ?_
           refine FinOk.mk' [] rfl rfl rfl rfl rfl rfl rfl ⟨?_,?_,rfl⟩
           · rw [hat]; rfl
           · rfl
     | false =>
       refine Goes ?_
       simp only [Bool.false_eq_true,false_and,if_false] at e
       first | refine CallP.is (ho _) rfl ?_ | refine CallQ.is (ho _) rfl rfl ?_
       refine Goes ?_
       cases op with
       | true =>
         simp only [if_true] at e
         rw [e,if_neg (by decide)] at hat
         refine Goes ?_
         exact ⟨k + 1,⟨by omega,hat⟩,by omega,Weak.of rfl rfl ⟨⟨rfl,rfl⟩,⟨rfl,rfl⟩,⟨rfl,rfl⟩,⟨rfl,rfl⟩,⟨rfl,rfl⟩,⟨rfl,rfl⟩,⟨leafI numA,rfl⟩,trivial⟩ ⟨⟨rfl,rfl,rfl⟩,⟨rfl,rfl,rfl⟩,trivial⟩⟩
       | false =>
         simp only [Bool.false_eq_true,if_false] at e
         rw [e,if_pos (by decide)] at hat
         refine Goes ?_
         refine FinOk.mk' [] rfl rfl rfl rfl rfl rfl rfl ⟨?_,?_,rfl⟩
         · rw [hat]; rfl
         · rfl
 · obtain rfl:k=t.2.1.length:=by omega
   rw [List.drop_length] at hp
   refine CallP.heapIs (excess_ret l t 0 _ h0 hok) rfl ktA rfl ?_
   refine Goes ?_;repeat' first|apply W2.m|refine W1.m fun h=>?_
   · refine FinOk.mk' [] rfl rfl rfl rfl rfl rfl rfl ⟨?_,?_,rfl⟩
     · rw [if_neg (by rw [hp]; simp [insQ]),if_pos (by omega)]; rfl
     · rfl
   · refine FinOk.mk' [] rfl rfl rfl rfl rfl rfl rfl ⟨?_,?_,rfl⟩
     · rw [if_neg (by rw [hp]; simp [insQ]),if_neg (by omega)]; rfl
     · rfl
theorem effect_ret (l:List CoinD) (t:TxD) (hg:Int) (n:Nat) (hl:l.length≤1048576) (hf:Fits t):Ret Tryz.prog 218 [coinsV l,txV t,iv hg] [] n true (Is (iv (if coinsC l≠0 then coinsC l else if faultC t≠0 then faultC t else if inR 0 9999 hg then 0 else 3)) [] n):=by
 have hc:∀ n,Ret Tryz.prog 244 [coinsV l,txV t] [] n true (Is (iv (if coinsC l≠0 then coinsC l else faultC t)) [] n):=fun n=>by
  refine Ret.fn ttOk Tryz.func244 rfl Tryz.call244 rfl rfl ?_
  refine Goes ?_
  first | refine CallP.is (implCoinsFault_ret l _ hl) rfl ?_ | refine CallQ.is (implCoinsFault_ret l _ hl) rfl rfl ?_
  refine Goes ?_;repeat' first|apply W2.m|refine W1.m fun h=>?_
  · refine FinOk.pure rfl rfl rfl ⟨?_,rfl,rfl⟩
    rw [if_pos (by assumption)]
  · first | refine CallP.is (implTxFault_ret t _ hf.ins hf.outs) rfl ?_ | refine CallQ.is (implTxFault_ret t _ hf.ins hf.outs) rfl rfl ?_
    refine Goes ?_
    refine FinOk.pure rfl rfl rfl ⟨?_,rfl,rfl⟩
    rw [if_neg (by assumption)]
 by_cases h1:coinsC l≠0
 · simp only [if_pos h1] at hc ⊢
   refine Ret.fn ttOk Tryz.func218 rfl Tryz.call218 rfl rfl ?_
   refine Goes ?_
   first | refine CallP.is (hc _) rfl ?_ | refine CallQ.is (hc _) rfl rfl ?_
   refine Goes ?_;repeat' first|apply W2.m|refine W1.m fun h=>?_
   refine FinOk.pure rfl rfl rfl ⟨?_,rfl,rfl⟩
   rfl
 · simp only [if_neg h1] at hc ⊢
   by_cases h2:faultC t≠0
   · simp only [if_pos h2]
     refine Ret.fn ttOk Tryz.func218 rfl Tryz.call218 rfl rfl ?_
     refine Goes ?_
     first | refine CallP.is (hc _) rfl ?_ | refine CallQ.is (hc _) rfl rfl ?_
     refine Goes ?_;repeat' first|apply W2.m|refine W1.m fun h=>?_
     refine FinOk.pure rfl rfl rfl ⟨?_,rfl,rfl⟩
     rfl
   · simp only [if_neg h2]
     refine Ret.fn ttOk Tryz.func218 rfl Tryz.call218 rfl rfl ?_
     refine Goes ?_
     first | refine CallP.is (hc _) rfl ?_ | refine CallQ.is (hc _) rfl rfl ?_
     refine Goes ?_;repeat' first|apply W2.m|refine W1.m fun h=>?_
     first | refine CallP.is (isHeight_ret hg _) rfl ?_ | refine CallQ.is (isHeight_ret hg _) rfl rfl ?_
     refine Goes ?_;repeat' first|apply W2.m|refine W1.m fun h=>?_
     · refine FinOk.pure rfl rfl rfl ⟨?_,rfl,rfl⟩
       rw [if_neg (by assumption)]
     · refine FinOk.pure rfl rfl rfl ⟨?_,rfl,rfl⟩
       rw [if_pos (by assumption)]
end Go.Proofs.YtllhgcfacgiabaaGreat
