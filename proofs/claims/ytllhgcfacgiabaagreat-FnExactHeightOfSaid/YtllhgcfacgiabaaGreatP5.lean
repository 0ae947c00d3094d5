import Derived.Test.YtllhgcfacgiabaaGreatP4
namespace Go.Proofs.YtllhgcfacgiabaaGreat
open Go Go.Am Go.RowKit
set_option linter.unusedVariables false
set_option linter.unusedSimpArgs false
theorem allB_app {lo hi:Int} (a b:List Int):allB lo hi (a++b)=(allB lo hi a&&allB lo hi b):=by unfold allB; rw [List.all_append]
theorem allB_one {lo hi x:Int} (h:allB lo hi [x]=true):inR lo hi x:=by
 unfold inR; simpa [allB] using h
theorem step_ret (i j n:Nat) (hij:i≠j) (s e:List Int) (op t u:Int) (hop:opB op=true) (hl:s.length≤8) (hs:allB 0 9999 s=true) (ht:inR 0 2147483646 t) :
 Ret Tryz.prog 268 [.pt i 0 0,iv op] (mh i j s e t u) n false (StepQ i j t u n (step2 op s t u)):=by
 by_cases hp:100≤op∧op≤1099
 · exact step_push i j n hij s e op t u hl hp
 have h9:op=1∨op=2∨op=3∨op=4∨op=5∨op=6∨op=7∨op=8∨op=9:=by
  simp [opB] at hop; omega
 rcases List.eq_nil_or_concat s with rfl | ⟨s1,x,rfl⟩
 · have hz:([]:List Int).length < 1:=by decide
   have hz2:([]:List Int).length < 2:=by decide
   rcases h9 with rfl | rfl | rfl | rfl | rfl | rfl | rfl | rfl | rfl
   · exact step_few1 i j n hij _ e t u hz
   · exact step_few2 i j n hij _ e t u hz
   · exact step_few3 i j n hij _ e t u hz2
   · exact step_few4 i j n hij _ e t u hz2
   · exact step_few5 i j n hij _ e t u hz2
   · exact step_few6 i j n hij _ e t u hz
   · exact step_few7 i j n hij _ e t u hz
   · exact step_few8 i j n hij _ e t u hz2
   · exact step_few9 i j n hij _ e t u hz
 rw [List.concat_eq_append] at hl hs ⊢
 have hx:inR 0 9999 x:=by rw [allB_app] at hs; simp only [Bool.and_eq_true] at hs; exact allB_one hs.2
 have hs1:allB 0 9999 s1=true:=by rw [allB_app] at hs; simp only [Bool.and_eq_true] at hs; exact hs.1
 have two:∀ {op:Int},(op=3∨op=4∨op=5∨op=8)→Ret Tryz.prog 268 [.pt i 0 0,iv op] (mh i j (s1++[x]) e t u) n false (StepQ i j t u n (step2 op (s1++[x]) t u)):=by
  intro op hop
  rcases List.eq_nil_or_concat s1 with rfl | ⟨s2,y,rfl⟩
  · have hz2:([]++[x]:List Int).length < 2:=by simp
    rcases hop with rfl | rfl | rfl | rfl
    · exact step_few3 i j n hij _ e t u hz2
    · exact step_few4 i j n hij _ e t u hz2
    · exact step_few5 i j n hij _ e t u hz2
    · exact step_few8 i j n hij _ e t u hz2
  rw [List.concat_eq_append] at hl hs1 ⊢
  have hy:inR 0 9999 y:=by rw [allB_app] at hs1; simp only [Bool.and_eq_true] at hs1; exact allB_one hs1.2
  rcases hop with rfl | rfl | rfl | rfl
  · exact step_swap i j n hij s2 e y x t u hl
  · by_cases h:9999 < x + y
    · exact step_addN i j n hij s2 e y x t u hl hx hy h
    · exact step_addY i j n hij s2 e y x t u hl hx hy h
  · exact step_equal i j n hij s2 e y x t u hl
  · exact step_sign i j n hij s2 e y x t u hl ht
 rcases h9 with rfl | rfl | rfl | rfl | rfl | rfl | rfl | rfl | rfl
 · by_cases h8:s1.length + 1=8
   · exact step_dup8 i j n hij s1 e x t u h8
   · exact step_dup i j n hij s1 e x t u hl h8
 · exact step_drop i j n hij s1 e x t u hl
 · exact two (.inl rfl)
 · exact two (.inr (.inl rfl))
 · exact two (.inr (.inr (.inl rfl)))
 · exact step_verify i j n hij s1 e x t u hl
 · exact step_sum i j n hij s1 e x t u hl hx
 · exact two (.inr (.inr (.inr rfl)))
 · exact step_after i j n hij s1 e x t u hl
theorem flagI_in (b:Bool):allB 0 9999 [flagI b]=true:=by cases b <;> rfl
theorem step2_ok {op:Int} {s:List Int} {t u:Int} (hop:opB op=true) (hl:s.length≤8) (hs:allB 0 9999 s=true) (h0:(step2 op s t u).1=0):(step2 op s t u).2.length≤8∧allB 0 9999 (step2 op s t u).2=true:=by
 have hlen:(step2 op s t u).2.length≤8:=by
  unfold step2 at *
  split
  · simp
  · split
    · simp
    · rename_i h1 h2
      rw [if_neg h1,if_neg h2] at h0
      have:=fun h=>h2 ⟨h0,h⟩
      omega
 refine ⟨hlen,?_⟩
 by_cases hfew:s.length < needs op
 · rw [step2_few hfew]; rfl
 have hv:step2 op s t u=(10,[])∨step2 op s t u=out2 op s t u:=by
  rw [step2_val hfew rfl]; split
  · exact .inl rfl
  · exact .inr rfl
 rcases hv with e | e
 · rw [e]; rfl
 rw [e] at h0 ⊢
 by_cases hn0:needs op=0
 · have hop':100≤op∧op≤1099:=by
    unfold needs at hn0
    simp [opB] at hop
    split at hn0
    · omega
    · split at hn0 <;> omega
   unfold out2
   rw [if_pos hn0,allB_app,hs]
   simp [allB]; omega
 rcases List.eq_nil_or_concat s with rfl | ⟨s1,x,rfl⟩
 · simp at hfew; exact absurd hfew hn0
 rw [List.concat_eq_append] at *
 rw [allB_app,Bool.and_eq_true] at hs
 have hx:=allB_one hs.2
 by_cases hn1:needs op=1
 · rw [out2_one s1 x t u hn1] at *
   unfold one2
   have hsm:allB 0 9999 [sumI [x] % 1000]=true:=by simp [allB]; omega
   repeat' split
   all_goals first
    | rfl
    | exact hs.1
    | (rw [allB_app,hs.1,hsm]; rfl)
    | (rw [allB_app,hs.1]; unfold inR at hx; simp [allB]; omega)
 · have hn2:needs op=2:=by
    have h3:needs op=0∨needs op=1∨needs op=2:=by unfold needs; (repeat' split) <;> simp
    omega
   rcases List.eq_nil_or_concat s1 with rfl | ⟨s2,y,rfl⟩
   · rw [hn2] at hfew; simp at hfew
   rw [List.concat_eq_append] at *
   rw [allB_app,Bool.and_eq_true] at hs
   have hy:=allB_one hs.1.2
   rw [out2_two s2 y x t u hn2] at *
   unfold inR at hx hy
   unfold two2
   repeat' split
   all_goals first
    | rfl
    | (rw [allB_app,hs.1.1,flagI_in]; rfl)
    | (rw [allB_app,hs.1.1]; simp [allB]; omega)
theorem implRun_bad (p s:List Int) (t u:Int) (n:Nat) (h:runC p s t u≠0):Ret Tryz.prog 262 [il p,il s,iv t,iv u] [] n true (Is (.agg [iv (runC p s t u),nl]) [] n):=by
 refine Ret.fn ttOk Tryz.func262 rfl Tryz.call262 rfl rfl ?_
 refine Goes ?_
 first | refine CallP.is (runFault_ret p s t u _) rfl ?_ | refine CallQ.is (runFault_ret p s t u _) rfl rfl ?_
 refine Goes ?_;repeat' first|apply W2.m|refine W1.m fun h=>?_
 refine FinOk.pure rfl rfl rfl ⟨?_,rfl,rfl⟩
 rfl
theorem runC_ok {p s:List Int} {t u:Int} (h:runC p s t u=0):p.length≤12∧opsB p=true∧s.length≤8∧allB 0 9999 s=true∧inR 0 2147483646 t∧inR 0 9999 u:=by
 unfold runC at h
 split at h
 · rename_i hp
   split at h
   · rename_i hs
     split at h
     · rename_i ht
       unfold progC at hp
       unfold stackC at hs
       split at hp
       · omega
       · split at hp
         · split at hs
           · omega
           · split at hs
             · exact ⟨by omega,by assumption,by omega,by assumption,ht.1,ht.2⟩
             · omega
         · omega
     · omega
   · exact absurd h (by assumption)
 · exact absurd h (by assumption)
def RunQ (x:Int × List Int) (n:Nat):AV→Hp→Nat→Prop:=fun r ho m=>(x.1=0∧r=.agg [iv 0,.own n x.2.length]∧ho=[(n,.list 2 1 (ivs x.2))]∧m=n + 1)∨(x.1≠0∧r=.agg [iv x.1,nl]∧ho=[]∧m=n)
theorem implRun_ret (p s:List Int) (t u:Int) (n:Nat) (h:runC p s t u=0):Ret Tryz.prog 262 [il p,il s,iv t,iv u] [] n true (RunQ (run2 t u p s) n):=by
 obtain ⟨h1,h2,h3,h4,h5,h6⟩:=runC_ok h
 have hf:=runFault_ret p s t u
 rw [h] at hf
 refine Ret.fn ttOk Tryz.func262 rfl Tryz.call262 rfl rfl ?_
 refine Goes ?_
 first | refine CallP.is (hf _) rfl ?_ | refine CallQ.is (hf _) rfl rfl ?_
 refine Goes ?_
 refine ⟨⟨Nat.zero_le _,by simp only [List.length_map]; show (0 + _) * 8≤_; omega,by simp only [List.length_map,maxLen]; show 0 + _≤_; omega,trivial,rwsA⟩,?_⟩
 refine Goes ?_
 refine LoopP.go (fun y:Nat × List Int=>y.1≤p.length∧y.2.length≤8∧allB 0 9999 y.2=true∧run2 t u p s=run2 t u (p.drop y.1) y.2)
  (fun y=>⟨[(32,il p),(33,iv p.length),(34,iv y.1),(10,.pt 2 0 0),(8,.pt 0 0 0)],[(2,.box [.own 1 y.2.length,iv t,iv u]),(1,.list 2 1 (ivs (y.2++[]))),(0,.box [iv 0,nl])],3⟩) (fun y=>p.length - y.1) (0,s) ⟨Nat.zero_le _,h3,h4,by rw [List.drop_zero]⟩ ?_ ?_
 · rw [List.length_map,List.length_map]
   refine Weak.of rfl rfl ktA ?_
   refine ⟨⟨?_,rfl,rfl⟩,⟨leafO (by simp),rfl,rfl⟩,⟨rfl,rfl,rfl⟩,trivial⟩
   show some (AObj.box [.own 1 (0 + s.length),iv t,iv u])=_
   rw [Nat.zero_add]
 rintro ⟨k,s'⟩ ⟨hk,hl',hs',hr⟩
 dsimp only at hk hl' hs' hr ⊢
 refine Goes ?_;repeat' first|apply W2.m|refine W1.m fun h=>?_
 · have hlt:k < p.length:=by omega
   rw [rowK iv1 p k (by omega)]
   refine ⟨by (first | exact ⟨by omega,by omega,rfl⟩ | (simp only [List.length_map]; exact ⟨by omega,by omega,rfl⟩)),?_⟩
   refine Goes ?_
   refine CallP.heap (step_ret 2 1 _ (by decide) s' [] p[k] t u (opsB_at h2 hlt) hl' hs' h5) rfl ktA rfl ?_
   rintro r ho m ⟨s2,e2,rfl,rfl,rfl,hs2⟩
   rw [List.drop_eq_getElem_cons hlt,run2] at hr
   refine Goes ?_;repeat' first|apply W2.m|refine W1.m fun h=>?_
   · have hne:¬ (step2 p[k] s' t u).1=0:=by assumption
     rw [if_neg hne] at hr
     refine FinOk.pure rfl rfl rfl (.inr ⟨?_,?_,rfl,rfl⟩)
     · rw [hr]; exact hne
     · rw [hr]
   · have he:(step2 p[k] s' t u).1=0:=Decidable.not_not.1 h
     rw [if_pos he] at hr
     obtain ⟨g1,g2⟩:=step2_ok (opsB_at h2 hlt) hl' hs' he
     have hs2':=hs2 he
     subst hs2'
     refine ⟨(k + 1,(step2 p[k] s' t u).2),⟨by show k + 1≤_; omega,g1,g2,hr⟩,by show _ - (k + 1) < _ - k; omega,?_⟩
     refine Weak.trans (Weak.trunc 1 2 1 _ (ivs ((step2 p[k] s' t u).2++[])) (step2 p[k] s' t u).2.length rfl (by rw [takeL,List.append_nil])) ?_
     exact Weak.of rfl rfl ktA ktA
 · obtain rfl:k=p.length:=by omega
   rw [List.drop_length,run2] at hr
   refine FinOk.mk' [1] rfl rfl rfl rfl rfl rfl rfl (.inl ⟨?_,?_,?_,rfl⟩)
   · rw [hr]
   · rw [hr]; rfl
   · rw [hr]
     show [(n,AObj.list 2 1 (ivs (s'++[])))]=_
     rw [List.append_nil]
end Go.Proofs.YtllhgcfacgiabaaGreat
namespace Go.Proofs.YtllhgcfacgiabaaGreat
open Go Go.Am Go.RowKit
set_option linter.unusedVariables false
set_option linter.unusedSimpArgs false
theorem l2Needs_ret (op:Int) (n:Nat):Ret Tryz.prog 288 [iv op] [] n true (Is (iv (needs op:Nat)) [] n):=by
 refine Ret.fn ttOk Tryz.func288 rfl Tryz.call288 rfl rfl ?_
 refine Goes ?_;repeat' first|apply W2.m|refine W1.m fun h=>?_
 all_goals (refine FinOk.pure rfl rfl rfl ⟨?_,rfl,rfl⟩; refine ivI ?_; unfold needs; simp [*])
theorem l2Bool_ret (b:Bool) (n:Nat):Ret Tryz.prog 295 [bv b] [] n true (Is (iv (flagI b)) [] n):=by
 refine Ret.fn ttOk Tryz.func295 rfl Tryz.call295 rfl rfl ?_
 cases b
 all_goals (refine Goes ?_)
 all_goals (refine FinOk.pure rfl rfl rfl ⟨?_,rfl,rfl⟩; rfl)
def OutQ (i n:Nat) (r0:List Int) (x:Int × List Int):AV→Hp→Nat→Prop:=fun r ho m=>m=n∧((x.1=0∧r=.tup [.own i x.2.length,iv 0]∧ho=[(i,.list 2 1 (ivs x.2))])∨(x.1≠0∧r=.tup [nl,iv x.1]∧ho=[(i,.list 2 1 (ivs r0))]))
theorem takeI (r:List Int):List.take r.length (ivs r)=ivs r:=List.take_of_length_le (by simp)
theorem sumI_in (x:Int):0≤sumI [x]∧sumI [x]≤2147483646:=sumI_bd _
theorem l2One_ret (op:Int) (r:List Int) (x u:Int) (i n:Nat) (hn:needs op=1) (hl:r.length≤1000):Ret Tryz.prog 289 [iv op,.own i r.length,iv x,iv u] [(i,.list 2 1 (ivs r))] n false (OutQ i n r (one2 op r x u)):=by
 refine Ret.of_runM (tt:=tt) ttOk Tryz.func289 rfl Tryz.call289 [i] [.list 2 1 (ivs r)] [iv op,.own 0 r.length,iv x,iv u] false n _ rfl (nodup1 i) (by exact Nat.le_of_ble_eq_true rfl) rfl rfl ?_
 have hop:op=1∨op=2∨op=6∨op=7∨op=9:=by
  unfold needs at hn
  split at hn
  · assumption
  · split at hn <;> omega
 rcases hop with rfl | rfl | rfl | rfl | rfl
 · rw [show one2 1 r x u=(0,r++[x,x]) from by simp [one2]]
   refine Goes ?_
   refine ⟨⟨lenA,lenA,lenA,lenA,rwsA⟩,?_⟩
   refine Goes ?_
   refine FinOk.mk' [] rfl rfl rfl rfl rfl rfl rfl ⟨rfl,.inl ⟨rfl,?_,?_⟩⟩
   · show AV.tup [.own i (r.length + 2),iv 0]=_
     simp
   · show [(i,AObj.list 2 1 (List.take r.length (ivs r)++[[iv x],[iv x]]))]=_
     rw [takeI]; simp
 · rw [show one2 2 r x u=(0,r) from by simp [one2]]
   refine Goes ?_
   refine FinOk.mk' [] rfl rfl rfl rfl rfl rfl rfl ⟨rfl,.inl ⟨rfl,?_,?_⟩⟩
   · rfl
   · rfl
 · by_cases hx:x=0
   · rw [show one2 6 r x u=(8,[]) from by simp [one2,hx]]
     refine Goes ?_;repeat' first|apply W2.m|refine W1.m fun h=>?_
     exact FinOk.mk' [] rfl rfl rfl rfl rfl rfl rfl ⟨rfl,.inr ⟨by decide,rfl,rfl⟩⟩
   · rw [show one2 6 r x u=(0,r) from by simp [one2,hx]]
     refine Goes ?_;repeat' first|apply W2.m|refine W1.m fun h=>?_
     refine FinOk.mk' [] rfl rfl rfl rfl rfl rfl rfl ⟨rfl,.inl ⟨rfl,?_,?_⟩⟩
     · rfl
     · rfl
 · rw [show one2 7 r x u=(0,r++[sumI [x] % 1000]) from by simp [one2]]
   refine Goes ?_
   refine CallP.convIs (l1SumInts_ret [x] _ (Nat.le_of_ble_eq_true rfl)) rfl (by repeat' first | exact trivial | exact Nat.le_refl _ | (show _≤List.length _; exact lenA) | refine And.intro ?_ ?_) rfl trivial ?_
   refine Goes ?_
   refine ⟨⟨lenA,lenA,lenA,lenA,rwsA⟩,?_⟩
   refine Goes ?_
   refine FinOk.mk' [] rfl rfl rfl rfl rfl rfl rfl ⟨rfl,.inl ⟨rfl,?_,?_⟩⟩
   · show AV.tup [.own i (r.length + 1),iv 0]=_
     simp
   · show [(i,AObj.list 2 1 (List.take r.length (ivs r)++[[iv ((sumI [x]).tmod 1000)]]))]=_
     have:=sumI_in x
     rw [takeI,IntWalk.rem_in _ _ (by omega)]; simp
 · by_cases hx:u < x
   · rw [show one2 9 r x u=(8,[]) from by simp [one2,hx]]
     refine Goes ?_;repeat' first|apply W2.m|refine W1.m fun h=>?_
     exact FinOk.mk' [] rfl rfl rfl rfl rfl rfl rfl ⟨rfl,.inr ⟨by decide,rfl,rfl⟩⟩
   · rw [show one2 9 r x u=(0,r) from by simp [one2,hx]]
     refine Goes ?_;repeat' first|apply W2.m|refine W1.m fun h=>?_
     refine FinOk.mk' [] rfl rfl rfl rfl rfl rfl rfl ⟨rfl,.inl ⟨rfl,?_,?_⟩⟩
     · rfl
     · rfl
theorem l2Two_ret (op:Int) (r:List Int) (y x t:Int) (i n:Nat) (hn:needs op=2) (hl:r.length≤1000) (hx:inR 0 9999 x) (hy:inR 0 9999 y):Ret Tryz.prog 290 [iv op,.own i r.length,iv y,iv x,iv t] [(i,.list 2 1 (ivs r))] n false (OutQ i n r (two2 op r y x t)):=by
 refine Ret.of_runM (tt:=tt) ttOk Tryz.func290 rfl Tryz.call290 [i] [.list 2 1 (ivs r)] [iv op,.own 0 r.length,iv y,iv x,iv t] false n _ rfl (nodup1 i) (by exact Nat.le_of_ble_eq_true rfl) rfl rfl ?_
 have hop:op=3∨op=4∨op=5∨op=8:=by
  unfold needs at hn
  split at hn
  · omega
  · split at hn
    · assumption
    · omega
 unfold inR at hx hy
 have hw:=IntWalk.i64_in (y + x) (by omega)
 rcases hop with rfl | rfl | rfl | rfl
 · rw [show two2 3 r y x t=(0,r++[x,y]) from by simp [two2]]
   refine Goes ?_
   refine ⟨⟨lenA,lenA,lenA,lenA,rwsA⟩,?_⟩
   refine Goes ?_
   refine FinOk.mk' [] rfl rfl rfl rfl rfl rfl rfl ⟨rfl,.inl ⟨rfl,?_,?_⟩⟩
   · show AV.tup [.own i (r.length + 2),iv 0]=_
     simp
   · show [(i,AObj.list 2 1 (List.take r.length (ivs r)++[[iv x],[iv y]]))]=_
     rw [takeI]; simp
 · by_cases hs:9999 < y + x
   · rw [show two2 4 r y x t=(3,[]) from by simp [two2,hs]]
     refine Goes ?_;repeat' first|apply W2.m|refine W1.m fun h=>?_
     exact FinOk.mk' [] rfl rfl rfl rfl rfl rfl rfl ⟨rfl,.inr ⟨by decide,rfl,rfl⟩⟩
   · rw [show two2 4 r y x t=(0,r++[y + x]) from by simp [two2,hs]]
     refine Goes ?_;repeat' first|apply W2.m|refine W1.m fun h=>?_
     refine ⟨⟨lenA,lenA,lenA,lenA,rwsA⟩,?_⟩
     refine Goes ?_
     refine FinOk.mk' [] rfl rfl rfl rfl rfl rfl rfl ⟨rfl,.inl ⟨rfl,?_,?_⟩⟩
     · show AV.tup [.own i (r.length + 1),iv 0]=_
       simp
     · show [(i,AObj.list 2 1 (List.take r.length (ivs r)++[[iv (IntKind.i64.wrap (y + x))]]))]=_
       rw [takeI,hw]; simp
 · rw [show two2 5 r y x t=(0,r++[flagI (decide (y=x))]) from by simp [two2]]
   refine Goes ?_
   first | refine CallP.is (l2Bool_ret _ _) rfl ?_ | refine CallQ.is (l2Bool_ret _ _) rfl rfl ?_
   refine Goes ?_
   refine ⟨⟨lenA,lenA,lenA,lenA,rwsA⟩,?_⟩
   refine Goes ?_
   refine FinOk.mk' [] rfl rfl rfl rfl rfl rfl rfl ⟨rfl,.inl ⟨rfl,?_,?_⟩⟩
   · show AV.tup [.own i (r.length + 1),iv 0]=_
     simp
   · show [(i,AObj.list 2 1 (List.take r.length (ivs r)++[[iv (flagI (decide (y=x)))]]))]=_
     rw [takeI]; simp
 · rw [show two2 8 r y x t=(0,r++[flagI (decide (inR 0 899 x)&&decide (signF x t=y))]) from by simp [two2]]
   refine Goes ?_
   first | refine CallP.is (l2Key_ret _ _) rfl ?_ | refine CallQ.is (l2Key_ret _ _) rfl rfl ?_
   refine Goes ?_;repeat' first|apply W2.m|refine W1.m fun h=>?_
   · have hk:inR 0 899 x:=by assumption
     first | refine CallP.is (l2Sign_ret _ _ _) rfl ?_ | refine CallQ.is (l2Sign_ret _ _ _) rfl rfl ?_
     refine Goes ?_;repeat' first|apply W2.m|refine W1.m fun h=>?_
     first | refine CallP.is (l2Bool_ret _ _) rfl ?_ | refine CallQ.is (l2Bool_ret _ _) rfl rfl ?_
     refine Goes ?_
     refine ⟨⟨lenA,lenA,lenA,lenA,rwsA⟩,?_⟩
     refine Goes ?_
     refine FinOk.mk' [] rfl rfl rfl rfl rfl rfl rfl ⟨rfl,.inl ⟨rfl,?_,?_⟩⟩
     · show AV.tup [.own i (r.length + 1),iv 0]=_
       simp
     · show [(i,AObj.list 2 1 (List.take r.length (ivs r)++[[iv (flagI (decide (signF x t=y)))]]))]=_
       rw [takeI,decide_eq_true hk,Bool.true_and]; simp
   · have hk:¬ inR 0 899 x:=by assumption
     first | refine CallP.is (l2Bool_ret _ _) rfl ?_ | refine CallQ.is (l2Bool_ret _ _) rfl rfl ?_
     refine Goes ?_
     refine ⟨⟨lenA,lenA,lenA,lenA,rwsA⟩,?_⟩
     refine Goes ?_
     refine FinOk.mk' [] rfl rfl rfl rfl rfl rfl rfl ⟨rfl,.inl ⟨rfl,?_,?_⟩⟩
     · show AV.tup [.own i (r.length + 1),iv 0]=_
       simp
     · show [(i,AObj.list 2 1 (List.take r.length (ivs r)++[[iv (flagI false)]]))]=_
       rw [takeI,decide_eq_false hk,Bool.false_and]; simp
end Go.Proofs.YtllhgcfacgiabaaGreat
namespace Go.Proofs.YtllhgcfacgiabaaGreat
open Go Go.Am Go.RowKit
set_option linter.unusedVariables false
set_option linter.unusedSimpArgs false
def StQ (n:Nat) (x:Int × List Int):AV→Hp→Nat→Prop:=fun r ho m=>(x.1=0∧r=.tup [.own n x.2.length,iv 0]∧ho=[(n,.list 2 1 (ivs x.2))]∧m=n + 1)∨(x.1≠0∧r=.tup [nl,iv x.1]∧ho=[]∧m=n)
theorem getL0 (s:List Int) (x:Int):(ivs (s++[x])).getD (Int.toNat (s.length:Int)) []=[iv x]:=by
 have:=getL s [] x; rwa [List.append_nil] at this
theorem l2Step_ret (op:Int) (s:List Int) (t u:Int) (n:Nat) (hop:opB op=true) (hl:s.length≤8) (hs:allB 0 9999 s=true):Ret Tryz.prog 277 [iv op,il s,iv t,iv u] [] n true (StQ n (step2 op s t u)):=by
 have hL:(ivs s).length=s.length:=by simp
 by_cases hfew:s.length < needs op
 · rw [step2_few hfew]
   refine Ret.fn ttOk Tryz.func277 rfl Tryz.call277 rfl rfl ?_
   refine Goes ?_
   first | refine CallP.is (l2Needs_ret _ _) rfl ?_ | refine CallQ.is (l2Needs_ret _ _) rfl rfl ?_
   refine Goes ?_;repeat' first|apply W2.m|refine W1.m fun h=>?_
   exact FinOk.mk' [] rfl rfl rfl rfl rfl rfl rfl (.inr ⟨by decide,rfl,rfl,rfl⟩)
 have h012:needs op=0∨needs op=1∨needs op=2:=by unfold needs; (repeat' split) <;> simp
 have hnr:=l2Needs_ret op
 rcases h012 with hn | hn | hn
 · have hop':100≤op∧op≤1099:=by
    unfold needs at hn
    simp [opB] at hop
    split at hn
    · omega
    · split at hn <;> omega
   have hout:out2 op s t u=(0,s++[op - 100]):=by unfold out2; rw [if_pos hn]
   rw [step2_val hfew hout]
   rw [hn] at hnr
   refine Ret.fn ttOk Tryz.func277 rfl Tryz.call277 rfl rfl ?_
   refine Goes ?_
   first | refine CallP.is (hnr _) rfl ?_ | refine CallQ.is (hnr _) rfl rfl ?_
   refine Goes ?_
   first | refine CallP.is (hnr _) rfl ?_ | refine CallQ.is (hnr _) rfl rfl ?_
   refine Goes ?_
   first | refine CallP.is (l1Ints_ret s _ (by omega)) rfl ?_ | refine CallQ.is (l1Ints_ret s _ (by omega)) rfl rfl ?_
   refine Goes ?_
   refine ⟨⟨lenA,lenA,lenA,lenA,rwsA⟩,?_⟩
   refine Goes ?_;repeat' first|apply W2.m|refine W1.m fun h=>?_
   · have h':8 < ((s.length + 1:Nat):Int):=h
     rw [if_pos ⟨rfl,by simp; omega⟩]
     exact FinOk.mk' [] rfl rfl rfl rfl rfl rfl rfl (.inr ⟨by decide,rfl,rfl,rfl⟩)
   · have h':¬ 8 < ((s.length + 1:Nat):Int):=h
     rw [if_neg (by simp; omega)]
     refine FinOk.mk' [1] rfl rfl rfl rfl rfl rfl rfl (.inl ⟨rfl,?_,?_,rfl⟩)
     · show AV.tup [.own n (s.length + 1),iv 0]=_
       simp
     · show [(n,AObj.list 2 1 (List.take s.length (ivs s)++[[iv (IntKind.i64.wrap (op - 100))]]))]=_
       rw [takeI,IntWalk.i64_in _ (by omega)]; simp
 · rcases List.eq_nil_or_concat s with rfl | ⟨s1,x,rfl⟩
   · rw [hn] at hfew; simp at hfew
   rw [List.concat_eq_append] at *
   have hL1:(s1++[x]).length=s1.length + 1:=by simp
   rw [step2_val hfew (out2_one s1 x t u hn)]
   rw [hn] at hnr
   refine Ret.fn ttOk Tryz.func277 rfl Tryz.call277 rfl rfl ?_
   refine Goes ?_
   first | refine CallP.is (hnr _) rfl ?_ | refine CallQ.is (hnr _) rfl rfl ?_
   refine Goes ?_;repeat' first|apply W2.m|refine W1.m fun h=>?_
   first | refine CallP.is (hnr _) rfl ?_ | refine CallQ.is (hnr _) rfl rfl ?_
   refine Goes ?_
   have hw:IntKind.i64.wrap (((ivs (s1++[x])).length:Int) - 1)=(s1.length:Int):=by rw [hL,hL1,IntWalk.i64_in _ (by omega)]; omega
   simp only [hw]
   rw [show List.take (Int.toNat (s1.length:Int) - Int.toNat 0) (List.drop (Int.toNat 0) (ivs (s1++[x])))=ivs s1 from by show List.take (s1.length - 0) (List.drop 0 _)=_; rw [List.drop_zero,Nat.sub_zero,show ivs (s1++[x])=ivs s1++ivs [x] from List.map_append ..,List.take_left' (by simp)]]
   refine ⟨⟨by omega,by omega,by omega,.inl trivial⟩,?_⟩
   refine Goes ?_
   first | refine CallQ.is (l1Ints_ret s1 _ (by omega)) rfl rfl ?_ | refine CallP.is (l1Ints_ret s1 _ (by omega)) rfl ?_
   refine Goes ?_
   simp only [hw]
   rw [getL0]
   refine ⟨⟨by omega,by omega,rfl⟩,?_⟩
   refine Goes ?_
   refine CallP.heap (l2One_ret op s1 x u 1 _ hn (by omega)) rfl ktA rfl ?_
   rintro r ho m ⟨rfl,hcase⟩
   rcases hcase with ⟨hc,rfl,rfl⟩ | ⟨hc,rfl,rfl⟩
   · generalize one2 op s1 x u=xx at *
     obtain ⟨c0,l0⟩:=xx
     dsimp only at hc ⊢
     subst hc
     refine Goes ?_;repeat' first|apply W2.m|refine W1.m fun h=>?_
     all_goals first
      | (rw [if_pos ⟨rfl,by omega⟩]
         exact FinOk.mk' [] rfl rfl rfl rfl rfl rfl rfl (.inr ⟨by decide,rfl,rfl,rfl⟩))
      | (rw [if_neg (by intro h'; omega)]
         exact FinOk.mk' [1] rfl rfl rfl rfl rfl rfl rfl (.inl ⟨rfl,rfl,rfl,rfl⟩))
   · rw [if_neg (fun h'=>hc h'.1)]
     generalize one2 op s1 x u=xx at *
     obtain ⟨c0,l0⟩:=xx
     dsimp only at hc ⊢
     refine Goes ?_;repeat' first|apply W2.m|refine W1.m fun h=>?_
     all_goals first
      | (exfalso; exact hc (by assumption))
      | exact FinOk.mk' [] rfl rfl rfl rfl rfl rfl rfl (.inr ⟨hc,rfl,rfl,rfl⟩)
 · rcases List.eq_nil_or_concat s with rfl | ⟨s1,x,rfl⟩
   · rw [hn] at hfew; simp at hfew
   rw [List.concat_eq_append] at *
   rcases List.eq_nil_or_concat s1 with rfl | ⟨s2,y,rfl⟩
   · rw [hn] at hfew; simp at hfew
   rw [List.concat_eq_append] at *
   have hL1:(s2++[y]++[x]).length=s2.length + 2:=by simp
   have hxy:inR 0 9999 x∧inR 0 9999 y:=by
    rw [allB_app,allB_app] at hs
    simp only [Bool.and_eq_true] at hs
    exact ⟨allB_one hs.2,allB_one hs.1.2⟩
   rw [step2_val hfew (out2_two s2 y x t u hn)]
   rw [hn] at hnr
   refine Ret.fn ttOk Tryz.func277 rfl Tryz.call277 rfl rfl ?_
   refine Goes ?_
   first | refine CallP.is (hnr _) rfl ?_ | refine CallQ.is (hnr _) rfl rfl ?_
   refine Goes ?_;repeat' first|apply W2.m|refine W1.m fun h=>?_
   first | refine CallP.is (hnr _) rfl ?_ | refine CallQ.is (hnr _) rfl rfl ?_
   refine Goes ?_
   have hw:IntKind.i64.wrap (((ivs (s2++[y]++[x])).length:Int) - 2)=(s2.length:Int):=by rw [hL,hL1,IntWalk.i64_in _ (by omega)]; omega
   have hw1:IntKind.i64.wrap (((ivs (s2++[y]++[x])).length:Int) - 1)=((s2++[y]).length:Int):=by rw [hL,hL1,IntWalk.i64_in _ (by omega),List.length_append]; simp; omega
   simp only [hw]
   rw [show List.take (Int.toNat (s2.length:Int) - Int.toNat 0) (List.drop (Int.toNat 0) (ivs (s2++[y]++[x])))=ivs s2 from by show List.take (s2.length - 0) (List.drop 0 _)=_; rw [List.drop_zero,Nat.sub_zero,List.append_assoc,show ivs (s2++([y]++[x]))=ivs s2++ivs ([y]++[x]) from List.map_append ..,List.take_left' (by simp)]]
   refine ⟨⟨by omega,by omega,by omega,.inl trivial⟩,?_⟩
   refine Goes ?_
   first | refine CallQ.is (l1Ints_ret s2 _ (by omega)) rfl rfl ?_ | refine CallP.is (l1Ints_ret s2 _ (by omega)) rfl ?_
   refine Goes ?_
   simp only [hw]
   rw [getL]
   refine ⟨⟨by omega,by omega,rfl⟩,?_⟩
   refine Goes ?_
   simp only [hw1]
   rw [getL0]
   refine ⟨⟨by omega,by simp only [hL,hL1]; simp,rfl⟩,?_⟩
   refine Goes ?_
   refine CallP.heap (l2Two_ret op s2 y x t 1 _ hn (by omega) hxy.1 hxy.2) rfl ktA rfl ?_
   rintro r ho m ⟨rfl,hcase⟩
   rcases hcase with ⟨hc,rfl,rfl⟩ | ⟨hc,rfl,rfl⟩
   · generalize two2 op s2 y x t=xx at *
     obtain ⟨c0,l0⟩:=xx
     dsimp only at hc ⊢
     subst hc
     refine Goes ?_;repeat' first|apply W2.m|refine W1.m fun h=>?_
     all_goals first
      | (rw [if_pos ⟨rfl,by omega⟩]
         exact FinOk.mk' [] rfl rfl rfl rfl rfl rfl rfl (.inr ⟨by decide,rfl,rfl,rfl⟩))
      | (rw [if_neg (by intro h'; omega)]
         exact FinOk.mk' [1] rfl rfl rfl rfl rfl rfl rfl (.inl ⟨rfl,rfl,rfl,rfl⟩))
   · rw [if_neg (fun h'=>hc h'.1)]
     generalize two2 op s2 y x t=xx at *
     obtain ⟨c0,l0⟩:=xx
     dsimp only at hc ⊢
     refine Goes ?_;repeat' first|apply W2.m|refine W1.m fun h=>?_
     all_goals first
      | (exfalso; exact hc (by assumption))
      | exact FinOk.mk' [] rfl rfl rfl rfl rfl rfl rfl (.inr ⟨hc,rfl,rfl,rfl⟩)
end Go.Proofs.YtllhgcfacgiabaaGreat
