import Derived.Test.YtllhgcfacgiabaaGreatP5
import Derived.Test.YtllhgcfacgiabaaGreatP74
import Derived.Test.YtllhgcfacgiabaaGreatM9
namespace Go.Proofs.YtllhgcfacgiabaaGreat
open Go Go.Am Go.RowKit
set_option linter.unusedVariables false
set_option linter.unusedSimpArgs false
theorem a8z (p s:List Int) (t u:Int) (n:Nat) (hp:Qv p=true) (cm:p.length<=12) (hl:s.length<=8) (hs:Dg 0 9999 s=true):Ret Tryz.prog 272 [il p,il s,iv t,iv u] [] n true (StQ n (Mp t u p s)):=by
 refine Ret.fn Ad Tryz.func272 rfl Tryz.call272 rfl rfl ?_
 refine Goes ?_
 refine Aa.is (Fg s _ (by omega)) rfl ?_
 refine Goes ?_
 refine Ao.go (fun y:Nat × List Int=>y.1<=p.length/\y.2.length<=8/\Dg 0 9999 y.2=true/\Mp t u p s=Mp t u (p.drop y.1) y.2)
  (fun y=>⟨[(0,il p),(2,iv t),(3,iv u),(10,.own 0 y.2.length),(11,iv y.1)],[(0,.list 2 1 (ivs y.2))],1⟩) (fun y=>p.length - y.1) (0,s) ⟨Nat.zero_le _,hl,hs,by rw [List.drop_zero]⟩ ?_ ?_
 · exact Ac.of rfl rfl ktA ktA
 rintro ⟨k,s'⟩ ⟨hk,cj,cq,hr⟩
 dsimp only at hk cj cq hr ⊢
 refine Goes ?_;repeat' first|apply W2.m|refine W1.m fun h=>?_
 · simp only [List.length_map] at h
   have aa:k < p.length:=by omega
   rw [A1 iv1 p k (by omega)]
   refine ⟨by (first | exact ⟨by omega,by omega,rfl⟩ | (simp only [List.length_map]; exact ⟨by omega,by omega,rfl⟩)),?_⟩
   refine Goes ?_
   have ak:=a5W p[k] s' t u 1 (R7 hp aa) cj cq
   rw [List.drop_eq_getElem_cons aa,Mp] at hr
   refine Aa.conv ak (by show [iv p[k],AV.lst (List.take s'.length (ivs s')),iv t,iv u]=_; rw [Sy]) (by repeat' first | exact trivial | exact Nat.le_refl _ | (show _<=List.length _; exact Az) | refine And.intro ?_ ?_) ?_
   rintro r ho m hq
   rcases hq with ⟨hc,rfl,rfl,rfl⟩ | ⟨hc,rfl,rfl,rfl⟩
   · refine ⟨⟨rfl,Bu _,trivial⟩,?_⟩
     rw [if_pos hc] at hr
     obtain ⟨g1,g2⟩:=Y2 (R7 hp aa) cj cq hc
     refine Goes ?_
     refine ⟨(k + 1,(step2 p[k] s' t u).2),⟨by show k + 1<=_; omega,g1,g2,hr⟩,by show _ - (k + 1) < _ - k; omega,?_⟩
     exact Ac.ren [1] rfl rfl ktA ktA
   · refine ⟨⟨rfl,trivial⟩,?_⟩
     rw [if_neg hc] at hr
     refine Goes ?_;repeat' first|apply W2.m|refine W1.m fun h=>?_
     rw [hr]
     exact Ab.mk' [] rfl rfl rfl rfl rfl rfl rfl (.inr ⟨hc,rfl,rfl,rfl⟩)
 · simp only [List.length_map] at h
   obtain rfl:k=p.length:=by omega
   rw [List.drop_length,Mp] at hr
   rw [hr]
   exact Ab.mk' [0] rfl rfl rfl rfl rfl rfl rfl (.inl ⟨rfl,rfl,rfl,rfl⟩)
theorem a31 (p s:List Int) (t u:Int) (n:Nat) (k6:Jy p s t u≠0):Ret Tryz.prog 266 [il p,il s,iv t,iv u] [] n true (Is (.agg [iv (Jy p s t u),nl]) [] n):=by
 refine Ret.fn Ad Tryz.func266 rfl Tryz.call266 rfl rfl ?_
 refine Goes ?_
 have hL:(ivs s).length=s.length:=by simp
 refine Aa.is (Kl _ _) rfl ?_
 refine Goes ?_;repeat' first|apply W2.m|refine W1.m fun h=>?_
 · have h1:¬ C3 p=0:=by assumption
   refine Ab.pure rfl rfl rfl ⟨?_,rfl,rfl⟩
   unfold Jy; rw [if_neg h1]
 · have h1:C3 p=0:=by omega
   have h2:8 < s.length:=by omega
   refine Ab.pure rfl rfl rfl ⟨?_,rfl,rfl⟩
   unfold Jy C9; rw [if_pos h1,if_pos h2]; rfl
 have h1:C3 p=0:=by omega
 have h2:¬ 8 < s.length:=by omega
 have ha:=Ug s 0 9999
 cases h3:Dg 0 9999 s with
 | false =>
   rw [h3] at ha
   refine Aa.is (ha _ (by omega)) rfl ?_
   refine Goes ?_
   refine Ab.pure rfl rfl rfl ⟨?_,rfl,rfl⟩
   unfold Jy C9; rw [if_pos h1,if_neg h2,h3]; rfl
 | true =>
   rw [h3] at ha
   refine Aa.is (ha _ (by omega)) rfl ?_
   refine Goes ?_
   have h4:C9 s=0:=by unfold C9; rw [if_neg h2,h3]; rfl
   refine Aa.is (Ck _ _ _ _) rfl ?_
   refine Goes ?_;repeat' first|apply W2.m|refine W1.m fun h=>?_
   · have h5:¬ inR 0 2147483646 t:=by assumption
     refine Ab.pure rfl rfl rfl ⟨?_,rfl,rfl⟩
     unfold Jy; rw [if_pos h1,if_pos h4,if_neg (fun h'=>h5 h'.1)]
   have h5:inR 0 2147483646 t:=by assumption
   refine Aa.is (Ck _ _ _ _) rfl ?_
   refine Goes ?_;repeat' first|apply W2.m|refine W1.m fun h=>?_
   · have h6:¬ inR 0 9999 u:=by assumption
     refine Ab.pure rfl rfl rfl ⟨?_,rfl,rfl⟩
     unfold Jy; rw [if_pos h1,if_pos h4,if_neg (fun h'=>h6 h'.2)]
   · have h6:inR 0 9999 u:=by assumption
     exfalso
     refine absurd ?_ k6
     unfold Jy; rw [if_pos h1,if_pos h4,if_pos ⟨h5,h6⟩]
theorem a32 (p s:List Int) (t u:Int) (n:Nat) (h:Jy p s t u=0):Ret Tryz.prog 266 [il p,il s,iv t,iv u] [] n true (b19 (Mp t u p s) n):=by
 obtain ⟨h1,h2,h3,h4,h5,h6⟩:=We h
 have iB:C3 p=0:=by unfold C3; rw [if_neg (by omega),if_pos h2]
 have hf:=Kl p
 rw [iB] at hf
 have ha:=Ug s 0 9999
 rw [h4] at ha
 have hL:(ivs s).length=s.length:=by simp
 refine Ret.fn Ad Tryz.func266 rfl Tryz.call266 rfl rfl ?_
 refine Goes ?_
 refine Aa.is (hf _) rfl ?_
 refine Goes ?_;repeat' first|apply W2.m|refine W1.m fun h=>?_
 refine Aa.is (ha _ (by omega)) rfl ?_
 refine Goes ?_
 refine Aa.is (Ck _ _ _ _) rfl ?_
 refine Goes ?_;repeat' first|apply W2.m|refine W1.m fun h=>?_
 refine Aa.is (Ck _ _ _ _) rfl ?_
 refine Goes ?_;repeat' first|apply W2.m|refine W1.m fun h=>?_
 refine Aa.pure (a8z p s t u _ h2 h1 h3 h4) rfl ?_
 rintro r ho m hq
 rcases hq with ⟨hc,rfl,rfl,rfl⟩ | ⟨hc,rfl,rfl,rfl⟩
 · refine Goes ?_
   exact Ab.mk' [1] rfl rfl rfl rfl rfl rfl rfl (.inl ⟨hc,rfl,rfl,rfl⟩)
 · refine Goes ?_
   exact Ab.mk' [] rfl rfl rfl rfl rfl rfl rfl (.inr ⟨hc,rfl,rfl,rfl⟩)
def a2y (x:Int × List Int):Bool:=decide (x.1=0)&&(decide (0 < x.2.length)&&!decide (x.2.getD (x.2.length - 1) 0=0))
def K2 (p s:List Int) (t u:Int):Bool:=decide (Jy p s t u=0)&&a2y (Mp t u p s)
theorem Y3 (t u:Int):∀ (p s:List Int),Qv p=true->s.length<=8->Dg 0 9999 s=true->(Mp t u p s).2.length<=8
 | [],s,_,hl,_=>hl
 | op::p,s,hp,hl,hs=>by
   have a9:opB op=true/\Qv p=true:=by unfold Qv at *; rw [List.all_cons,Bool.and_eq_true] at hp; exact hp
   rw [Mp]
   split
   · rename_i h
     obtain ⟨g1,g2⟩:=Y2 a9.1 hl hs h
     exact Y3 t u p _ a9.2 g1 g2
   · simp
theorem a0e (p s:List Int) (t u:Int) (n:Nat):Ret Tryz.prog 248 [il p,il s,iv t,iv u] [] n true (Is (bv (K2 p s t u)) [] n):=by
 by_cases h:Jy p s t u=0
 · have hI:=fun n=>a30 p s t u n h
   unfold K2
   rw [decide_eq_true h,Bool.true_and]
   have ae:(Mp t u p s).2.length<=8:=by
    obtain ⟨_,h2,h3,h4,_,_⟩:=We h
    exact Y3 t u p s h2 h3 h4
   generalize Mp t u p s=xx at hI ae ⊢
   obtain ⟨c0,l⟩:=xx
   refine Ret.fn Ad Tryz.func248 rfl Tryz.call248 rfl rfl ?_
   refine Goes ?_
   refine Aa.pure (hI _) rfl ?_
   rintro r ho m hq
   rcases hq with ⟨hc,rfl,rfl,rfl⟩ | ⟨hc,rfl,rfl,rfl⟩
   · dsimp only at hc ⊢
     subst hc
     rcases List.eq_nil_or_concat l with rfl | ⟨l1,x,rfl⟩
     · refine Goes ?_
       refine Ab.pure rfl rfl rfl ⟨?_,rfl,rfl⟩
       rfl
     rw [List.concat_eq_append] at *
     dsimp only at ae
     have hL:(l1++[x]).length=l1.length + 1:=by simp
     have dU:a2y (0,l1++[x])=!decide (x=0):=by
      unfold a2y; simp [List.getD_eq_getElem?_getD]
     rw [dU]
     have hw:IntKind.i64.wrap (((l1++[x]).length:Int) - 1)=(l1.length:Int):=b1x l1 x (by omega)
     refine Goes ?_;repeat' first|apply W2.m|refine W1.m fun h=>?_
     simp only [hw]
     rw [a6X]
     refine ⟨by simp,?_⟩
     refine Goes ?_
     refine Ab.pure rfl rfl rfl ⟨?_,rfl,rfl⟩
     refine bvI ?_
     by_cases hx:x=0 <;> simp [hx]
   · dsimp only at hc ⊢
     have dU:a2y (c0,l)=false:=by unfold a2y; rw [decide_eq_false hc]; rfl
     rw [dU]
     refine Goes ?_;repeat' first|apply W2.m|refine W1.m fun h=>?_
     all_goals first
      | (refine Ab.pure rfl rfl rfl ⟨?_,rfl,rfl⟩; rfl)
      | (exfalso; exact hc (by first | assumption | omega))
 · refine Ret.fn Ad Tryz.func248 rfl Tryz.call248 rfl rfl ?_
   refine Goes ?_
   refine Aa.is (a3Z p s t u _ h) rfl ?_
   refine Goes ?_;repeat' first|apply W2.m|refine W1.m fun h=>?_
   refine Ab.pure rfl rfl rfl ⟨?_,rfl,rfl⟩
   refine bvI ?_
   unfold K2; rw [decide_eq_false h]; rfl
theorem a33 (p s:List Int) (t u:Int) (n:Nat):Ret Tryz.prog 258 [il p,il s,iv t,iv u] [] n true (Is (bv (K2 p s t u)) [] n):=by
 by_cases h:Jy p s t u=0
 · have hI:=fun n=>a32 p s t u n h
   unfold K2
   rw [decide_eq_true h,Bool.true_and]
   have ae:(Mp t u p s).2.length<=8:=by
    obtain ⟨_,h2,h3,h4,_,_⟩:=We h
    exact Y3 t u p s h2 h3 h4
   generalize Mp t u p s=xx at hI ae ⊢
   obtain ⟨c0,l⟩:=xx
   refine Ret.fn Ad Tryz.func258 rfl Tryz.call258 rfl rfl ?_
   refine Goes ?_
   refine Aa.pure (hI _) rfl ?_
   rintro r ho m hq
   rcases hq with ⟨hc,rfl,rfl,rfl⟩ | ⟨hc,rfl,rfl,rfl⟩
   · dsimp only at hc ⊢
     subst hc
     rcases List.eq_nil_or_concat l with rfl | ⟨l1,x,rfl⟩
     · refine Goes ?_
       refine Ab.pure rfl rfl rfl ⟨?_,rfl,rfl⟩
       rfl
     rw [List.concat_eq_append] at *
     dsimp only at ae
     have hL:(l1++[x]).length=l1.length + 1:=by simp
     have dU:a2y (0,l1++[x])=!decide (x=0):=by
      unfold a2y; simp [List.getD_eq_getElem?_getD]
     rw [dU]
     have hw:IntKind.i64.wrap (((l1++[x]).length:Int) - 1)=(l1.length:Int):=b1x l1 x (by omega)
     refine Goes ?_;repeat' first|apply W2.m|refine W1.m fun h=>?_
     simp only [hw]
     rw [a6X]
     refine ⟨by simp,?_⟩
     refine Goes ?_;repeat' first|apply W2.m|refine W1.m fun h=>?_
     refine Ab.pure rfl rfl rfl ⟨?_,rfl,rfl⟩
     refine bvI ?_
     by_cases hx:x=0 <;> simp [hx]
   · dsimp only at hc ⊢
     have dU:a2y (c0,l)=false:=by unfold a2y; rw [decide_eq_false hc]; rfl
     rw [dU]
     refine Goes ?_;repeat' first|apply W2.m|refine W1.m fun h=>?_
     all_goals first
      | (refine Ab.pure rfl rfl rfl ⟨?_,rfl,rfl⟩; rfl)
      | (exfalso; exact hc (by first | assumption | omega))
 · refine Ret.fn Ad Tryz.func258 rfl Tryz.call258 rfl rfl ?_
   refine Goes ?_
   refine Aa.is (a31 p s t u _ h) rfl ?_
   refine Goes ?_;repeat' first|apply W2.m|refine W1.m fun h=>?_
   refine Ab.pure rfl rfl rfl ⟨?_,rfl,rfl⟩
   refine bvI ?_
   unfold K2; rw [decide_eq_false h]; rfl
theorem Od (x:InD) (n:Nat):Ret Tryz.prog 247 [.agg (A3 x)] [] n true (Is (.agg [iv x.1,iv x.2.1]) [] n):=by
 refine Ret.fn Ad Tryz.func247 rfl Tryz.call247 rfl rfl ?_
 refine Goes ?_
 refine Ab.pure rfl rfl rfl ⟨?_,rfl,rfl⟩
 rfl
def Oe (l:List Ah) (x:InD):Int:=match atC l x.1 x.2.1 with | some c=>c.val | none=>0
abbrev F6 (l:List Ah) (xs:List InD):List Int:=xs.map (Oe l)
abbrev Di (ys:List Cx):List Int:=ys.map (·.1)
theorem Y4 {l:List Ah} (h:A5 l=0) (x:InD):inR 0 1000000 (Oe l x):=by
 unfold Oe
 cases ha:atC l x.1 x.2.1 with
 | none=>exact ⟨by decide,by decide⟩
 | some c=>exact N6 l none (Dp h).2.1 _ (List.mem_map_of_mem (List.mem_of_find?_eq_some ha))
theorem Ey (c:Int) (l:List Int) (h:∀ z∈l,inR 0 c z):∀ k,k<=l.length->0<=Cf (l.take k)/\Cf (l.take k)<=c * k
 | 0,_=>by simp [Cf]
 | k + 1,hk=>by
   have h1:=Ey c l h k (by omega)
   have h2:=h l[k] (List.getElem_mem hk)
   rw [Eb l k hk]
   unfold inR at h2
   have:c * ((k + 1:Nat):Int)=c * k + c:=by push_cast; rw [Int.mul_add]; omega
   omega
theorem Y5 (l:List Ah) (t:TxD) (i n:Nat) (h0:A5 l=0) (aZ:okT t):Ret Tryz.prog 222 [.mp i,txV t] [(i,.map kks (Lr l))] n true (Is (iv (Cf (F6 l t.2.1) - Cf (Di t.2.2))) [(i,.map kks (Lr l))] n):=by
 obtain ⟨_,bW,dJ,_,fw⟩:=aZ
 have b6:(t.2.1.map A3).length=t.2.1.length:=by simp
 have ca:(t.2.2.map Ax).length=t.2.2.length:=by simp
 have bu:=Ey 1000000 (F6 l t.2.1) (fun z hz=>by obtain ⟨x,_,rfl⟩:=List.mem_map.1 hz; exact Y4 h0 x)
 have a8:=Ey 2147483646 (Di t.2.2) (fun z hz=>by obtain ⟨y,hy,rfl⟩:=List.mem_map.1 hz; exact (fw y hy).1)
 refine Ret.of_run (tt:=tt) Ad Tryz.func222 rfl Tryz.call222 [i] [.map kks (Lr l)] [.mp 0,txV t] true n _ rfl (Cj i) (by exact Nat.le_of_ble_eq_true rfl) rfl rfl ?_
 refine Goes ?_
 refine Ao.go (fun k:Nat=>k<=t.2.1.length) (fun k=>⟨[(0,.mp 0),(3,.pt 1 0 0),(5,iv (Cf ((F6 l t.2.1).take k))),(11,Et t.2.1),(12,iv t.2.1.length),(13,iv k)],[(0,.map kks (Lr l)),(1,.box (txC t))],2⟩) (fun k=>t.2.1.length - k) 0 (Nat.zero_le _) ?_ ?_
 · rw [b6]
   exact Ac.of rfl rfl ⟨⟨rfl,rfl⟩,⟨rfl,rfl⟩,⟨rfl,rfl⟩,⟨rfl,rfl⟩,⟨rfl,rfl⟩,⟨rfl,rfl⟩,trivial⟩ ⟨⟨rfl,rfl,rfl⟩,⟨rfl,rfl,rfl⟩,trivial⟩
 intro k hk
 refine Goes ?_;repeat' first|apply W2.m|refine W1.m fun h=>?_
 · have aa:k < t.2.1.length:=by omega
   have b1:=bu k (by simpa using hk)
   have b2:=bu (k + 1) (by simp; omega)
   have ak:=Eb (F6 l t.2.1) k (by simpa using aa)
   rw [List.getElem_map] at ak
   rw [A1 A3 t.2.1 k aa]
   refine ⟨by rw [b6]; exact ⟨by omega,by omega,rfl⟩,?_⟩
   refine Goes ?_
   refine Aa.is (Od t.2.1[k] _) rfl ?_
   refine Goes ?_
   rw [a6W h0]
   have fin:IntKind.i64.wrap (Cf ((F6 l t.2.1).take k) + Oe l t.2.1[k])=Cf ((F6 l t.2.1).take (k + 1)):=by rw [ak,IntWalk.i64_in _ (by omega)]
   cases ha:atC l t.2.1[k].1 t.2.1[k].2.1 with
   | none =>
     have hv:Oe l t.2.1[k]=0:=by unfold Oe; rw [ha]
     refine ⟨True.intro,?_⟩
     refine Goes ?_
     exact ⟨k + 1,by omega,by omega,Ac.of rfl rfl ⟨⟨rfl,rfl⟩,⟨rfl,rfl⟩,⟨Aw (by rw [<- fin,hv]),rfl⟩,⟨rfl,rfl⟩,⟨rfl,rfl⟩,⟨Aw Cm,rfl⟩,trivial⟩ ⟨⟨rfl,rfl,rfl⟩,⟨rfl,rfl,rfl⟩,trivial⟩⟩
   | some c =>
     have hv:Oe l t.2.1[k]=c.val:=by unfold Oe; rw [ha]
     refine ⟨True.intro,?_⟩
     refine Goes ?_
     exact ⟨k + 1,by omega,by omega,Ac.of rfl rfl ⟨⟨rfl,rfl⟩,⟨rfl,rfl⟩,⟨Aw (by rw [<- fin,hv]),rfl⟩,⟨rfl,rfl⟩,⟨rfl,rfl⟩,⟨Aw Cm,rfl⟩,trivial⟩ ⟨⟨rfl,rfl,rfl⟩,⟨rfl,rfl,rfl⟩,trivial⟩⟩
 · obtain rfl:k=t.2.1.length:=by omega
   rw [List.take_of_length_le (by simp)]
   have bi:=bu t.2.1.length (by simp)
   rw [List.take_of_length_le (by simp)] at bi
   rw [ca]
   generalize oa:Cf (F6 l t.2.1)=si at *
   refine Ao.go (fun k:Nat=>k<=t.2.2.length) (fun k=>⟨[(0,.mp 0),(5,iv (si - Cf ((Di t.2.2).take k))),(26,Dh t.2.2),(27,iv t.2.2.length),(28,iv k)],[(0,.map kks (Lr l))],1⟩) (fun k=>t.2.2.length - k) 0 (Nat.zero_le _) ?_ ?_
   · exact Ac.of rfl rfl ⟨⟨rfl,rfl⟩,⟨Aw (by simp [Cf]),rfl⟩,⟨rfl,rfl⟩,⟨rfl,rfl⟩,⟨rfl,rfl⟩,trivial⟩ ⟨⟨rfl,rfl,rfl⟩,trivial⟩
   intro j hj
   refine Goes ?_;repeat' first|apply W2.m|refine W1.m fun h=>?_
   · have aa:j < t.2.2.length:=by omega
     have c1:=a8 j (by simpa using hj)
     have c2:=a8 (j + 1) (by simp; omega)
     have gT:=Eb (Di t.2.2) j (by simpa using aa)
     rw [List.getElem_map] at gT
     rw [A1 Ax t.2.2 j aa]
     refine ⟨by rw [ca]; exact ⟨by omega,by omega,rfl⟩,?_⟩
     refine Goes ?_
     exact ⟨j + 1,by omega,by omega,Ac.of rfl rfl ⟨⟨rfl,rfl⟩,⟨Aw (by rw [IntWalk.i64_in _ (by omega)]; omega),rfl⟩,⟨rfl,rfl⟩,⟨rfl,rfl⟩,⟨Aw Cm,rfl⟩,trivial⟩ ⟨⟨rfl,rfl,rfl⟩,trivial⟩⟩
   · obtain rfl:j=t.2.2.length:=by omega
     rw [List.take_of_length_le (by simp)]
     refine Ab.mk' [] rfl rfl rfl rfl rfl rfl rfl ⟨?_,?_,rfl⟩
     · rfl
     · rfl
def inQ (l:List Ah) (text h:Int) (x:InD):Int:=match atC l x.1 x.2.1 with
 | none=>4
 | some c=>if c.base=true/\h < c.h + 2 then 9 else if K2 c.lock x.2.2 text h=true then 0 else 8
def Py (l:List Ah) (text h:Int):List InD->Int
 | []=>0
 | x::r=>if inQ l text h x≠0 then inQ l text h x else Py l text h r
def Dj (l:List Ah) (t:TxD) (h:Int):Int:=if Py l (textOf t) h t.2.1≠0 then Py l (textOf t) h t.2.1 else if Cf (F6 l t.2.1) < Cf (Di t.2.2) then 7 else 0
theorem a6Y (l:List Ah) (text h:Int) (xs:List InD) (k:Nat) (hk:k < xs.length):Py l text h (xs.drop k)=if inQ l text h xs[k]≠0 then inQ l text h xs[k] else Py l text h (xs.drop (k + 1)):=by
 rw [List.drop_eq_getElem_cons hk,Py]
theorem b0g {l:List Ah} (h0:A5 l=0) {c:Ah} (hc:c∈l):inR 0 9999 c.h:=by
 have:∀ (l:List Ah) (p:Option Ah),cgC p l=0->∀ c∈l,inR 0 9999 c.h:=by
  intro l
  induction l with
  | nil=>intro p _ c hc; cases hc
  | cons d r ih =>
    intro p hp c hc
    rw [cgC] at hp
    by_cases h1:Ed d≠0
    · rw [if_pos h1] at hp; exact absurd hp h1
    · rw [if_neg h1] at hp
      by_cases h2:Sq p d=true
      · rw [if_pos h2] at hp
        rcases List.mem_cons.1 hc with rfl | hc
        · unfold Ed at h1
          split at h1
          · rename_i h'; exact h'.2.2.2
          · simp at h1
        · exact ih _ hp c hc
      · rw [if_neg h2] at hp; cases hp
 exact this l none (Dp h0).2.1 c hc
theorem Y6 (l:List Ah) (t:TxD) (hg:Int) (i n:Nat) (h0:A5 l=0) (hz:A7 t=0) (hh:inR 0 9999 hg) (hf:Fits t):Ret Tryz.prog 221 [.mp i,txV t,iv hg] [(i,.map kks (Lr l))] n true (Is (iv (Dj l t hg)) [(i,.map kks (Lr l))] n):=by
 have aZ:=Ev hz
 have bW:=aZ.2.1
 have b6:(t.2.1.map A3).length=t.2.1.length:=by simp
 have eX:=fun n=>Kz t n hf
 have jE:a2l t=[iv 0,iv (textOf t)]:=by unfold a2l; rw [if_pos hz]
 rw [jE] at eX
 unfold Dj
 unfold inR at hh
 generalize textOf t=text at *
 refine Ret.of_run (tt:=tt) Ad Tryz.func221 rfl Tryz.call221 [i] [.map kks (Lr l)] [.mp 0,txV t,iv hg] true n _ rfl (Cj i) (by exact Nat.le_of_ble_eq_true rfl) rfl rfl ?_
 refine Goes ?_
 refine Aa.is (eX _) rfl ?_
 refine Goes ?_
 refine Ao.go (fun k:Nat=>k<=t.2.1.length/\Py l text hg t.2.1=Py l text hg (t.2.1.drop k)) (fun k=>⟨[(0,.mp 0),(2,iv hg),(4,.pt 1 0 0),(7,iv text),(16,Et t.2.1),(17,iv t.2.1.length),(18,iv k)],[(0,.map kks (Lr l)),(1,.box (txC t))],2⟩) (fun k=>t.2.1.length - k) 0 ⟨Nat.zero_le _,rfl⟩ ?_ ?_
 · rw [b6]
   exact Ac.of rfl rfl ⟨⟨rfl,rfl⟩,⟨rfl,rfl⟩,⟨rfl,rfl⟩,⟨rfl,rfl⟩,⟨rfl,rfl⟩,⟨rfl,rfl⟩,⟨rfl,rfl⟩,trivial⟩ ⟨⟨rfl,rfl,rfl⟩,⟨rfl,rfl,rfl⟩,trivial⟩
 intro k ⟨hk,hp⟩
 refine Goes ?_;repeat' first|apply W2.m|refine W1.m fun h=>?_
 · have aa:k < t.2.1.length:=by omega
   have ai:=a6Y l text hg t.2.1 k aa
   rw [<- hp] at ai
   rw [A1 A3 t.2.1 k aa]
   refine ⟨by rw [b6]; exact ⟨by omega,by omega,rfl⟩,?_⟩
   refine Goes ?_
   refine Aa.is (Od t.2.1[k] _) rfl ?_
   refine Goes ?_
   rw [a6W h0]
   cases ha:atC l t.2.1[k].1 t.2.1[k].2.1 with
   | none =>
     have e:inQ l text hg t.2.1[k]=4:=by unfold inQ; rw [ha]
     rw [e,if_pos (by decide)] at ai
     refine ⟨True.intro,?_⟩
     refine Goes ?_
     refine Ab.mk' [] rfl rfl rfl rfl rfl rfl rfl ⟨?_,?_,rfl⟩
     · rw [ai]; rfl
     · rfl
   | some c =>
     have gA:=b0g h0 (List.mem_of_find?_eq_some ha)
     unfold inR at gA
     have ho:=fun n=>a0e c.lock t.2.1[k].2.2 text hg n
     have e:inQ l text hg t.2.1[k]=if c.base=true/\hg < c.h + 2 then 9 else if K2 c.lock t.2.1[k].2.2 text hg=true then 0 else 8:=by unfold inQ; rw [ha]
     generalize K2 c.lock t.2.1[k].2.2 text hg=op at e ho
     generalize inQ l text hg t.2.1[k]=q at e ai
     obtain ⟨ctx,cout,cval,clock,ch,cbase⟩:=c
     dsimp only at e gA ho
     have hw:IntKind.i64.wrap (ch + 2)=ch + 2:=IntWalk.i64_in _ (by omega)
     refine ⟨True.intro,?_⟩
     cases cbase with
     | true =>
       refine Goes ?_;repeat' first|apply W2.m|refine W1.m fun h=>?_
       · have aw:hg < ch + 2:=(by have h':hg < IntKind.i64.wrap (ch + 2):=(by assumption); omega)
         simp only [true_and,if_pos aw] at e
         rw [e,if_pos (by decide)] at ai
         refine Ab.mk' [] rfl rfl rfl rfl rfl rfl rfl ⟨?_,?_,rfl⟩
         · rw [ai]; rfl
         · rfl
       · have aw:¬ hg < ch + 2:=(by have h':¬ hg < IntKind.i64.wrap (ch + 2):=(by assumption); omega)
         simp only [true_and,if_neg aw] at e
         refine Aa.is (ho _) rfl ?_
         refine Goes ?_
         cases op with
         | true =>
           simp only [if_true] at e
           rw [e,if_neg (by decide)] at ai
           refine Goes ?_
           exact ⟨k + 1,⟨by omega,ai⟩,by omega,Ac.of rfl rfl ⟨⟨rfl,rfl⟩,⟨rfl,rfl⟩,⟨rfl,rfl⟩,⟨rfl,rfl⟩,⟨rfl,rfl⟩,⟨rfl,rfl⟩,⟨Aw Cm,rfl⟩,trivial⟩ ⟨⟨rfl,rfl,rfl⟩,⟨rfl,rfl,rfl⟩,trivial⟩⟩
         | false =>
           simp only [Bool.false_eq_true,if_false] at e
           rw [e,if_pos (by decide)] at ai
           refine Goes ?_
           refine Ab.mk' [] rfl rfl rfl rfl rfl rfl rfl ⟨?_,?_,rfl⟩
           · rw [ai]; rfl
           · rfl
     | false =>
       refine Goes ?_
       simp only [Bool.false_eq_true,false_and,if_false] at e
       refine Aa.is (ho _) rfl ?_
       refine Goes ?_
       cases op with
       | true =>
         simp only [if_true] at e
         rw [e,if_neg (by decide)] at ai
         refine Goes ?_
         exact ⟨k + 1,⟨by omega,ai⟩,by omega,Ac.of rfl rfl ⟨⟨rfl,rfl⟩,⟨rfl,rfl⟩,⟨rfl,rfl⟩,⟨rfl,rfl⟩,⟨rfl,rfl⟩,⟨rfl,rfl⟩,⟨Aw Cm,rfl⟩,trivial⟩ ⟨⟨rfl,rfl,rfl⟩,⟨rfl,rfl,rfl⟩,trivial⟩⟩
       | false =>
         simp only [Bool.false_eq_true,if_false] at e
         rw [e,if_pos (by decide)] at ai
         refine Goes ?_
         refine Ab.mk' [] rfl rfl rfl rfl rfl rfl rfl ⟨?_,?_,rfl⟩
         · rw [ai]; rfl
         · rfl
 · obtain rfl:k=t.2.1.length:=by omega
   rw [List.drop_length] at hp
   refine Aa.heapIs (Y5 l t 0 _ h0 aZ) rfl ktA rfl ?_
   refine Goes ?_;repeat' first|apply W2.m|refine W1.m fun h=>?_
   · refine Ab.mk' [] rfl rfl rfl rfl rfl rfl rfl ⟨?_,?_,rfl⟩
     · rw [if_neg (by rw [hp]; simp [Py]),if_pos (by omega)]; rfl
     · rfl
   · refine Ab.mk' [] rfl rfl rfl rfl rfl rfl rfl ⟨?_,?_,rfl⟩
     · rw [if_neg (by rw [hp]; simp [Py]),if_neg (by omega)]; rfl
     · rfl
theorem a5X (l:List Ah) (t:TxD) (hg:Int) (n:Nat) (hl:l.length<=1048576) (hf:Fits t):Ret Tryz.prog 218 [A0 l,txV t,iv hg] [] n true (Is (iv (if A5 l≠0 then A5 l else if A7 t≠0 then A7 t else if inR 0 9999 hg then 0 else 3)) [] n):=by
 have hc:∀ n,Ret Tryz.prog 244 [A0 l,txV t] [] n true (Is (iv (if A5 l≠0 then A5 l else A7 t)) [] n):=fun n=>by
  refine Ret.fn Ad Tryz.func244 rfl Tryz.call244 rfl rfl ?_
  refine Goes ?_
  refine Aa.is (Gf l _ hl) rfl ?_
  refine Goes ?_;repeat' first|apply W2.m|refine W1.m fun h=>?_
  · refine Ab.pure rfl rfl rfl ⟨?_,rfl,rfl⟩
    rw [if_pos (by assumption)]
  · refine Aa.is (Do t _ hf.ins hf.outs) rfl ?_
    refine Goes ?_
    refine Ab.pure rfl rfl rfl ⟨?_,rfl,rfl⟩
    rw [if_neg (by assumption)]
 by_cases h1:A5 l≠0
 · simp only [if_pos h1] at hc ⊢
   refine Ret.fn Ad Tryz.func218 rfl Tryz.call218 rfl rfl ?_
   refine Goes ?_
   refine Aa.is (hc _) rfl ?_
   refine Goes ?_;repeat' first|apply W2.m|refine W1.m fun h=>?_
   refine Ab.pure rfl rfl rfl ⟨?_,rfl,rfl⟩
   rfl
 · simp only [if_neg h1] at hc ⊢
   by_cases h2:A7 t≠0
   · simp only [if_pos h2]
     refine Ret.fn Ad Tryz.func218 rfl Tryz.call218 rfl rfl ?_
     refine Goes ?_
     refine Aa.is (hc _) rfl ?_
     refine Goes ?_;repeat' first|apply W2.m|refine W1.m fun h=>?_
     refine Ab.pure rfl rfl rfl ⟨?_,rfl,rfl⟩
     rfl
   · simp only [if_neg h2]
     refine Ret.fn Ad Tryz.func218 rfl Tryz.call218 rfl rfl ?_
     refine Goes ?_
     refine Aa.is (hc _) rfl ?_
     refine Goes ?_;repeat' first|apply W2.m|refine W1.m fun h=>?_
     refine Aa.is (Jc hg _) rfl ?_
     refine Goes ?_;repeat' first|apply W2.m|refine W1.m fun h=>?_
     · refine Ab.pure rfl rfl rfl ⟨?_,rfl,rfl⟩
       rw [if_neg (by assumption)]
     · refine Ab.pure rfl rfl rfl ⟨?_,rfl,rfl⟩
       rw [if_pos (by assumption)]
end Go.Proofs.YtllhgcfacgiabaaGreat
