import Derived.Test.YtllhgcfacgiabaaGreatP4
namespace Go.Proofs.YtllhgcfacgiabaaGreat
open Go Go.Am Go.RowKit
set_option linter.unusedVariables false
set_option linter.unusedSimpArgs false
theorem Ex {lo hi:Int} (a b:List Int):Dg lo hi (a++b)=(Dg lo hi a&&Dg lo hi b):=by unfold Dg; rw [List.all_append]
theorem Ls {lo hi x:Int} (h:Dg lo hi [x]=true):inR lo hi x:=by
 unfold inR; simpa [Dg] using h
theorem step_ret (i j n:Nat) (ah:i≠j) (s e:List Int) (op t u:Int) (a9:opB op=true) (hl:s.length<=8) (hs:Dg 0 9999 s=true) (ht:inR 0 2147483646 t) :
 Ret Tryz.prog 268 [.pt i 0 0,iv op] (mh i j s e t u) n false (E5 i j t u n (step2 op s t u)):=by
 by_cases hp:100<=op/\op<=1099
 · exact a8l i j n ah s e op t u hl hp
 have h9:op=1∨op=2∨op=3∨op=4∨op=5∨op=6∨op=7∨op=8∨op=9:=by
  simp [opB] at a9; omega
 rcases List.eq_nil_or_concat s with rfl | ⟨s1,x,rfl⟩
 · have hz:([]:List Int).length < 1:=by decide
   have d9:([]:List Int).length < 2:=by decide
   rcases h9 with rfl | rfl | rfl | rfl | rfl | rfl | rfl | rfl | rfl
   · exact a8m i j n ah _ e t u hz
   · exact a8n i j n ah _ e t u hz
   · exact a1i i j n ah _ e t u d9
   · exact a1j i j n ah _ e t u d9
   · exact a1k i j n ah _ e t u d9
   · exact a8o i j n ah _ e t u hz
   · exact a8p i j n ah _ e t u hz
   · exact a1l i j n ah _ e t u d9
   · exact a8q i j n ah _ e t u hz
 rw [List.concat_eq_append] at hl hs ⊢
 have hx:inR 0 9999 x:=by rw [Ex] at hs; simp only [Bool.and_eq_true] at hs; exact Ls hs.2
 have ew:Dg 0 9999 s1=true:=by rw [Ex] at hs; simp only [Bool.and_eq_true] at hs; exact hs.1
 have two:∀ {op:Int},(op=3∨op=4∨op=5∨op=8)->Ret Tryz.prog 268 [.pt i 0 0,iv op] (mh i j (s1++[x]) e t u) n false (E5 i j t u n (step2 op (s1++[x]) t u)):=by
  intro op a9
  rcases List.eq_nil_or_concat s1 with rfl | ⟨s2,y,rfl⟩
  · have d9:([]++[x]:List Int).length < 2:=by simp
    rcases a9 with rfl | rfl | rfl | rfl
    · exact a1i i j n ah _ e t u d9
    · exact a1j i j n ah _ e t u d9
    · exact a1k i j n ah _ e t u d9
    · exact a1l i j n ah _ e t u d9
  rw [List.concat_eq_append] at hl ew ⊢
  have hy:inR 0 9999 y:=by rw [Ex] at ew; simp only [Bool.and_eq_true] at ew; exact Ls ew.2
  rcases a9 with rfl | rfl | rfl | rfl
  · exact a8t i j n ah s2 e y x t u hl
  · by_cases h:9999 < x + y
    · exact a8v i j n ah s2 e y x t u hl hx hy h
    · exact a8u i j n ah s2 e y x t u hl hx hy h
  · exact a5V i j n ah s2 e y x t u hl
  · exact a8w i j n ah s2 e y x t u hl ht
 rcases h9 with rfl | rfl | rfl | rfl | rfl | rfl | rfl | rfl | rfl
 · by_cases h8:s1.length + 1=8
   · exact a8r i j n ah s1 e x t u h8
   · exact b0d i j n ah s1 e x t u hl h8
 · exact a8s i j n ah s1 e x t u hl
 · exact two (.inl rfl)
 · exact two (.inr (.inl rfl))
 · exact two (.inr (.inr (.inl rfl)))
 · exact a3Y i j n ah s1 e x t u hl
 · exact b0e i j n ah s1 e x t u hl hx
 · exact two (.inr (.inr (.inr rfl)))
 · exact a5U i j n ah s1 e x t u hl
theorem b0f (b:Bool):Dg 0 9999 [Kh b]=true:=by cases b <;> rfl
theorem Y2 {op:Int} {s:List Int} {t u:Int} (a9:opB op=true) (hl:s.length<=8) (hs:Dg 0 9999 s=true) (h0:(step2 op s t u).1=0):(step2 op s t u).2.length<=8/\Dg 0 9999 (step2 op s t u).2=true:=by
 have ae:(step2 op s t u).2.length<=8:=by
  unfold step2 at *
  split
  · simp
  · split
    · simp
    · rename_i h1 h2
      rw [if_neg h1,if_neg h2] at h0
      have:=fun h=>h2 ⟨h0,h⟩
      omega
 refine ⟨ae,?_⟩
 by_cases bD:s.length < Cp op
 · rw [Ee bD]; rfl
 have hv:step2 op s t u=(10,[])∨step2 op s t u=R8 op s t u:=by
  rw [Ji bD rfl]; split
  · exact .inl rfl
  · exact .inr rfl
 rcases hv with e | e
 · rw [e]; rfl
 rw [e] at h0 ⊢
 by_cases cZ:Cp op=0
 · have kY:100<=op/\op<=1099:=by
    unfold Cp at cZ
    simp [opB] at a9
    split at cZ
    · omega
    · split at cZ <;> omega
   unfold R8
   rw [if_pos cZ,Ex,hs]
   simp [Dg]; omega
 rcases List.eq_nil_or_concat s with rfl | ⟨s1,x,rfl⟩
 · simp at bD; exact absurd bD cZ
 rw [List.concat_eq_append] at *
 rw [Ex,Bool.and_eq_true] at hs
 have hx:=Ls hs.2
 by_cases nB:Cp op=1
 · rw [Ip s1 x t u nB] at *
   unfold Gb
   have nC:Dg 0 9999 [Mo [x] % 1000]=true:=by simp [Dg]; omega
   repeat' split
   all_goals first
    | rfl
    | exact hs.1
    | (rw [Ex,hs.1,nC]; rfl)
    | (rw [Ex,hs.1]; unfold inR at hx; simp [Dg]; omega)
 · have mf:Cp op=2:=by
    have h3:Cp op=0∨Cp op=1∨Cp op=2:=by unfold Cp; (repeat' split) <;> simp
    omega
   rcases List.eq_nil_or_concat s1 with rfl | ⟨s2,y,rfl⟩
   · rw [mf] at bD; simp at bD
   rw [List.concat_eq_append] at *
   rw [Ex,Bool.and_eq_true] at hs
   have hy:=Ls hs.1.2
   rw [J7 s2 y x t u mf] at *
   unfold inR at hx hy
   unfold Ii
   repeat' split
   all_goals first
    | rfl
    | (rw [Ex,hs.1.1,b0f]; rfl)
    | (rw [Ex,hs.1.1]; simp [Dg]; omega)
theorem a3Z (p s:List Int) (t u:Int) (n:Nat) (h:Jy p s t u≠0):Ret Tryz.prog 262 [il p,il s,iv t,iv u] [] n true (Is (.agg [iv (Jy p s t u),nl]) [] n):=by
 refine Ret.fn Ad Tryz.func262 rfl Tryz.call262 rfl rfl ?_
 refine Goes ?_
 refine Aa.is (Se p s t u _) rfl ?_
 refine Goes ?_;repeat' first|apply W2.m|refine W1.m fun h=>?_
 refine Ab.pure rfl rfl rfl ⟨?_,rfl,rfl⟩
 rfl
theorem We {p s:List Int} {t u:Int} (h:Jy p s t u=0):p.length<=12/\Qv p=true/\s.length<=8/\Dg 0 9999 s=true/\inR 0 2147483646 t/\inR 0 9999 u:=by
 unfold Jy at h
 split at h
 · rename_i hp
   split at h
   · rename_i hs
     split at h
     · rename_i ht
       unfold C3 at hp
       unfold C9 at hs
       split at hp
       · omega
       · split at hp
         · split at hs
           · omega
           · split at hs
             · exact ⟨by omega,by assumption,by omega,by assumption,ht.1,ht.2⟩
             · omega
         · omega
     · omega
   · exact absurd h (by assumption)
 · exact absurd h (by assumption)
def b19 (x:Int × List Int) (n:Nat):AV->Hp->Nat->Prop:=fun r ho m=>(x.1=0/\r=.agg [iv 0,.own n x.2.length]/\ho=[(n,.list 2 1 (ivs x.2))]/\m=n + 1)∨(x.1≠0/\r=.agg [iv x.1,nl]/\ho=[]/\m=n)
theorem a30 (p s:List Int) (t u:Int) (n:Nat) (h:Jy p s t u=0):Ret Tryz.prog 262 [il p,il s,iv t,iv u] [] n true (b19 (Mp t u p s) n):=by
 obtain ⟨h1,h2,h3,h4,h5,h6⟩:=We h
 have hf:=Se p s t u
 rw [h] at hf
 refine Ret.fn Ad Tryz.func262 rfl Tryz.call262 rfl rfl ?_
 refine Goes ?_
 refine Aa.is (hf _) rfl ?_
 refine Goes ?_
 refine ⟨⟨Nat.zero_le _,by simp only [List.length_map]; show (0 + _) * 8<=_; omega,by simp only [List.length_map,maxLen]; show 0 + _<=_; omega,trivial,Ky⟩,?_⟩
 refine Goes ?_
 refine Ao.go (fun y:Nat × List Int=>y.1<=p.length/\y.2.length<=8/\Dg 0 9999 y.2=true/\Mp t u p s=Mp t u (p.drop y.1) y.2)
  (fun y=>⟨[(32,il p),(33,iv p.length),(34,iv y.1),(10,.pt 2 0 0),(8,.pt 0 0 0)],[(2,.box [.own 1 y.2.length,iv t,iv u]),(1,.list 2 1 (ivs (y.2++[]))),(0,.box [iv 0,nl])],3⟩) (fun y=>p.length - y.1) (0,s) ⟨Nat.zero_le _,h3,h4,by rw [List.drop_zero]⟩ ?_ ?_
 · rw [List.length_map,List.length_map]
   refine Ac.of rfl rfl ktA ?_
   refine ⟨⟨?_,rfl,rfl⟩,⟨Ch (by simp),rfl,rfl⟩,⟨rfl,rfl,rfl⟩,trivial⟩
   show some (A2.box [.own 1 (0 + s.length),iv t,iv u])=_
   rw [Nat.zero_add]
 rintro ⟨k,s'⟩ ⟨hk,cj,cq,hr⟩
 dsimp only at hk cj cq hr ⊢
 refine Goes ?_;repeat' first|apply W2.m|refine W1.m fun h=>?_
 · have aa:k < p.length:=by omega
   rw [A1 iv1 p k (by omega)]
   refine ⟨by (first | exact ⟨by omega,by omega,rfl⟩ | (simp only [List.length_map]; exact ⟨by omega,by omega,rfl⟩)),?_⟩
   refine Goes ?_
   refine Aa.heap (step_ret 2 1 _ (by decide) s' [] p[k] t u (R7 h2 aa) cj cq h5) rfl ktA rfl ?_
   rintro r ho m ⟨s2,e2,rfl,rfl,rfl,ez⟩
   rw [List.drop_eq_getElem_cons aa,Mp] at hr
   refine Goes ?_;repeat' first|apply W2.m|refine W1.m fun h=>?_
   · have aj:¬ (step2 p[k] s' t u).1=0:=by assumption
     rw [if_neg aj] at hr
     refine Ab.pure rfl rfl rfl (.inr ⟨?_,?_,rfl,rfl⟩)
     · rw [hr]; exact aj
     · rw [hr]
   · have he:(step2 p[k] s' t u).1=0:=Decidable.not_not.1 h
     rw [if_pos he] at hr
     obtain ⟨g1,g2⟩:=Y2 (R7 h2 aa) cj cq he
     have kZ:=ez he
     subst kZ
     refine ⟨(k + 1,(step2 p[k] s' t u).2),⟨by show k + 1<=_; omega,g1,g2,hr⟩,by show _ - (k + 1) < _ - k; omega,?_⟩
     refine Ac.trans (Ac.trunc 1 2 1 _ (ivs ((step2 p[k] s' t u).2++[])) (step2 p[k] s' t u).2.length rfl (by rw [b1k,List.append_nil])) ?_
     exact Ac.of rfl rfl ktA ktA
 · obtain rfl:k=p.length:=by omega
   rw [List.drop_length,Mp] at hr
   refine Ab.mk' [1] rfl rfl rfl rfl rfl rfl rfl (.inl ⟨?_,?_,?_,rfl⟩)
   · rw [hr]
   · rw [hr]; rfl
   · rw [hr]
     show [(n,A2.list 2 1 (ivs (s'++[])))]=_
     rw [List.append_nil]
end Go.Proofs.YtllhgcfacgiabaaGreat
namespace Go.Proofs.YtllhgcfacgiabaaGreat
open Go Go.Am Go.RowKit
set_option linter.unusedVariables false
set_option linter.unusedSimpArgs false
theorem Vp (op:Int) (n:Nat):Ret Tryz.prog 288 [iv op] [] n true (Is (iv (Cp op:Nat)) [] n):=by
 refine Ret.fn Ad Tryz.func288 rfl Tryz.call288 rfl rfl ?_
 refine Goes ?_;repeat' first|apply W2.m|refine W1.m fun h=>?_
 all_goals (refine Ab.pure rfl rfl rfl ⟨?_,rfl,rfl⟩; refine ivI ?_; unfold Cp; simp [*])
theorem Q2 (b:Bool) (n:Nat):Ret Tryz.prog 295 [bv b] [] n true (Is (iv (Kh b)) [] n):=by
 refine Ret.fn Ad Tryz.func295 rfl Tryz.call295 rfl rfl ?_
 cases b
 all_goals (refine Goes ?_)
 all_goals (refine Ab.pure rfl rfl rfl ⟨?_,rfl,rfl⟩; rfl)
def b2a (i n:Nat) (r0:List Int) (x:Int × List Int):AV->Hp->Nat->Prop:=fun r ho m=>m=n/\((x.1=0/\r=.tup [.own i x.2.length,iv 0]/\ho=[(i,.list 2 1 (ivs x.2))])∨(x.1≠0/\r=.tup [nl,iv x.1]/\ho=[(i,.list 2 1 (ivs r0))]))
theorem Sy (r:List Int):List.take r.length (ivs r)=ivs r:=List.take_of_length_le (by simp)
theorem b03 (x:Int):0<=Mo [x]/\Mo [x]<=2147483646:=V6 _
theorem a8x (op:Int) (r:List Int) (x u:Int) (i n:Nat) (hn:Cp op=1) (hl:r.length<=1000):Ret Tryz.prog 289 [iv op,.own i r.length,iv x,iv u] [(i,.list 2 1 (ivs r))] n false (b2a i n r (Gb op r x u)):=by
 refine Ret.of_runM (tt:=tt) Ad Tryz.func289 rfl Tryz.call289 [i] [.list 2 1 (ivs r)] [iv op,.own 0 r.length,iv x,iv u] false n _ rfl (Cj i) (by exact Nat.le_of_ble_eq_true rfl) rfl rfl ?_
 have a9:op=1∨op=2∨op=6∨op=7∨op=9:=by
  unfold Cp at hn
  split at hn
  · assumption
  · split at hn <;> omega
 rcases a9 with rfl | rfl | rfl | rfl | rfl
 · rw [show Gb 1 r x u=(0,r++[x,x]) from by simp [Gb]]
   refine Goes ?_
   refine ⟨⟨Az,Az,Az,Az,Ky⟩,?_⟩
   refine Goes ?_
   refine Ab.mk' [] rfl rfl rfl rfl rfl rfl rfl ⟨rfl,.inl ⟨rfl,?_,?_⟩⟩
   · show AV.tup [.own i (r.length + 2),iv 0]=_
     simp
   · show [(i,A2.list 2 1 (List.take r.length (ivs r)++[[iv x],[iv x]]))]=_
     rw [Sy]; simp
 · rw [show Gb 2 r x u=(0,r) from by simp [Gb]]
   refine Goes ?_
   refine Ab.mk' [] rfl rfl rfl rfl rfl rfl rfl ⟨rfl,.inl ⟨rfl,?_,?_⟩⟩
   · rfl
   · rfl
 · by_cases hx:x=0
   · rw [show Gb 6 r x u=(8,[]) from by simp [Gb,hx]]
     refine Goes ?_;repeat' first|apply W2.m|refine W1.m fun h=>?_
     exact Ab.mk' [] rfl rfl rfl rfl rfl rfl rfl ⟨rfl,.inr ⟨by decide,rfl,rfl⟩⟩
   · rw [show Gb 6 r x u=(0,r) from by simp [Gb,hx]]
     refine Goes ?_;repeat' first|apply W2.m|refine W1.m fun h=>?_
     refine Ab.mk' [] rfl rfl rfl rfl rfl rfl rfl ⟨rfl,.inl ⟨rfl,?_,?_⟩⟩
     · rfl
     · rfl
 · rw [show Gb 7 r x u=(0,r++[Mo [x] % 1000]) from by simp [Gb]]
   refine Goes ?_
   refine Aa.convIs (H2 [x] _ (Nat.le_of_ble_eq_true rfl)) rfl (by repeat' first | exact trivial | exact Nat.le_refl _ | (show _<=List.length _; exact Az) | refine And.intro ?_ ?_) rfl trivial ?_
   refine Goes ?_
   refine ⟨⟨Az,Az,Az,Az,Ky⟩,?_⟩
   refine Goes ?_
   refine Ab.mk' [] rfl rfl rfl rfl rfl rfl rfl ⟨rfl,.inl ⟨rfl,?_,?_⟩⟩
   · show AV.tup [.own i (r.length + 1),iv 0]=_
     simp
   · show [(i,A2.list 2 1 (List.take r.length (ivs r)++[[iv ((Mo [x]).tmod 1000)]]))]=_
     have:=b03 x
     rw [Sy,IntWalk.rem_in _ _ (by omega)]; simp
 · by_cases hx:u < x
   · rw [show Gb 9 r x u=(8,[]) from by simp [Gb,hx]]
     refine Goes ?_;repeat' first|apply W2.m|refine W1.m fun h=>?_
     exact Ab.mk' [] rfl rfl rfl rfl rfl rfl rfl ⟨rfl,.inr ⟨by decide,rfl,rfl⟩⟩
   · rw [show Gb 9 r x u=(0,r) from by simp [Gb,hx]]
     refine Goes ?_;repeat' first|apply W2.m|refine W1.m fun h=>?_
     refine Ab.mk' [] rfl rfl rfl rfl rfl rfl rfl ⟨rfl,.inl ⟨rfl,?_,?_⟩⟩
     · rfl
     · rfl
theorem a8y (op:Int) (r:List Int) (y x t:Int) (i n:Nat) (hn:Cp op=2) (hl:r.length<=1000) (hx:inR 0 9999 x) (hy:inR 0 9999 y):Ret Tryz.prog 290 [iv op,.own i r.length,iv y,iv x,iv t] [(i,.list 2 1 (ivs r))] n false (b2a i n r (Ii op r y x t)):=by
 refine Ret.of_runM (tt:=tt) Ad Tryz.func290 rfl Tryz.call290 [i] [.list 2 1 (ivs r)] [iv op,.own 0 r.length,iv y,iv x,iv t] false n _ rfl (Cj i) (by exact Nat.le_of_ble_eq_true rfl) rfl rfl ?_
 have a9:op=3∨op=4∨op=5∨op=8:=by
  unfold Cp at hn
  split at hn
  · omega
  · split at hn
    · assumption
    · omega
 unfold inR at hx hy
 have hw:=IntWalk.i64_in (y + x) (by omega)
 rcases a9 with rfl | rfl | rfl | rfl
 · rw [show Ii 3 r y x t=(0,r++[x,y]) from by simp [Ii]]
   refine Goes ?_
   refine ⟨⟨Az,Az,Az,Az,Ky⟩,?_⟩
   refine Goes ?_
   refine Ab.mk' [] rfl rfl rfl rfl rfl rfl rfl ⟨rfl,.inl ⟨rfl,?_,?_⟩⟩
   · show AV.tup [.own i (r.length + 2),iv 0]=_
     simp
   · show [(i,A2.list 2 1 (List.take r.length (ivs r)++[[iv x],[iv y]]))]=_
     rw [Sy]; simp
 · by_cases hs:9999 < y + x
   · rw [show Ii 4 r y x t=(3,[]) from by simp [Ii,hs]]
     refine Goes ?_;repeat' first|apply W2.m|refine W1.m fun h=>?_
     exact Ab.mk' [] rfl rfl rfl rfl rfl rfl rfl ⟨rfl,.inr ⟨by decide,rfl,rfl⟩⟩
   · rw [show Ii 4 r y x t=(0,r++[y + x]) from by simp [Ii,hs]]
     refine Goes ?_;repeat' first|apply W2.m|refine W1.m fun h=>?_
     refine ⟨⟨Az,Az,Az,Az,Ky⟩,?_⟩
     refine Goes ?_
     refine Ab.mk' [] rfl rfl rfl rfl rfl rfl rfl ⟨rfl,.inl ⟨rfl,?_,?_⟩⟩
     · show AV.tup [.own i (r.length + 1),iv 0]=_
       simp
     · show [(i,A2.list 2 1 (List.take r.length (ivs r)++[[iv (IntKind.i64.wrap (y + x))]]))]=_
       rw [Sy,hw]; simp
 · rw [show Ii 5 r y x t=(0,r++[Kh (decide (y=x))]) from by simp [Ii]]
   refine Goes ?_
   refine Aa.is (Q2 _ _) rfl ?_
   refine Goes ?_
   refine ⟨⟨Az,Az,Az,Az,Ky⟩,?_⟩
   refine Goes ?_
   refine Ab.mk' [] rfl rfl rfl rfl rfl rfl rfl ⟨rfl,.inl ⟨rfl,?_,?_⟩⟩
   · show AV.tup [.own i (r.length + 1),iv 0]=_
     simp
   · show [(i,A2.list 2 1 (List.take r.length (ivs r)++[[iv (Kh (decide (y=x)))]]))]=_
     rw [Sy]; simp
 · rw [show Ii 8 r y x t=(0,r++[Kh (decide (inR 0 899 x)&&decide (Ve x t=y))]) from by simp [Ii]]
   refine Goes ?_
   refine Aa.is (a7H _ _) rfl ?_
   refine Goes ?_;repeat' first|apply W2.m|refine W1.m fun h=>?_
   · have hk:inR 0 899 x:=by assumption
     refine Aa.is (a5m _ _ _) rfl ?_
     refine Goes ?_;repeat' first|apply W2.m|refine W1.m fun h=>?_
     refine Aa.is (Q2 _ _) rfl ?_
     refine Goes ?_
     refine ⟨⟨Az,Az,Az,Az,Ky⟩,?_⟩
     refine Goes ?_
     refine Ab.mk' [] rfl rfl rfl rfl rfl rfl rfl ⟨rfl,.inl ⟨rfl,?_,?_⟩⟩
     · show AV.tup [.own i (r.length + 1),iv 0]=_
       simp
     · show [(i,A2.list 2 1 (List.take r.length (ivs r)++[[iv (Kh (decide (Ve x t=y)))]]))]=_
       rw [Sy,decide_eq_true hk,Bool.true_and]; simp
   · have hk:¬ inR 0 899 x:=by assumption
     refine Aa.is (Q2 _ _) rfl ?_
     refine Goes ?_
     refine ⟨⟨Az,Az,Az,Az,Ky⟩,?_⟩
     refine Goes ?_
     refine Ab.mk' [] rfl rfl rfl rfl rfl rfl rfl ⟨rfl,.inl ⟨rfl,?_,?_⟩⟩
     · show AV.tup [.own i (r.length + 1),iv 0]=_
       simp
     · show [(i,A2.list 2 1 (List.take r.length (ivs r)++[[iv (Kh false)]]))]=_
       rw [Sy,decide_eq_false hk,Bool.false_and]; simp
end Go.Proofs.YtllhgcfacgiabaaGreat
namespace Go.Proofs.YtllhgcfacgiabaaGreat
open Go Go.Am Go.RowKit
set_option linter.unusedVariables false
set_option linter.unusedSimpArgs false
def StQ (n:Nat) (x:Int × List Int):AV->Hp->Nat->Prop:=fun r ho m=>(x.1=0/\r=.tup [.own n x.2.length,iv 0]/\ho=[(n,.list 2 1 (ivs x.2))]/\m=n + 1)∨(x.1≠0/\r=.tup [nl,iv x.1]/\ho=[]/\m=n)
theorem a6X (s:List Int) (x:Int):(ivs (s++[x])).getD (Int.toNat (s.length:Int)) []=[iv x]:=by
 have:=b1w s [] x; rwa [List.append_nil] at this
theorem a5W (op:Int) (s:List Int) (t u:Int) (n:Nat) (a9:opB op=true) (hl:s.length<=8) (hs:Dg 0 9999 s=true):Ret Tryz.prog 277 [iv op,il s,iv t,iv u] [] n true (StQ n (step2 op s t u)):=by
 have hL:(ivs s).length=s.length:=by simp
 by_cases bD:s.length < Cp op
 · rw [Ee bD]
   refine Ret.fn Ad Tryz.func277 rfl Tryz.call277 rfl rfl ?_
   refine Goes ?_
   refine Aa.is (Vp _ _) rfl ?_
   refine Goes ?_;repeat' first|apply W2.m|refine W1.m fun h=>?_
   exact Ab.mk' [] rfl rfl rfl rfl rfl rfl rfl (.inr ⟨by decide,rfl,rfl,rfl⟩)
 have k5:Cp op=0∨Cp op=1∨Cp op=2:=by unfold Cp; (repeat' split) <;> simp
 have fZ:=Vp op
 rcases k5 with hn | hn | hn
 · have kY:100<=op/\op<=1099:=by
    unfold Cp at hn
    simp [opB] at a9
    split at hn
    · omega
    · split at hn <;> omega
   have eG:R8 op s t u=(0,s++[op - 100]):=by unfold R8; rw [if_pos hn]
   rw [Ji bD eG]
   rw [hn] at fZ
   refine Ret.fn Ad Tryz.func277 rfl Tryz.call277 rfl rfl ?_
   refine Goes ?_
   refine Aa.is (fZ _) rfl ?_
   refine Goes ?_
   refine Aa.is (fZ _) rfl ?_
   refine Goes ?_
   refine Aa.is (Fg s _ (by omega)) rfl ?_
   refine Goes ?_
   refine ⟨⟨Az,Az,Az,Az,Ky⟩,?_⟩
   refine Goes ?_;repeat' first|apply W2.m|refine W1.m fun h=>?_
   · have h':8 < ((s.length + 1:Nat):Int):=h
     rw [if_pos ⟨rfl,by simp; omega⟩]
     exact Ab.mk' [] rfl rfl rfl rfl rfl rfl rfl (.inr ⟨by decide,rfl,rfl,rfl⟩)
   · have h':¬ 8 < ((s.length + 1:Nat):Int):=h
     rw [if_neg (by simp; omega)]
     refine Ab.mk' [1] rfl rfl rfl rfl rfl rfl rfl (.inl ⟨rfl,?_,?_,rfl⟩)
     · show AV.tup [.own n (s.length + 1),iv 0]=_
       simp
     · show [(n,A2.list 2 1 (List.take s.length (ivs s)++[[iv (IntKind.i64.wrap (op - 100))]]))]=_
       rw [Sy,IntWalk.i64_in _ (by omega)]; simp
 · rcases List.eq_nil_or_concat s with rfl | ⟨s1,x,rfl⟩
   · rw [hn] at bD; simp at bD
   rw [List.concat_eq_append] at *
   have b6:(s1++[x]).length=s1.length + 1:=by simp
   rw [Ji bD (Ip s1 x t u hn)]
   rw [hn] at fZ
   refine Ret.fn Ad Tryz.func277 rfl Tryz.call277 rfl rfl ?_
   refine Goes ?_
   refine Aa.is (fZ _) rfl ?_
   refine Goes ?_;repeat' first|apply W2.m|refine W1.m fun h=>?_
   refine Aa.is (fZ _) rfl ?_
   refine Goes ?_
   have hw:IntKind.i64.wrap (((ivs (s1++[x])).length:Int) - 1)=(s1.length:Int):=by rw [hL,b6,IntWalk.i64_in _ (by omega)]; omega
   simp only [hw]
   rw [show List.take (Int.toNat (s1.length:Int) - Int.toNat 0) (List.drop (Int.toNat 0) (ivs (s1++[x])))=ivs s1 from by show List.take (s1.length - 0) (List.drop 0 _)=_; rw [List.drop_zero,Nat.sub_zero,show ivs (s1++[x])=ivs s1++ivs [x] from List.map_append ..,List.take_left' (by simp)]]
   refine ⟨⟨by omega,by omega,by omega,.inl trivial⟩,?_⟩
   refine Goes ?_
   refine B8.is (Fg s1 _ (by omega)) rfl rfl ?_
   refine Goes ?_
   simp only [hw]
   rw [a6X]
   refine ⟨⟨by omega,by omega,rfl⟩,?_⟩
   refine Goes ?_
   refine Aa.heap (a8x op s1 x u 1 _ hn (by omega)) rfl ktA rfl ?_
   rintro r ho m ⟨rfl,bC⟩
   rcases bC with ⟨hc,rfl,rfl⟩ | ⟨hc,rfl,rfl⟩
   · generalize Gb op s1 x u=xx at *
     obtain ⟨c0,l0⟩:=xx
     dsimp only at hc ⊢
     subst hc
     refine Goes ?_;repeat' first|apply W2.m|refine W1.m fun h=>?_
     all_goals first
      | (rw [if_pos ⟨rfl,by omega⟩]
         exact Ab.mk' [] rfl rfl rfl rfl rfl rfl rfl (.inr ⟨by decide,rfl,rfl,rfl⟩))
      | (rw [if_neg (by intro h'; omega)]
         exact Ab.mk' [1] rfl rfl rfl rfl rfl rfl rfl (.inl ⟨rfl,rfl,rfl,rfl⟩))
   · rw [if_neg (fun h'=>hc h'.1)]
     generalize Gb op s1 x u=xx at *
     obtain ⟨c0,l0⟩:=xx
     dsimp only at hc ⊢
     refine Goes ?_;repeat' first|apply W2.m|refine W1.m fun h=>?_
     all_goals first
      | (exfalso; exact hc (by assumption))
      | exact Ab.mk' [] rfl rfl rfl rfl rfl rfl rfl (.inr ⟨hc,rfl,rfl,rfl⟩)
 · rcases List.eq_nil_or_concat s with rfl | ⟨s1,x,rfl⟩
   · rw [hn] at bD; simp at bD
   rw [List.concat_eq_append] at *
   rcases List.eq_nil_or_concat s1 with rfl | ⟨s2,y,rfl⟩
   · rw [hn] at bD; simp at bD
   rw [List.concat_eq_append] at *
   have b6:(s2++[y]++[x]).length=s2.length + 2:=by simp
   have cV:inR 0 9999 x/\inR 0 9999 y:=by
    rw [Ex,Ex] at hs
    simp only [Bool.and_eq_true] at hs
    exact ⟨Ls hs.2,Ls hs.1.2⟩
   rw [Ji bD (J7 s2 y x t u hn)]
   rw [hn] at fZ
   refine Ret.fn Ad Tryz.func277 rfl Tryz.call277 rfl rfl ?_
   refine Goes ?_
   refine Aa.is (fZ _) rfl ?_
   refine Goes ?_;repeat' first|apply W2.m|refine W1.m fun h=>?_
   refine Aa.is (fZ _) rfl ?_
   refine Goes ?_
   have hw:IntKind.i64.wrap (((ivs (s2++[y]++[x])).length:Int) - 2)=(s2.length:Int):=by rw [hL,b6,IntWalk.i64_in _ (by omega)]; omega
   have kQ:IntKind.i64.wrap (((ivs (s2++[y]++[x])).length:Int) - 1)=((s2++[y]).length:Int):=by rw [hL,b6,IntWalk.i64_in _ (by omega),List.length_append]; simp; omega
   simp only [hw]
   rw [show List.take (Int.toNat (s2.length:Int) - Int.toNat 0) (List.drop (Int.toNat 0) (ivs (s2++[y]++[x])))=ivs s2 from by show List.take (s2.length - 0) (List.drop 0 _)=_; rw [List.drop_zero,Nat.sub_zero,List.append_assoc,show ivs (s2++([y]++[x]))=ivs s2++ivs ([y]++[x]) from List.map_append ..,List.take_left' (by simp)]]
   refine ⟨⟨by omega,by omega,by omega,.inl trivial⟩,?_⟩
   refine Goes ?_
   refine B8.is (Fg s2 _ (by omega)) rfl rfl ?_
   refine Goes ?_
   simp only [hw]
   rw [b1w]
   refine ⟨⟨by omega,by omega,rfl⟩,?_⟩
   refine Goes ?_
   simp only [kQ]
   rw [a6X]
   refine ⟨⟨by omega,by simp only [hL,b6]; simp,rfl⟩,?_⟩
   refine Goes ?_
   refine Aa.heap (a8y op s2 y x t 1 _ hn (by omega) cV.1 cV.2) rfl ktA rfl ?_
   rintro r ho m ⟨rfl,bC⟩
   rcases bC with ⟨hc,rfl,rfl⟩ | ⟨hc,rfl,rfl⟩
   · generalize Ii op s2 y x t=xx at *
     obtain ⟨c0,l0⟩:=xx
     dsimp only at hc ⊢
     subst hc
     refine Goes ?_;repeat' first|apply W2.m|refine W1.m fun h=>?_
     all_goals first
      | (rw [if_pos ⟨rfl,by omega⟩]
         exact Ab.mk' [] rfl rfl rfl rfl rfl rfl rfl (.inr ⟨by decide,rfl,rfl,rfl⟩))
      | (rw [if_neg (by intro h'; omega)]
         exact Ab.mk' [1] rfl rfl rfl rfl rfl rfl rfl (.inl ⟨rfl,rfl,rfl,rfl⟩))
   · rw [if_neg (fun h'=>hc h'.1)]
     generalize Ii op s2 y x t=xx at *
     obtain ⟨c0,l0⟩:=xx
     dsimp only at hc ⊢
     refine Goes ?_;repeat' first|apply W2.m|refine W1.m fun h=>?_
     all_goals first
      | (exfalso; exact hc (by assumption))
      | exact Ab.mk' [] rfl rfl rfl rfl rfl rfl rfl (.inr ⟨hc,rfl,rfl,rfl⟩)
end Go.Proofs.YtllhgcfacgiabaaGreat
