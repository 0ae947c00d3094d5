import Derived.Test.YtllhgcfacgiabaaGreatLawC
import Derived.Test.YtllhgcfacgiabaaGreatAmP
import Derived.Test.YtllhgcfacgiabaaGreatR3
import Derived.Test.YtllhgcfacgiabaaGreatP72
import Derived.Test.YtllhgcfacgiabaaGreatP41
namespace Go.Proofs.YtllhgcfacgiabaaGreat
open Go Go.Am Go.RowKit
set_option linter.unusedVariables false
set_option linter.unusedSimpArgs false
abbrev tl (zs:List Int):AV:=.tree 2 1 (ivs zs)
theorem fzTl (zs:List Int):Fz (tl zs) (il zs):=fzVals (Value.int .i64) zs
theorem inBIvs (zs:List Int):∀ c∈(ivs zs).flatten,inB c=true:=inB_vals (Value.int .i64) zs
theorem noId_inB {c:AV} (h:inB c=true) (i:Nat):c.idOf≠some i:=fun e=>by
 cases c <;> simp_all [inB,AV.idOf]
theorem getSnoc {l:List (List AV)} {x:List AV} {j:Nat} (h:l.length=j):(l++List.take 1 [x])[j]?=some x:=by
 subst h
 rw [List.getElem?_append_right (Nat.le_refl _),Nat.sub_self]; rfl
theorem setSnoc {l:List (List AV)} {x y:List AV} {j:Nat} (h:l.length=j):(l++List.take 1 [x]).set j y=l++[y]:=by
 subst h
 rw [List.set_append_right _ _ (Nat.le_refl _),Nat.sub_self]; rfl
end Go.Proofs.YtllhgcfacgiabaaGreat
namespace Go.Proofs.YtllhgcfacgiabaaGreat
open Go Go.Am Go.RowKit
set_option linter.unusedVariables false
set_option linter.unusedSimpArgs false
abbrev coinT (c:CoinD):List AV:=[iv c.tx,iv c.out,iv c.val,tl c.lock,iv c.h,bv c.base]
theorem fzCoin (xs:List CoinD):FzR 6 (xs.map coinT) (xs.map coinRow):=FzR.map (f:=coinT) (g:=coinRow) (fun _=>rfl) (fun x=>⟨.val _,.val _,.val _,fzTl x.lock,.val _,.val _,trivial⟩) xs
theorem inBCoin (xs:List CoinD):∀ c∈(xs.map coinT).flatten,inB c=true:=inB_map (fun x c hc=>by simp only [List.mem_cons,List.not_mem_nil,or_false] at hc; rcases hc with rfl | rfl | rfl | rfl | rfl | rfl <;> rfl) xs
abbrev zeroCoin:List AV:=[iv 0,iv 0,iv 0,nl,iv 0,bv false]
end Go.Proofs.YtllhgcfacgiabaaGreat
namespace Go.Proofs.YtllhgcfacgiabaaGreat
open Go Go.Am Go.RowKit
set_option linter.unusedVariables false
set_option linter.unusedSimpArgs false
abbrev coin0:CoinD:=⟨0,0,0,[],0,false⟩
def SortedQ (xs:List CoinD) (i n T:Nat):AV→Hp→Nat→Prop:=fun r ho m=>r=.tup []∧m=n∧∃ ys:List CoinD,ys.Perm xs∧(∀ (i j:Nat) (h:i≤j) (hj:j < ys.length),¬ lessP ys[j] (ys[i]'(Nat.lt_of_le_of_lt h hj)))∧ho=[(i,.nest (c:=true) T 6 (ys.map coinT))]
theorem seg_inj {σ:Nat→Nat} {N:Nat} (h:(seg σ 0 N).Perm (seg id 0 N)):(∀ k,k < N→σ k < N)∧∀ k l,k < N→l < N→σ k=σ l→k=l:=by
 have hid:seg id 0 N=List.range N:=by unfold seg; rw [List.map_id,Nat.sub_zero,List.range_eq_range']
 rw [hid] at h
 refine ⟨fun k hk=>List.mem_range.1 (h.mem_iff.1 (mem_seg (Nat.zero_le k) hk)),fun k l hk hl e=>?_⟩
 have hn:(seg σ 0 N).Nodup:=h.symm.nodup List.nodup_range
 unfold seg at hn
 rw [Nat.sub_zero,← List.range_eq_range'] at hn
 have:=List.getElem_inj (i:=k) (j:=l) (h₀:=by simpa using hk) (h₁:=by simpa using hl) hn
 simpa using this.1 (by simpa using e)
theorem rows_coins (xs:List CoinD) (σ:Nat→Nat) (N:Nat):rowsOf (fun k=>coinT (xs.getD (σ k) coin0)) N=((List.range N).map fun k=>xs.getD (σ k) coin0).map coinT:=by
 simp [rowsOf]
theorem coins_range (xs:List CoinD):(List.range xs.length).map (fun k=>xs.getD k coin0)=xs:=by
 apply List.ext_getElem
 · simp
 · intro i h1 h2
   simp [h2]
theorem sortCoins_ret (xs:List CoinD) (i nx:Nat) (hn:xs.length≤60):Ret Tryz.prog 251 [.own i xs.length,cmpV] [(i,.nest (c:=true) 184 6 (xs.map coinT))] nx true (SortedQ xs i nx 184):=by
 have h:=Ret.permNest (P:=Tryz.prog) (f:=251) (T:=184) (N:=xs.length) (i:=i) (n:=nx) (ws:=[cmpV]) (fun a ha=>by rw [List.mem_singleton.1 ha]; exact ⟨_,rfl⟩) (fun k=>coinT (xs.getD k coin0)) (fun k=>(xs.getD k coin0).tx) (fun k=>(xs.getD k coin0).out)
  (fun k hk=>⟨rfl,rfl,rfl⟩) (fun σ=>(seg σ 0 xs.length).Perm (seg id 0 xs.length)∧∀ i j,i≤j→j < xs.length→¬ lessP (xs.getD (σ j) coin0) (xs.getD (σ i) coin0)) (fun σ hσ=>seg_inj hσ.1)
  (fun v2 v3 v4 v5=>Ret.mono (fun r ho m ⟨h1,h2,g,h3,hg⟩=>⟨h1,h2,g,⟨hg.perm,fun i j i1 i2=>hg.srt i j (Nat.zero_le _) i1 i2⟩,h3⟩) (sort_ret _ id xs.length i nx hn))
 rw [show rowsOf (fun k=>coinT (xs.getD k coin0)) xs.length=xs.map coinT from (rows_coins xs id _).trans (congrArg _ (coins_range xs))] at h
 refine Ret.mono ?_ h
 rintro r ho m ⟨h1,h2,σ,⟨hp,hs⟩,h3⟩
 refine ⟨h1,h2,(List.range xs.length).map (fun k=>xs.getD (σ k) coin0),?_,fun a b hab hb=>?_,by rw [h3,rows_coins]⟩
 · have e1:(List.range xs.length).map (fun k=>xs.getD (σ k) coin0)=(seg σ 0 xs.length).map (fun k=>xs.getD k coin0):=by
    unfold seg; rw [Nat.sub_zero,← List.range_eq_range',List.map_map]; rfl
   have e2:(seg id 0 xs.length).map (fun k=>xs.getD k coin0)=xs:=by
    unfold seg; rw [Nat.sub_zero,← List.range_eq_range',List.map_id,coins_range]
   rw [e1]
   exact (hp.map _).trans (by rw [e2])
 · rw [List.length_map,List.length_range] at hb
   simp only [List.getElem_map,List.getElem_range]
   exact hs a b hab hb
theorem lessP_trans {a b c:CoinD} (h:lessP a b) (k:lessP b c):lessP a c:=by unfold lessP at *; omega
theorem rising_eq:∀ {xs ys:List CoinD},xs.Pairwise lessP→ys.Pairwise lessP→xs.Perm ys→xs=ys
 | [],ys,_,_,h=>by rw [List.nil_perm.1 h]
 | x::xs,[],_,_,h=>by have:=h.length_eq; simp at this
 | x::xs,y::ys,h1,h2,h=>by
   have hx:=List.pairwise_cons.1 h1
   have hy:=List.pairwise_cons.1 h2
   have e:x=y:=by
    rcases List.mem_cons.1 (h.mem_iff.1 (List.mem_cons_self ..)) with e | e
    · exact e
    · rcases List.mem_cons.1 (h.mem_iff.2 (List.mem_cons_self (a:=y) (l:=ys))) with e' | e'
      · exact e'.symm
      · have a1:=hx.1 y e'
        have a2:=hy.1 x e
        unfold lessP at a1 a2
        omega
   subst e
   rw [rising_eq hx.2 hy.2 ((List.perm_cons x).1 h)]
theorem rising_of {ys:List CoinD} (h:∀ (i j:Nat) (h:i≤j) (hj:j < ys.length),¬ lessP ys[j] (ys[i]'(Nat.lt_of_le_of_lt h hj))) (hd:ys.Pairwise fun a b=>¬ (a.tx=b.tx∧a.out=b.out)):ys.Pairwise lessP:=by
 rw [List.pairwise_iff_getElem] at hd ⊢
 intro i j hi hj hij
 have h1:=h i j (by omega) hj
 have h2:=hd i j hi hj hij
 unfold lessP at *
 omega
end Go.Proofs.YtllhgcfacgiabaaGreat
namespace Go.Proofs.YtllhgcfacgiabaaGreat
open Go Go.Am Go.RowKit
set_option linter.unusedVariables false
set_option linter.unusedSimpArgs false
abbrev kvC (c:CoinD):List KV:=[.int c.tx,.int c.out]
def mapF (l:List CoinD):List (List KV × AV):=l.foldl (fun m c=>putM (kvC c) (coinV c) m) []
theorem mapF_succ (l:List CoinD) (k:Nat) (h:k < l.length):mapF (l.take (k + 1))=putM (kvC l[k]) (coinV l[k]) (mapF (l.take k)):=by
 unfold mapF; rw [takeS l k h,List.foldl_append]; rfl
abbrev kks:List KK:=[.int .i64,.int .i64]
theorem leafM {ks:List KK} {x y:List (List KV × AV)} (h:x=y):some (AObj.map ks x)=some (AObj.map ks y):=by rw [h]
theorem setOfCoins_ret (l:List CoinD) (n:Nat) (hl:l.length≤1048576):Ret Tryz.prog 219 [coinsV l] [] n true (Is (.mp n) [(n,.map kks (mapF l))] (n + 1)):=by
 have hL:(l.map coinRow).length=l.length:=by simp
 refine Ret.fn ttOk Tryz.func219 rfl Tryz.call219 rfl rfl ?_
 refine Goes ?_
 refine LoopP.go (fun k:Nat=>k≤l.length) (fun k=>⟨[(3,.mp 0),(9,coinsV l),(10,iv l.length),(11,iv k)],[(0,.map kks (mapF (l.take k)))],1⟩) (fun k=>l.length - k) 0 (Nat.zero_le _) ?_ ?_
 · rw [hL]
   exact Weak.of rfl rfl ⟨⟨rfl,rfl⟩,⟨rfl,rfl⟩,⟨rfl,rfl⟩,⟨rfl,rfl⟩,trivial⟩ ⟨⟨rfl,rfl,rfl⟩,trivial⟩
 intro k hk
 refine Goes ?_;repeat' first|apply W2.m|refine W1.m fun h=>?_
 · have hlt:k < l.length:=by omega
   rw [rowK coinRow l k hlt]
   refine ⟨by rw [hL]; exact ⟨by omega,by omega,rfl⟩,?_⟩
   refine Goes ?_
   first | refine CallP.is (keyOfCoin_ret l[k] _) rfl ?_ | refine CallQ.is (keyOfCoin_ret l[k] _) rfl rfl ?_
   refine Goes ?_
   refine ⟨True.intro,?_⟩
   refine Goes ?_
   exact ⟨k + 1,by omega,by omega,Weak.of rfl rfl ⟨⟨rfl,rfl⟩,⟨rfl,rfl⟩,⟨rfl,rfl⟩,⟨leafI numA,rfl⟩,trivial⟩ ⟨⟨leafM (by rw [mapF_succ l k hlt]),rfl,rfl⟩,trivial⟩⟩
 · obtain rfl:k=l.length:=by omega
   rw [List.take_length]
   refine FinOk.mk' [0] rfl rfl rfl rfl rfl rfl rfl ⟨?_,?_,rfl⟩
   · rfl
   · rfl
def atC (l:List CoinD) (t o:Int):Option CoinD:=l.find? fun c=>decide (c.tx=t∧c.out=o)
theorem findM_put (k q:List KV) (a:AV):∀ (rows:List (List KV × AV)),findM k (putM q a rows)=if q=k then some a else findM k rows
 | []=>by simp [putM,findM]
 | r::rs=>by
   simp only [putM]
   by_cases h:r.1=q
   · rw [if_pos h]
     by_cases h2:q=k
     · simp [findM,h2]
     · simp only [findM,if_neg h2]
       rw [if_neg (by rw [h]; exact h2)]
   · rw [if_neg h]
     simp only [findM,findM_put k q a rs]
     by_cases h2:r.1=k
     · rw [if_pos h2,if_pos h2,if_neg (fun e=>h (h2.trans e.symm))]
     · rw [if_neg h2,if_neg h2]
theorem cgC_apart:∀ (l:List CoinD) (p:Option CoinD),cgC p l=0→(∀ q,p=some q→∀ c∈l,lessP q c)∧l.Pairwise lessP
 | [],p,_=>⟨fun q _ c hc=>(by cases hc),.nil⟩
 | c::r,p,h=>by
   rw [cgC] at h
   by_cases h1:coinC c≠0
   · rw [if_pos h1] at h; exact absurd h h1
   · rw [if_neg h1] at h
     by_cases h2:ordP p c=true
     · rw [if_pos h2] at h
       obtain ⟨g1,g2⟩:=cgC_apart r (some c) h
       refine ⟨fun q hq x hx=>?_,.cons (g1 c rfl) g2⟩
       subst hq
       have hqc:lessP q c:=by simpa [ordP] using h2
       rcases List.mem_cons.1 hx with rfl | hx
       · exact hqc
       · have hcx:=g1 c rfl x hx
         unfold lessP at *
         omega
     · rw [if_neg h2] at h; cases h
theorem atC_snoc {l:List CoinD} {c:CoinD} {t o:Int} (h:∀ x∈l,lessP x c):atC (l++[c]) t o=if c.tx=t∧c.out=o then some c else atC l t o:=by
 unfold atC
 rw [List.find?_append]
 by_cases hc:c.tx=t∧c.out=o
 · rw [if_pos hc]
   have:l.find? (fun c=>decide (c.tx=t∧c.out=o))=none:=by
    rw [List.find?_eq_none]
    intro x hx
    have:=h x hx
    unfold lessP at this
    simp; omega
   rw [this]; simp [hc]
 · rw [if_neg hc]
   simp [hc]
theorem mapF_find {l:List CoinD} (h:l.Pairwise lessP) (t o:Int):∀ k,k≤l.length→findM [.int t,.int o] (mapF (l.take k))=(atC (l.take k) t o).map coinV
 | 0,_=>by simp [mapF,findM,atC]
 | k + 1,hk=>by
   have ih:=mapF_find h t o k (by omega)
   rw [mapF_succ l k hk,findM_put,ih,takeS l k hk,atC_snoc fun x hx=>by
    obtain ⟨i,hi,rfl⟩:=List.mem_iff_getElem.1 hx
    rw [List.length_take] at hi
    rw [List.getElem_take]
    exact List.pairwise_iff_getElem.1 h i k (by omega) hk (by omega)]
   by_cases hc:l[k].tx=t∧l[k].out=o
   · rw [if_pos hc,if_pos (by simp [kvC,hc])]; rfl
   · rw [if_neg hc,if_neg (by simpa [kvC] using hc)]
theorem mapF_at {l:List CoinD} (h:coinsC l=0) (t o:Int):findM [.int t,.int o] (mapF l)=(atC l t o).map coinV:=by
 have:=mapF_find (cgC_apart l none (coinsC_ok h).2.1).2 t o l.length (Nat.le_refl _)
 rwa [List.take_length] at this
theorem atC_here {l:List CoinD} {t o:Int} {k:Nat} (h:k < l.length) (hp:∀ x∈l.take k,¬ (x.tx=t∧x.out=o)) (hk:l[k].tx=t∧l[k].out=o):atC l t o=some l[k]:=by
 unfold atC
 conv=>lhs; rw [← List.take_append_drop k l]
 rw [List.find?_append,List.find?_eq_none.2 (fun x hx=>by simpa using hp x hx),List.drop_eq_getElem_cons h,List.find?_cons_of_pos (by simpa using hk)]
 rfl
theorem atC_no {l:List CoinD} {t o:Int} (hp:∀ x∈l,¬ (x.tx=t∧x.out=o)):atC l t o=none:=List.find?_eq_none.2 fun x hx=>by simpa using hp x hx
end Go.Proofs.YtllhgcfacgiabaaGreat
namespace Go.Proofs.YtllhgcfacgiabaaGreat
open Go Go.Am Go.RowKit
set_option linter.unusedVariables false
set_option linter.unusedSimpArgs false
theorem cloneI_ret (zs:List Int) (n:Nat) (hl:zs.length≤1048576) (hne:zs≠[]):Ret Tryz.prog 199 [il zs] [] n true (Is (.own n zs.length) [(n,.list 2 1 (ivs zs))] (n + 1)):=by
 have hL:(ivs zs).length=zs.length:=by simp
 refine Ret.fn ttOk Tryz.func199 rfl Tryz.call199 rfl rfl ?_
 refine Goes ?_
 refine ⟨by simpa using hne,?_⟩
 refine Goes ?_
 refine ⟨⟨lenA,by rw [hL]; show _ * 8≤_; omega,by rw [hL]; unfold maxLen; omega,trivial,fun r hr=>by obtain ⟨x,_,rfl⟩:=List.mem_map.1 hr; rfl⟩,?_⟩
 refine Goes ?_
 refine FinOk.mk' [0] rfl rfl rfl rfl rfl rfl rfl ⟨?_,?_,rfl⟩
 · exact ownI (by simp)
 · exact objI (by simp)
theorem cloneI_nil (cap:Nat) (n:Nat):Ret Tryz.prog 199 [.val (.slice none 0 cap)] [] n true (Is nl [] n):=by
 refine Ret.fn ttOk Tryz.func199 rfl Tryz.call199 rfl rfl ?_
 refine Goes ?_
 refine FinOk.pure rfl rfl rfl ⟨?_,rfl,rfl⟩
 rfl
theorem cloneI_emp (a:Addr) (cap:Nat) (n:Nat):Ret Tryz.prog 199 [.val (.slice (some a) 0 cap)] [] n true (Is (.own n 0) [(n,.list 2 1 [])] (n + 1)):=by
 refine Ret.fn ttOk Tryz.func199 rfl Tryz.call199 rfl rfl ?_
 refine Goes ?_
 refine FinOk.mk' [0] rfl rfl rfl rfl rfl rfl rfl ⟨?_,?_,rfl⟩
 · rfl
 · rfl
def CloneQ (n:Nat) (zs:List Int):AV→Hp→Nat→Prop:=fun r ho m=>(r=.own n zs.length∧ho=[(n,.list 2 1 (ivs zs))]∧m=n + 1)∨(zs=[]∧r=nl∧ho=[]∧m=n)
theorem cloneI (zs:List Int) (n:Nat) (hl:zs.length≤1048576):Ret Tryz.prog 199 [il zs] [] n true (CloneQ n zs):=by
 by_cases h:zs=[]
 · subst h
   refine Ret.emp fun a cap=>?_
   cases a with
   | none=>exact Ret.mono (fun r ho m ⟨h1,h2,h3⟩=>.inr ⟨rfl,h1,h2,h3⟩) (cloneI_nil cap n)
   | some a=>exact Ret.mono (fun r ho m ⟨h1,h2,h3⟩=>.inl ⟨h1,h2,h3⟩) (cloneI_emp a cap n)
 · exact Ret.mono (fun r ho m ⟨h1,h2,h3⟩=>.inl ⟨h1,h2,h3⟩) (cloneI_ret zs n hl h)
abbrev coinX (c:CoinD) (x:AV):AV:=.agg [iv c.tx,iv c.out,iv c.val,x,iv c.h,bv c.base]
theorem copyOfCoin_ret (c:CoinD) (n:Nat) (hl:pCoin c≤1048576):Ret Tryz.prog 250 [coinV c] [] n true (fun r ho m=>∃ x,CloneQ n c.lock x ho m∧r=coinX c x):=by
 refine Ret.fn ttOk Tryz.func250 rfl Tryz.call250 rfl rfl ?_
 refine Goes ?_
 refine CallP.pure (cloneI c.lock _ hl) rfl ?_
 rintro r ho m (⟨rfl,rfl,rfl⟩ | ⟨h0,rfl,rfl,rfl⟩)
 · refine Goes ?_
   refine FinOk.mk' [2] rfl rfl rfl rfl rfl rfl rfl ⟨.own n c.lock.length,.inl ⟨rfl,rfl,rfl⟩,rfl⟩
 · refine Goes ?_
   refine FinOk.pure rfl rfl rfl ⟨nl,.inr ⟨h0,rfl,rfl,rfl⟩,rfl⟩
end Go.Proofs.YtllhgcfacgiabaaGreat
namespace Go.Proofs.YtllhgcfacgiabaaGreat
open Go Go.Am Go.RowKit
set_option linter.unusedVariables false
set_option linter.unusedSimpArgs false
theorem Ret.aggNil {P:Program} {f:FuncId} {args:List AV} {n e s:Nat} (hs:0 < s) {Q Q':AV→Hp→Nat→Prop} (hQ:∀ r ho m,Q r ho m→Q' r ho m∨∃ (cs:List AV) (k:Nat),r=.agg cs∧cs[k]?=some nl∧ho=[]∧m=n∧Q' (.agg (cs.set k (.own n 0))) [(n,.list e s [])] (n + 1))
 (h:Ret P f args [] n true Q):Ret P f args [] n true Q':=by
 refine ⟨h.enter,fun w ι A vs hC h1 h2 h3 h4=>Calls.mono (h.calls w ι A vs hC h1 h2 h3 h4) ?_⟩
 rintro e' w' ⟨v,r,ho,m,ι',S',rfl,hq,hnm,hC',hdom,hv,hu,huo,hio,hoi,hkeep⟩
 rcases hQ _ _ _ hq with hq' | ⟨cs,k,rfl,hk,rfl,rfl,hq'⟩
 · exact ⟨v,r,ho,m,ι',S',rfl,hq',hnm,hC',hdom,hv,hu,huo,hio,hoi,hkeep⟩
 have h0:∀ k:Key,ι' k=none:=fun k=>hdom k rfl
 have hno:∀ c∈cs,∀ id,c.idOf=some id→False:=fun c hc id hid=>hu c hc id hid rfl
 have hone:∀ (k:Key) p,put ι' (m:Key) (some .nil) k=some p→k=(m:Key)∧p=.nil:=fun k p hp=>by
  by_cases ek:k=(m:Key)
  · subst ek; rw [put_same] at hp; cases hp; exact ⟨rfl,rfl⟩
  · rw [put_ne _ _ ek,h0 k] at hp; cases hp
 refine ⟨v,.agg (cs.set k (.own m 0)),[(m,.list e s [])],m + 1,put ι' (m:Key) (some .nil),S',rfl,hq',Nat.le_succ _,?_,fun k hk=>?_,?_,?_,fun id o ho=>?_,fun id hid=>absurd rfl hid,fun id hid=>?_,fun id o p ho=>by cases ho⟩
 · refine ⟨hC'.frame,hC'.sub,hC'.lt,?_,?_,?_,?_,?_,fun id p hp=>(by cases hp),hC'.fxs⟩
   · rintro b hb ⟨i,c,z,hm⟩; cases (hone _ _ hm).2
   · intro i g c z hm; cases (hone _ _ hm).2
   · intro i j g c d z r hm; cases (hone _ _ hm).2
   · intro i hi
     have hi':m + 1≤i.id:=hi
     rw [put_id _ _ (by first | omega | (dsimp only; omega) | (dsimp only at *; omega))]; exact h0 i
   · intro id o ho
     rw [look_cons] at ho
     split at ho
     · rename_i ei
       subst ei
       cases ho
       exact ⟨Nat.lt_succ_self _,trivial,.nil e s (put_same _ _ _) hs⟩
     · cases ho
 · rw [look_cons] at hk
   split at hk
   · cases hk
   · rename_i hne
     rw [put_id _ _ (by first | omega | (dsimp only; omega) | (dsimp only at *; omega))]; exact h0 k
 · cases hv with
   | one hv=>cases hv with
     | cell hv=>cases hv with
       | rd hv=>cases hv
     | agg us _ hus =>
       refine .one (.agg us _ (All2.of (by rw [List.length_set]; exact hus.length) fun x u a hxu hxa=>?_))
       rw [List.getElem?_set] at hxa
       split at hxa
       · rename_i ek
         subst ek
         split at hxa
         · cases hxa
           have:=hus.at hxu hk
           cases this with
           | rd hr=>cases hr with
             | val=>exact .own0 m (put_same _ _ _)
         · cases hxa
       · exact (hus.at hxu hxa).mono (K:=fun _=>False) ⟨fun b hb=>⟨hb,rfl⟩,fun _ _ hf=>hf.elim⟩ fun id hid=>hno a (List.mem_of_getElem? hxa) id hid
 · intro c hc id hid
   rcases List.mem_or_eq_of_mem_set hc with hc | rfl
   · exact (hno c hc id hid).elim
   · simp only [AV.idOf,Option.some.injEq] at hid
     subst hid
     unfold inH
     rw [look_cons_eq]
     simp
 · rw [look_cons] at ho
   split at ho
   · cases ho; trivial
   · cases ho
 · unfold inH at hid
   rw [look_cons] at hid
   split at hid
   · rename_i ei; exact .inr (by omega)
   · exact absurd rfl hid
theorem copyCoin_own (c:CoinD) (n:Nat) (h:pCoin c≤1048576):Ret Tryz.prog 250 [coinV c] [] n true (Is (.agg [iv c.tx,iv c.out,iv c.val,.own n c.lock.length,iv c.h,bv c.base]) [(n,.list 2 1 (ivs c.lock))] (n + 1)):=by
 refine Ret.aggNil (e:=2) (s:=1) (by decide) ?_ (copyOfCoin_ret c n h)
 rintro r ho m ⟨x,⟨rfl,rfl,rfl⟩ | ⟨g0,rfl,rfl,rfl⟩,rfl⟩
 · exact .inl ⟨rfl,rfl,rfl⟩
 · exact .inr ⟨_,3,rfl,rfl,rfl,rfl,by rw [g0]; rfl,by rw [g0]; rfl,rfl⟩
end Go.Proofs.YtllhgcfacgiabaaGreat
