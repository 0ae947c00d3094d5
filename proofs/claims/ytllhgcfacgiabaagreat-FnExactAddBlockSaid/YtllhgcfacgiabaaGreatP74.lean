import Derived.Test.YtllhgcfacgiabaaGreatLawC
import Derived.Test.YtllhgcfacgiabaaGreatP41
import Derived.Test.YtllhgcfacgiabaaGreatP43
namespace Go.Proofs.YtllhgcfacgiabaaGreat
open Go Go.Am Go.RowKit
set_option linter.unusedVariables false
set_option linter.unusedSimpArgs false
abbrev Fj (c:Ah):List AV:=[iv c.tx,iv c.out,iv c.val,tl c.lock,iv c.h,bv c.base]
theorem a2x (xs:List Ah):FzR 6 (xs.map Fj) (xs.map Ai):=FzR.map (f:=Fj) (g:=Ai) (fun _=>rfl) (fun x=>⟨.val _,.val _,.val _,b1I x.lock,.val _,.val _,trivial⟩) xs
theorem Pi (xs:List Ah):∀ c∈(xs.map Fj).flatten,inB c=true:=Ph (fun x c hc=>by simp only [List.mem_cons,List.not_mem_nil,or_false] at hc; rcases hc with rfl | rfl | rfl | rfl | rfl | rfl <;> rfl) xs
abbrev Yy:List AV:=[iv 0,iv 0,iv 0,nl,iv 0,bv false]
abbrev J6:Ah:=⟨0,0,0,[],0,false⟩
def b01 (xs:List Ah) (i n T:Nat):AV->Hp->Nat->Prop:=fun r ho m=>r=.tup []/\m=n/\∃ ys:List Ah,ys.Perm xs/\(∀ (i j:Nat) (h:i<=j) (hj:j < ys.length),¬ Bz ys[j] (ys[i]'(Nat.lt_of_le_of_lt h hj)))/\ho=[(i,.nest (c:=true) T 6 (ys.map Fj))]
theorem b02 {σ:Nat->Nat} {N:Nat} (h:(seg σ 0 N).Perm (seg id 0 N)):(∀ k,k < N->σ k < N)/\∀ k l,k < N->l < N->σ k=σ l->k=l:=by
 have hid:seg id 0 N=List.range N:=by unfold seg; rw [List.map_id,Nat.sub_zero,List.range_eq_range']
 rw [hid] at h
 refine ⟨fun k hk=>List.mem_range.1 (h.mem_iff.1 (a2t (Nat.zero_le k) hk)),fun k l hk hl e=>?_⟩
 have hn:(seg σ 0 N).Nodup:=h.symm.nodup List.nodup_range
 unfold seg at hn
 rw [Nat.sub_zero,<- List.range_eq_range'] at hn
 have:=List.getElem_inj (i:=k) (j:=l) (h₀:=by simpa using hk) (h₁:=by simpa using hl) hn
 simpa using this.1 (by simpa using e)
theorem Yz (xs:List Ah) (σ:Nat->Nat) (N:Nat):rowsOf (fun k=>Fj (xs.getD (σ k) J6)) N=((List.range N).map fun k=>xs.getD (σ k) J6).map Fj:=by
 simp [rowsOf]
theorem Vo (xs:List Ah):(List.range xs.length).map (fun k=>xs.getD k J6)=xs:=by
 apply List.ext_getElem
 · simp
 · intro i h1 h2
   simp [h2]
theorem a0d (xs:List Ah) (i nx:Nat) (hn:xs.length<=60):Ret Tryz.prog 251 [.own i xs.length,F0] [(i,.nest (c:=true) 184 6 (xs.map Fj))] nx true (b01 xs i nx 184):=by
 have h:=Ret.permNest (P:=Tryz.prog) (f:=251) (T:=184) (N:=xs.length) (i:=i) (n:=nx) (ws:=[F0]) (fun a ha=>by rw [List.mem_singleton.1 ha]; exact ⟨_,rfl⟩) (fun k=>Fj (xs.getD k J6)) (fun k=>(xs.getD k J6).tx) (fun k=>(xs.getD k J6).out)
  (fun k hk=>⟨rfl,rfl,rfl⟩) (fun σ=>(seg σ 0 xs.length).Perm (seg id 0 xs.length)/\∀ i j,i<=j->j < xs.length->¬ Bz (xs.getD (σ j) J6) (xs.getD (σ i) J6)) (fun σ hσ=>b02 hσ.1)
  (fun v2 v3 v4 v5=>Ret.mono (fun r ho m ⟨h1,h2,g,h3,hg⟩=>⟨h1,h2,g,⟨hg.perm,fun i j i1 i2=>hg.srt i j (Nat.zero_le _) i1 i2⟩,h3⟩) (a92 _ id xs.length i nx hn))
 rw [show rowsOf (fun k=>Fj (xs.getD k J6)) xs.length=xs.map Fj from (Yz xs id _).trans (congrArg _ (Vo xs))] at h
 refine Ret.mono ?_ h
 rintro r ho m ⟨h1,h2,σ,⟨hp,hs⟩,h3⟩
 refine ⟨h1,h2,(List.range xs.length).map (fun k=>xs.getD (σ k) J6),?_,fun a b dZ hb=>?_,by rw [h3,Yz]⟩
 · have e1:(List.range xs.length).map (fun k=>xs.getD (σ k) J6)=(seg σ 0 xs.length).map (fun k=>xs.getD k J6):=by
    unfold seg; rw [Nat.sub_zero,<- List.range_eq_range',List.map_map]; rfl
   have e2:(seg id 0 xs.length).map (fun k=>xs.getD k J6)=xs:=by
    unfold seg; rw [Nat.sub_zero,<- List.range_eq_range',List.map_id,Vo]
   rw [e1]
   exact (hp.map _).trans (by rw [e2])
 · rw [List.length_map,List.length_range] at hb
   simp only [List.getElem_map,List.getElem_range]
   exact hs a b dZ hb
theorem a3X {a b c:Ah} (h:Bz a b) (k:Bz b c):Bz a c:=by unfold Bz at *; omega
theorem a1f:∀ {xs ys:List Ah},xs.Pairwise Bz->ys.Pairwise Bz->xs.Perm ys->xs=ys
 | [],ys,_,_,h=>by rw [List.nil_perm.1 h]
 | x::xs,[],_,_,h=>by have:=h.length_eq; simp at this
 | x::xs,y::ys,h1,h2,h=>by
   have hx:=List.pairwise_cons.1 h1
   have hy:=List.pairwise_cons.1 h2
   have e:x=y:=by
    rcases List.mem_cons.1 (h.mem_iff.1 (List.mem_cons_self ..)) with e | e
    · exact e
    · rcases List.mem_cons.1 (h.mem_iff.2 (List.mem_cons_self (a:=y) (l:=ys))) with e' | e'
      · exact e'.symm
      · have a1:=hx.1 y e'
        have a2:=hy.1 x e
        unfold Bz at a1 a2
        omega
   subst e
   rw [a1f hx.2 hy.2 ((List.perm_cons x).1 h)]
theorem a8k {ys:List Ah} (h:∀ (i j:Nat) (h:i<=j) (hj:j < ys.length),¬ Bz ys[j] (ys[i]'(Nat.lt_of_le_of_lt h hj))) (hd:ys.Pairwise fun a b=>¬ (a.tx=b.tx/\a.out=b.out)):ys.Pairwise Bz:=by
 rw [List.pairwise_iff_getElem] at hd ⊢
 intro i j hi hj ah
 have h1:=h i j (by omega) hj
 have h2:=hd i j hi hj ah
 unfold Bz at *
 omega
abbrev kvC (c:Ah):List KV:=[.int c.tx,.int c.out]
def Lr (l:List Ah):List (List KV × AV):=l.foldl (fun m c=>Rk (kvC c) (Gr c) m) []
theorem Ur (l:List Ah) (k:Nat) (h:k < l.length):Lr (l.take (k + 1))=Rk (kvC l[k]) (Gr l[k]) (Lr (l.take k)):=by
 unfold Lr; rw [Bo l k h,List.foldl_append]; rfl
abbrev kks:List KK:=[.int .i64,.int .i64]
theorem b17 {ks:List KK} {x y:List (List KV × AV)} (h:x=y):some (A2.map ks x)=some (A2.map ks y):=by rw [h]
theorem Y0 (l:List Ah) (n:Nat) (hl:l.length<=1048576):Ret Tryz.prog 219 [A0 l] [] n true (Is (.mp n) [(n,.map kks (Lr l))] (n + 1)):=by
 have hL:(l.map Ai).length=l.length:=by simp
 refine Ret.fn Ad Tryz.func219 rfl Tryz.call219 rfl rfl ?_
 refine Goes ?_
 refine Ao.go (fun k:Nat=>k<=l.length) (fun k=>⟨[(3,.mp 0),(9,A0 l),(10,iv l.length),(11,iv k)],[(0,.map kks (Lr (l.take k)))],1⟩) (fun k=>l.length - k) 0 (Nat.zero_le _) ?_ ?_
 · rw [hL]
   exact Ac.of rfl rfl ⟨⟨rfl,rfl⟩,⟨rfl,rfl⟩,⟨rfl,rfl⟩,⟨rfl,rfl⟩,trivial⟩ ⟨⟨rfl,rfl,rfl⟩,trivial⟩
 intro k hk
 refine Goes ?_;repeat' first|apply W2.m|refine W1.m fun h=>?_
 · have aa:k < l.length:=by omega
   rw [A1 Ai l k aa]
   refine ⟨by rw [hL]; exact ⟨by omega,by omega,rfl⟩,?_⟩
   refine Goes ?_
   refine B8.is (Qb l[k] _) rfl rfl ?_
   refine Goes ?_
   refine ⟨True.intro,?_⟩
   refine Goes ?_
   exact ⟨k + 1,by omega,by omega,Ac.of rfl rfl ⟨⟨rfl,rfl⟩,⟨rfl,rfl⟩,⟨rfl,rfl⟩,⟨Aw Cm,rfl⟩,trivial⟩ ⟨⟨b17 (by rw [Ur l k aa]),rfl,rfl⟩,trivial⟩⟩
 · obtain rfl:k=l.length:=by omega
   rw [List.take_length]
   refine Ab.mk' [0] rfl rfl rfl rfl rfl rfl rfl ⟨?_,?_,rfl⟩
   · rfl
   · rfl
def atC (l:List Ah) (t o:Int):Option Ah:=l.find? fun c=>decide (c.tx=t/\c.out=o)
theorem a1g (k q:List KV) (a:AV):∀ (rows:List (List KV × AV)),Gi k (Rk q a rows)=if q=k then some a else Gi k rows
 | []=>by simp [Rk,Gi]
 | r::rs=>by
   simp only [Rk]
   by_cases h:r.1=q
   · rw [if_pos h]
     by_cases h2:q=k
     · simp [Gi,h2]
     · simp only [Gi,if_neg h2]
       rw [if_neg (by rw [h]; exact h2)]
   · rw [if_neg h]
     simp only [Gi,a1g k q a rs]
     by_cases h2:r.1=k
     · rw [if_pos h2,if_pos h2,if_neg (fun e=>h (h2.trans e.symm))]
     · rw [if_neg h2,if_neg h2]
theorem Pj:∀ (l:List Ah) (p:Option Ah),cgC p l=0->(∀ q,p=some q->∀ c∈l,Bz q c)/\l.Pairwise Bz
 | [],p,_=>⟨fun q _ c hc=>(by cases hc),.nil⟩
 | c::r,p,h=>by
   rw [cgC] at h
   by_cases h1:Ed c≠0
   · rw [if_pos h1] at h; exact absurd h h1
   · rw [if_neg h1] at h
     by_cases h2:Sq p c=true
     · rw [if_pos h2] at h
       obtain ⟨g1,g2⟩:=Pj r (some c) h
       refine ⟨fun q hq x hx=>?_,.cons (g1 c rfl) g2⟩
       subst hq
       have nA:Bz q c:=by simpa [Sq] using h2
       rcases List.mem_cons.1 hx with rfl | hx
       · exact nA
       · have fC:=g1 c rfl x hx
         unfold Bz at *
         omega
     · rw [if_neg h2] at h; cases h
theorem a99 {l:List Ah} {c:Ah} {t o:Int} (h:∀ x∈l,Bz x c):atC (l++[c]) t o=if c.tx=t/\c.out=o then some c else atC l t o:=by
 unfold atC
 rw [List.find?_append]
 by_cases hc:c.tx=t/\c.out=o
 · rw [if_pos hc]
   have:l.find? (fun c=>decide (c.tx=t/\c.out=o))=none:=by
    rw [List.find?_eq_none]
    intro x hx
    have:=h x hx
    unfold Bz at this
    simp; omega
   rw [this]; simp [hc]
 · rw [if_neg hc]
   simp [hc]
theorem a1h {l:List Ah} (h:l.Pairwise Bz) (t o:Int):∀ k,k<=l.length->Gi [.int t,.int o] (Lr (l.take k))=(atC (l.take k) t o).map Gr
 | 0,_=>by simp [Lr,Gi,atC]
 | k + 1,hk=>by
   have ih:=a1h h t o k (by omega)
   rw [Ur l k hk,a1g,ih,Bo l k hk,a99 fun x hx=>by
    obtain ⟨i,hi,rfl⟩:=List.mem_iff_getElem.1 hx
    rw [List.length_take] at hi
    rw [List.getElem_take]
    exact List.pairwise_iff_getElem.1 h i k (by omega) hk (by omega)]
   by_cases hc:l[k].tx=t/\l[k].out=o
   · rw [if_pos hc,if_pos (by simp [kvC,hc])]; rfl
   · rw [if_neg hc,if_neg (by simpa [kvC] using hc)]
theorem a6W {l:List Ah} (h:A5 l=0) (t o:Int):Gi [.int t,.int o] (Lr l)=(atC l t o).map Gr:=by
 have:=a1h (Pj l none (Dp h).2.1).2 t o l.length (Nat.le_refl _)
 rwa [List.take_length] at this
theorem b0a {l:List Ah} {t o:Int} {k:Nat} (h:k < l.length) (hp:∀ x∈l.take k,¬ (x.tx=t/\x.out=o)) (hk:l[k].tx=t/\l[k].out=o):atC l t o=some l[k]:=by
 unfold atC
 conv=>lhs; rw [<- List.take_append_drop k l]
 rw [List.find?_append,List.find?_eq_none.2 (fun x hx=>by simpa using hp x hx),List.drop_eq_getElem_cons h,List.find?_cons_of_pos (by simpa using hk)]
 rfl
theorem b1J {l:List Ah} {t o:Int} (hp:∀ x∈l,¬ (x.tx=t/\x.out=o)):atC l t o=none:=List.find?_eq_none.2 fun x hx=>by simpa using hp x hx
theorem a5R (zs:List Int) (n:Nat) (hl:zs.length<=1048576) (aj:zs≠[]):Ret Tryz.prog 199 [il zs] [] n true (Is (.own n zs.length) [(n,.list 2 1 (ivs zs))] (n + 1)):=by
 have hL:(ivs zs).length=zs.length:=by simp
 refine Ret.fn Ad Tryz.func199 rfl Tryz.call199 rfl rfl ?_
 refine Goes ?_
 refine ⟨by simpa using aj,?_⟩
 refine Goes ?_
 refine ⟨⟨Az,by rw [hL]; show _ * 8<=_; omega,by rw [hL]; unfold maxLen; omega,trivial,fun r hr=>by obtain ⟨x,_,rfl⟩:=List.mem_map.1 hr; rfl⟩,?_⟩
 refine Goes ?_
 refine Ab.mk' [0] rfl rfl rfl rfl rfl rfl rfl ⟨?_,?_,rfl⟩
 · exact R5 (by simp)
 · exact R6 (by simp)
theorem a5S (cap:Nat) (n:Nat):Ret Tryz.prog 199 [.val (.slice none 0 cap)] [] n true (Is nl [] n):=by
 refine Ret.fn Ad Tryz.func199 rfl Tryz.call199 rfl rfl ?_
 refine Goes ?_
 refine Ab.pure rfl rfl rfl ⟨?_,rfl,rfl⟩
 rfl
theorem a5T (a:Addr) (cap:Nat) (n:Nat):Ret Tryz.prog 199 [.val (.slice (some a) 0 cap)] [] n true (Is (.own n 0) [(n,.list 2 1 [])] (n + 1)):=by
 refine Ret.fn Ad Tryz.func199 rfl Tryz.call199 rfl rfl ?_
 refine Goes ?_
 refine Ab.mk' [0] rfl rfl rfl rfl rfl rfl rfl ⟨?_,?_,rfl⟩
 · rfl
 · rfl
def b0b (n:Nat) (zs:List Int):AV->Hp->Nat->Prop:=fun r ho m=>(r=.own n zs.length/\ho=[(n,.list 2 1 (ivs zs))]/\m=n + 1)∨(zs=[]/\r=nl/\ho=[]/\m=n)
theorem b0c (zs:List Int) (n:Nat) (hl:zs.length<=1048576):Ret Tryz.prog 199 [il zs] [] n true (b0b n zs):=by
 by_cases h:zs=[]
 · subst h
   refine Ret.emp fun a cap=>?_
   cases a with
   | none=>exact Ret.mono (fun r ho m ⟨h1,h2,h3⟩=>.inr ⟨rfl,h1,h2,h3⟩) (a5S cap n)
   | some a=>exact Ret.mono (fun r ho m ⟨h1,h2,h3⟩=>.inl ⟨h1,h2,h3⟩) (a5T a cap n)
 · exact Ret.mono (fun r ho m ⟨h1,h2,h3⟩=>.inl ⟨h1,h2,h3⟩) (a5R zs n hl h)
abbrev b18 (c:Ah) (x:AV):AV:=.agg [iv c.tx,iv c.out,iv c.val,x,iv c.h,bv c.base]
theorem Y1 (c:Ah) (n:Nat) (hl:J3 c<=1048576):Ret Tryz.prog 250 [Gr c] [] n true (fun r ho m=>∃ x,b0b n c.lock x ho m/\r=b18 c x):=by
 refine Ret.fn Ad Tryz.func250 rfl Tryz.call250 rfl rfl ?_
 refine Goes ?_
 refine Aa.pure (b0c c.lock _ hl) rfl ?_
 rintro r ho m (⟨rfl,rfl,rfl⟩ | ⟨h0,rfl,rfl,rfl⟩)
 · refine Goes ?_
   refine Ab.mk' [2] rfl rfl rfl rfl rfl rfl rfl ⟨.own n c.lock.length,.inl ⟨rfl,rfl,rfl⟩,rfl⟩
 · refine Goes ?_
   refine Ab.pure rfl rfl rfl ⟨nl,.inr ⟨h0,rfl,rfl,rfl⟩,rfl⟩
theorem Ret.aggNil {P:Program} {f:FuncId} {args:List AV} {n e s:Nat} (hs:0 < s) {Q Q':AV->Hp->Nat->Prop} (hQ:∀ r ho m,Q r ho m->Q' r ho m∨∃ (cs:List AV) (k:Nat),r=.agg cs/\cs[k]?=some nl/\ho=[]/\m=n/\Q' (.agg (cs.set k (.own n 0))) [(n,.list e s [])] (n + 1))
 (h:Ret P f args [] n true Q):Ret P f args [] n true Q':=by
 refine ⟨h.enter,fun w ι A vs hC h1 h2 h3 h4=>Calls.mono (h.calls w ι A vs hC h1 h2 h3 h4) ?_⟩
 rintro e' w' ⟨v,r,ho,m,ι',S',rfl,hq,fu,ay,b8,hv,hu,bG,eh,eB,bl⟩
 rcases hQ _ _ _ hq with ac | ⟨cs,k,rfl,hk,rfl,rfl,ac⟩
 · exact ⟨v,r,ho,m,ι',S',rfl,ac,fu,ay,b8,hv,hu,bG,eh,eB,bl⟩
 have h0:∀ k:Key,ι' k=none:=fun k=>b8 k rfl
 have aJ:∀ c∈cs,∀ id,c.idOf=some id->False:=fun c hc id hid=>hu c hc id hid rfl
 have aX:∀ (k:Key) p,put ι' (m:Key) (some .nil) k=some p->k=(m:Key)/\p=.nil:=fun k p hp=>by
  by_cases ek:k=(m:Key)
  · subst ek; rw [As] at hp; cases hp; exact ⟨rfl,rfl⟩
  · rw [Dd _ _ ek,h0 k] at hp; cases hp
 refine ⟨v,.agg (cs.set k (.own m 0)),[(m,.list e s [])],m + 1,put ι' (m:Key) (some .nil),S',rfl,ac,Nat.le_succ _,?_,fun k hk=>?_,?_,?_,fun id o ho=>?_,fun id hid=>absurd rfl hid,fun id hid=>?_,fun id o p ho=>by cases ho⟩
 · refine ⟨ay.frame,ay.sub,ay.lt,?_,?_,?_,?_,?_,fun id p hp=>(by cases hp),ay.fxs⟩
   · rintro b hb ⟨i,c,z,hm⟩; cases (aX _ _ hm).2
   · intro i g c z hm; cases (aX _ _ hm).2
   · intro i j g c d z r hm; cases (aX _ _ hm).2
   · intro i hi
     have aQ:m + 1<=i.id:=hi
     rw [Ci _ _ (by first | omega | (dsimp only; omega) | (dsimp only at *; omega))]; exact h0 i
   · intro id o ho
     rw [Aj] at ho
     split at ho
     · rename_i ei
       subst ei
       cases ho
       exact ⟨Nat.lt_succ_self _,trivial,.nil e s (As _ _ _) hs⟩
     · cases ho
 · rw [Aj] at hk
   split at hk
   · cases hk
   · rename_i aj
     rw [Ci _ _ (by first | omega | (dsimp only; omega) | (dsimp only at *; omega))]; exact h0 k
 · cases hv with
   | one hv=>cases hv with
     | cell hv=>cases hv with
       | rd hv=>cases hv
     | agg us _ dC =>
       refine .one (.agg us _ (Al.of (by rw [List.length_set]; exact dC.length) fun x u a mc ic=>?_))
       rw [List.getElem?_set] at ic
       split at ic
       · rename_i ek
         subst ek
         split at ic
         · cases ic
           have:=dC.at mc hk
           cases this with
           | rd hr=>cases hr with
             | val=>exact .own0 m (As _ _ _)
         · cases ic
       · exact (dC.at mc ic).mono (K:=fun _=>False) ⟨fun b hb=>⟨hb,rfl⟩,fun _ _ hf=>hf.elim⟩ fun id hid=>aJ a (List.mem_of_getElem? ic) id hid
 · intro c hc id hid
   rcases List.mem_or_eq_of_mem_set hc with hc | rfl
   · exact (aJ c hc id hid).elim
   · simp only [AV.idOf,Option.some.injEq] at hid
     subst hid
     unfold inH
     rw [Ae]
     simp
 · rw [Aj] at ho
   split at ho
   · cases ho; trivial
   · cases ho
 · unfold inH at hid
   rw [Aj] at hid
   split at hid
   · rename_i ei; exact .inr (by omega)
   · exact absurd rfl hid
theorem Mx (c:Ah) (n:Nat) (h:J3 c<=1048576):Ret Tryz.prog 250 [Gr c] [] n true (Is (.agg [iv c.tx,iv c.out,iv c.val,.own n c.lock.length,iv c.h,bv c.base]) [(n,.list 2 1 (ivs c.lock))] (n + 1)):=by
 refine Ret.aggNil (e:=2) (s:=1) (by decide) ?_ (Y1 c n h)
 rintro r ho m ⟨x,⟨rfl,rfl,rfl⟩ | ⟨g0,rfl,rfl,rfl⟩,rfl⟩
 · exact .inl ⟨rfl,rfl,rfl⟩
 · exact .inr ⟨_,3,rfl,rfl,rfl,rfl,by rw [g0]; rfl,by rw [g0]; rfl,rfl⟩
end Go.Proofs.YtllhgcfacgiabaaGreat
