import Derived.Test.YtllhgcfacgiabaaGreatAmA
namespace Go.Am
open Go.RowKit
set_option linter.unusedVariables false
set_option linter.unusedSimpArgs false
variable {E:Env} {s:St} {a:Act} {w:World} {ι:Loc} {S:Nat->Prop} {tt:Tab}
def Ih {α:Type}:Nat->List α->List (Nat × α)
 | _,[]=>[]
 | k,a::r=>(k,a)::Ih (k + 1) r
theorem Qn {α:Type}:∀ (l:List α) (k i:Nat),look (Ih k l) i=if k<=i then l[i - k]? else none
 | [],k,i=>by simp [Ih,look]
 | a::r,k,i=>by
   simp only [Ih,Aj,Qn r (k + 1) i]
   by_cases h:k=i
   · subst h; simp
   · rw [if_neg h]
     by_cases h2:k + 1<=i
     · rw [if_pos h2,if_pos (by omega)]
       have:i - k=(i - (k + 1)) + 1:=by omega
       rw [this,List.getElem?_cons_succ]
     · rw [if_neg h2,if_neg (by omega)]
def Fq:Nat->Nat->List Nat
 | _,0=>[]
 | k,n + 1=>k::Fq (k + 1) n
theorem Es:∀ (n k i:Nat),Af i (Fq k n)=true↔k<=i/\i < k + n
 | 0,k,i=>by simp [Fq,Af]
 | n + 1,k,i=>by
   rw [Fq,Ag]
   by_cases h:i=k
   · simp [h]
   · rw [if_neg h,Es n (k + 1) i]; omega
def idx (i:Nat):List Nat->Nat
 | []=>0
 | k::r=>bif Nat.beq i k then 0 else idx i r + 1
theorem Xr (i k:Nat) (r:List Nat):idx i (k::r)=if i=k then 0 else idx i r + 1:=by
 simp only [idx]
 cases hb:Nat.beq i k with
 | true=>rw [if_pos (Nat.eq_of_beq_eq_true hb)]; rfl
 | false=>rw [if_neg (fun e=>by subst e; simp at hb)]; rfl
theorem Rx:∀ (l:List Nat) (i:Nat),Af i l=true->l[idx i l]?=some i
 | [],i,h=>by simp [Af] at h
 | k::r,i,h=>by
   rw [Ag] at h
   rw [Xr]
   by_cases hk:i=k
   · simp [hk]
   · rw [if_neg hk] at h ⊢
     rw [List.getElem?_cons_succ]
     exact Rx r i h
def nodupB:List Nat->Bool
 | []=>true
 | k::r=>!Af k r&&nodupB r
theorem Mn:∀ (l:List Nat) (j i:Nat),nodupB l=true->l[j]?=some i->idx i l=j
 | [],j,i,_,h=>by simp at h
 | k::r,0,i,_,h=>by simp at h; rw [Xr,if_pos h.symm]
 | k::r,j + 1,i,hn,h=>by
   simp only [nodupB,Bool.and_eq_true,Bool.not_eq_true'] at hn
   rw [List.getElem?_cons_succ] at h
   have hm:i∈r:=List.mem_of_getElem? h
   have aj:i≠k:=fun e=>by subst e; rw [(Jv i r).2 hm] at hn; simp at hn
   rw [Xr,if_neg aj,Mn r j i hn.2 h]
def tau (σ news:List Nat) (n:Nat) (i:Nat):Nat:=match σ[i]? with
 | some c=>c
 | none=>n + idx i news
def Nu (σ news:List Nat) (n:Nat) (c:Nat):Option Nat:=bif Af c σ then some (idx c σ) else if n<=c then news[c - n]? else none
theorem Fe (i:Nat):∀ (l m:List Nat),Af i (l++m)=(Af i l||Af i m)
 | [],m=>by simp [Af]
 | k::l,m=>by
   rw [List.cons_append,Ag,Ag,Fe i l m]
   split <;> simp
theorem a2e {σ news:List Nat} {n:Nat} (hσ:nodupB σ=true) (hσn:∀ c,Af c σ=true->c < n) (aF:∀ i,Af i news=true->σ.length<=i) {i:Nat} (hi:Af i (Fq 0 σ.length++news)=true):Nu σ news n (tau σ news n i)=some i:=by
 rw [Fe,Bool.or_eq_true,Es] at hi
 unfold tau Nu
 cases hs:σ[i]? with
 | some c =>
   simp only
   have hm:Af c σ=true:=(Jv c σ).2 (List.mem_of_getElem? hs)
   rw [hm,Mn σ i c hσ hs]; rfl
 | none =>
   simp only
   have c8:σ.length<=i:=by simpa using hs
   have ap:Af i news=true:=by
    rcases hi with h | h
    · omega
    · exact h
   have hm:Af (n + idx i news) σ=false:=by
    cases h:Af (n + idx i news) σ with
    | false=>rfl
    | true=>have:=hσn _ h; omega
   rw [hm]
   simp only [cond_false]
   rw [if_pos (by omega),Nat.add_sub_cancel_left]
   exact Rx news i ap
theorem b0H {σ news:List Nat} {n c i:Nat} (cw:nodupB news=true) (aF:∀ i,Af i news=true->σ.length<=i) (h:Nu σ news n c=some i):Af i (Fq 0 σ.length++news)=true/\tau σ news n i=c:=by
 unfold Nu at h
 cases hm:Af c σ with
 | true =>
   simp [hm] at h
   subst h
   have hg:=Rx σ c hm
   refine ⟨?_,?_⟩
   · rw [Fe,Bool.or_eq_true,Es]
     have:=(List.getElem?_eq_some_iff.1 hg).1
     exact .inl ⟨Nat.zero_le _,by omega⟩
   · unfold tau; rw [hg]
 | false =>
   simp only [hm,cond_false] at h
   split at h
   · rename_i ax
     have ap:Af i news=true:=(Jv i news).2 (List.mem_of_getElem? h)
     have c8:=aF i ap
     refine ⟨by rw [Fe,ap]; simp,?_⟩
     unfold tau
     rw [List.getElem?_eq_none c8]
     simp only
     rw [Mn news _ i cw h]; omega
   · cases h
def Nv (τ:Nat->Nat):List Nat->List A2->Hp
 | c::cs,o::os=>(c,Li τ o)::Nv τ cs os
 | _,_=>[]
theorem T5 (τ:Nat->Nat):∀ (cs:List Nat) (os:List A2) (c:Nat) (o:A2),look (Nv τ cs os) c=some o->∃ (j:Nat) (o':A2),cs[j]?=some c/\os[j]?=some o'/\o=Li τ o'
 | [],os,c,o,h=>by simp [Nv,look] at h
 | _::_,[],c,o,h=>by simp [Nv,look] at h
 | k::cs,ob::os,c,o,h=>by
   simp only [Nv,Aj] at h
   split at h
   · rename_i e
     simp at h
     exact ⟨0,ob,by simp [e],rfl,h.symm⟩
   · obtain ⟨j,o',h1,h2,h3⟩:=T5 τ cs os c o h
     exact ⟨j + 1,o',by simpa using h1,by simpa using h2,h3⟩
theorem T6 (τ:Nat->Nat):∀ (cs:List Nat) (os:List A2) (j:Nat) (c:Nat) (o:A2),nodupB cs=true->cs[j]?=some c->os[j]?=some o->look (Nv τ cs os) c=some (Li τ o)
 | [],os,j,c,o,_,h,_=>by simp at h
 | _::_,[],j,c,o,_,_,h=>by simp at h
 | k::cs,ob::os,0,c,o,_,h,h'=>by
   simp at h h'
   subst h h'
   simp [Nv,Aj]
 | k::cs,ob::os,j + 1,c,o,hn,h,h'=>by
   simp only [nodupB,Bool.and_eq_true,Bool.not_eq_true'] at hn
   rw [List.getElem?_cons_succ] at h h'
   have aj:k≠c:=fun e=>by subst e; rw [(Jv k cs).2 (List.mem_of_getElem? h)] at hn; simp at hn
   simp only [Nv,Aj]
   rw [if_neg aj]
   exact T6 τ cs os j c o hn.2 h h'
def Ry (hp:Hp):List Nat->Option Hp
 | []=>some []
 | i::r=>match look hp i with
   | some o=>match Ry hp r with
     | some h=>some ((i,o)::h)
     | none=>none
   | none=>none
theorem a0N {hp:Hp}:∀ {l:List Nat} {h:Hp},Ry hp l=some h->∀ i,look h i=if Af i l=true then look hp i else none
 | [],h,e,i=>by simp [Ry] at e; subst e; simp [look,Af]
 | k::r,h,e,i=>by
   simp only [Ry] at e
   cases ho:look hp k with
   | none=>simp [ho] at e
   | some o =>
     cases hr:Ry hp r with
     | none=>simp [ho,hr] at e
     | some h' =>
       simp [ho,hr] at e
       subst e
       rw [Aj,Ag,a0N hr i]
       by_cases hk:k=i
       · subst hk; simp [ho]
       · have aW:¬ i=k:=fun e=>hk e.symm
         rw [if_neg hk]; simp only [if_neg aW]
def Qo (τ:Nat->Nat):Hp->Hp
 | []=>[]
 | (i,o)::r=>(τ i,Li τ o)::Qo τ r
theorem a0O {τ:Nat->Nat}:∀ (h:Hp) (c:Nat) (o:A2),look (Qo τ h) c=some o->∃ i o',(i,o')∈h/\c=τ i/\o=Li τ o'
 | [],c,o,h=>by simp [Qo,look] at h
 | (i,ob)::r,c,o,h=>by
   simp only [Qo,Aj] at h
   split at h
   · rename_i e
     simp at h
     exact ⟨i,ob,List.mem_cons_self ..,e.symm,h.symm⟩
   · obtain ⟨i',o',h1,h2,h3⟩:=a0O r c o h
     exact ⟨i',o',List.mem_cons_of_mem _ h1,h2,h3⟩
theorem a0P {τ:Nat->Nat}:∀ (h:Hp) (i:Nat) (o:A2),(∀ j o',(j,o')∈h->τ j=τ i->j=i)->look h i=some o->look (Qo τ h) (τ i)=some (Li τ o)
 | [],i,o,_,h=>by simp [look] at h
 | (k,ob)::r,i,o,fS,h=>by
   rw [Aj] at h
   simp only [Qo,Aj]
   by_cases hk:k=i
   · subst hk; simp at h; subst h; simp
   · rw [if_neg hk] at h
     rw [if_neg (fun e=>hk (fS k ob (List.mem_cons_self ..) e))]
     exact a0P r i o (fun j o' hj=>fS j o' (List.mem_cons_of_mem _ hj)) h
theorem Xs {hp:Hp}:∀ {l:List Nat} {h:Hp},Ry hp l=some h->∀ i o,(i,o)∈h->Af i l=true/\look hp i=some o
 | [],h,e,i,o,hm=>by simp [Ry] at e; subst e; cases hm
 | k::r,h,e,i,o,hm=>by
   simp only [Ry] at e
   cases ho:look hp k with
   | none=>simp [ho] at e
   | some o0 =>
     cases hr:Ry hp r with
     | none=>simp [ho,hr] at e
     | some h' =>
       simp [ho,hr] at e
       subst e
       rw [Ag]
       rcases List.mem_cons.1 hm with he | hm
       · cases he; simp [ho]
       · have:=Xs hr i o hm
         refine ⟨?_,this.2⟩
         split <;> first | rfl | exact this.1
def E8 (st:Bool):Nat->List A2->List Nat
 | _,[]=>[]
 | k,.box _::r=>k::E8 st (k + 1) r
 | k,.list ..::r=>match st with
   | true=>k::E8 st (k + 1) r
   | false=>E8 st (k + 1) r
 | k,.nest ..::r=>match st with
   | true=>k::E8 st (k + 1) r
   | false=>E8 st (k + 1) r
 | k,.map ..::r=>match st with
   | true=>k::E8 st (k + 1) r
   | false=>E8 st (k + 1) r
 | k,.ranged ..::r=>match st with
   | true=>k::E8 st (k + 1) r
   | false=>E8 st (k + 1) r
 | k,.clo ..::r=>match st with
   | true=>k::E8 st (k + 1) r
   | false=>E8 st (k + 1) r
def G5 (st:Bool):A2->Bool
 | .box _=>true
 | .list ..=>st
 | .nest ..=>st
 | .map ..=>st
 | .ranged ..=>st
 | .clo ..=>st
theorem a3q {st:Bool}:∀ (l:List A2) (k j:Nat) (o:A2),l[j]?=some o->G5 st o=true->Af (k + j) (E8 st k l)=true
 | [],k,j,o,h,_=>by simp at h
 | x::r,k,0,o,h,hf=>by
   simp at h
   subst h
   cases x with
   | box cs=>simp [E8,Ag]
   | list=>simp only [G5] at hf; subst hf; simp [E8,Ag]
   | nest=>simp only [G5] at hf; subst hf; simp [E8,Ag]
   | map=>simp only [G5] at hf; subst hf; simp [E8,Ag]
   | ranged=>simp only [G5] at hf; subst hf; simp [E8,Ag]
   | clo=>simp only [G5] at hf; subst hf; simp [E8,Ag]
 | x::r,k,j + 1,o,h,hf=>by
   have ih:=a3q r (k + 1) j o (by simpa using h) hf
   have e:k + (j + 1)=k + 1 + j:=by omega
   rw [e]
   cases x with
   | box cs=>simp only [E8,Ag]; split <;> first | rfl | exact ih
   | list=>cases st with
     | true=>simp only [E8,Ag]; split <;> first | rfl | exact ih
     | false=>exact ih
   | nest=>cases st with
     | true=>simp only [E8,Ag]; split <;> first | rfl | exact ih
     | false=>exact ih
   | map=>cases st with
     | true=>simp only [E8,Ag]; split <;> first | rfl | exact ih
     | false=>exact ih
   | ranged=>cases st with
     | true=>simp only [E8,Ag]; split <;> first | rfl | exact ih
     | false=>exact ih
   | clo=>cases st with
     | true=>simp only [E8,Ag]; split <;> first | rfl | exact ih
     | false=>exact ih
structure Ab (tt:Tab) (rs:List ResultVar) (fx:List Nat) (σ:List Nat) (n:Nat) (Q:AV->Hp->Nat->Prop) (s0:St):Prop where
 fin:∃ s,Ac fx s0 s/\∃ (news:List Nat) (vs:List AV) (ho:Hp),Xq tt s rs=some vs/\(vs.all (!AV.isTup ·))=true/\Ry s.hp (Fq 0 σ.length++news)=some ho/\(news.all (Nat.ble σ.length ·))=true/\nodupB news=true /\
  (vs.all (Fx (Fq 0 σ.length++news)))=true/\(ho.all fun x=>Pv (Fq 0 σ.length++news) x.2)=true/\Q (Mm (tau σ news n) (oneOf vs)) (Qo (tau σ news n) ho) (n + news.length)
theorem Ab.mk' {tt:Tab} {rs:List ResultVar} {fx:List Nat} {σ:List Nat} {n:Nat} {Q:AV->Hp->Nat->Prop} {s:St} (news:List Nat) {vs:List AV} {ho:Hp} (h1:Xq tt s rs=some vs) (h2:(vs.all (!AV.isTup ·))=true) (h3:Ry s.hp (Fq 0 σ.length++news)=some ho)
 (h4:(news.all (Nat.ble σ.length ·))=true) (h5:nodupB news=true) (h6:(vs.all (Fx (Fq 0 σ.length++news)))=true) (h7:(ho.all fun x=>Pv (Fq 0 σ.length++news) x.2)=true) (hQ:Q (Mm (tau σ news n) (oneOf vs)) (Qo (tau σ news n) ho) (n + news.length)) :
 Ab tt rs fx σ n Q s:=⟨s,fun _ _ _ _ h=>h,news,vs,ho,h1,h2,h3,h4,h5,h6,h7,hQ⟩
theorem Ab.weak {tt:Tab} {rs:List ResultVar} {fx:List Nat} {σ:List Nat} {n:Nat} {Q:AV->Hp->Nat->Prop} {s s':St} (hW:Ac fx s s') (h:Ab tt rs fx σ n Q s'):Ab tt rs fx σ n Q s:=by
 obtain ⟨s2,h2,h3⟩:=h.fin
 exact ⟨s2,fun E a w he hR=>h2 E a w he (hW E a w he hR),h3⟩
theorem a0Q (τ:Nat->Nat) {c:AV} (h:Df [] c=true):renC τ c=c:=by
 cases c <;> first | rfl | simp [Df,Af] at h
theorem Ab.pure {tt:Tab} {rs:List ResultVar} {fx:List Nat} {n:Nat} {Q:AV->Hp->Nat->Prop} {s:St} {v:AV} (h1:Xq tt s rs=some [v]) (h2:v.isTup=false) (h6:Fx [] v=true) (hQ:Q v [] n):Ab tt rs fx [] n Q s:=by
 refine ⟨s,fun _ _ _ _ h=>h,[],[v],[],h1,by simp [h2],rfl,rfl,rfl,by simpa [Fq] using h6,rfl,?_⟩
 have e:Mm (tau [] [] n) (oneOf [v])=v:=by
  simp only [oneOf]
  cases v with
  | tup vs=>simp [AV.isTup] at h2
  | agg cs =>
    simp only [Mm,a2b]
    congr 1
    have:cs.map (renC (tau [] [] n))=cs.map id:=List.map_congr_left fun c hc=>a0Q _ (List.all_eq_true.1 h6 c hc)
    rw [this,List.map_id]
  | own i len=>simp [Fx,Df,Af] at h6
  | pt i r o=>simp [Fx,Df,Af] at h6
  | sb i r o l=>simp [Fx,Df,Af] at h6
  | mp i=>simp [Fx,Df,Af] at h6
  | clo i=>simp [Fx,Df,Af] at h6
  | _=>rfl
 rw [e]
 exact hQ
def Fin (tt:Tab) (rs:List ResultVar) (fx:List Nat) (σ:List Nat) (n:Nat) (Q:AV->Hp->Nat->Prop) (e:Exit) (s:St):Prop:=match e with
 | .normal=>Ab tt rs fx σ n Q s
 | .ret=>Ab tt rs fx σ n Q s
 | _=>False
theorem a9k {st:Bool} (objs:List A2) (id:Nat) (h:Af id (E8 st 0 objs)=false):∀ o,objs[id]?=some o->G5 st o=false:=by
 intro o ho
 cases hf:G5 st o with
 | false=>rfl
 | true=>have:=a3q objs 0 id o ho hf; rw [Nat.zero_add,h] at this; cases this
theorem a7u {P:Program} {w:World} {A:Nat->Prop} {ι:Loc} {nt nx:Nat} {args:List AV} {vs:List Value} (ae:args.length<=nt) (hrel:Al (Bi w A ι) vs args) (hu:∀ x∈args,x.uses (· < nx)) :
 Cr ι A (Ih 0 args) nt nx w (vs.toArray++Array.replicate (nt - vs.toArray.size) undef):=by
 refine ⟨fun t v h=>?_⟩
 rw [Qn,if_pos (Nat.zero_le _),Nat.sub_zero] at h
 have aa:t < args.length:=(List.getElem?_eq_some_iff.1 h).1
 have bB:t < vs.length:=by rw [hrel.length]; exact aa
 refine ⟨by omega,hu v (List.mem_of_getElem? h),?_⟩
 have:(vs.toArray++Array.replicate (nt - vs.toArray.size) undef).getD t undef=vs[t]:=by
  rw [Array.getD_eq_getD_getElem?,Array.getElem?_append_left (by simpa using bB)]
  simp [bB]
 rw [this]
 exact hrel.at (List.getElem?_eq_getElem bB) h
theorem a0R {ks:List Nat} {K:Nat->Prop} (hK:∀ i,Af i ks=true->K i) {a:AV} (h:a2c ks a=true):a.uses K:=by
 cases a with
 | own i len=>exact hK i h
 | pt i r o=>exact hK i h
 | sb i r o l=>exact hK i h
 | mp i=>exact hK i h
 | clo i=>exact hK i h
 | agg cs=>exact fun c hc i hi=>hK i (Cb (List.all_eq_true.1 h c hc) i hi)
 | tup vs =>
   intro v hv
   have aY:=List.all_eq_true.1 h v hv
   refine ⟨fun i hi=>?_,fun cs e c hc i hi=>?_⟩
   · cases v with
     | agg cs=>simp [AV.idOf] at hi
     | own j len=>exact hK i (Cb (ks:=ks) (a:=.own j len) aY i hi)
     | pt j r o=>exact hK i (Cb (ks:=ks) (a:=.pt j r o) aY i hi)
     | sb j r o l=>exact hK i (Cb (ks:=ks) (a:=.sb j r o l) aY i hi)
     | mp j=>exact hK i (Cb (ks:=ks) (a:=.mp j) aY i hi)
     | clo j=>exact hK i (Cb (ks:=ks) (a:=.clo j) aY i hi)
     | _=>simp [AV.idOf] at hi
   · subst e
     exact hK i (Cb (List.all_eq_true.1 aY c hc) i hi)
 | _=>trivial
theorem T7 {ks:List Nat} {K:Nat->Prop} (hK:∀ i,Af i ks=true->K i) {o:A2} (h:Pv ks o=true):o.uses K:=by
 cases o with
 | box cs=>exact fun c hc i hi=>hK i (Cb (List.all_eq_true.1 h c hc) i hi)
 | list=>trivial
 | map=>trivial
 | ranged=>trivial
 | clo f fs cs =>
   have h:(fs.all (Df ks)&&cs.all (Df ks))=true:=h
   simp only [Bool.and_eq_true] at h
   exact ⟨fun c hc i hi=>hK i (Cb (List.all_eq_true.1 h.1 c hc) i hi),fun c hc i hi=>hK i (Cb (List.all_eq_true.1 h.2 c hc) i hi)⟩
 | @nest b e s rows =>
   intro h0 c hc i hi
   subst h0
   exact hK i (Cb (b0G (ks:=ks) (rows:=rows) h hc) i hi)
theorem Rz {τ:Nat->Nat} {c:AV} {i:Nat} (h:(renC τ c).idOf=some i):∃ j,c.idOf=some j/\i=τ j:=by
 cases c with
 | own j len=>simp only [renC,AV.idOf,Option.some.injEq] at h; exact ⟨j,rfl,h.symm⟩
 | pt j r o=>simp only [renC,AV.idOf,Option.some.injEq] at h; exact ⟨j,rfl,h.symm⟩
 | sb j r o l=>simp only [renC,AV.idOf,Option.some.injEq] at h; exact ⟨j,rfl,h.symm⟩
 | mp j=>simp only [renC,AV.idOf,Option.some.injEq] at h; exact ⟨j,rfl,h.symm⟩
 | clo j=>simp only [renC,AV.idOf,Option.some.injEq] at h; exact ⟨j,rfl,h.symm⟩
 | _=>simp [renC,AV.idOf] at h
theorem a0S {τ:Nat->Nat} {ks:List Nat} {K:Nat->Prop} (hK:∀ i,Af i ks=true->K (τ i)) {o:A2} (h:Pv ks o=true):(Li τ o).uses K:=by
 cases o with
 | box cs =>
   intro c hc i hi
   simp only [List.mem_map] at hc
   obtain ⟨c0,c6,rfl⟩:=hc
   obtain ⟨j,hj,rfl⟩:=Rz hi
   exact hK j (Cb (List.all_eq_true.1 h c0 c6) j hj)
 | list=>trivial
 | map=>trivial
 | ranged=>trivial
 | clo f fs cs =>
   have h:(fs.all (Df ks)&&cs.all (Df ks))=true:=h
   simp only [Bool.and_eq_true] at h
   refine ⟨fun c hc i hi=>?_,fun c hc i hi=>?_⟩
   · simp only [List.mem_map] at hc
     obtain ⟨c0,c6,rfl⟩:=hc
     obtain ⟨j,hj,rfl⟩:=Rz hi
     exact hK j (Cb (List.all_eq_true.1 h.1 c0 c6) j hj)
   · simp only [List.mem_map] at hc
     obtain ⟨c0,c6,rfl⟩:=hc
     obtain ⟨j,hj,rfl⟩:=Rz hi
     exact hK j (Cb (List.all_eq_true.1 h.2 c0 c6) j hj)
 | @nest b e s rows =>
   cases b with
   | true=>intro h0; cases h0
   | false =>
     intro _ c hc i hi
     simp only [<- List.map_flatten,List.mem_map] at hc
     obtain ⟨c0,c6,rfl⟩:=hc
     obtain ⟨j,hj,rfl⟩:=Rz hi
     exact hK j (Cb (b0G (ks:=ks) (rows:=rows) h c6) j hj)
theorem a0T {τ:Nat->Nat} {ks:List Nat} {K:Nat->Prop} (hK:∀ i,Af i ks=true->K (τ i)) {a:AV} (h:Fx ks a=true) (ht:∀ vs,a≠.tup vs):(a2b τ a).uses K:=by
 cases a with
 | own i len=>exact hK i h
 | pt i r o=>exact hK i h
 | sb i r o l=>exact hK i h
 | mp i=>exact hK i h
 | clo i=>exact hK i h
 | agg cs =>
   intro c hc i hi
   simp only [List.mem_map] at hc
   obtain ⟨c0,c6,rfl⟩:=hc
   obtain ⟨j,hj,rfl⟩:=Rz hi
   exact hK j (Cb (List.all_eq_true.1 h c0 c6) j hj)
 | tup vs=>exact absurd rfl (ht vs)
 | _=>trivial
def b1g (st:Bool) (objs:List A2):Bool:=match E8 st 0 objs with
 | []=>objs.isEmpty
 | _::_=>true
theorem Ret.of_runG {P:Program} {f:FuncId} {fn:Func} {c:Code} (hT:Bg P tt) (hf:P.funcs[f]?=some fn) (hb:fn.body=some c) (cf:∀ args w,(callFunc f args).run P w=.ok (.enter f args) w)
 (σ:List Nat) (objs:List A2) (args:List AV) (st:Bool) (n:Nat) (Q:AV->Hp->Nat->Prop) (ae:σ.length=objs.length) (cw:nodupB σ=true) (bm:args.length<=fn.ntmps)
 (ha:(args.all fun x=>a2c (Fq 0 σ.length) x&&!x.isTup)=true) (ho:(objs.all (Pv (Fq 0 σ.length)))=true)
 (fx:List Nat) (kG:∀ i,Af i fx=false->Af i (E8 st 0 objs)=false) (kH:fx=[]->objs=[])
 (s0:St) (eA:Ac fx ⟨Ih 0 args,Ih 0 objs,objs.length⟩ s0) (h:run tt P fn.ntmps fx c s0 (Fin tt fn.results.toList fx σ n Q)) :
 Ret P f (args.map (Mm (tau σ [] n))) (Nv (tau σ [] n) σ objs) n st Q:=by
 refine ⟨cf,?_⟩
 intro w ι A vs hC eG hrel hu bG
 refine calls_of_wp hf hb ?_
 have ap:∀ (j c:Nat),σ[j]?=some c->∃ o,objs[j]?=some o/\look (Nv (tau σ [] n) σ objs) c=some (Li (tau σ [] n) o):=by
  intro j c hj
  have aa:j < objs.length:=by rw [<- ae]; exact (List.getElem?_eq_some_iff.1 hj).1
  exact ⟨_,List.getElem?_eq_getElem aa,T6 _ σ objs j c _ cw hj (List.getElem?_eq_getElem aa)⟩
 have hσn:∀ c,Af c σ=true->c < n:=by
  intro c hc
  obtain ⟨o,_,hl⟩:=ap _ c (Rx σ c hc)
  exact (hC.obj c _ hl).1
 let ιr:Loc:=fun k=>match σ[k.id]? with | some c=>ι ⟨c,k.path⟩ | none=>none
 have hιr:∀ (i:Nat) (p:List Nat),Af i (Fq 0 σ.length)=true->ιr ⟨i,p⟩=ι ⟨tau σ [] n i,p⟩:=by
  intro i p hi
  rw [Es] at hi
  have aa:i < σ.length:=by omega
  show (match σ[i]? with | some c=>ι ⟨c,p⟩ | none=>none)=ι ⟨(match σ[i]? with | some c=>c | none=>n + idx i []),p⟩
  rw [List.getElem?_eq_getElem aa]
 have hιr2:∀ (i:Key) p,ιr i=some p->∃ c:Nat,σ[i.id]?=some c/\ι ⟨c,i.path⟩=some p:=by
  intro i p h
  have h':(match σ[i.id]? with | some c=>ι ⟨c,i.path⟩ | none=>none)=some p:=h
  cases hs:σ[i.id]? with
  | none=>rw [hs] at h'; cases h'
  | some c=>rw [hs] at h'; exact ⟨c,rfl,h'⟩
 let fix:Loc:=fun i=>match objs[i.id]? with | some o=>bif G5 st o then ιr i else none | none=>none
 have bQ:∀ (i:Key) p,fix i=some p->ιr i=some p:=by
  intro i p h
  have h':(match objs[i.id]? with | some o=>bif G5 st o then ιr i else none | none=>none)=some p:=h
  cases hs:objs[i.id]? with
  | none=>rw [hs] at h'; cases h'
  | some o =>
    rw [hs] at h'
    simp only at h'
    cases lR:G5 st o with
    | true=>rw [lR] at h'; exact h'
    | false=>rw [lR] at h'; cases h'
 let E:Env:=⟨P,w,Mut ι,A,fn.ntmps,fix,fx⟩
 have mW:Core E ιr A (Ih 0 objs) objs.length w:=by
  refine ⟨Frame.refl _ _,fun b hb=>.inl hb,hC.lt,?_,?_,?_,?_,?_,fun id p=>bQ ⟨id,[]⟩ p,?_⟩
  · rintro b hb ⟨i,c,s',e⟩
    obtain ⟨c0,_,e'⟩:=hιr2 i _ e
    exact hC.dis b hb ⟨⟨c0,i.path⟩,c,s',e'⟩
  · intro i g c s' e
    obtain ⟨c0,_,e'⟩:=hιr2 i _ e
    exact ⟨(hC.own _ g c s' e').1,.inr ⟨_,c,s',e'⟩⟩
  · intro i j g c d s1 s2 e1 e2
    obtain ⟨c1,h1,e1'⟩:=hιr2 i _ e1
    obtain ⟨c2,h2,e2'⟩:=hιr2 j _ e2
    have:=hC.inj ⟨c1,i.path⟩ ⟨c2,j.path⟩ g _ _ _ _ e1' e2'
    simp only [Key.mk.injEq] at this
    obtain ⟨rfl,gK⟩:=this
    have e3:=(Mn σ i.id c1 cw h1).symm.trans (Mn σ j.id c1 cw h2)
    cases i; cases j; simp_all
  · intro i hi
    show (match σ[i.id]? with | some c=>ι ⟨c,i.path⟩ | none=>none)=none
    rw [List.getElem?_eq_none (by omega)]
  · intro i o hl
    rw [Qn,if_pos (Nat.zero_le _),Nat.sub_zero] at hl
    have aa:i < objs.length:=(List.getElem?_eq_some_iff.1 hl).1
    have bU:=List.all_eq_true.1 ho o (List.mem_of_getElem? hl)
    have aw:i < σ.length:=by omega
    have hσi:=List.getElem?_eq_getElem aw
    have hk:=T6 (tau σ [] n) σ objs i _ o cw hσi hl
    obtain ⟨_,_,an⟩:=hC.obj _ _ hk
    have et:tau σ [] n i=σ[i]:=by unfold tau; rw [hσi]
    refine ⟨aa,T7 (fun j hj=>by rw [Es] at hj; omega) bU,?_⟩
    rw [<- et] at an
    exact an.unren hιr (by rw [Es]; omega) bU
  · refine ⟨?_,?_⟩
    · intro i hi
      show (match objs[i.id]? with | some o=>bif G5 st o then ιr i else none | none=>none)=none
      cases hs:objs[i.id]? with
      | none=>rfl
      | some o=>simp only; rw [a9k objs i.id (kG _ hi) o hs]; rfl
    · rintro ce g ⟨i,c,s,e⟩
      have h0:objs=[]:=kH ce
      subst h0
      have eA:σ=[]:=List.eq_nil_of_length_eq_zero (by simpa using ae)
      subst eA
      rw [eG i rfl] at e
      cases e
 have gi:Al (Bi w A ιr) vs args:=Al.of (B9.1 hrel).length fun i v x hv hx=>by
  have:=List.all_eq_true.1 ha x (List.mem_of_getElem? hx)
  simp only [Bool.and_eq_true,Bool.not_eq_true'] at this
  exact ((B9.1 hrel).at hv hx).unren hιr this.1 (fun us e=>by subst e; simp [AV.isTup] at this)
 have nW:vs.length=args.length:=gi.length
 have fK:∀ x∈args,x.uses (· < objs.length):=by
  intro x hx
  have:=List.all_eq_true.1 ha x hx
  simp only [Bool.and_eq_true] at this
  exact a0R (fun j hj=>by rw [Es] at hj; omega) this.1
 have hR:Rel E ⟨Ih 0 args,Ih 0 objs,objs.length⟩ ⟨vs.toArray++Array.replicate (fn.ntmps - vs.toArray.size) undef,[]⟩ w :=
  ⟨by simp [E]; omega,rfl,ιr,A,mW,a7u (P:=P) bm gi fK⟩
 refine wp_mono (a7t (E:=E) hT c _ _ h _ w (eA E _ w rfl hR)) ?_
 rintro e a' w' ⟨s',⟨cq,a6,ι',S',ay,dr⟩,gW⟩
 have key:Ab tt fn.results.toList fx σ n Q s'->a'.defers=[]/\∃ v,(results fn a'.tmps).run P w'=.ok v w'/\(fun (e:Ending) (w':World)=>∃ v r ho m ι' S',e=.returned v/\Q r ho m/\n<=m/\Core ⟨P,w,Mut ι,A,0,fun _=>none,[0]⟩ ι' S' ho m w'/\(∀ (k:Key),look ho k.id=none->ι' k=none) /\
  Bi w' S' ι' v r/\r.uses (inH ho)/\(∀ id o,look ho id=some o->o.uses (inH ho))/\(∀ id,inH (Nv (tau σ [] n) σ objs) id->inH ho id)/\(∀ id,inH ho id->inH (Nv (tau σ [] n) σ objs) id∨n<=id) /\
  (∀ (id:Nat) o p,look (Nv (tau σ [] n) σ objs) id=some o->(st=true∨∃ cs,o=.box cs)->ι ⟨id,[]⟩=some p->ι' ⟨id,[]⟩=some p)) (.returned v) w':=by
  intro hk
  obtain ⟨s2,lS,news,us,hx,fT,bM,eq,c8,kI,bU,gj,hQ⟩:=hk.fin
  have iH:=lS E a' w' rfl ⟨cq,a6,ι',S',ay,dr⟩
  clear hk cq a6 ay dr lS
  revert iH fT eq
  generalize s2=s'
  intro fT eq iH
  obtain ⟨cq,a6,ι',S',ay,dr⟩:=iH
  have fU:∀ i,Af i news=true->σ.length<=i:=fun i hi=>Nat.le_of_ble_eq_true (List.all_eq_true.1 c8 i ((Jv i news).1 hi))
  let dom:=Fq 0 σ.length++news
  let τ:=tau σ news n
  let ιo:Loc:=fun c=>match Nu σ news n c.id with | some i=>ι' ⟨i,c.path⟩ | none=>none
  have hιo:∀ (i:Nat) (p:List Nat),Af i dom=true->ιo ⟨τ i,p⟩=ι' ⟨i,p⟩:=by
   intro i p hi
   show (match Nu σ news n (tau σ news n i) with | some i=>ι' ⟨i,p⟩ | none=>none)=ι' ⟨i,p⟩
   rw [a2e cw hσn fU hi]
  have hιo2:∀ (c:Key) p,ιo c=some p->∃ i:Nat,Af i dom=true/\τ i=c.id/\ι' ⟨i,c.path⟩=some p:=by
   intro c p h
   have h':(match Nu σ news n c.id with | some i=>ι' ⟨i,c.path⟩ | none=>none)=some p:=h
   cases hs:Nu σ news n c.id with
   | none=>rw [hs] at h'; cases h'
   | some i =>
     rw [hs] at h'
     have:=b0H kI fU hs
     exact ⟨i,this.1,this.2,h'⟩
  have fS:∀ i j,Af i dom=true->Af j dom=true->τ i=τ j->i=j:=by
   intro i j hi hj e
   have h1:=a2e cw hσn fU hi
   have h2:=a2e cw hσn fU hj
   have e':tau σ news n i=tau σ news n j:=e
   rw [e',h2] at h1
   exact (Option.some.inj h1).symm
  have jr:∀ i,Af i dom=true->∃ o,look s'.hp i=some o/\look (Qo τ hx) (τ i)=some (Li τ o)/\Pv dom o=true:=by
   intro i hi
   have hl:=a0N eq i
   rw [if_pos hi] at hl
   cases bY:look s'.hp i with
   | none =>
     exfalso
     have:∀ (l:List Nat) (hh:Hp),Ry s'.hp l=some hh->Af i l=true->False:=by
      intro l
      induction l with
      | nil=>intro hh _ hm; simp [Af] at hm
      | cons k r ih =>
        intro hh he hm
        simp only [Ry] at he
        cases aW:look s'.hp k with
        | none=>simp [aW] at he
        | some ok =>
          cases aD:Ry s'.hp r with
          | none=>simp [aW,aD] at he
          | some mX =>
            rw [Ag] at hm
            by_cases lT:i=k
            · subst lT; rw [aW] at bY; cases bY
            · rw [if_neg lT] at hm; exact ih mX aD hm
     exact this _ _ eq hi
   | some o =>
     rw [bY] at hl
     have hm:∃ o',(i,o')∈hx/\o'=o:=by
      have:∀ (h:Hp),look h i=some o->(i,o)∈h:=by
       intro h
       induction h with
       | nil=>intro e; simp [look] at e
       | cons x r ih =>
         obtain ⟨k,ok⟩:=x
         intro e
         rw [Aj] at e
         split at e
         · rename_i aW; simp at e; subst aW e; exact List.mem_cons_self ..
         · exact List.mem_cons_of_mem _ (ih e)
      exact ⟨o,this hx hl,rfl⟩
     obtain ⟨o',hm,rfl⟩:=hm
     exact ⟨o',rfl,a0P hx i o' (fun j o' hj e=>fS j i (Xs eq j o' hj).1 hi e) hl,List.all_eq_true.1 gj (i,o') hm⟩
  have dP:∀ c o,look (Qo τ hx) c=some o->∃ i o',Af i dom=true/\c=τ i/\look s'.hp i=some o'/\o=Li τ o'/\Pv dom o'=true:=by
   intro c o hl
   obtain ⟨i,o',hm,rfl,rfl⟩:=a0O hx c o hl
   have:=Xs eq i o' hm
   exact ⟨i,o',this.1,rfl,this.2,rfl,List.all_eq_true.1 gj (i,o') hm⟩
  have hτlt:∀ i,Af i dom=true->τ i < n + news.length:=by
   intro i hi
   show (match σ[i]? with | some c=>c | none=>n + idx i news) < n + news.length
   cases hs:σ[i]? with
   | some c=>have:=hσn c ((Jv c σ).2 (List.mem_of_getElem? hs)); simp only; omega
   | none =>
     have mY:σ.length<=i:=by simpa using hs
     have aQ:Af i (Fq 0 σ.length++news)=true:=hi
     rw [Fe,Bool.or_eq_true,Es] at aQ
     have fO:Af i news=true:=by
      rcases aQ with h | h
      · omega
      · exact h
     have:=(List.getElem?_eq_some_iff.1 (Rx news i fO)).1
     simp only; omega
  have mZ:Core ⟨P,w,Mut ι,A,0,fun _=>none,[0]⟩ ιo S' (Qo τ hx) (n + news.length) w':=by
   refine ⟨ay.frame,ay.sub,ay.lt,?_,?_,?_,?_,?_,fun _ _ h=>(by cases h),⟨fun _ _=>rfl,fun e=>by cases e⟩⟩
   · rintro b hb ⟨c,c',s2,e⟩
     obtain ⟨i,_,_,e'⟩:=hιo2 c _ e
     exact ay.dis b hb ⟨_,c',s2,e'⟩
   · intro c g c' s2 e
     obtain ⟨i,_,_,e'⟩:=hιo2 c _ e
     exact ay.own _ g c' s2 e'
   · intro c1 c2 g c d s1 s2 e1 e2
     obtain ⟨i,_,t1,e1'⟩:=hιo2 c1 _ e1
     obtain ⟨j,_,t2,e2'⟩:=hιo2 c2 _ e2
     have:=ay.inj ⟨i,c1.path⟩ ⟨j,c2.path⟩ g _ _ _ _ e1' e2'
     simp only [Key.mk.injEq] at this
     obtain ⟨rfl,gK⟩:=this
     have e3:=t1.symm.trans t2
     cases c1; cases c2; simp_all
   · intro c hc
     cases hv:ιo c with
     | none=>rfl
     | some p =>
       obtain ⟨i,hi,t,_⟩:=hιo2 c p hv
       have:=hτlt i hi
       omega
   · intro c o hl
     obtain ⟨i,o',hi,rfl,cj,rfl,hid⟩:=dP c o hl
     obtain ⟨_,_,an⟩:=ay.obj i o' cj
     exact ⟨hτlt i hi,a0S hτlt hid,an.ren hιo hi hid⟩
  obtain ⟨us',ar,eC⟩:=a2d hT ay dr fn.results.toList us fT bM
  have cG:∀ i,Af i dom=true->inH (Qo τ hx) (τ i):=by
   intro i hi
   obtain ⟨o,_,hl,_⟩:=jr i hi
   unfold inH; rw [hl]; simp
  have js:(results fn a'.tmps).run P w'=.ok (if h:us'.toArray.size=1 then us'.toArray[0] else .tuple us'.toArray) w':=by
   have jt:(fn.results.toList.mapM (T4 a'.tmps)).run P w'=.ok us' w':=ar
   have e1:(fn.results.mapM (T4 a'.tmps)).run P w'=.ok us'.toArray w':=by
    rw [Array.mapM_eq_mapM_toList]
    simp [jt]
   have e2:results fn a'.tmps=(do let vs <- fn.results.mapM (T4 a'.tmps); pure (if h:vs.size=1 then vs[0] else .tuple vs)):=by
    unfold results
    congr 1
   rw [e2]
   simp only [Sem.run_bind,e1,Result.andThen_ok,Sem.run_pure]
  refine ⟨a6,_,js,_,Mm τ (oneOf us),Qo τ hx,n + news.length,ιo,S',rfl,hQ,Nat.le_add_right _ _,mZ,?_,?_,?_,?_,?_,?_,?_⟩
  · intro c hl
    cases hv:ιo c with
    | none=>rfl
    | some p =>
      obtain ⟨i,hi,t,_⟩:=hιo2 c p hv
      have:=cG i hi
      rw [t] at this
      exact absurd hl this
  · match us',us,eC,bU,bM with
    | [],[],_,_,_=>exact .tup [] [] trivial
    | [u],[x],eC,bU,_ =>
      have eZ:Fx dom x=true:=by simpa [dom] using bU
      have:Eo w' S' ιo u (a2b τ x):=Eo.ren hιo eC.1 eZ
      have e:Mm τ (oneOf [x])=a2b τ x:=by
       simp only [oneOf]
       cases x with
       | tup vs=>cases eC.1 with | cell h=>exact absurd rfl (h.not_agg.2 _)
       | _=>rfl
      rw [e]
      exact .one this
    | u::u'::ur,x::x'::xr,eC,bU,_ =>
      have e:(if h:(u::u'::ur).toArray.size=1 then (u::u'::ur).toArray[0] else Value.tuple (u::u'::ur).toArray)=.tuple (u::u'::ur).toArray:=by
       rw [dif_neg (by simp)]
      rw [e]
      exact .tup _ _ (B9.2 (Al.of eC.length fun i v y hv hy=>Eo.ren hιo (eC.at hv hy) (List.all_eq_true.1 bU y (List.mem_of_getElem? hy))))
  · match us,bU,bM with
    | [],_,_=>intro v hv; cases hv
    | [x],bU,bM =>
      have eZ:Fx dom x=true:=by simpa [dom] using bU
      have ht:∀ vs,x≠.tup vs:=by rintro vs rfl; simp [AV.isTup] at bM
      have e:Mm τ (oneOf [x])=a2b τ x:=by
       simp only [oneOf]
       cases x with
       | tup vs=>exact absurd rfl (ht vs)
       | _=>rfl
      rw [e]
      exact a0T cG eZ ht
    | x::x'::xr,bU,bM =>
      intro v hv
      simp only [List.mem_map] at hv
      obtain ⟨y,hy,rfl⟩:=hv
      have kJ:=List.all_eq_true.1 bU y hy
      have m3:∀ vs,y≠.tup vs:=by
       rintro vs rfl
       have:=List.all_eq_true.1 bM _ hy
       simp [AV.isTup] at this
      have gw:=a0T (τ:=τ) (K:=inH (Qo τ hx)) cG kJ m3
      exact ⟨AV.uses_id gw,fun cs e=>AV.uses_agg gw cs e⟩
  · intro c o hl
    obtain ⟨i,o',hi,rfl,cj,rfl,hid⟩:=dP c o hl
    exact a0S cG hid
  · intro c hc
    cases hl:look (Nv (tau σ [] n) σ objs) c with
    | none=>exact absurd hl hc
    | some o =>
      obtain ⟨j,o',h1,h2,_⟩:=T5 _ σ objs c o hl
      have hj:Af j dom=true:=by
       show Af j (Fq 0 σ.length++news)=true
       rw [Fe,Bool.or_eq_true,Es]
       have:=(List.getElem?_eq_some_iff.1 h1).1
       exact .inl ⟨Nat.zero_le _,by omega⟩
      have:=cG j hj
      have e:τ j=c:=by show tau σ news n j=c; unfold tau; rw [h1]
      rwa [e] at this
  · intro c hc
    cases hl:look (Qo τ hx) c with
    | none=>exact absurd hl hc
    | some o =>
      obtain ⟨i,o',hi,rfl,_⟩:=dP c o hl
      cases hs:σ[i]? with
      | some c' =>
        left
        have e:τ i=c':=by show tau σ news n i=c'; unfold tau; rw [hs]
        rw [e]
        obtain ⟨o2,_,dJ⟩:=ap i c' hs
        unfold inH; rw [dJ]; simp
      | none =>
        right
        show n<=tau σ news n i
        unfold tau; rw [hs]; simp
  · intro c o p hl ak hp
    obtain ⟨j,o',h1,h2,rfl⟩:=T5 _ σ objs c o hl
    have aa:=(List.getElem?_eq_some_iff.1 h1).1
    have hj:Af j dom=true:=by
     show Af j (Fq 0 σ.length++news)=true
     rw [Fe,Bool.or_eq_true,Es]
     exact .inl ⟨Nat.zero_le _,by omega⟩
    have e:τ j=c:=by show tau σ news n j=c; unfold tau; rw [h1]
    have ec:(⟨c,[]⟩:Key)=⟨τ j,[]⟩:=by rw [e]
    rw [ec,hιo j _ hj]
    have gt:G5 st o'=true:=by
     rcases ak with rfl | ⟨cs,bK⟩
     · cases o' <;> rfl
     · cases o' with
       | box=>rfl
       | list=>simp [Li] at bK
       | map=>simp [Li] at bK
       | ranged=>simp [Li] at bK
       | clo=>simp [Li] at bK
       | @nest b _ _ _=>cases b <;> simp [Li] at bK
    have m4:fix ⟨j,[]⟩=ιr ⟨j,[]⟩:=by
     show (match objs[j]? with | some o=>bif G5 st o then ιr ⟨j,[]⟩ else none | none=>none)=ιr ⟨j,[]⟩
     rw [h2]; simp only; rw [gt]; rfl
    have kK:ιr ⟨j,[]⟩=ι ⟨c,[]⟩:=by
     show (match σ[j]? with | some c'=>ι ⟨c',[]⟩ | none=>none)=ι ⟨c,[]⟩
     rw [h1]
    exact ay.stay j p (by show fix ⟨j,[]⟩=some p; rw [m4,kK,hp])
 cases e with
 | normal=>exact key gW
 | ret=>exact key gW
 | _=>exact gW.elim
theorem Ret.of_run {P:Program} {f:FuncId} {fn:Func} {c:Code} (hT:Bg P tt) (hf:P.funcs[f]?=some fn) (hb:fn.body=some c) (cf:∀ args w,(callFunc f args).run P w=.ok (.enter f args) w)
 (σ:List Nat) (objs:List A2) (args:List AV) (st:Bool) (n:Nat) (Q:AV->Hp->Nat->Prop) (ae:σ.length=objs.length) (cw:nodupB σ=true) (bm:args.length<=fn.ntmps)
 (ha:(args.all fun x=>a2c (Fq 0 σ.length) x&&!x.isTup)=true) (ho:(objs.all (Pv (Fq 0 σ.length)))=true)
 (h:run tt P fn.ntmps (E8 st 0 objs) c ⟨Ih 0 args,Ih 0 objs,objs.length⟩ (Fin tt fn.results.toList (E8 st 0 objs) σ n Q)) (hz:b1g st objs=true:=by rfl) :
 Ret P f (args.map (Mm (tau σ [] n))) (Nv (tau σ [] n) σ objs) n st Q :=
 Ret.of_runG hT hf hb cf σ objs args st n Q ae cw bm ha ho (E8 st 0 objs) (fun _ h=>h) (fun ce=>by
  unfold b1g at hz
  rw [ce] at hz
  simpa using hz) _ (fun _ _ _ _ h=>h) h
theorem Ret.of_runM {P:Program} {f:FuncId} {fn:Func} {c:Code} (hT:Bg P tt) (hf:P.funcs[f]?=some fn) (hb:fn.body=some c) (cf:∀ args w,(callFunc f args).run P w=.ok (.enter f args) w)
 (σ:List Nat) (objs:List A2) (args:List AV) (st:Bool) (n:Nat) (Q:AV->Hp->Nat->Prop) (ae:σ.length=objs.length) (cw:nodupB σ=true) (bm:args.length<=fn.ntmps)
 (ha:(args.all fun x=>a2c (Fq 0 σ.length) x&&!x.isTup)=true) (ho:(objs.all (Pv (Fq 0 σ.length)))=true)
 (h:run tt P fn.ntmps (4294967296::E8 st 0 objs) c ⟨Ih 0 args,Ih 0 objs,objs.length⟩ (Fin tt fn.results.toList (4294967296::E8 st 0 objs) σ n Q)) :
 Ret P f (args.map (Mm (tau σ [] n))) (Nv (tau σ [] n) σ objs) n st Q :=
 Ret.of_runG hT hf hb cf σ objs args st n Q ae cw bm ha ho (4294967296::E8 st 0 objs) (fun i h=>by
  rw [Ag] at h
  split at h
  · cases h
  · exact h) (fun h=>by cases h) _ (fun _ _ _ _ h=>h) h
theorem A2.usesUp {K K':Nat->Prop} (h:∀ i,K i->K' i) {o:A2} (ho:o.uses K):o.uses K':=by
 cases o with
 | box cs=>exact fun c hc id hi=>h _ (ho c hc id hi)
 | nest e s rows=>exact fun hb c hc id hi=>h _ (ho hb c hc id hi)
 | clo f fs cs=>exact ⟨fun c hc id hi=>h _ (ho.1 c hc id hi),fun c hc id hi=>h _ (ho.2 c hc id hi)⟩
 | _=>trivial
theorem Ac.up {fx:List Nat} {tm:List (Nat × AV)} {hp:Hp} {nx:Nat}:Ac fx ⟨tm,hp,nx⟩ ⟨tm,hp,nx + 1⟩:=by
 rintro E a w _ ⟨ao,hd,ι,S,hC,ab⟩
 exact ⟨ao,hd,ι,S,⟨hC.frame,hC.sub,hC.lt,hC.dis,hC.own,hC.inj,fun k hk=>hC.new k (Nat.le_of_succ_le hk),fun id o h=>let ⟨h1,h2,h3⟩:=hC.obj id o h; ⟨Nat.lt_succ_of_lt h1,A2.usesUp (fun i hi=>Nat.lt_succ_of_lt hi) h2,h3⟩,hC.stay,hC.fxs⟩,
  ⟨fun t v hv=>let ⟨h1,h2,h3⟩:=ab.tm t v hv; ⟨h1,AV.uses_mono (fun i hi=>Nat.lt_succ_of_lt hi) h2,h3⟩⟩⟩
theorem Ret.of_runX {P:Program} {f:FuncId} {fn:Func} {c:Code} (hT:Bg P tt) (hf:P.funcs[f]?=some fn) (hb:fn.body=some c) (cf:∀ args w,(callFunc f args).run P w=.ok (.enter f args) w)
 (σ:List Nat) (objs:List A2) (args:List AV) (st:Bool) (n:Nat) (Q:AV->Hp->Nat->Prop) (ae:σ.length=objs.length) (cw:nodupB σ=true) (bm:args.length<=fn.ntmps)
 (ha:(args.all fun x=>a2c (Fq 0 σ.length) x&&!x.isTup)=true) (ho:(objs.all (Pv (Fq 0 σ.length)))=true)
 (h:run tt P fn.ntmps (objs.length::E8 st 0 objs) c ⟨Ih 0 args,Ih 0 objs,objs.length + 1⟩ (Fin tt fn.results.toList (objs.length::E8 st 0 objs) σ n Q)) :
 Ret P f (args.map (Mm (tau σ [] n))) (Nv (tau σ [] n) σ objs) n st Q :=
 Ret.of_runG hT hf hb cf σ objs args st n Q ae cw bm ha ho (objs.length::E8 st 0 objs) (fun i h=>by
  rw [Ag] at h
  split at h
  · cases h
  · exact h) (fun h=>by cases h) _ Ac.up h
end Go.Am
