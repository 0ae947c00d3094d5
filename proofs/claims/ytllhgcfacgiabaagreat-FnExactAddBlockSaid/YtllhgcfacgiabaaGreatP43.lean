import Derived.Test.YtllhgcfacgiabaaGreatP71
import Derived.Test.YtllhgcfacgiabaaGreatAmP
import Derived.Test.YtllhgcfacgiabaaGreatLawC
namespace Go.Proofs.YtllhgcfacgiabaaGreat
open Go Go.Am Go.RowKit
set_option linter.unusedVariables false
set_option linter.unusedSimpArgs false
theorem Wb {ι ι':Am.Loc} (h:∀ k p,ι' k=some p->∃ k',ι k'=some p) {b:Nat} (hm:Mut ι' b):Mut ι b:=by
 obtain ⟨k,c,s,e⟩:=hm
 obtain ⟨k',e'⟩:=h k _ e
 exact ⟨k',c,s,e'⟩
def Lq (ι:Am.Loc) (i:Nat):Am.Loc:=fun k=>if k=⟨i,[]⟩ then ι k else none
theorem Sv {ι:Am.Loc} {i:Nat}:Lq ι i ⟨i,[]⟩=ι ⟨i,[]⟩:=by simp [Lq]
theorem Ob {ι:Am.Loc} {i:Nat} {k:Key} {p:Pl} (h:Lq ι i k=some p):k=⟨i,[]⟩/\ι k=some p:=by
 unfold Lq at h
 split at h
 · exact ⟨‹_›,h⟩
 · cases h
def Kr (ι:Am.Loc) (i N:Nat) (σ:Nat->Nat):Am.Loc:=fun k=>if k.id=i then match k.path with
    | []=>ι k
    | j::q=>if j < N * 6 then ι ⟨i,(σ (j / 6) * 6 + j % 6)::q⟩ else none
 else none
theorem Q0 {ι:Am.Loc} {i N:Nat} {σ:Nat->Nat}:Kr ι i N σ ⟨i,[]⟩=ι ⟨i,[]⟩:=by simp [Kr]
theorem a95 {ι:Am.Loc} {i N:Nat} {σ:Nat->Nat} {j:Nat} (h:j < N * 6) (q:List Nat):Kr ι i N σ ⟨i,j::q⟩=ι ⟨i,(σ (j / 6) * 6 + j % 6)::q⟩:=by simp [Kr,h]
theorem Yw {ι:Am.Loc} {i N:Nat} {σ:Nat->Nat} {k:Key} {p:Pl} (h:Kr ι i N σ k=some p) :
 (k=⟨i,[]⟩/\ι k=some p)∨∃ j q,k=⟨i,j::q⟩/\j < N * 6/\ι ⟨i,(σ (j / 6) * 6 + j % 6)::q⟩=some p:=by
 obtain ⟨id,path⟩:=k
 unfold Kr at h
 split at h
 · rename_i e
   dsimp only at e h
   subst e
   cases path with
   | nil=>exact .inl ⟨rfl,h⟩
   | cons j q =>
     dsimp only at h
     split at h
     · exact .inr ⟨j,q,rfl,‹_›,h⟩
     · cases h
 · cases h
theorem a8h {ι:Am.Loc} {i N:Nat} {σ:Nat->Nat} {k:Key} {p:Pl} (h:Kr ι i N σ k=some p):∃ k',ι k'=some p:=by
 rcases Yw h with ⟨_,h⟩ | ⟨j,q,_,_,h⟩ <;> exact ⟨_,h⟩
abbrev rowsOf (R:Nat->List AV) (N:Nat):List (List AV):=(List.range N).map R
theorem Q1 (R:Nat->List AV) (N:Nat):(rowsOf R N).length=N:=by simp [rowsOf]
theorem Oc {R:Nat->List AV} {N:Nat} (hR:∀ k,k < N->(R k).length=6) {j:Nat} (h:j < N * 6):(rowsOf R N).flatten[j]?=(R (j / 6))[j % 6]?:=by
 have h1:∀ r∈rowsOf R N,r.length=6:=fun r hr=>by
  obtain ⟨k,hk,rfl⟩:=List.mem_map.1 hr
  exact hR k (List.mem_range.1 hk)
 have h2:(rowsOf R N)[j / 6]?=some (R (j / 6)):=by
  have:j / 6 < N:=by omega
  simp [rowsOf,this]
 have:=Pg (s:=6) (rowsOf R N) (j / 6) (j % 6) _ h1 h2 (by omega)
 rwa [show j / 6 * 6 + j % 6=j by omega] at this
theorem rd_val {w:World} {S:Nat->Prop} {v u:Value} (h:Rd w S v (.val u)):v=u:=by cases h; rfl
theorem a96 {w:World} {S:Nat->Prop} {ι:Am.Loc} {k:Key} {v u:Value} (h:Tr w S ι k v (.val u)):v=u:=by
 cases h with
 | rd h=>exact rd_val h
theorem Ret.permNest {P:Program} {f:FuncId} {T N i n:Nat} {ws:List AV} (has:∀ a∈ws,∃ v,a=.val v) (R:Nat->List AV) (tx out:Nat->Int) (hR:∀ k,k < N->(R k).length=6/\(R k)[0]?=some (iv (tx k))/\(R k)[1]?=some (iv (out k)))
 (Z:(Nat->Nat)->Prop) (hZ:∀ σ,Z σ->(∀ k,k < N->σ k < N)/\∀ k l,k < N->l < N->σ k=σ l->k=l)
 (h:∀ v2 v3 v4 v5:Nat->Value,Ret P f (.own i N::ws) [(i,.list T 6 ((Bw.mk tx out v2 v3 v4 v5).rows id N))] n true fun r ho m=>r=.tup []/\m=n/\∃ σ,Z σ/\ho=[(i,.list T 6 ((Bw.mk tx out v2 v3 v4 v5).rows σ N))]) :
 Ret P f (.own i N::ws) [(i,.nest (c:=true) T 6 (rowsOf R N))] n true fun r ho m=>r=.tup []/\m=n/\∃ σ,Z σ/\ho=[(i,.nest (c:=true) T 6 (rowsOf (fun k=>R (σ k)) N))]:=by
 have aX:∀ {o o':A2} (id:Nat),Am.look [(i,o)] id=some o'->id=i/\o'=o:=by
  intro o o' id hl
  rw [Aj] at hl
  split at hl
  · cases hl; exact ⟨(‹i=id›).symm,rfl⟩
  · cases hl
 have dl:∀ {o:A2} (id:Nat),Am.look [(i,o)] id=none↔id≠i:=by
  intro o id
  rw [Aj]
  by_cases e:i=id
  · rw [if_pos e]; exact ⟨fun h=>(by cases h),fun h=>absurd e.symm h⟩
  · rw [if_neg e]; exact ⟨fun _=>Ne.symm e,fun _=>rfl⟩
 have ap:∀ {o:A2} (id:Nat),inH [(i,o)] id↔id=i:=by
  intro o id
  unfold inH
  rw [Ne,dl]; simp
 refine ⟨(h (fun _=>undef) (fun _=>undef) (fun _=>undef) (fun _=>undef)).enter,fun w ι A vs hC h1 h2 h3 h4=>?_⟩
 obtain ⟨aa,eJ,an⟩:=hC.obj i _ (Ae _ _ _)
 have ia:∃ p,ι ⟨i,[]⟩=some p:=by
  generalize rowsOf R N=rows at an
  cases an with
  | nest0 e s hι hs=>exact ⟨_,hι⟩
  | nest g cap e s rows us hι=>exact ⟨_,hι⟩
 have jA:∀ k,k < N->(R k).length=6:=fun k hk=>(hR k hk).1
 have cx:=fun j=>@Oc R N jA j
 have fg:∀ k p,Lq ι i k=some p->∃ k',ι k'=some p:=fun k p hk=>⟨k,(Ob hk).2⟩
 obtain ⟨us,n3,dC,nv,kW⟩:∃ us:List Value,N * 6<=us.length/\(∀ (j:Nat) (v:Value) (a:AV),us[j]?=some v->(rowsOf R N).flatten[j]?=some a->Tr w A ι ⟨i,[j]⟩ v a) /\
  (∀ rows:List (List AV),rows.length=N->(∀ r∈rows,r.length=6)->(∀ (j:Nat) (v:Value) (a:AV),us[j]?=some v->rows.flatten[j]?=some a->Rd w A v a)->Bp w A (Lq ι i) i (.list T 6 rows)) /\
  ∀ (w':World) (S':Nat->Prop) (ι':Am.Loc) (rows rows':List (List AV)) (σ:Nat->Nat),rows.length=N->rows'.length=N->(∀ r∈rows',r.length=6)->ι' ⟨i,[]⟩=ι ⟨i,[]⟩->Bp w' S' ι' i (.list T 6 rows) ->
    (∀ us':List Value,(∀ (j:Nat) (v:Value) (a:AV),us'[j]?=some v->rows.flatten[j]?=some a->Rd w' S' v a)->∀ (j:Nat) (v:Value) (a:AV),us'[j]?=some v->rows'.flatten[j]?=some a->Tr w' A (Kr ι i N σ) ⟨i,[j]⟩ v a) ->
    Bp w' A (Kr ι i N σ) i (.nest (c:=true) T 6 rows'):=by
  obtain ⟨rows0,d3⟩:∃ r,r=rowsOf R N:=⟨_,rfl⟩
  have kj:rows0.length=N:=by rw [d3,Q1]
  rw [<- d3] at an ⊢
  cases an with
  | nest0 e s hι hs =>
    obtain rfl:N=0:=kj.symm
    refine ⟨[],by omega,fun j v a hv=>by simp at hv,fun rows hl _ _=>?_,fun w' S' ι' rows rows' σ _ hl _ hi _ _=>?_⟩
    · rw [List.length_eq_zero_iff.1 hl]; exact .nil T 6 (Sv.trans hι) hs
    · rw [List.length_eq_zero_iff.1 hl]; exact .nest0 T 6 (Q0.trans hι) hs
  | nest g cap e s rows us hι hs hr hl hm hw hn hc =>
    refine ⟨us,by rw [hn]; omega,fun j v a hv ha=>(hc j v a hv ha).elim (fun hx=>by cases hx.1) id,fun rows cj aD aP=>?_,fun w' S' ι' rows1 rows' σ bW cj aD hi kX aP=>?_⟩
    · exact .list g cap T 6 rows us (Sv.trans hι) hs aD (by omega) hm hw hn aP
    · cases kX with
      | nil e s hι' cq=>rw [hi,hι] at hι'; cases hι'
      | list g' cap' e s rows us' hι' cq nw ny jO bE fq bn =>
        rw [hi,hι] at hι'
        cases hι'
        exact .nest g cap T 6 rows' us' (Q0.trans hι) hs aD (by omega) hm bE fq fun j v a hv ha=>.inr (aP us' bn j v a hv ha)
 obtain ⟨C,i7⟩:∃ C:Bw Nat,C=Bw.mk tx out (fun k=>us.getD (k * 6 + 2) undef) (fun k=>us.getD (k * 6 + 3) undef) (fun k=>us.getD (k * 6 + 4) undef) (fun k=>us.getD (k * 6 + 5) undef):=⟨_,rfl⟩
 have lZ:∀ σ:Nat->Nat,∀ r∈C.rows σ N,r.length=6:=fun σ r hr=>by
  obtain ⟨k,_,rfl⟩:=List.mem_map.1 hr
  rfl
 have ma:∀ (σ:Nat->Nat) j,j < N * 6->(C.rows σ N).flatten[j]?=(C.row (σ (j / 6)))[j % 6]?:=fun σ j hj=>Oc (R:=fun k=>C.row (σ k)) (fun _ _=>rfl) hj
 have mb:∀ (rows:List (List AV)) (j:Nat) (a:AV),rows.length=N->(∀ r∈rows,r.length=6)->rows.flatten[j]?=some a->j < N * 6:=fun rows j a hl hr ha=>by
  have:=(List.getElem?_eq_some_iff.1 ha).1
  rw [Ay rows hr,hl] at this
  exact this
 have key:∀ (k c:Nat) (v:Value),k < N->c < 6->us[k * 6 + c]?=some v->(C.row k)[c]?=some (.val v):=by
  intro k c v hk hc hv
  have hT:∀ a,(R k)[c]?=some a->Tr w A ι ⟨i,[k * 6 + c]⟩ v a:=fun a ha=>dC (k * 6 + c) v a hv (by rw [cx (k * 6 + c) (by omega),show (k * 6 + c) / 6=k by omega,show (k * 6 + c) % 6=c by omega]; exact ha)
  have hd:us.getD (k * 6 + c) undef=v:=by rw [List.getD_eq_getElem?_getD,hv]; rfl
  rw [i7]
  match c,hc with
  | 0,_=>rw [a96 (hT _ (hR k hk).2.1)]; rfl
  | 1,_=>rw [a96 (hT _ (hR k hk).2.2)]; rfl
  | 2,_=>rw [<- hd]; rfl
  | 3,_=>rw [<- hd]; rfl
  | 4,_=>rw [<- hd]; rfl
  | 5,_=>rw [<- hd]; rfl
 have jB:Core ⟨P,w,Mut (Lq ι i),A,0,fun _=>none,[0]⟩ (Lq ι i) A [(i,.list T 6 (C.rows _root_.id N))] n w:=by
  refine ⟨.refl _ _,fun b hb=>.inl hb,hC.lt,fun b hb hm=>hC.dis b hb (Wb fg hm),fun k g c s hk=>⟨(hC.own k g c s (Ob hk).2).1,.inr ⟨k,c,s,hk⟩⟩,fun a b g c d s r ha hb=>hC.inj a b g c d s r (Ob ha).2 (Ob hb).2,fun k hk=>?_,fun id o ho=>?_,fun id p e=>(by cases e),⟨fun _ _=>rfl,fun e=>(by cases e)⟩⟩
  · unfold Lq
    split
    · exact hC.new k hk
    · rfl
  · obtain ⟨rfl,rfl⟩:=aX id ho
    refine ⟨aa,trivial,nv _ (C.rows_len _ _) (lZ _) fun j v a hv ha=>?_⟩
    have hj:=mb _ j a (C.rows_len _ _) (lZ _) ha
    rw [ma _ j hj] at ha
    have hk:=key (j / 6) (j % 6) v (by omega) (by omega) (by rw [show j / 6 * 6 + j % 6=j by omega]; exact hv)
    rw [show _root_.id (j / 6)=j / 6 from rfl,hk] at ha
    cases ha
    exact .val v (dC j v _ hv (by rw [cx j hj]; exact List.getElem?_eq_getElem (by rw [jA _ (by omega)]; omega))).one
 have bm:Al (Bi w A (Lq ι i)) vs (.own i N::ws):=by
  refine Al.of h2.length fun x v a hv ha=>?_
  have hr:=h2.at hv ha
  cases x with
  | zero =>
    simp only [List.getElem?_cons_zero,Option.some.injEq] at ha
    subst ha
    refine hr.mono (K:=fun x=>x=i) ⟨fun b hb=>⟨hb,rfl⟩,fun id p hid hp=>?_⟩ rfl
    subst hid; exact Sv.trans hp
  | succ x =>
    obtain ⟨u,rfl⟩:=has a (List.mem_of_getElem? (by simpa using ha))
    exact hr.mono (K:=fun _=>False) ⟨fun b hb=>⟨hb,rfl⟩,fun id p hid _=>hid.elim⟩ trivial
 have du:=(h _ _ _ _).calls w (Lq ι i) A vs (i7 ▸ jB) (fun k hk=>?_) bm (fun x hx=>?_) (fun id o ho=>?_)
 · refine Calls.mono du ?_
   rintro e w' ⟨v,r,ho,m,ι',S',rfl,⟨rfl,rfl,σ,hσ,rfl⟩,fu,ay,b8,hv,hu,bG,eh,eB,bl⟩
   rw [<- i7] at ay b8 hu bG eh eB
   obtain ⟨hσ1,hσ2⟩:=hZ σ hσ
   have fQ:=ay.frame
   have dT:∀ b,b < w.heap.size->¬ Mut (Lq ι i) b->w'.heap[b]?=w.heap[b]?:=fQ.block
   have hA:∀ b,A b->A b/\w'.heap[b]?=w.heap[b]?:=fun b hb=>⟨hb,dT b (hC.lt b hb) fun hm=>hC.dis b hb (Wb fg hm)⟩
   have jC:ι' ⟨i,[]⟩=ι ⟨i,[]⟩:=by
    obtain ⟨p,hp⟩:=ia
    rw [hp]
    exact bl i _ p (Ae _ _ _) (.inl rfl) (Sv.trans hp)
   have co:∀ k p,Kr ι i N σ k=some p->∃ k',ι k'=some p:=fun k p hk=>a8h hk
   have ib:Core ⟨P,w,Mut ι,A,0,fun _=>none,[0]⟩ (Kr ι i N σ) A [(i,.nest (c:=true) T 6 (rowsOf (fun k=>R (σ k)) N))] m w':=by
    refine ⟨⟨fQ.os,fQ.tape,fQ.output,fQ.size,fun b hb hn=>dT b hb fun hm=>hn (Wb fg hm)⟩,fun b hb=>.inl hb,fun b hb=>Nat.lt_of_lt_of_le (hC.lt b hb) fQ.size,fun b hb hm=>hC.dis b hb (Wb co hm),fun k g c s hk=>?_,fun a b g c d s r ha hb=>?_,fun k hk=>?_,fun id o ho=>?_,fun id p e=>(by cases e),⟨fun _ _=>rfl,fun e=>(by cases e)⟩⟩
    · obtain ⟨k',aW⟩:=co k _ hk
      exact ⟨Nat.lt_of_lt_of_le (hC.own k' g c s aW).1 fQ.size,.inr ⟨k',c,s,aW⟩⟩
    · rcases Yw ha with ⟨ea,ha⟩ | ⟨ja,qa,ea,la,ha⟩ <;> rcases Yw hb with ⟨eb,hb⟩ | ⟨jb,qb,eb,lb,hb⟩
      · rw [ea,eb]
      · rw [ea] at ha; have:=hC.inj _ _ _ _ _ _ _ ha hb; simp at this
      · rw [eb] at hb; have:=hC.inj _ _ _ _ _ _ _ ha hb; simp at this
      · have:=hC.inj _ _ _ _ _ _ _ ha hb
        simp only [Key.mk.injEq,List.cons.injEq,true_and] at this
        obtain ⟨h5,h6⟩:=this
        have h7:ja / 6=jb / 6:=hσ2 _ _ (by omega) (by omega) (by omega)
        have h8:ja=jb:=by omega
        rw [ea,eb,h6,h8]
    · unfold Kr
      rw [if_neg (by omega)]
    · obtain ⟨rfl,rfl⟩:=aX id ho
      refine ⟨aa,fun e=>(by cases e),kW w' S' ι' (C.rows σ N) _ σ (C.rows_len _ _) (Q1 _ _) (fun r hr=>?_) jC (ay.obj _ _ (Ae _ _ _)).2.2 fun us' aP j v a hv ha=>?_⟩
      · obtain ⟨k,hk,rfl⟩:=List.mem_map.1 hr
        exact jA _ (hσ1 k (List.mem_range.1 hk))
      · have hj:=mb _ j a (Q1 _ _) (fun r hr=>by
         obtain ⟨k,hk,rfl⟩:=List.mem_map.1 hr
         exact jA _ (hσ1 k (List.mem_range.1 hk))) ha
        rw [Oc (fun k hk=>jA _ (hσ1 k hk)) hj] at ha
        have ew:=hσ1 (j / 6) (by omega)
        have cO:σ (j / 6) * 6 + j % 6 < us.length:=by omega
        have iA:=List.getElem?_eq_getElem cO
        have hk:=key (σ (j / 6)) (j % 6) _ ew (by omega) iA
        have nz:=rd_val (aP j v _ hv ((ma σ j hj).trans hk))
        have hT:=dC _ _ a iA (by rw [cx _ (by omega),show (σ (j / 6) * 6 + j % 6) / 6=σ (j / 6) by omega,show (σ (j / 6) * 6 + j % 6) % 6=j % 6 by omega]; exact ha)
        rw [<- nz] at hT
        have jD:Tr w' A ι ⟨id,[σ (j / 6) * 6 + j % 6]⟩ v a:=hT.monoC (fun k=>k.id=id/\k.path≠[]) (fun k x hk=>⟨hk.1,by simp⟩) hA (fun k p _ hp=>hp) (fun k g c s hk hp=>dT g (hC.own k g c s hp).1 fun ⟨k0,c0,s0,hm⟩=>by
         obtain ⟨e0,hm⟩:=Ob hm
         have:=hC.inj _ _ _ _ _ _ _ hp hm
         rw [this,e0] at hk
         exact hk.2 rfl) ⟨rfl,by simp⟩
        exact jD.move (i:=id) (n:=id) (pre:=[σ (j / 6) * 6 + j % 6]) (pre':=[j]) (fun q p hp=>(a95 hj q).trans hp) [] rfl
   have fT:v=.tuple #[]∨True:=.inr trivial
   refine ⟨v,.tup [],_,m,Kr ι i N σ,A,rfl,⟨rfl,rfl,σ,hσ,rfl⟩,Nat.le_refl _,?_,fun k hk=>?_,?_,fun v hv=>(by simp at hv),fun id o ho=>?_,fun id hid=>(ap id).2 ((ap id).1 hid),fun id hid=>.inl ((ap id).2 ((ap id).1 hid)),fun id o p ho _ hp=>?_⟩
   · exact ib
   · have aW:=(dl k.id).1 hk
     unfold Kr
     rw [if_neg aW]
   · cases hv with
     | one hv=>cases hv with
       | cell hv=>cases hv with
         | rd hv=>cases hv
     | tup us0 cs0 h0 =>
       exact .tup us0 [] (by cases us0 with
        | nil=>trivial
        | cons=>exact h0.elim)
   · obtain ⟨rfl,rfl⟩:=aX id ho
     exact fun e=>(by cases e)
   · obtain ⟨rfl,rfl⟩:=aX id ho
     exact Q0.trans hp
 · have aW:k≠⟨i,[]⟩:=fun e=>by
    subst e
    unfold D7 at hk
    rw [Ae] at hk
    cases hk
   unfold Lq
   rw [if_neg aW]
 · rcases List.mem_cons.1 hx with rfl | hx
   · exact (ap i).2 rfl
   · obtain ⟨u,rfl⟩:=has x hx
     trivial
 · obtain ⟨rfl,rfl⟩:=aX id ho
   trivial
abbrev tl (zs:List Int):AV:=.tree 2 1 (ivs zs)
abbrev inT (x:InD):List AV:=[iv x.1,iv x.2.1,tl x.2.2]
abbrev outT (y:Cx):List AV:=[iv y.1,tl y.2]
theorem b1I (zs:List Int):Fz (tl zs) (il zs):=b1H (Value.int .i64) zs
theorem b2p (xs:List InD):FzR 3 (xs.map inT) (xs.map A3):=FzR.map (f:=inT) (g:=A3) (fun _=>rfl) (fun x=>⟨.val _,.val _,b1I x.2.2,trivial⟩) xs
theorem b16 (ys:List Cx):FzR 2 (ys.map outT) (ys.map Ax):=FzR.map (f:=outT) (g:=Ax) (fun _=>rfl) (fun y=>⟨.val _,b1I y.2,trivial⟩) ys
theorem a3W (xs:List InD):∀ c∈(xs.map inT).flatten,inB c=true:=Ph (fun x c hc=>by simp only [List.mem_cons,List.not_mem_nil,or_false] at hc; rcases hc with rfl | rfl | rfl <;> rfl) xs
theorem Yx (ys:List Cx):∀ c∈(ys.map outT).flatten,inB c=true:=Ph (fun x c hc=>by simp only [List.mem_cons,List.not_mem_nil,or_false] at hc; rcases hc with rfl | rfl <;> rfl) ys
theorem Mw (zs:List Int):∀ c∈(ivs zs).flatten,inB c=true:=a94 (Value.int .i64) zs
theorem b1l (zs:List Int):∀ c∈(ivs zs).flatten,Dw c=true:=a3V (Value.int .i64) zs
theorem Sw {α:Type} {f:α->List AV} {z:List AV} (hf:∀ x,∀ c∈f x,inB c=true) (hz:∀ c∈z,inB c=true) (xs:List α) (k:Nat):∀ c∈(C4 f z xs k).flatten,inB c=true:=by
 intro c hc
 obtain ⟨r,hr,aR⟩:=List.mem_flatten.1 hc
 unfold C4 at hr
 rcases List.mem_append.1 hr with h | h
 · obtain ⟨x,_,rfl⟩:=List.mem_map.1 h; exact hf x c aR
 · rw [List.eq_of_mem_replicate h] at aR; exact hz c aR
theorem Sx {c:AV} (h:inB c=true) (i:Nat):c.idOf≠some i:=fun e=>by
 cases c <;> simp_all [inB,AV.idOf]
theorem Wc {l:List (List AV)} {x:List AV} {j:Nat} (h:l.length=j):(l++List.take 1 [x])[j]?=some x:=by
 subst h
 rw [List.getElem?_append_right (Nat.le_refl _),Nat.sub_self]; rfl
theorem Wd {l:List (List AV)} {x y:List AV} {j:Nat} (h:l.length=j):(l++List.take 1 [x]).set j y=l++[y]:=by
 subst h
 rw [List.set_append_right _ _ (Nat.le_refl _),Nat.sub_self]; rfl
theorem a97 (x:InD) (n:Nat) (hl:x.2.2.length<=1048576):Ret Tryz.prog 171 [.agg (A3 x)] [] n true (Is (.agg [iv x.1,iv x.2.1,.own n x.2.2.length]) [(n,.list 2 1 (ivs x.2.2))] (n + 1)):=by
 refine Ret.fn Ad Tryz.func171 rfl Tryz.call171 rfl rfl ?_
 refine Goes ?_
 refine Aa.is (Mr x.2.2 _ hl) rfl ?_
 refine Goes ?_
 refine Ab.mk' [3] rfl rfl rfl rfl rfl rfl rfl ⟨?_,?_,rfl⟩
 · rfl
 · rfl
theorem a8i (y:Cx) (n:Nat) (hl:y.2.length<=1048576):Ret Tryz.prog 172 [.agg (Ax y)] [] n true (Is (.agg [iv y.1,.own n y.2.length]) [(n,.list 2 1 (ivs y.2))] (n + 1)):=by
 refine Ret.fn Ad Tryz.func172 rfl Tryz.call172 rfl rfl ?_
 refine Goes ?_
 refine Aa.is (Mr y.2 _ hl) rfl ?_
 refine Goes ?_
 refine Ab.mk' [3] rfl rfl rfl rfl rfl rfl rfl ⟨?_,?_,rfl⟩
 · rfl
 · rfl
theorem a8j (xs:List InD) (n:Nat) (hl:xs.length<=1048576) (hx:∀ x∈xs,x.2.2.length<=1048576):Ret Tryz.prog 136 [Et xs] [] n true (Is (.own n xs.length) [(n,.nest (c:=true) 201 3 (xs.map inT))] (n + 1)):=by
 have hL:(xs.map A3).length=xs.length:=by simp
 have hB:=Sw (f:=inT) (z:=[iv 0,iv 0,nl]) (fun x c hc=>a3W [x] c (by simpa using hc)) (fun c hc=>by simp only [List.mem_cons,List.not_mem_nil,or_false] at hc; rcases hc with rfl | rfl | rfl <;> rfl) xs
 refine Ret.fn Ad Tryz.func136 rfl Tryz.call136 rfl rfl ?_
 refine Goes ?_
 rw [hL]
 refine ⟨⟨by omega,by omega,by omega,by show _ * 40<=_; omega⟩,?_⟩
 refine Goes ?_
 refine Ao.go (fun k:Nat=>k<=xs.length) (fun k=>⟨[(0,Et xs),(3,.own 0 xs.length),(4,iv k)],[(0,.nest (c:=true) 201 3 (C4 inT [iv 0,iv 0,nl] xs k))],1⟩) (fun k=>xs.length - k) 0 (Nat.zero_le _) ?_ ?_
 · refine (Ac.nest 0 _ _ _ rfl).trans (Ac.of rfl rfl ktA ⟨⟨congrArg some (congrArg _ ?_),rfl,rfl⟩,trivial⟩)
   unfold C4; simp
 intro k hk
 have bh:=Ft inT [iv 0,iv 0,nl] xs k hk
 refine Goes ?_;repeat' first|apply W2.m|refine W1.m fun h=>?_
 · have aa:k < xs.length:=by omega
   rw [A1 A3 xs k aa]
   refine ⟨by rw [hL]; exact ⟨by omega,by omega,rfl⟩,?_⟩
   refine Goes ?_
   refine Aa.is (a97 xs[k] _ (hx _ (List.getElem_mem aa))) rfl ?_
   refine Goes ?_
   rw [Su (by omega) (by rw [N2 inT _ xs k aa]; rfl)]
   refine ⟨k + 1,by omega,by omega,Ac.plant 0 _ 3 k 2 1 _ 1 xs[k].2.2.length _ _ _ [iv xs[k].1,iv xs[k].2.1,.own 1 xs[k].2.2.length] rfl rfl (by simp) ?_ rfl ?_ (hB (k + 1)) (Mw _) rfl ⟨⟨rfl,rfl,rfl⟩,⟨rfl,rfl,rfl⟩,⟨Aw Cm,rfl,rfl⟩,trivial⟩ trivial⟩
   · rw [List.getElem?_set_self (by omega)]; rfl
   · rw [List.set_set]
     exact (Ll inT _ xs k aa).symm
 · obtain rfl:k=xs.length:=by omega
   rw [Fu]
   refine Ab.mk' [0] rfl rfl rfl rfl rfl rfl rfl ⟨?_,?_,rfl⟩
   · rfl
   · rfl
theorem a5Q (xs:List Cx) (n:Nat) (hl:xs.length<=1048576) (hx:∀ x∈xs,x.2.length<=1048576):Ret Tryz.prog 137 [Dh xs] [] n true (Is (.own n xs.length) [(n,.nest (c:=true) 203 2 (xs.map outT))] (n + 1)):=by
 have hL:(xs.map Ax).length=xs.length:=by simp
 have hB:=Sw (f:=outT) (z:=[iv 0,nl]) (fun x c hc=>Yx [x] c (by simpa using hc)) (fun c hc=>by simp only [List.mem_cons,List.not_mem_nil,or_false] at hc; rcases hc with rfl | rfl <;> rfl) xs
 refine Ret.fn Ad Tryz.func137 rfl Tryz.call137 rfl rfl ?_
 refine Goes ?_
 rw [hL]
 refine ⟨⟨by omega,by omega,by omega,by show _ * 32<=_; omega⟩,?_⟩
 refine Goes ?_
 refine Ao.go (fun k:Nat=>k<=xs.length) (fun k=>⟨[(0,Dh xs),(3,.own 0 xs.length),(4,iv k)],[(0,.nest (c:=true) 203 2 (C4 outT [iv 0,nl] xs k))],1⟩) (fun k=>xs.length - k) 0 (Nat.zero_le _) ?_ ?_
 · refine (Ac.nest 0 _ _ _ rfl).trans (Ac.of rfl rfl ktA ⟨⟨congrArg some (congrArg _ ?_),rfl,rfl⟩,trivial⟩)
   unfold C4; simp
 intro k hk
 have bh:=Ft outT [iv 0,nl] xs k hk
 refine Goes ?_;repeat' first|apply W2.m|refine W1.m fun h=>?_
 · have aa:k < xs.length:=by omega
   rw [A1 Ax xs k aa]
   refine ⟨by rw [hL]; exact ⟨by omega,by omega,rfl⟩,?_⟩
   refine Goes ?_
   refine Aa.is (a8i xs[k] _ (hx _ (List.getElem_mem aa))) rfl ?_
   refine Goes ?_
   rw [Su (by omega) (by rw [N2 outT _ xs k aa]; rfl)]
   refine ⟨k + 1,by omega,by omega,Ac.plant 0 _ 2 k 1 1 _ 1 xs[k].2.length _ _ _ [iv xs[k].1,.own 1 xs[k].2.length] rfl rfl (by simp) ?_ rfl ?_ (hB (k + 1)) (Mw _) rfl ⟨⟨rfl,rfl,rfl⟩,⟨rfl,rfl,rfl⟩,⟨Aw Cm,rfl,rfl⟩,trivial⟩ trivial⟩
   · rw [List.getElem?_set_self (by omega)]; rfl
   · rw [List.set_set]
     exact (Ll outT _ xs k aa).symm
 · obtain rfl:k=xs.length:=by omega
   rw [Fu]
   refine Ab.mk' [0] rfl rfl rfl rfl rfl rfl rfl ⟨?_,?_,rfl⟩
   · rfl
   · rfl
abbrev txO (n:Nat) (t:TxD):AV:=.agg [iv t.1,.own n t.2.1.length,.own (n + 1) t.2.2.length]
abbrev txH (n:Nat) (t:TxD):Hp:=[(n,.nest (c:=true) 201 3 (t.2.1.map inT)),(n + 1,.nest (c:=true) 203 2 (t.2.2.map outT))]
theorem a98 (t:TxD) (n:Nat) (h:Fits t):Ret Tryz.prog 89 [txV t] [] n true (Is (txO n t) (txH n t) (n + 2)):=by
 refine Ret.fn Ad Tryz.func89 rfl Tryz.call89 rfl rfl ?_
 refine Goes ?_
 refine Aa.is (a8j t.2.1 _ h.ins h.proofs) rfl ?_
 refine Goes ?_
 refine Aa.is (a5Q t.2.2 _ h.outs h.locks) rfl ?_
 refine Goes ?_
 refine Ab.mk' [3,4] rfl rfl rfl rfl rfl rfl rfl ⟨?_,?_,rfl⟩
 · rfl
 · rfl
theorem Qc (m k0 n:Nat) (hl:m<=1048576) (hk:k0<=1099511627776):Ret Tryz.prog 84 [il (marks k0 m),iv k0] [] n true (Is (iv ((k0 + m:Nat):Int)) [] n):=by
 have hL:(ivs (marks k0 m)).length=m:=by simp [Hq]
 have m5:=Hq k0 m
 refine Ret.fn Ad Tryz.func84 rfl Tryz.call84 rfl rfl ?_
 refine Goes ?_
 refine Ao.go (fun k:Nat=>k<=m) (fun k=>⟨[(0,il (marks k0 m)),(1,iv ((k0 + k:Nat):Int)),(5,iv k)],[],0⟩) (fun k=>m - k) 0 (Nat.zero_le _) ?_ ?_
 · exact (Ac.of rfl rfl ktA trivial)
 intro k aW
 refine Goes ?_;repeat' first|apply W2.m|refine W1.m fun h=>?_
 · have aa:k < m:=by omega
   rw [A1 iv1 (marks k0 m) k (by omega)]
   refine ⟨by (first | exact ⟨by omega,by omega,rfl⟩ | (simp only [List.length_map]; exact ⟨by omega,by omega,rfl⟩)),?_⟩
   refine Goes ?_;repeat' first|apply W2.m|refine W1.m fun h=>?_
   · exfalso
     rw [a9s k0 m k (by omega)] at h
     rename_i h0
     exact h rfl
   · exact ⟨k + 1,by omega,by omega,(Ac.of rfl rfl ktA trivial)⟩
 · obtain rfl:k=m:=by omega
   refine Ab.pure rfl rfl rfl ⟨?_,rfl,rfl⟩
   rfl
end Go.Proofs.YtllhgcfacgiabaaGreat
