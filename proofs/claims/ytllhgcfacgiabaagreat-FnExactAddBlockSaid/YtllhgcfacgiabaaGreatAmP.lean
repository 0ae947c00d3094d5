import Derived.Test.YtllhgcfacgiabaaGreatAmG
namespace Go.Am
open Go.RowKit
set_option linter.unusedVariables false
set_option linter.unusedSimpArgs false
theorem Mv {s:Nat}:∀ {rows:List (List AV)},(∀ r∈rows,r.length=s)->rows.flatten.length=rows.length * s
 | [],_=>by simp
 | r::rs,h=>by
   rw [List.flatten_cons,List.length_append,Mv fun x hx=>h x (List.mem_cons_of_mem _ hx),h r (List.mem_cons_self ..),List.length_cons,Nat.add_mul]
   omega
theorem Ac.nest {fx:List Nat} {tm:List (Nat × AV)} {hp:Hp} {nx:Nat} (id e s:Nat) (rows:List (List AV)) (hl:look hp id=some (.list e s rows)) :
 Ac fx ⟨tm,hp,nx⟩ ⟨tm,(id,.nest (c:=true) e s rows)::hp,nx⟩:=by
 rintro E a w _ ⟨ao,hd,ι,S,hC,ab⟩
 obtain ⟨e7,e8,an⟩:=hC.obj id _ hl
 refine ⟨ao,hd,ι,S,⟨hC.frame,hC.sub,hC.lt,hC.dis,hC.own,hC.inj,hC.new,?_,hC.stay,hC.fxs⟩,ab⟩
 intro i o h
 by_cases e9:id=i
 · subst e9
   rw [Ae] at h
   simp only [Option.some.injEq] at h
   subst h
   refine ⟨e7,?_,?_⟩
   · intro h0; cases h0
   · cases an with
     | nil _ _ h' h2=>exact .nest0 e s h' h2
     | list g cap _ _ _ vs h' hs hr ax hm hb hn hc=>exact .nest g cap e s rows vs h' hs hr ax hm hb hn fun j v c hv ha=>.inr (.rd (hc j v c hv ha))
 · rw [An _ _ e9] at h
   exact hC.obj i o h
theorem Tr.lift {w:World} {S:Nat->Prop} {ι ι':Loc} (C:Key->Prop) (hC:∀ (k:Key) x,C k->C ⟨k.id,k.path++[x]⟩) (hι:∀ (k:Key) p,C k->ι k=some p->ι' k=some p) {k:Key} {v:Value} {a:AV} (hk:C k) (h:Tr w S ι k v a):Tr w S ι' k v a:=by
 induction h with
 | rd h=>exact .rd h
 | nil k e s hs=>exact .nil k e s hs
 | tree k g cap e s rows vs h hs hr hl hm hw hn hc ih =>
   exact .tree k g cap e s rows vs (hι k _ hk h) hs hr hl hm hw hn fun i v a hv ha=>ih i v a hv ha (hC k i hk)
theorem Tr.move {w:World} {S:Nat->Prop} {ι ι':Loc} {i n:Nat} {pre pre':List Nat} (hι:∀ (q:List Nat) p,ι ⟨i,pre++q⟩=some p->ι' ⟨n,pre'++q⟩=some p) {k:Key} {v:Value} {a:AV} (h:Tr w S ι k v a):∀ q,k=⟨i,pre++q⟩->Tr w S ι' ⟨n,pre'++q⟩ v a:=by
 induction h with
 | rd h=>exact fun q e=>.rd h
 | nil k e s hs=>exact fun q e'=>.nil _ e s hs
 | tree k g cap e s rows vs h hs hr hl hm hw hn hc ih =>
   rintro q rfl
   refine .tree _ g cap e s rows vs (hι q _ h) hs hr hl hm hw hn fun x v a hv ha=>?_
   have:=ih x v a hv ha (q++[x]) (by simp)
   simpa using this
def below (i p:Nat) (k:Key):Bool:=Nat.beq k.id i&&(match k.path with | []=>false | x::_=>Nat.beq x p)
theorem Gs {i p:Nat} {k:Key}:below i p k=true↔∃ q,k=⟨i,p::q⟩:=by
 obtain ⟨id,path⟩:=k
 cases path with
 | nil=>simp [below]
 | cons x q =>
   simp only [below,Bool.and_eq_true]
   constructor
   · rintro ⟨h1,h2⟩
     obtain rfl:=Nat.eq_of_beq_eq_true h1
     obtain rfl:=Nat.eq_of_beq_eq_true h2
     exact ⟨q,rfl⟩
   · rintro ⟨_,h⟩
     simp only [Key.mk.injEq,List.cons.injEq] at h
     obtain ⟨rfl,rfl,_⟩:=h
     exact ⟨Nat.beq_refl _,Nat.beq_refl _⟩
def Kb (ι:Loc) (i p n:Nat) (ιn:List Nat->Option Pl):Loc:=fun k=>if k.id=n then ιn k.path else if below i p k=true then none else ι k
theorem Core.unf {E:Env} {ι:Loc} {S:Nat->Prop} {hp:Hp} {nx:Nat} {w:World} {i p:Nat} {ιn:List Nat->Option Pl} {o o' on:A2} (hC:Core E ι S hp nx w) (hl:look hp i=some o)
 (hn:∀ q g c z,ιn q=some (.blk g c z)->ι ⟨i,p::q⟩=some (.blk g c z)) (hu:o'.uses (· < nx + 1)) (dj:on.uses (· < nx + 1)) (ho:Bp w S (Kb ι i p nx ιn) i o') (nn:Bp w S (Kb ι i p nx ιn) nx on) :
 Core E (Kb ι i p nx ιn) S ((i,o')::(nx,on)::hp) (nx + 1) w/\Later w w S S ι (Kb ι i p nx ιn) (· < nx):=by
 have hi:i < nx:=(hC.obj i o hl).1
 have blk:∀ (k:Key) g c z,Kb ι i p nx ιn k=some (.blk g c z)->(k.id=nx/\ι ⟨i,p::k.path⟩=some (.blk g c z))∨(k.id≠nx/\below i p k=false/\ι k=some (.blk g c z)):=by
  intro k g c z h
  simp only [Kb] at h
  split at h
  · rename_i e; exact .inl ⟨e,hn _ _ _ _ h⟩
  · rename_i e
    split at h
    · cases h
    · rename_i e2; exact .inr ⟨e,by simpa using e2,h⟩
 have blk1:∀ (k:Key) g c z,Kb ι i p nx ιn k=some (.blk g c z)->∃ k':Key,ι k'=some (.blk g c z):=fun k g c z h=>(blk k g c z h).elim (fun h=>⟨_,h.2⟩) (fun h=>⟨_,h.2.2⟩)
 have keep:∀ (k:Key) q,k.id < nx->below i p k=false->ι k=some q->Kb ι i p nx ιn k=some q:=by
  intro k q h1 h2 h3
  simp only [Kb]
  rw [if_neg (by omega),if_neg (by simp [h2])]; exact h3
 have root:∀ id,below i p ⟨id,[]⟩=false:=fun id=>by simp [below]
 have other:∀ k:Key,k.id≠i->below i p k=false:=fun k hk=>by
  cases hb:below i p k with
  | false=>rfl
  | true=>obtain ⟨q,rfl⟩:=Gs.1 hb; exact absurd rfl hk
 have hL:Later w w S S ι (Kb ι i p nx ιn) (· < nx):=⟨fun b hb=>⟨hb,rfl⟩,fun id q h1 h2=>keep _ q h1 (root id) h2⟩
 refine ⟨⟨hC.frame,hC.sub,hC.lt,?_,?_,?_,?_,?_,?_,hC.fxs⟩,hL⟩
 · rintro b hb ⟨k,c,z,h⟩
   obtain ⟨k',h'⟩:=blk1 k _ _ _ h
   exact hC.dis b hb ⟨k',c,z,h'⟩
 · intro k g c z h
   obtain ⟨k',h'⟩:=blk1 k _ _ _ h
   exact hC.own k' g c z h'
 · intro k l g c d z r h1 h2
   rcases blk k _ _ _ h1 with ⟨e1,h1⟩ | ⟨e1,f1,h1⟩ <;> rcases blk l _ _ _ h2 with ⟨e2,h2⟩ | ⟨e2,f2,h2⟩
   · have:=hC.inj _ _ g _ _ _ _ h1 h2
     obtain ⟨a1,b1⟩:=k
     obtain ⟨a2,b2⟩:=l
     simp only [Key.mk.injEq,List.cons.injEq,true_and] at this e1 e2 ⊢
     exact ⟨e1.trans e2.symm,this⟩
   · have:=hC.inj _ _ g _ _ _ _ h1 h2
     rw [Gs.2 ⟨_,this.symm⟩] at f2; cases f2
   · have:=hC.inj _ _ g _ _ _ _ h1 h2
     rw [Gs.2 ⟨_,this⟩] at f1; cases f1
   · exact hC.inj k l g _ _ _ _ h1 h2
 · intro k hk
   have aW:nx + 1<=k.id:=hk
   simp only [Kb]
   rw [if_neg (by omega),if_neg (by rw [other k (by omega)]; simp)]
   exact hC.new k (by show nx<=k.id; omega)
 · intro j ob h
   rw [Aj] at h
   split at h
   · rename_i e; subst e
     simp only [Option.some.injEq] at h; subst h
     exact ⟨by omega,hu,ho⟩
   · rename_i e
     rw [Aj] at h
     split at h
     · rename_i e2; subst e2
       simp only [Option.some.injEq] at h; subst h
       exact ⟨Nat.lt_succ_self _,dj,nn⟩
     · obtain ⟨g1,g2,g3⟩:=hC.obj j ob h
       exact ⟨Nat.lt_succ_of_lt g1,A2.uses_mono (fun x (hx:x < nx)=>Nat.lt_succ_of_lt hx) g2,g3.mono hL g1 g2 (fun _ k q hk hq=>keep k q (by rw [hk]; exact g1) (other k (by rw [hk]; exact fun e'=>e e'.symm)) hq) fun _ _ _ _ _ _=>rfl⟩
 · intro k q h
   have h':=hC.stay k q h
   have aa:k < nx:=by
    rcases Nat.lt_or_ge k nx with h2 | h2
    · exact h2
    · rw [hC.new ⟨k,[]⟩ h2] at h'; cases h'
   exact keep ⟨k,[]⟩ q aa (root k) h'
theorem Uo {ι:Loc} {i p nx:Nat} {ιn:List Nat->Option Pl} {k:Key} {q:Pl} (h1:k.id < nx) (h2:below i p k=false) (h3:ι k=some q):Kb ι i p nx ιn k=some q:=by
 simp only [Kb]
 rw [if_neg (by omega),if_neg (by simp [h2])]; exact h3
theorem J5 (i p id:Nat):below i p ⟨id,[]⟩=false:=by simp [below]
theorem a5N {w:World} {S:Nat->Prop} {ι:Loc} {i p nx:Nat} {ιn:List Nat->Option Pl}:Later w w S S ι (Kb ι i p nx ιn) (· < nx):=⟨fun b hb=>⟨hb,rfl⟩,fun id q h1 h2=>Uo h1 (J5 i p id) h2⟩
theorem Ac.unfold {fx:List Nat} {tm:List (Nat × AV)} {hp:Hp} {nx:Nat} {b:Bool} (i e s p e2 s2:Nat) (rows rows' rows2:List (List AV)) (hl:look hp i=some (.nest (c:=b) e s rows)) (hq:rows.flatten[p]?=some (.tree e2 s2 rows2))
 (hf:rows'.flatten=rows.flatten.set p (.own nx rows2.length)) (hn:rows'.length=rows.length) (hr:∀ r∈rows',r.length=s) :
 Ac fx ⟨tm,hp,nx⟩ ⟨tm,(i,.nest (c:=false) e s rows')::(nx,.nest (c:=true) e2 s2 rows2)::hp,nx + 1⟩:=by
 rintro E a w rfl ⟨ao,hd,ι,S,hC,ab⟩
 obtain ⟨kR,iA,an⟩:=hC.obj i _ hl
 have hi:i < nx:=kR
 have hu:∀ c∈rows.flatten,∀ id,c.idOf=some id->id < nx:=Oz iA an
 cases an with
 | nest0=>simp at hq
 | nest g cap _ _ _ vs h hs d3 ax hm hw ae hc =>
   have kS:p < rows.flatten.length:=(List.getElem?_eq_some_iff.1 hq).1
   have aV:rows.length * s<=cap * s:=Nat.mul_le_mul_right _ ax
   have fH:p < vs.length:=by rw [ae]; rw [Mv d3] at kS; omega
   obtain ⟨v0,hv⟩:∃ v0,vs[p]?=some v0:=⟨_,List.getElem?_eq_getElem fH⟩
   have main:∀ ιn:List Nat->Option Pl,(∀ q g c z,ιn q=some (.blk g c z)->ι ⟨i,p::q⟩=some (.blk g c z))->A9 w S (Kb ι i p nx ιn) v0 (.own nx rows2.length)->(∀ c∈rows2.flatten,c.idOf=none)->Bp w S (Kb ι i p nx ιn) nx (.nest (c:=true) e2 s2 rows2) ->
    Rel E ⟨tm,(i,.nest (c:=false) e s rows')::(nx,.nest (c:=true) e2 s2 rows2)::hp,nx + 1⟩ a w:=by
    intro ιn h1 h2 h3 h4
    have hL:Later w w S S ι (Kb ι i p nx ιn) (· < nx):=a5N
    obtain ⟨ay,_⟩:=hC.unf (p:=p) (ιn:=ιn) (o':=.nest (c:=false) e s rows') (on:=.nest (c:=true) e2 s2 rows2) hl h1 (by
     intro _ c bp id hid
     rw [hf] at bp
     rcases List.mem_or_eq_of_mem_set bp with hx | rfl
     · exact Nat.lt_succ_of_lt (hu c hx id hid)
     · simp only [AV.idOf,Option.some.injEq] at hid; subst hid; exact Nat.lt_succ_self _) (fun h0=>by cases h0) (by
     refine .nest g cap e s rows' vs (Uo hi (J5 i p i) h) hs hr (by omega) hm hw ae fun j v c aY bn=>?_
     rw [hf,List.getElem?_set] at bn
     split at bn
     · rename_i e'
       subst e'
       simp only [Option.some.injEq] at bn
       subst bn
       rw [hv] at aY
       simp only [Option.some.injEq] at aY
       subst aY
       exact .inl ⟨rfl,h2⟩
     · rename_i e'
       rcases hc j v c aY bn with ⟨_,hx⟩ | hx
       · exact .inl ⟨rfl,hx.mono hL fun id hid=>hu c (List.mem_of_getElem? bn) id hid⟩
       · refine .inr (hx.lift (fun k=>∃ q,k=⟨i,j::q⟩) (fun k x ⟨q,hk⟩=>⟨q++[x],by rw [hk]; rfl⟩) (fun k q ⟨r,hk⟩ h=>Uo (by rw [hk]; exact hi) ?_ h) ⟨[],rfl⟩)
         cases hb:below i p k with
         | false=>rfl
         | true =>
           obtain ⟨q',ac⟩:=Gs.1 hb
           rw [hk] at ac
           simp only [Key.mk.injEq,List.cons.injEq,true_and] at ac
           exact absurd ac.1.symm e') h4
    exact ⟨ao,hd,_,S,ay,⟨fun t v hv=>let ⟨a1,a2,a3⟩:=ab.tm t v hv; ⟨a1,AV.uses_mono (fun x (hx:x < nx)=>Nat.lt_succ_of_lt hx) a2,a3.mono hL a2⟩⟩⟩
   rcases hc p _ _ hv hq with ⟨_,hx⟩ | hx
   · exfalso
     cases hx with
     | rd hx=>cases hx
   · cases hx with
     | rd hx=>cases hx
     | nil _ _ _ ez =>
       have hz:Kb ι i p nx (fun q=>match q with | []=>some .nil | _=>none) ⟨nx,[]⟩=some .nil:=by simp [Kb]
       refine main (fun q=>match q with | []=>some .nil | _=>none) (fun q g c z hh=>?_) (.own0 nx hz) (fun c hc=>by simp at hc) (.nest0 e2 s2 hz ez)
       cases q <;> simp at hh
     | tree _ g2 cap2 _ _ _ vs2 h2 ez fW bo cJ eL bA fa =>
       have hz:Kb ι i p nx (fun q=>ι ⟨i,p::q⟩) ⟨nx,[]⟩=some (.blk g2 cap2 s2):=by simp only [Kb,if_true]; exact h2
       refine main (fun q=>ι ⟨i,p::q⟩) (fun q g c z hh=>hh) (.own nx _ g2 cap2 s2 hz bo cJ) (fun c bp=>?_) (.nest g2 cap2 e2 s2 rows2 vs2 hz ez fW bo cJ eL bA fun j v c aY bn=>.inr ?_)
       · obtain ⟨k,hk⟩:=List.mem_iff_getElem?.1 bp
         have aa:k < rows2.flatten.length:=(List.getElem?_eq_some_iff.1 hk).1
         have bd:rows2.length * s2<=cap2 * s2:=Nat.mul_le_mul_right _ bo
         have fP:k < vs2.length:=by rw [bA]; rw [Mv fW] at aa; omega
         exact (fa k _ c (List.getElem?_eq_getElem fP) hk).noId
       · exact (fa j v c aY bn).move (i:=i) (n:=nx) (pre:=[p]) (pre':=[]) (fun q pl hh=>by simp only [Kb,if_true,List.nil_append]; exact hh) [j] rfl
def fol (ι:Loc) (i p n:Nat):Loc:=fun k=>if below i p k=true then ι ⟨n,k.path.tail⟩ else if k.id=n then none else ι k
theorem N7 {ι:Loc} {i p n:Nat} {k:Key} {q:Pl} (h1:k.id≠n) (h2:below i p k=false) (h3:ι k=some q):fol ι i p n k=some q:=by
 simp only [fol]
 rw [if_neg (by simp [h2]),if_neg h1]; exact h3
theorem a5O {ι:Loc} {i p n:Nat} (q:List Nat):fol ι i p n ⟨i,p::q⟩=ι ⟨n,q⟩:=by
 simp only [fol]
 rw [if_pos (Gs.2 ⟨q,rfl⟩)]; rfl
theorem Ac.fold {fx:List Nat} {tm tm':List (Nat × AV)} {hp hp':Hp} {nx:Nat} {b1 b2:Bool} (i e s p n e2 s2:Nat) (rows rows' rows2:List (List AV)) (g9:Af n fx=false) (eO:n≠i) (hl:look hp i=some (.nest (c:=b1) e s rows)) (gE:look hp n=some (.nest (c:=b2) e2 s2 rows2))
 (hq:rows.flatten[p]?=some (.own n rows2.length)) (hf:rows'.flatten=rows.flatten.set p (.tree e2 s2 rows2)) (hn:rows'.length=rows.length) (hr:∀ r∈rows',r.length=s) (ap:∀ c∈rows2.flatten,inB c=true)
 (aX:∀ c∈rows'.flatten,c.idOf≠some n) (ht:∀ t v,look tm' t=some v->look tm t=some v/\v.uses (·≠n)) (hh:∀ j o,look hp' j=some o->look hp j=some o/\j≠n/\o.uses (·≠n)) :
 Ac fx ⟨tm,hp,nx⟩ ⟨tm',(i,.nest (c:=false) e s rows')::hp',nx⟩:=by
 rintro E a w rfl ⟨ao,hd,ι,S,hC,ab⟩
 obtain ⟨kR,iA,an⟩:=hC.obj i _ hl
 have hi:i < nx:=kR
 have hu:∀ c∈rows.flatten,∀ id,c.idOf=some id->id < nx:=Oz iA an
 obtain ⟨np,nq,kT⟩:=hC.obj n _ gE
 have other:∀ k:Key,k.id≠i->below i p k=false:=fun k hk=>by
  cases hb:below i p k with
  | false=>rfl
  | true=>obtain ⟨q,rfl⟩:=Gs.1 hb; exact absurd rfl hk
 have hL:Later w w S S ι (fol ι i p n) (fun id=>id < nx/\id≠n):=⟨fun b hb=>⟨hb,rfl⟩,fun id q h1 h2=>N7 h1.2 (J5 i p id) h2⟩
 have src:∀ (k:Key) q,fol ι i p n k=some q->(∃ r,k=⟨i,p::r⟩/\ι ⟨n,r⟩=some q)∨(below i p k=false/\k.id≠n/\ι k=some q):=by
  intro k q h
  cases hb:below i p k with
  | true=>obtain ⟨r,rfl⟩:=Gs.1 hb; rw [a5O] at h; exact .inl ⟨r,rfl,h⟩
  | false =>
    simp only [fol] at h
    rw [if_neg (by simp [hb])] at h
    split at h
    · cases h
    · rename_i e'; exact .inr ⟨rfl,e',h⟩
 have src1:∀ (k:Key) q,fol ι i p n k=some q->∃ k':Key,ι k'=some q:=fun k q h=>(src k q h).elim (fun ⟨_,_,h⟩=>⟨_,h⟩) (fun h=>⟨_,h.2.2⟩)
 refine ⟨ao,hd,fol ι i p n,S,⟨hC.frame,hC.sub,hC.lt,?_,?_,?_,?_,?_,?_,hC.fxs⟩,⟨fun t v hv=>?_⟩⟩
 · rintro b hb ⟨k,c,z,h⟩
   obtain ⟨k',h'⟩:=src1 k _ h
   exact hC.dis b hb ⟨k',c,z,h'⟩
 · intro k g c z h
   obtain ⟨k',h'⟩:=src1 k _ h
   exact hC.own k' g c z h'
 · intro k l g c d z r h1 h2
   rcases src k _ h1 with ⟨q1,rfl,m1⟩ | ⟨f1,e1,m1⟩ <;> rcases src l _ h2 with ⟨q2,rfl,m2⟩ | ⟨f2,e2,m2⟩
   · have:=hC.inj _ _ g _ _ _ _ m1 m2
     simp only [Key.mk.injEq,true_and] at this
     rw [this]
   · have:=hC.inj _ _ g _ _ _ _ m1 m2
     exact absurd (by rw [<- this]) e2
   · have:=hC.inj _ _ g _ _ _ _ m1 m2
     exact absurd (by rw [this]) e1
   · exact hC.inj k l g _ _ _ _ m1 m2
 · intro k hk
   cases hv:fol ι i p n k with
   | none=>rfl
   | some q =>
     rcases src k _ hv with ⟨r,rfl,_⟩ | ⟨_,_,h⟩
     · have:nx<=i:=hk
       omega
     · rw [hC.new k hk] at h; cases h
 · intro j ob h
   rw [Aj] at h
   split at h
   · rename_i ej; subst ej
     simp only [Option.some.injEq] at h; subst h
     refine ⟨hi,?_,?_⟩
     · intro _ c bp id hid
       rw [hf] at bp
       rcases List.mem_or_eq_of_mem_set bp with hx | rfl
       · exact hu c hx id hid
       · simp [AV.idOf] at hid
     · cases an with
       | nest0=>simp at hq
       | nest g cap _ _ _ vs h hs d3 ax hm hw ae hc =>
         refine .nest g cap e s rows' vs (N7 (fun e'=>eO e'.symm) (J5 i p i) h) hs hr (by omega) hm hw ae fun j v c hv bn=>?_
         have bp:=List.mem_of_getElem? bn
         rw [hf,List.getElem?_set] at bn
         split at bn
         · rename_i e'
           subst e'
           split at bn
           · simp only [Option.some.injEq] at bn
             subst bn
             have aR:A9 w S ι v (.own n rows2.length):=by
              rcases hc p v _ hv hq with ⟨_,hx⟩ | hx
              · exact hx
              · cases hx with | rd hx=>cases hx
             right
             cases kT with
             | nest0 _ _ hz ez =>
               cases aR with
               | rd hx=>cases hx
               | own _ _ g3 c3 z3 hg=>rw [hz] at hg; cases hg
               | own0 _ hg=>exact .nil _ e2 s2 ez
             | nest g2 cap2 _ _ _ vs2 h2 ez fW bo cJ eL bA fa =>
               generalize d8:rows2.length=len at aR
               cases aR with
               | rd hx=>cases hx
               | own0 _ hg=>rw [h2] at hg; cases hg
               | own _ _ g3 c3 z3 hg h3 h4 =>
                 rw [h2] at hg
                 simp only [Option.some.injEq,Pl.blk.injEq] at hg
                 obtain ⟨rfl,rfl,rfl⟩:=hg
                 subst d8
                 refine .tree _ g2 cap2 e2 s2 rows2 vs2 ((a5O []).trans h2) ez fW bo cJ eL bA fun x v b hv hb=>?_
                 have:=A9.tr (fa x v b hv hb) (ap b (List.mem_of_getElem? hb))
                 exact this.move (i:=n) (n:=i) (pre:=[]) (pre':=[p]) (fun q pl hh=>by rw [List.singleton_append,a5O]; exact hh) [x] rfl
           · cases bn
         · rename_i e'
           rcases hc j v c hv bn with ⟨_,hx⟩ | hx
           · refine .inl ⟨rfl,?_⟩
             exact (hx.mono hL fun id hid=>⟨hu c (List.mem_of_getElem? bn) id hid,fun e2=>aX c bp (by rw [hid,e2])⟩)
           · refine .inr (hx.lift (fun k=>∃ q,k=⟨i,j::q⟩) (fun k x ⟨q,hk⟩=>⟨q++[x],by rw [hk]; rfl⟩) (fun k q ⟨r,hk⟩ h=>N7 (by rw [hk]; exact fun e'=>eO e'.symm) ?_ h) ⟨[],rfl⟩)
             cases hb:below i p k with
             | false=>rfl
             | true =>
               obtain ⟨q',ac⟩:=Gs.1 hb
               rw [hk] at ac
               simp only [Key.mk.injEq,List.cons.injEq,true_and] at ac
               exact absurd ac.1.symm e'
   · rename_i ej
     obtain ⟨g0,gn,gu⟩:=hh j ob h
     obtain ⟨g1,g2,g3⟩:=hC.obj j ob g0
     have gboth:ob.uses (fun id=>id < nx/\id≠n):=by
      cases ob with
      | box cs=>exact fun c hc id hid=>⟨g2 c hc id hid,gu c hc id hid⟩
      | list=>trivial
      | map=>trivial
      | ranged=>trivial
      | clo=>exact ⟨fun c hc id hid=>⟨g2.1 c hc id hid,gu.1 c hc id hid⟩,fun c hc id hid=>⟨g2.2 c hc id hid,gu.2 c hc id hid⟩⟩
      | nest e s rows=>exact fun h0 c hc id hid=>⟨g2 h0 c hc id hid,gu h0 c hc id hid⟩
     exact ⟨g1,g2,g3.mono hL ⟨g1,gn⟩ gboth (fun _ k q hk hq=>N7 (by rw [hk]; exact gn) (other k (by rw [hk]; exact fun e'=>ej e'.symm)) hq) fun _ _ _ _ _ _=>rfl⟩
 · intro k q h
   have h':=hC.stay k q h
   have nr:k≠n:=fun e=>by
    rw [hC.fxs.1 ⟨k,[]⟩ (by show Af k E.fx=false; rw [e]; exact g9)] at h; cases h
   exact N7 nr (J5 i p k) h'
 · obtain ⟨k1,k2⟩:=ht t v hv
   obtain ⟨a1,a2,a3⟩:=ab.tm t v k1
   refine ⟨a1,a2,a3.mono hL ?_⟩
   cases v with
   | agg cs=>exact fun c hc id hid=>⟨a2 c hc id hid,k2 c hc id hid⟩
   | tup vs=>exact fun c hc=>⟨fun id hid=>⟨(a2 c hc).1 id hid,(k2 c hc).1 id hid⟩,fun cs ec d hd id hid=>⟨(a2 c hc).2 cs ec d hd id hid,(k2 c hc).2 cs ec d hd id hid⟩⟩
   | own id len=>exact ⟨a2,k2⟩
   | pt id r o=>exact ⟨a2,k2⟩
   | sb id r o l=>exact ⟨a2,k2⟩
   | mp id=>exact ⟨a2,k2⟩
   | clo id=>exact ⟨a2,k2⟩
   | _=>trivial
theorem Pg {α:Type} {s:Nat}:∀ (rows:List (List α)) (k o:Nat) (row:List α),(∀ r∈rows,r.length=s)->rows[k]?=some row->o < s->rows.flatten[k * s + o]?=row[o]?
 | [],k,o,row,_,h,_=>by simp at h
 | r::rs,0,o,row,hr,h,ho=>by
   simp only [List.getElem?_cons_zero,Option.some.injEq] at h
   subst h
   have:=hr r (List.mem_cons_self ..)
   rw [List.flatten_cons,Nat.zero_mul,Nat.zero_add,List.getElem?_append_left (by omega)]
 | r::rs,k + 1,o,row,hr,h,ho=>by
   have hl:=hr r (List.mem_cons_self ..)
   rw [List.getElem?_cons_succ] at h
   rw [List.flatten_cons,Nat.add_mul,Nat.one_mul,List.getElem?_append_right (by omega),show k * s + s + o - r.length=k * s + o by omega]
   exact Pg rs k o row (fun x hx=>hr x (List.mem_cons_of_mem _ hx)) h ho
theorem N8 {α:Type} {s:Nat} (x:α):∀ (rows:List (List α)) (k o:Nat) (row:List α),(∀ r∈rows,r.length=s)->rows[k]?=some row->o < s->(rows.set k (row.set o x)).flatten=rows.flatten.set (k * s + o) x
 | [],k,o,row,_,h,_=>by simp at h
 | r::rs,0,o,row,hr,h,ho=>by
   simp only [List.getElem?_cons_zero,Option.some.injEq] at h
   subst h
   have:=hr r (List.mem_cons_self ..)
   rw [List.set_cons_zero,List.flatten_cons,List.flatten_cons,Nat.zero_mul,Nat.zero_add,List.set_append_left _ _ (by omega)]
 | r::rs,k + 1,o,row,hr,h,ho=>by
   have hl:=hr r (List.mem_cons_self ..)
   rw [List.getElem?_cons_succ] at h
   rw [List.set_cons_succ,List.flatten_cons,List.flatten_cons,Nat.add_mul,Nat.one_mul,List.set_append_right _ _ (by omega),show k * s + s + o - r.length=k * s + o by omega,N8 x rs k o row (fun x hx=>hr x (List.mem_cons_of_mem _ hx)) h ho]
theorem N9 {α:Type} {s:Nat} {rows:List (List α)} {k o:Nat} {row:List α} {x:α} (hr:∀ r∈rows,r.length=s) (h:rows[k]?=some row):∀ r∈rows.set k (row.set o x),r.length=s:=by
 intro r aD
 rcases List.mem_or_eq_of_mem_set aD with h' | rfl
 · exact hr r h'
 · rw [List.length_set]; exact hr row (List.mem_of_getElem? h)
theorem Ac.retell {fx:List Nat} {tm:List (Nat × AV)} {hp:Hp} {nx:Nat} (id:Nat) (o o':A2) (hl:look hp id=some o) (h:∀ (w:World) (S:Nat->Prop) (ι:Loc),o.uses (· < nx)->Bp w S ι id o->o'.uses (· < nx)/\Bp w S ι id o') :
 Ac fx ⟨tm,hp,nx⟩ ⟨tm,(id,o')::hp,nx⟩:=by
 rintro E a w _ ⟨ao,hd,ι,S,hC,ab⟩
 refine ⟨ao,hd,ι,S,⟨hC.frame,hC.sub,hC.lt,hC.dis,hC.own,hC.inj,hC.new,?_,hC.stay,hC.fxs⟩,ab⟩
 intro i ob hi
 by_cases e9:id=i
 · subst e9
   rw [Ae] at hi
   simp only [Option.some.injEq] at hi
   subst hi
   obtain ⟨g1,g2,g3⟩:=hC.obj id _ hl
   exact ⟨g1,h w S ι g2 g3⟩
 · rw [An _ _ e9] at hi
   exact hC.obj i ob hi
theorem Ac.close {fx:List Nat} {tm:List (Nat × AV)} {hp:Hp} {nx:Nat} {b:Bool} (id e s:Nat) (rows:List (List AV)) (hl:look hp id=some (.nest (c:=b) e s rows)) (ap:∀ c∈rows.flatten,inB c=true) :
 Ac fx ⟨tm,hp,nx⟩ ⟨tm,(id,.nest (c:=true) e s rows)::hp,nx⟩:=by
 refine Ac.retell id _ _ hl fun w S ι hu an=>⟨fun h0=>(by cases h0),?_⟩
 cases an with
 | nest0 _ _ h hs=>exact .nest0 e s h hs
 | nest g cap _ _ _ vs h hs hr ax hm hw hn hc=>exact .nest g cap e s rows vs h hs hr ax hm hw hn fun i v c hv ha=>.inr (A9.tr (hc i v c hv ha) (ap c (List.mem_of_getElem? ha)))
theorem Ac.plain {fx:List Nat} {tm:List (Nat × AV)} {hp:Hp} {nx:Nat} {b:Bool} (id e s:Nat) (rows:List (List AV)) (hl:look hp id=some (.nest (c:=b) e s rows)) (ap:∀ c∈rows.flatten,Dw c=true) :
 Ac fx ⟨tm,hp,nx⟩ ⟨tm,(id,.list e s rows)::hp,nx⟩:=by
 refine Ac.retell id _ _ hl fun w S ι hu an=>⟨trivial,?_⟩
 cases an with
 | nest0 _ _ h hs=>exact .nil e s h hs
 | nest g cap _ _ _ vs h hs hr ax hm hw hn hc =>
   refine .list g cap e s rows vs h hs hr ax hm hw hn fun i v c hv ha=>?_
   have hp:=ap c (List.mem_of_getElem? ha)
   rcases hc i v c hv ha with ⟨_,hx⟩ | hx
   · exact K9 hx hp
   · cases hx with
     | rd hx=>exact hx
     | _=>simp [Dw] at hp
theorem Up {E:Env} {s:St} {a:Act} {w:World} {i e sz:Nat} {b:Bool} {rows:List (List AV)} (hR:Rel E s a w) (hl:look s.hp i=some (.nest (c:=b) e sz rows)):∀ r∈rows,r.length=sz:=by
 obtain ⟨_,_,ι,S,hC,_⟩:=hR
 obtain ⟨_,_,an⟩:=hC.obj i _ hl
 cases an with
 | nest0=>intro r hr; cases hr
 | nest g cap _ _ _ vs h hs hr ax hm hw hn hc=>exact hr
theorem Ac.liftN {fx:List Nat} {tm:List (Nat × AV)} {hp:Hp} {nx:Nat} {b:Bool} (i e s k o e2 s2:Nat) (rows rows2:List (List AV)) (row:List AV) (hl:look hp i=some (.nest (c:=b) e s rows)) (am:rows[k]?=some row) (hq:row[o]?=some (.tree e2 s2 rows2)) :
 Ac fx ⟨tm,hp,nx⟩ ⟨tm,(i,.nest (c:=false) e s (rows.set k (row.set o (.own nx rows2.length))))::(nx,.nest (c:=true) e2 s2 rows2)::hp,nx + 1⟩:=by
 intro E a w he hR
 have hr:=Up hR hl
 have ho:o < s:=by
  rw [<- hr row (List.mem_of_getElem? am)]
  exact (List.getElem?_eq_some_iff.1 hq).1
 exact Ac.unfold i e s (k * s + o) e2 s2 rows _ rows2 hl (by rw [Pg rows k o row hr am ho]; exact hq) (N8 _ rows k o row hr am ho) (by rw [List.length_set]) (N9 hr am) E a w he hR
theorem Ac.lift {fx:List Nat} {tm:List (Nat × AV)} {hp:Hp} {nx:Nat} {b:Bool} (i e s k o e2 s2:Nat) (rows rows2:List (List AV)) (row:List AV) (hl:look hp i=some (.nest (c:=b) e s rows)) (am:rows[k]?=some row) (hq:row[o]?=some (.tree e2 s2 rows2)) (cm:∀ c∈rows2.flatten,Dw c=true) (hi:Nat.beq i nx=false) :
 Ac fx ⟨tm,hp,nx⟩ ⟨tm,(i,.nest (c:=false) e s (rows.set k (row.set o (.own nx rows2.length))))::(nx,.list e2 s2 rows2)::hp,nx + 1⟩:=by
 have aj:¬ i=nx:=fun e=>by subst e; simp at hi
 refine (Ac.liftN i e s k o e2 s2 rows rows2 row hl am hq).trans ((Ac.plain nx e2 s2 rows2 (by rw [An _ _ aj]; exact Ae _ _ _) cm).trans ?_)
 intro E a w he hR
 refine Dy.rel ?_ hR
 refine ⟨fun t v h=>h,fun j o h=>?_,Nat.le_refl _⟩
 simp only [Aj] at h ⊢
 by_cases h1:nx=j
 · subst h1; simp only [if_neg aj,if_true] at h ⊢; exact h
 · by_cases h2:i=j
   · subst h2; simp only [if_true,if_neg h1] at h ⊢; exact h
   · simp only [if_neg h1,if_neg h2] at h ⊢; exact h
def Yv (n:Nat):AV->Bool
 | .own i _=>!Nat.beq i n
 | .pt i _ _=>!Nat.beq i n
 | .sb i _ _ _=>!Nat.beq i n
 | .mp i=>!Nat.beq i n
 | .clo i=>!Nat.beq i n
 | _=>true
def b1G (n:Nat):AV->Bool
 | .agg cs=>cs.all (Yv n)
 | .tup _=>false
 | a=>Yv n a
def b15 (n:Nat):A2->Bool
 | .box cs=>cs.all (Yv n)
 | .list _ _ _=>true
 | .map _ _=>true
 | .ranged _ _ _=>true
 | .clo _ fs cs=>fs.all (Yv n)&&cs.all (Yv n)
 | @A2.nest b _ _ rows=>b||rows.all fun r=>r.all (Yv n)
theorem H4 {n:Nat} {a:AV} (h:Yv n a=true):∀ i,a.idOf=some i->i≠n:=by
 intro i hi e
 subst e
 cases a <;> simp [AV.idOf] at hi <;> subst hi <;> simp [Yv] at h
theorem a8f {n:Nat} {a:AV} (h:b1G n a=true):a.uses (·≠n):=by
 cases a with
 | agg cs=>exact fun c hc i hi=>H4 (List.all_eq_true.1 h c hc) i hi
 | tup vs=>simp [b1G] at h
 | own i len=>exact H4 (a:=.own i len) h i rfl
 | pt i r o=>exact H4 (a:=.pt i r o) h i rfl
 | sb i r o l=>exact H4 (a:=.sb i r o l) h i rfl
 | mp i=>exact H4 (a:=.mp i) h i rfl
 | clo i=>exact H4 (a:=.clo i) h i rfl
 | _=>trivial
theorem a8g {n:Nat} {o:A2} (h:b15 n o=true):o.uses (·≠n):=by
 cases o with
 | box cs=>exact fun c hc i hi=>H4 (List.all_eq_true.1 h c hc) i hi
 | list=>trivial
 | map=>trivial
 | ranged=>trivial
 | clo f fs cs =>
   have h:(fs.all (Yv n)&&cs.all (Yv n))=true:=h
   simp only [Bool.and_eq_true] at h
   exact ⟨fun c hc i hi=>H4 (List.all_eq_true.1 h.1 c hc) i hi,fun c hc i hi=>H4 (List.all_eq_true.1 h.2 c hc) i hi⟩
 | @nest b e s rows =>
   intro h0 c hc i hi
   subst h0
   have h:(rows.all fun r=>r.all (Yv n))=true:=h
   obtain ⟨r,hr,aR⟩:=List.mem_flatten.1 hc
   exact H4 (List.all_eq_true.1 (List.all_eq_true.1 h r hr) c aR) i hi
def Qz (n:Nat) (tm:List (Nat × AV)) (nx:Nat):List (Nat × AV)->Prop
 | []=>True
 | (t,v)::r=>(look tm t=some v/\ltV nx v=true/\b1G n v=true)/\Qz n tm nx r
def Uq (n:Nat) (hp:Hp) (nx:Nat):Hp->Prop
 | []=>True
 | (i,o)::r=>(look hp i=some o/\(Nat.blt i nx&&!Nat.beq i n&&ltO nx o&&b15 n o)=true)/\Uq n hp nx r
theorem Kq {n:Nat} {tm:List (Nat × AV)} {nx:Nat}:∀ {tm':List (Nat × AV)},Qz n tm nx tm'->∀ t v,look tm' t=some v->look tm t=some v/\v.uses (·≠n)
 | [],_,t,v,e=>by simp [look] at e
 | (k,u)::r,h,t,v,e=>by
   rw [Aj] at e
   split at e
   · rename_i hk; simp at e; subst hk e; exact ⟨h.1.1,a8f h.1.2.2⟩
   · exact Kq h.2 t v e
theorem Oa {n:Nat} {tm:List (Nat × AV)} {nx:Nat}:∀ {tm':List (Nat × AV)},Qz n tm nx tm'->∀ t v,look tm' t=some v->ltV nx v=true
 | [],_,t,v,e=>by simp [look] at e
 | (k,u)::r,h,t,v,e=>by
   rw [Aj] at e
   split at e
   · rename_i hk; simp at e; subst hk e; exact h.1.2.1
   · exact Oa h.2 t v e
theorem Fi {n:Nat} {hp:Hp} {nx:Nat}:∀ {hp':Hp},Uq n hp nx hp'->∀ j o,look hp' j=some o->look hp j=some o/\j≠n/\o.uses (·≠n)/\j < nx/\o.uses (· < nx)
 | [],_,t,v,e=>by simp [look] at e
 | (k,u)::r,h,t,v,e=>by
   rw [Aj] at e
   split at e
   · rename_i hk
     simp at e
     subst hk e
     have h2:=h.1.2
     simp only [Bool.and_eq_true,Bool.not_eq_true'] at h2
     exact ⟨h.1.1,fun e=>(by subst e; simp at h2),a8g h2.2,Nat.le_of_ble_eq_true h2.1.1.1,a3t h2.1.2⟩
   · exact Fi h.2 t v e
theorem Rel.lower {E:Env} {tm:List (Nat × AV)} {hp:Hp} {nx nx':Nat} {a:Act} {w:World} (hn:Nat.ble nx' nx=true) (hf:U8 nx' E.fx=true) (ht:∀ t v,look tm t=some v->v.uses (· < nx')) (hh:∀ i o,look hp i=some o->i < nx'/\o.uses (· < nx')) (hR:Rel E ⟨tm,hp,nx⟩ a w):Rel E ⟨tm,hp,nx'⟩ a w:=by
 obtain ⟨hs,hd,ι,S,hC,ab⟩:=hR
 let ι':Loc:=fun k=>if k.id < nx' then ι k else none
 have up:∀ (i:Key) p,ι' i=some p->ι i=some p/\i.id < nx':=by
  intro i p h
  have h':(if i.id < nx' then ι i else none)=some p:=h
  split at h'
  · exact ⟨h',by assumption⟩
  · cases h'
 have dn:∀ (i:Key) p,i.id < nx'->ι i=some p->ι' i=some p:=by
  intro i p h h'
  show (if i.id < nx' then ι i else none)=some p
  rw [if_pos h]; exact h'
 have hL:Later w w S S ι ι' (· < nx'):=⟨fun b hb=>⟨hb,rfl⟩,fun i p=>dn ⟨i,[]⟩ p⟩
 refine ⟨hs,hd,ι',S,⟨hC.frame,hC.sub,hC.lt,?_,?_,?_,?_,?_,?_,hC.fxs⟩,⟨fun t v h=>?_⟩⟩
 · rintro b hb ⟨i,c,s,e⟩; exact hC.dis b hb ⟨i,c,s,(up i _ e).1⟩
 · intro i g c s e; exact hC.own i g c s (up i _ e).1
 · intro i j g c d s r e1 e2; exact hC.inj i j g _ _ _ _ (up i _ e1).1 (up j _ e2).1
 · intro i hi; show (if i.id < nx' then ι i else none)=none; rw [if_neg (Nat.not_lt.2 hi)]
 · intro i o h
   obtain ⟨_,_,an⟩:=hC.obj i o h
   obtain ⟨h2,h3⟩:=hh i o h
   exact ⟨h2,h3,an.mono hL h2 h3 (fun _ k q hk hq=>dn k q (by rw [hk]; exact h2) hq) (fun _ _ _ _ _ _=>rfl)⟩
 · intro i p h
   have h':=hC.stay i p h
   refine dn ⟨i,[]⟩ p ?_ h'
   refine T8 hf i ?_
   cases hm:Af i E.fx with
   | true=>rfl
   | false=>rw [hC.fxs.1 ⟨i,[]⟩ hm] at h; cases h
 · obtain ⟨g1,g2,g3⟩:=ab.tm t v h
   exact ⟨g1,ht t v h,g3.mono hL (ht t v h)⟩
theorem Ac.plantN {fx:List Nat} {tm tm':List (Nat × AV)} {hp hp':Hp} {nx nx':Nat} {b1 b2:Bool} (i e s k o n e2 s2 len:Nat) (rows rows' rows2:List (List AV)) (row:List AV) (hl:look hp i=some (.nest (c:=b1) e s rows)) (gE:look hp n=some (.nest (c:=b2) e2 s2 rows2)) (ae:len=rows2.length)
 (am:rows[k]?=some row) (hq:row[o]?=some (.own n len)) (hr:rows'=rows.set k (row.set o (.tree e2 s2 rows2))) (ap:∀ c∈rows'.flatten,inB c=true) (db:∀ c∈rows2.flatten,inB c=true)
 (hb:(!Af n fx&&!Nat.beq n i&&U8 nx' fx&&Nat.ble nx' nx&&Nat.blt i nx')=true) (ht:Qz n tm nx' tm') (hh:Uq n hp nx' hp'):Ac fx ⟨tm,hp,nx⟩ ⟨tm',(i,.nest (c:=true) e s rows')::hp',nx'⟩:=by
 subst hr ae
 simp only [Bool.and_eq_true,Bool.not_eq_true'] at hb
 obtain ⟨⟨⟨⟨g9,eO⟩,ce⟩,gY⟩,kU⟩:=hb
 have kV:n≠i:=fun e=>by subst e; simp at eO
 intro E a w he hR
 have ff:=Up hR hl
 have ho:o < s:=by
  rw [<- ff row (List.mem_of_getElem? am)]
  exact (List.getElem?_eq_some_iff.1 hq).1
 have aX:∀ c∈(rows.set k (row.set o (.tree e2 s2 rows2))).flatten,c.idOf≠some n:=fun c hc e'=>by
  have:=ap c hc
  cases c <;> simp [inB,AV.idOf] at this e'
 have h1:=Ac.fold (tm':=tm') (hp':=hp') i e s (k * s + o) n e2 s2 rows _ rows2 g9 kV hl gE (by rw [Pg rows k o row ff am ho]; exact hq) (N8 _ rows k o row ff am ho) (by rw [List.length_set]) (N9 ff am) db aX
  (fun t v h=>Kq ht t v h) (fun j o h=>let ⟨a1,a2,a3,_,_⟩:=Fi hh j o h; ⟨a1,a2,a3⟩) E a w he hR
 have h2:=Ac.close (fx:=fx) i e s _ (Ae _ _ _) ap E a w he h1
 have h3:Rel E ⟨tm',(i,.nest (c:=true) e s (rows.set k (row.set o (.tree e2 s2 rows2))))::hp',nx⟩ a w:=by
  refine Dy.rel ?_ h2
  refine ⟨fun t v h=>h,fun j ob h=>?_,Nat.le_refl _⟩
  simp only [Aj] at h ⊢
  by_cases hj:i=j
  · subst hj; simp only [if_true] at h ⊢; exact h
  · simp only [if_neg hj] at h ⊢; exact h
 refine Rel.lower gY (by rw [he]; exact ce) (fun t v h=>Xw (Oa ht t v h)) (fun j ob h=>?_) h3
 rw [Aj] at h
 split at h
 · rename_i e'
   subst e'
   simp only [Option.some.injEq] at h
   subst h
   exact ⟨Nat.le_of_ble_eq_true kU,fun h0=>by cases h0⟩
 · obtain ⟨_,_,_,a4,a5⟩:=Fi hh j ob h
   exact ⟨a4,a5⟩
theorem Ac.plant {fx:List Nat} {tm tm':List (Nat × AV)} {hp hp':Hp} {nx nx':Nat} {b1:Bool} (i e s k o n e2 s2 len:Nat) (rows rows' rows2:List (List AV)) (row:List AV) (hl:look hp i=some (.nest (c:=b1) e s rows)) (gE:look hp n=some (.list e2 s2 rows2)) (ae:len=rows2.length)
 (am:rows[k]?=some row) (hq:row[o]?=some (.own n len)) (hr:rows'=rows.set k (row.set o (.tree e2 s2 rows2))) (ap:∀ c∈rows'.flatten,inB c=true) (db:∀ c∈rows2.flatten,inB c=true)
 (hb:(!Af n fx&&!Nat.beq n i&&U8 nx' fx&&Nat.ble nx' nx&&Nat.blt i nx')=true) (ht:Qz n tm nx' tm') (hh:Uq n hp nx' hp'):Ac fx ⟨tm,hp,nx⟩ ⟨tm',(i,.nest (c:=true) e s rows')::hp',nx'⟩:=by
 have eO:n≠i:=fun e=>by subst e; simp at hb
 have nu:∀ j,look hp' j=none∨j≠n:=fun j=>by
  cases hj:look hp' j with
  | none=>exact .inl rfl
  | some o=>exact .inr (Fi hh j o hj).2.1
 refine (Ac.nest n e2 s2 rows2 gE).trans (Ac.plantN i e s k o n e2 s2 len rows rows' rows2 row (by rw [An _ _ eO]; exact hl) (Ae _ _ _) ae am hq hr ap db hb ht ?_)
 clear nu
 revert hh
 generalize hp'=l
 intro hh
 induction l with
 | nil=>trivial
 | cons x r ih =>
   obtain ⟨j,ob⟩:=x
   obtain ⟨⟨h1,h2⟩,h3⟩:=hh
   refine ⟨⟨?_,h2⟩,ih h3⟩
   have:n≠j:=fun e=>by subst e; simp at h2
   rw [An _ _ this]; exact h1
theorem FzR.of {s:Nat} {rows rows':List (List AV)} (hr:∀ r∈rows',r.length=s) (h:Al (Al Fz) rows rows'):FzR s rows rows':=by
 refine ⟨h.length.symm,hr,?_⟩
 clear hr
 have:Al Fz rows.flatten rows'.flatten:=by
  induction rows generalizing rows' with
  | nil=>cases rows' with | nil=>trivial | cons=>exact h.elim
  | cons r rs ih=>cases rows' with
    | nil=>exact h.elim
    | cons r' rs'=>rw [List.flatten_cons,List.flatten_cons]; exact Al.append h.1 (ih h.2)
 exact fun i a b ha hb=>this.at ha hb
theorem a3U {α:Type} {f g:α->List AV} (h:∀ x,Al Fz (f x) (g x)):∀ (xs:List α),Al (Al Fz) (xs.map f) (xs.map g)
 | []=>trivial
 | x::r=>⟨h x,a3U h r⟩
theorem FzR.map {α:Type} {s:Nat} {f g:α->List AV} (hg:∀ x,(g x).length=s) (h:∀ x,Al Fz (f x) (g x)) (xs:List α):FzR s (xs.map f) (xs.map g) :=
 FzR.of (fun r hr=>by obtain ⟨x,_,rfl⟩:=List.mem_map.1 hr; exact hg x) (a3U h xs)
theorem Fz.treeOf {e s:Nat} {rows rows':List (List AV)} (h:FzR s rows rows'):Fz (.tree e s rows) (.lst rows'):=.tree e s rows rows' h.len h.row h.cell
theorem b1H {e:Nat} (f:Int->Value) (zs:List Int):Fz (.tree e 1 (zs.map fun z=>[.val (f z)])) (.lst (zs.map fun z=>[.val (f z)])) :=
 Fz.treeOf (FzR.map (f:=fun z=>[.val (f z)]) (g:=fun z=>[.val (f z)]) (fun _=>rfl) (fun z=>⟨.val _,trivial⟩) zs)
theorem a5P {ho:Hp} {b:Bool} {id e s len:Nat} {rows rows':List (List AV)} (h:look ho id=some (.nest (c:=b) e s rows)) (hz:FzR s rows rows') (hl:len=rows.length):FrC ho (.own id len) (.lst rows'):=by
 have:=FrC.nest (ho:=ho) id len e s rows rows' h (by omega) hz
 rwa [List.take_of_length_le (by rw [hz.len]; omega)] at this
theorem V9 {hp hi:Hp} {b:Bool} {id e s len:Nat} {rows rows':List (List AV)} (h:look hp id=some (.nest (c:=b) e s rows)) (h1:look hi id=none) (hz:FzR s rows rows') (hl:len=rows.length):CvC hp hi false (.own id len) (.lst rows'):=by
 have:=CvC.nest (hp:=hp) (hi:=hi) (share:=false) id len e s rows rows' h h1 (by omega) rfl hz
 rwa [List.take_of_length_le (by rw [hz.len]; omega)] at this
theorem a93 {hp hi:Hp} {b:Bool} {id e s len:Nat} {rows rows':List (List AV)} (h:look hp id=some (.nest (c:=b) e s rows)) (h1:look hi id=none) (hz:FzR s rows rows') (hl:len=rows.length):Cv hp hi false (.own id len) (.lst rows') :=
 .cell (fun _ e=>by cases e) (fun _ e=>by cases e) (V9 h h1 hz hl)
theorem Ph {α:Type} {f:α->List AV} (h:∀ x,∀ c∈f x,inB c=true) (xs:List α):∀ c∈(xs.map f).flatten,inB c=true:=by
 intro c hc
 obtain ⟨r,hr,aR⟩:=List.mem_flatten.1 hc
 obtain ⟨x,_,rfl⟩:=List.mem_map.1 hr
 exact h x c aR
theorem a94 {α:Type} (f:α->Value) (xs:List α):∀ c∈(xs.map fun z=>[AV.val (f z)]).flatten,inB c=true:=Ph (fun x c hc=>by simp at hc; subst hc; rfl) xs
theorem a3V {α:Type} (f:α->Value) (xs:List α):∀ c∈(xs.map fun z=>[AV.val (f z)]).flatten,Dw c=true:=by
 intro c hc
 obtain ⟨r,hr,aR⟩:=List.mem_flatten.1 hc
 obtain ⟨x,_,rfl⟩:=List.mem_map.1 hr
 simp at aR; subst aR; rfl
structure Kc (K0 K:St->Prop):Prop where
 h:∀ s,K0 s->K s
theorem Kc.use {K0 K:St->Prop} {s:St} (h:Kc K0 K) (k:K0 s):K s:=h.h s k
theorem Aq {tt:Tab} {P:Program} {nt:Nat} {fx:List Nat} {ops:Array Oper} {l:List Oper} {s:St} {K0:St->Prop} (h:∀ K,Kc K0 K->Hk tt P nt fx ops l s K):Hk tt P nt fx ops l s K0:=h K0 ⟨fun _ k=>k⟩
theorem Lp {R:List (List AV)} {k o s:Nat} {row cs row':List AV} (hk:k < R.length) (h:row.take o++cs++row.drop (o + s)=row') :
 (R.set k row).set (Int.toNat (k:Int)) (((R.set k row).getD (Int.toNat (k:Int)) []).take o++cs++((R.set k row).getD (Int.toNat (k:Int)) []).drop (o + s))=R.set k row':=by
 have e:(R.set k row).getD (Int.toNat (k:Int)) []=row:=by
  rw [show Int.toNat (k:Int)=k from rfl,List.getD_eq_getElem?_getD,List.getElem?_set_self hk]; rfl
 rw [e,h,show Int.toNat (k:Int)=k from rfl,List.set_set]
theorem Ss {R:List (List AV)} {k:Nat} {row:List AV} (hk:k < R.length):(R.set k row).getD (Int.toNat (k:Int)) []=row:=by
 rw [show Int.toNat (k:Int)=k from rfl,List.getD_eq_getElem?_getD,List.getElem?_set_self hk]; rfl
theorem Su {R:List (List AV)} {k s:Nat} {cs:List AV} (hk:k < R.length) (hr:(R.getD k []).length=s) :
 R.set (Int.toNat (k:Int)) ((R.getD (Int.toNat (k:Int)) []).take 0++cs++(R.getD (Int.toNat (k:Int)) []).drop (0 + s))=R.set k cs:=by
 rw [show Int.toNat (k:Int)=k from rfl,List.take_zero,List.nil_append,List.drop_of_length_le (by omega),List.append_nil]
theorem a6V {n:Nat} {R:List (List AV)} (h:∀ c∈R.flatten,inB c=true):(R.all fun r=>r.all (ltC n))=true :=
 List.all_eq_true.2 fun r hr=>List.all_eq_true.2 fun c hc=>by
  have:=h c (List.mem_flatten.2 ⟨r,hr,hc⟩)
  cases c <;> first | rfl | simp [inB] at this
theorem Wa {n e s k:Nat} {R:List (List AV)} {row:List AV} (h:∀ c∈R.flatten,inB c=true) (hr:row.all (ltC n)=true):ltO n (.nest (c:=false) e s (R.set k row))=true:=by
 show (false||(R.set k row).all fun r=>r.all (ltC n))=true
 rw [Bool.false_or]
 refine List.all_eq_true.2 fun r aD=>?_
 rcases List.mem_or_eq_of_mem_set aD with h' | rfl
 · exact List.all_eq_true.1 (a6V h) r h'
 · exact hr
end Go.Am
