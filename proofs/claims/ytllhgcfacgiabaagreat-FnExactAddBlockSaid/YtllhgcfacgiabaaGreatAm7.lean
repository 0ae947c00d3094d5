import Derived.Test.YtllhgcfacgiabaaGreatAm6
namespace Go.Am
open Go.RowKit
set_option linter.unusedVariables false
set_option linter.unusedSimpArgs false
variable {E:Env} {s:St} {a:Act} {w:World} {ι:Loc} {S:Nat->Prop} {tt:Tab}
theorem Fa {α:Type} (i:Nat):∀ (l m:List (Nat × α)),look (l++m) i=match look l i with | some v=>some v | none=>look m i
 | [],m=>rfl
 | (k,v)::l,m=>by
   rw [List.cons_append,Aj,Aj]
   split
   · rfl
   · exact Fa i l m
abbrev Hp:=List (Nat × A2)
def inH (h:Hp) (i:Nat):Prop:=look h i≠none
def D7 (hi:Hp) (k:Key):Bool:=match look hi k.id with
 | none=>false
 | some (.nest _ _ _)=>true
 | some (.ranged _ _ _)=>true
 | some _=>(match k.path with | []=>true | _::_=>false)
theorem a0x {hi:Hp} {k:Key} (h:D7 hi k=true):inH hi k.id:=by
 intro e; unfold D7 at h; rw [e] at h; cases h
theorem U3 {hi:Hp} {id:Nat} (h:inH hi id):D7 hi ⟨id,[]⟩=true:=by
 unfold D7
 cases hl:look hi id with
 | none=>exact absurd hl h
 | some o=>cases o <;> rfl
theorem a3d {hi:Hp} {k:Key} {o:A2} (h:look hi k.id=some o) (hn:o.isNest=true):D7 hi k=true:=by
 unfold D7; rw [h]
 cases o <;> first | rfl | simp [A2.isNest] at hn
def C6:Hp->List Nat
 | []=>[]
 | (i,.list ..)::r=>i::C6 r
 | (i,.nest ..)::r=>i::C6 r
 | (_,.box _)::r=>C6 r
 | (i,.map ..)::r=>i::C6 r
 | (i,.ranged ..)::r=>i::C6 r
 | (i,.clo ..)::r=>i::C6 r
theorem Ag (i k:Nat) (r:List Nat):Af i (k::r)=if i=k then true else Af i r:=by
 simp only [Af]
 cases hb:Nat.beq i k with
 | true=>rw [if_pos (Nat.eq_of_beq_eq_true hb)]; rfl
 | false=>rw [if_neg (fun e=>by subst e; simp at hb)]; rfl
theorem a0y {i:Nat}:∀ {h:Hp} {e s:Nat} {rows:List (List AV)},look h i=some (.list e s rows)->Af i (C6 h)=true
 | [],_,_,_,h=>by simp [look] at h
 | (k,o)::r,e,s,rows,h=>by
   rw [Aj] at h
   split at h
   · rename_i hk
     subst hk
     simp at h
     subst h
     simp [C6,Ag]
   · have:=a0y h
     cases o with
     | box cs=>exact this
     | map=>simp only [C6,Ag]; split <;> first | rfl | exact this
     | ranged=>simp only [C6,Ag]; split <;> first | rfl | exact this
     | clo=>simp only [C6,Ag]; split <;> first | rfl | exact this
     | list=>simp only [C6,Ag]; split <;> first | rfl | exact this
     | nest=>simp only [C6,Ag]; split <;> first | rfl | exact this
theorem a0z {i:Nat} {b:Bool}:∀ {h:Hp} {e s:Nat} {rows:List (List AV)},look h i=some (@A2.nest b e s rows)->Af i (C6 h)=true
 | [],_,_,_,h=>by simp [look] at h
 | (k,o)::r,e,s,rows,h=>by
   rw [Aj] at h
   split at h
   · rename_i hk
     subst hk
     simp only [Option.some.injEq] at h
     subst h
     simp [C6,Ag]
   · have:=a0z h
     cases o with
     | box cs=>exact this
     | map=>simp only [C6,Ag]; split <;> first | rfl | exact this
     | ranged=>simp only [C6,Ag]; split <;> first | rfl | exact this
     | clo=>simp only [C6,Ag]; split <;> first | rfl | exact this
     | list=>simp only [C6,Ag]; split <;> first | rfl | exact this
     | nest=>simp only [C6,Ag]; split <;> first | rfl | exact this
theorem a3e {i:Nat}:∀ {h:Hp} {ks:List KK} {rows:List (List KV × AV)},look h i=some (.map ks rows)->Af i (C6 h)=true
 | [],_,_,h=>by simp [look] at h
 | (k,o)::r,ks,rows,h=>by
   rw [Aj] at h
   split at h
   · rename_i hk
     subst hk
     simp only [Option.some.injEq] at h
     subst h
     simp [C6,Ag]
   · have:=a3e h
     cases o with
     | box cs=>exact this
     | map=>simp only [C6,Ag]; split <;> first | rfl | exact this
     | ranged=>simp only [C6,Ag]; split <;> first | rfl | exact this
     | clo=>simp only [C6,Ag]; split <;> first | rfl | exact this
     | list=>simp only [C6,Ag]; split <;> first | rfl | exact this
     | nest=>simp only [C6,Ag]; split <;> first | rfl | exact this
theorem U4 {i:Nat}:∀ {h:Hp} {ks:List KK} {cur:Option (List KV × AV)} {rows:List (List KV × AV)},look h i=some (.ranged ks cur rows)->Af i (C6 h)=true
 | [],_,_,_,h=>by simp [look] at h
 | (k,o)::r,ks,cur,rows,h=>by
   rw [Aj] at h
   split at h
   · rename_i hk
     subst hk
     simp only [Option.some.injEq] at h
     subst h
     simp [C6,Ag]
   · have:=U4 h
     cases o with
     | box cs=>exact this
     | map=>simp only [C6,Ag]; split <;> first | rfl | exact this
     | ranged=>simp only [C6,Ag]; split <;> first | rfl | exact this
     | clo=>simp only [C6,Ag]; split <;> first | rfl | exact this
     | list=>simp only [C6,Ag]; split <;> first | rfl | exact this
     | nest=>simp only [C6,Ag]; split <;> first | rfl | exact this
theorem a3f {i:Nat}:∀ {h:Hp} {f:Nat} {fs cs:List AV},look h i=some (.clo f fs cs)->Af i (C6 h)=true
 | [],_,_,_,h=>by simp [look] at h
 | (k,o)::r,f,fs,cs,h=>by
   rw [Aj] at h
   split at h
   · rename_i hk
     subst hk
     simp only [Option.some.injEq] at h
     subst h
     simp [C6,Ag]
   · have:=a3f h
     cases o with
     | box cs=>exact this
     | map=>simp only [C6,Ag]; split <;> first | rfl | exact this
     | ranged=>simp only [C6,Ag]; split <;> first | rfl | exact this
     | clo=>simp only [C6,Ag]; split <;> first | rfl | exact this
     | list=>simp only [C6,Ag]; split <;> first | rfl | exact this
     | nest=>simp only [C6,Ag]; split <;> first | rfl | exact this
theorem Me {i:Nat}:∀ {h:Hp},Af i (C6 h)=true->inH h i
 | [],h=>by simp [C6,Af] at h
 | (k,o)::r,h=>by
   unfold inH
   rw [Aj]
   split
   · simp
   · rename_i hk
     cases o with
     | box cs=>exact Me (h:=r) h
     | map =>
       simp only [C6,Ag] at h
       rw [if_neg (fun e=>hk e.symm)] at h
       exact Me (h:=r) h
     | ranged =>
       simp only [C6,Ag] at h
       rw [if_neg (fun e=>hk e.symm)] at h
       exact Me (h:=r) h
     | clo =>
       simp only [C6,Ag] at h
       rw [if_neg (fun e=>hk e.symm)] at h
       exact Me (h:=r) h
     | list =>
       simp only [C6,Ag] at h
       rw [if_neg (fun e=>hk e.symm)] at h
       exact Me (h:=r) h
     | nest =>
       simp only [C6,Ag] at h
       rw [if_neg (fun e=>hk e.symm)] at h
       exact Me (h:=r) h
def Kf:AV->Bool
 | .val _=>true
 | .own _ _=>true
 | .pt _ _ _=>true
 | .junk=>true
 | .mp _=>true
 | .clo _=>true
 | _=>false
def W9:AV->Bool
 | .agg cs=>cs.all Kf
 | a=>Kf a
def Ld:AV->Bool
 | .tup vs=>vs.all W9
 | a=>W9 a
inductive M5:AV->Prop
 | val (v:Value):M5 (.val v)
 | tree (e s:Nat) (rows:List (List AV)) (h:∀ c∈rows.flatten,M5 c):M5 (.tree e s rows)
def Xa:A2->Prop
 | .box cs=>cs.all Kf=true
 | .list _ _ rows=>∀ r∈rows,∀ c∈r,∃ v,c=.val v
 | .nest _ _ rows=>∀ c∈rows.flatten,Kf c=true∨M5 c
 | .map _ rows=>∀ r∈rows,W9 r.2=true
 | .ranged _ cur left=>(∀ r∈left,W9 r.2=true)/\∀ r,cur=some r->W9 r.2=true
 | .clo _ fs cs=>fs.all Kf=true/\cs.all Kf=true
theorem Tr.flat {S':Nat->Prop} {ι':Loc} (hι:∀ id p,ι id=some p->ι' id=some p) {k:Key} {v:Value} {a:AV} (h:Tr w S ι k v a):M5 a->Tr w S' ι' k v a:=by
 induction h with
 | rd h =>
   intro hf
   cases hf with
   | val u=>cases h with | val _ h=>exact .rd (.val _ h)
   | tree=>cases h
 | nil k e s hs=>exact fun _=>.nil k e s hs
 | tree k g cap e s rows vs h hs hr hl hm hw hn hc ih =>
   intro hf
   cases hf with
   | tree _ _ _ hf=>exact .tree k g cap e s rows vs (hι _ _ h) hs hr hl hm hw hn fun i v a hv ha=>ih i v a hv ha (hf a (List.mem_of_getElem? ha))
theorem A9.flat {S':Nat->Prop} {ι':Loc} (hι:∀ id p,ι id=some p->ι' id=some p) {v:Value} {a:AV} (hf:Kf a=true) (h:A9 w S ι v a):A9 w S' ι' v a:=by
 cases h with
 | rd h=>cases h with
   | val v h=>exact .rd (.val v h)
   | _=>simp [Kf] at hf
 | own id len g cap s h h1 h2=>exact .own id len g cap s (hι _ _ h) h1 h2
 | own0 id h=>exact .own0 id (hι _ _ h)
 | pt id row off g c s h=>exact .pt id row off g c s (hι _ _ h)
 | junk v h=>exact .junk v h
 | mp id g h=>exact .mp id g (hι _ _ h)
 | clo id v h h1=>exact .clo id v (hι _ _ h) h1
 | rp=>simp [Kf] at hf
 | sb=>simp [Kf] at hf
 | sb0=>simp [Kf] at hf
theorem Eo.flat {S':Nat->Prop} {ι':Loc} (hι:∀ id p,ι id=some p->ι' id=some p) {v:Value} {a:AV} (hf:W9 a=true) (h:Eo w S ι v a):Eo w S' ι' v a:=by
 cases h with
 | cell h =>
   have:Kf a=true:=by
    cases a with
    | agg cs=>exact absurd rfl (h.not_agg.1 _)
    | _=>exact hf
   exact .cell (h.flat hι this)
 | agg vs cs h=>exact .agg vs cs (Al.of h.length fun i v c hv hc=>(h.at hv hc).flat hι (List.all_eq_true.1 hf c (List.mem_of_getElem? hc)))
theorem Bi.flat {S':Nat->Prop} {ι':Loc} (hι:∀ id p,ι id=some p->ι' id=some p) {v:Value} {a:AV} (hf:Ld a=true) (h:Bi w S ι v a):Bi w S' ι' v a:=by
 cases h with
 | one h =>
   have:W9 a=true:=by
    cases a with
    | tup vs=>cases h with | cell h=>exact absurd rfl (h.not_agg.2 _)
    | _=>exact hf
   exact .one (h.flat hι this)
 | tup vs cs h=>exact .tup vs cs (Al.of h.length fun i v c hv hc=>(h.at hv hc).flat hι (List.all_eq_true.1 hf c (List.mem_of_getElem? hc)))
 | any v=>exact .any v
theorem Bp.flat {S':Nat->Prop} {ι':Loc} (hι:∀ id p,ι id=some p->ι' id=some p) {i:Nat} {o:A2} (hf:Xa o) (h:Bp w S ι i o):Bp w S' ι' i o:=by
 cases h with
 | box g c s T cs vs h h0 hw hc=>exact .box g c s T cs vs (hι _ _ h) h0 hw (Al.of hc.length fun i v c hv aP=>(hc.at hv aP).flat hι (List.all_eq_true.1 hf c (List.mem_of_getElem? aP)))
 | nil e s h hs=>exact .nil e s (hι _ _ h) hs
 | list g cap e s rows vs h hs hr hl hm hw hn hc =>
   refine .list g cap e s rows vs (hι _ _ h) hs hr hl hm hw hn fun i v c hv ha=>?_
   obtain ⟨r,aD,aR⟩:=List.mem_flatten.1 (List.mem_of_getElem? ha)
   obtain ⟨u,rfl⟩:=hf r aD c aR
   have:=hc i v _ hv ha
   cases this with
   | val v h=>exact .val v h
 | map g clock ks rows es h hw he hb =>
   refine .map g clock ks rows es (hι _ _ h) hw (Al.of he.length fun i e r hv hr=>?_) hb
   exact ⟨(he.at hv hr).key,(he.at hv hr).val.flat (fun _ _ h=>by cases h) (hf r (List.mem_of_getElem? hr))⟩
 | ranged g gm clock ks cur left seen es h h2 hw hm hb hl hc =>
   refine .ranged g gm clock ks cur left seen es (hι _ _ h) (hι _ _ h2) hw hm hb (Al.of hl.length fun i e r hv hr=>?_) fun r hr=>?_
   · exact ⟨(hl.at hv hr).key,(hl.at hv hr).val.flat (fun _ _ h=>by cases h) (hf.1 r (List.mem_of_getElem? hr))⟩
   · obtain ⟨e,h1,h2,h3⟩:=hc r hr
     exact ⟨e,h1,h2,h3.key,h3.val.flat (fun _ _ h=>by cases h) (hf.2 r hr)⟩
 | clo f fs cs us vs h h1 h2 =>
   exact .clo f fs cs us vs (hι _ _ h) (Al.of h1.length fun i v c hv aP=>(h1.at hv aP).flat hι (List.all_eq_true.1 hf.1 c (List.mem_of_getElem? aP))) (Al.of h2.length fun i v c hv aP=>(h2.at hv aP).flat hι (List.all_eq_true.1 hf.2 c (List.mem_of_getElem? aP)))
 | nest0 e s h hs=>exact .nest0 e s (hι _ _ h) hs
 | nest g cap e s rows vs h hs hr hl hm hw hn hc =>
   refine .nest g cap e s rows vs (hι _ _ h) hs hr hl hm hw hn fun i v c hv ha=>?_
   rcases hf c (List.mem_of_getElem? ha) with h1 | h1
   · rcases hc i v c hv ha with ⟨h0,hx⟩ | hx
     · exact .inl ⟨h0,hx.flat hι h1⟩
     · cases hx with
       | rd hx =>
         cases hx with
         | val _ h=>exact .inr (.rd (.val _ h))
         | _=>simp [Kf] at h1
       | _=>simp [Kf] at h1
   · rcases hc i v c hv ha with ⟨h0,hx⟩ | hx
     · cases h1 with
       | val u=>exact .inl ⟨h0,hx.flat hι rfl⟩
       | tree=>cases hx with | rd hx=>cases hx
     · exact .inr (hx.flat hι h1)
structure Ret (P:Program) (f:FuncId) (args:List AV) (hi:Hp) (n:Nat) (st:Bool) (Q:AV->Hp->Nat->Prop):Prop where
 enter:∀ args w,(callFunc f args).run P w=.ok (.enter f args) w
 calls:∀ (w:World) (ι:Loc) (A:Nat->Prop) (vs:List Value),Core ⟨P,w,Mut ι,A,0,fun _=>none,[0]⟩ ι A hi n w->(∀ k:Key,D7 hi k=false->ι k=none)->Al (Bi w A ι) vs args ->
  (∀ x∈args,x.uses (inH hi))->(∀ id o,look hi id=some o->o.uses (inH hi)) ->
  Calls P f vs.toArray w fun e w'=>∃ v r ho m ι' S',e=.returned v/\Q r ho m/\n<=m/\Core ⟨P,w,Mut ι,A,0,fun _=>none,[0]⟩ ι' S' ho m w'/\(∀ k:Key,look ho k.id=none->ι' k=none) /\
   Bi w' S' ι' v r/\r.uses (inH ho)/\(∀ id o,look ho id=some o->o.uses (inH ho))/\(∀ id,inH hi id->inH ho id)/\(∀ id,inH ho id->inH hi id∨n<=id) /\
   (∀ (id:Nat) o p,look hi id=some o->(st=true∨∃ cs,o=.box cs)->ι ⟨id,[]⟩=some p->ι' ⟨id,[]⟩=some p)
theorem Core.call {hp hi ho:Hp} {nx m:Nat} {w':World} {A S':Nat->Prop} {ιc ι':Loc} {nt:Nat} {ks:List Nat} (hC:Core E ι S hp nx w) (hιc:∀ k:Key,ιc k=ι k∨(ιc k=none/\D7 hi k=false)) (hιi:∀ k:Key,D7 hi k=false->ιc k=none)
 (ay:Core ⟨E.P,w,Mut ιc,A,nt,fun _=>none,[0]⟩ ι' S' ho m w') (fu:nx<=m) (b8:∀ k:Key,look ho k.id=none->ι' k=none) (eh:∀ id,inH hi id->inH ho id) (eB:∀ id,inH ho id->inH hi id∨nx<=id)
 (ef:∀ id,Af id ks=true->inH hi id) (bl:∀ (id:Nat) p,inH hi id->Af id ks=false->ιc ⟨id,[]⟩=some p->ι' ⟨id,[]⟩=some p)
 (ce:∀ id,Af id ks=true->Af id E.fx=false) (eN:(∀ b,A b->S b)∨∀ id o,look ho id=some o->Xa o) :
 let ιn:Loc:=fun k=>match look ho k.id with | some _=>ι' k | none=>ι k
 let Sn:Nat->Prop:=fun b=>S b∨(w.heap.size<=b/\S' b)
 Core E ιn Sn (ho++K5 ks hp) m w'/\Later w w' S Sn ι ιn (fun i=>i < nx/\Af i ks=false)/\(∀ (k:Key) p,ι' k=some p->ιn k=some p)/\((∀ b,A b->S b)->∀ b,S' b->Sn b):=by
 intro ιn Sn
 have nin:∀ id:Key,inH ho id.id->ιn id=ι' id:=by
  intro id h
  show (match look ho id.id with | some _=>ι' id | none=>ι id)=ι' id
  cases hl:look ho id.id with
  | none=>exact absurd hl h
  | some _=>rfl
 have nout:∀ id:Key,¬ inH ho id.id->ιn id=ι id:=by
  intro id h
  have hl:look ho id.id=none:=Classical.not_not.1 h
  show (match look ho id.id with | some _=>ι' id | none=>ι id)=ι id
  rw [hl]
 have mutc:∀ g,Mut ιc g->∃ (id:Key) (c s:Nat),inH hi id.id/\ι id=some (.blk g c s):=by
  rintro g ⟨id,c,s,h⟩
  cases ap:D7 hi id with
  | true =>
    rcases hιc id with e | ⟨e,_⟩
    · exact ⟨id,c,s,a0x ap,by rw [<- e]; exact h⟩
    · rw [e] at h; cases h
  | false=>rw [hιi id ap] at h; cases h
 have be:∀ b,b < w.heap.size->(∀ (id:Key) c s,inH hi id.id->ι id≠some (.blk b c s))->w'.heap[b]?=w.heap[b]?:=fun b hb hn=>ay.frame.block b hb fun hm=>by
  obtain ⟨id,c,s,h1,h2⟩:=mutc b hm
  exact hn id c s h1 h2
 have mL:∀ b,S b->w'.heap[b]?=w.heap[b]?:=fun b hb=>be b (hC.lt b hb) fun id c s _ e=>hC.dis b hb ⟨id,c,s,e⟩
 have up:∀ (id:Key) p,ι' id=some p->ιn id=some p:=by
  intro id p h
  rw [nin id]
  · exact h
  · intro hl; rw [b8 id hl] at h; cases h
 have hL:Later w w' S Sn ι ιn (fun i=>i < nx/\Af i ks=false):=by
  refine ⟨fun b hb=>⟨.inl hb,mL b hb⟩,fun id p hid h=>?_⟩
  by_cases ap:inH ho id
  · have fO:inH hi id:=(eB id ap).resolve_right (by omega)
    rw [nin ⟨id,[]⟩ ap]
    rcases hιc ⟨id,[]⟩ with e | ⟨_,e⟩
    · exact bl id p fO hid.2 (by rw [e]; exact h)
    · rw [U3 fO] at e; cases e
  · rw [nout ⟨id,[]⟩ ap]; exact h
 have jR:(∀ b,A b->S b)->∀ b,S' b->Sn b:=fun hA b hb=>by
  rcases ay.sub b hb with h | h
  · exact .inl (hA b h)
  · exact .inr ⟨h,hb⟩
 refine ⟨⟨?_,?_,?_,?_,?_,?_,?_,?_,?_,hC.fxs⟩,hL,up,jR⟩
 · refine hC.frame.trans ay.frame fun g hg hm=>?_
   obtain ⟨id,c,s,_,h⟩:=mutc g hm
   rcases (hC.own id g c s h).2 with h' | h'
   · omega
   · exact h'
 · rintro b (hb | ⟨hb,_⟩)
   · exact hC.sub b hb
   · exact .inr (Nat.le_trans hC.frame.size hb)
 · rintro b (hb | ⟨_,hb⟩)
   · exact Nat.lt_of_lt_of_le (hC.lt b hb) ay.frame.size
   · exact ay.lt b hb
 · rintro b hb ⟨id,c,s,h⟩
   by_cases ap:inH ho id.id
   · rw [nin id ap] at h
     rcases hb with hb | ⟨_,hb⟩
     · rcases (ay.own id b c s h).2 with h' | h'
       · have:=hC.lt b hb; simp at h'; omega
       · obtain ⟨id',c',s',_,e⟩:=mutc b h'
         exact hC.dis b hb ⟨id',c',s',e⟩
     · exact ay.dis b hb ⟨id,c,s,h⟩
   · rw [nout id ap] at h
     rcases hb with hb | ⟨hb,_⟩
     · exact hC.dis b hb ⟨id,c,s,h⟩
     · have:=(hC.own id b c s h).1; omega
 · intro id g c s h
   by_cases ap:inH ho id.id
   · rw [nin id ap] at h
     have:=ay.own id g c s h
     refine ⟨this.1,?_⟩
     rcases this.2 with h' | h'
     · exact .inl (Nat.le_trans hC.frame.size h')
     · obtain ⟨id',c',s',_,e⟩:=mutc g h'
       exact (hC.own id' g c' s' e).2
   · rw [nout id ap] at h
     have:=hC.own id g c s h
     exact ⟨Nat.lt_of_lt_of_le this.1 ay.frame.size,this.2⟩
 · have mixed:∀ (i j:Key) g c d s r,inH ho i.id->¬ inH ho j.id->ι' i=some (.blk g c s)->ι j=some (.blk g d r)->False:=by
    intro i j g c d s r aQ hj h1 h2
    rcases (ay.own i g c s h1).2 with h' | h'
    · have:=(hC.own j g _ _ h2).1; simp at h'; omega
    · obtain ⟨id',c',s',ap,e⟩:=mutc g h'
      have:=hC.inj id' j g _ _ _ _ e h2
      subst this
      exact hj (eh _ ap)
   intro i j g c d s r h1 h2
   by_cases aQ:inH ho i.id <;> by_cases hj:inH ho j.id
   · rw [nin i aQ] at h1; rw [nin j hj] at h2; exact ay.inj i j g _ _ _ _ h1 h2
   · rw [nin i aQ] at h1; rw [nout j hj] at h2; exact (mixed i j g _ _ _ _ aQ hj h1 h2).elim
   · rw [nout i aQ] at h1; rw [nin j hj] at h2; exact (mixed j i g _ _ _ _ hj aQ h2 h1).elim
   · rw [nout i aQ] at h1; rw [nout j hj] at h2; exact hC.inj i j g _ _ _ _ h1 h2
 · intro id hid
   by_cases ap:inH ho id.id
   · rw [nin id ap]; exact ay.new id hid
   · rw [nout id ap]; exact hC.new id (by omega)
 · intro id o h
   rw [Fa] at h
   cases hl:look ho id with
   | some o' =>
     simp only [hl,Option.some.injEq] at h
     subst h
     obtain ⟨h1,h2,h3⟩:=ay.obj id o' hl
     refine ⟨h1,h2,?_⟩
     rcases eN with hA | hF
     · exact h3.mono (K:=fun _=>True) ⟨fun b hb=>⟨jR hA b hb,rfl⟩,fun i p _ h=>up i p h⟩ trivial (by cases o' with | box cs=>exact fun _ _ _ _=>trivial | list=>trivial | map=>trivial | ranged=>trivial | clo=>exact ⟨fun _ _ _ _=>trivial,fun _ _ _ _=>trivial⟩ | nest=>exact fun _ _ _ _ _=>trivial) (fun _ i p _ h=>up i p h) (fun _ _ _ _ _ _=>rfl)
     · exact h3.flat up (hF id o' hl)
   | none =>
     simp only [hl] at h
     rw [Jq] at h
     simp only [Option.map_eq_some_iff] at h
     obtain ⟨o0,h0,rfl⟩:=h
     obtain ⟨h1,h2,h3⟩:=hC.obj id o0 h0
     have aJ:¬ inH ho id:=fun h=>h hl
     have eO:¬ inH hi id:=fun h=>aJ (eh id h)
     have hk:Af id ks=false:=by
      cases hm:Af id ks with
      | false=>rfl
      | true=>exact absurd (ef id hm) eO
     have bE:∀ (k:Key) g c s,k.id=id->ι k=some (.blk g c s)->w'.heap[g]?=w.heap[g]?:=fun k g c s i9 e=>be g (hC.own k g c s e).1 fun id' c' s' ap e'=>by
      have:=hC.inj id' k g _ _ _ _ e' e
      subst this
      exact eO (i9 ▸ ap)
     have:=h3.kill hL h1 hk h2 (fun _ k q i9 hq=>by rw [nout k (by rw [i9]; exact aJ)]; exact hq) bE
     refine ⟨by omega,?_,this.2⟩
     have hu:=this.1
     cases kp:Rh ks o0 with
     | box cs=>rw [kp] at hu; exact fun c hc i aQ=>by have:=hu c hc i aQ; omega
     | list=>trivial
     | map=>trivial
     | ranged=>trivial
     | clo f fs cs=>rw [kp] at hu; exact ⟨fun c hc i aQ=>by have:=hu.1 c hc i aQ; omega,fun c hc i aQ=>by have:=hu.2 c hc i aQ; omega⟩
     | nest e s rows=>rw [kp] at hu; exact fun h0 c hc i aQ=>by have:=hu h0 c hc i aQ; omega
 · intro id p h
   have h':=hC.stay id p h
   refine hL.at_ id p ⟨?_,?_⟩ h'
   · rcases Nat.lt_or_ge id nx with aa | c8
     · exact aa
     · rw [hC.new ⟨id,[]⟩ c8] at h'; cases h'
   · cases hm:Af id ks with
     | false=>rfl
     | true=>rw [hC.fxs.1 ⟨id,[]⟩ (ce id hm)] at h; cases h
end Go.Am
