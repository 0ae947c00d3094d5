import Derived.Test.YtllhgcfacgiabaaGreatAm5
import Derived.Test.YtllhgcfacgiabaaGreatAmM
import Derived.Laws.IdiomRangeMap
namespace Go.Am
open Go.RowKit
set_option linter.unusedVariables false
set_option linter.unusedSimpArgs false
variable {E:Env} {s:St} {a:Act} {w:World} {ι:Loc} {S:Nat->Prop} {tt:Tab}
theorem Core.setN (hC:Core E ι S s.hp s.nx w) {id g c sz:Nat} {o o':A2} {ob ob':Obj} {w':World} (bE:w'.heap=w.heap.setIfInBounds g ob'/\w'.os=w.os/\w'.tape=w.tape/\w'.output=w.output)
 (ho:look s.hp id=some o) (hg:ι id=some (.blk g c sz)) (hw:w.heap[g]?=some ob) (bY:Bp w' S ι id o') (hu:o'.uses (· < s.nx)) :
 Core E ι S ((id,o')::s.hp) s.nx w'/\Later w w' S S ι ι (· < s.nx):=by
 obtain ⟨h1,h2,h3,h4⟩:=bE
 have other:∀ b,b≠g->w'.heap[b]?=w.heap[b]?:=fun b hb=>by rw [h1]; exact (MapKept.heap_set hw).2 b hb
 have ao:w'.heap.size=w.heap.size:=by rw [h1]; simp
 have hS:∀ b,S b->b≠g:=fun b hb e=>hC.dis b hb ⟨id,c,sz,e ▸ hg⟩
 have hL:∀ K,Later w w' S S ι ι K:=fun K=>⟨fun b hb=>⟨hb,other b (hS b hb)⟩,fun _ _ _ h=>h⟩
 refine ⟨⟨?_,hC.sub,fun b hb=>by rw [ao]; exact hC.lt b hb,hC.dis,fun i g' c' s' h=>by rw [ao]; exact hC.own i g' c' s' h,hC.inj,hC.new,?_,hC.stay,hC.fxs⟩,hL _⟩
 · refine hC.frame.trans (D':=fun b=>b=g) ⟨h2,h3,h4,by omega,fun b _ hn=>other b hn⟩ ?_
   rintro b hb rfl
   rcases (hC.own id b c sz hg).2 with h | h
   · omega
   · exact h
 · intro i oi h
   rw [Aj] at h
   split at h
   · rename_i e
     subst e
     simp at h
     subst h
     exact ⟨(hC.obj id o ho).1,hu,bY⟩
   · rename_i aj
     obtain ⟨h1,h2,h3⟩:=hC.obj i oi h
     refine ⟨h1,h2,h3.mono (hL (fun _=>True)) trivial (by cases oi <;> simp [A2.uses]) (fun _ _ _ _ h=>h) (fun k g' c' s' hk dk=>other g' (fun e=>aj ?_))⟩
     subst e
     have:=hC.inj id k g' c c' sz s' hg dk
     rw [<- hk,<- this]
theorem a0u {k:List KV}:∀ {rows:List (List KV × AV)} {j:Nat},Hj k rows=some j->Wq k rows=rows.eraseIdx j
 | [],j,h=>by simp [Hj] at h
 | r::rs,j,h=>by
   simp only [Hj] at h
   by_cases hr:r.1=k
   · rw [if_pos hr] at h; cases h; simp [Wq,hr]
   · rw [if_neg hr] at h
     cases hi:Hj k rs with
     | none=>simp [hi] at h
     | some i =>
       simp only [hi,Option.map_some,Option.some.injEq] at h
       subst h
       simp [Wq,hr,a0u hi]
theorem a0v {k:List KV}:∀ {rows:List (List KV × AV)},Hj k rows=none->Wq k rows=rows
 | [],_=>rfl
 | r::rs,h=>by
   simp only [Hj] at h
   by_cases hr:r.1=k
   · rw [if_pos hr] at h; cases h
   · rw [if_neg hr] at h
     cases hi:Hj k rs with
     | some i=>simp [hi] at h
     | none=>simp [Wq,hr,a0v hi]
theorem Al.eraseIdx {α β:Type} {R:α->β->Prop}:∀ {l:List α} {m:List β} (n:Nat),Al R l m->Al R (l.eraseIdx n) (m.eraseIdx n)
 | [],[],n,_=>by simp [Al]
 | _::_,_::_,0,h=>h.2
 | _::_,_::_,n + 1,h=>⟨h.1,Al.eraseIdx n h.2⟩
 | [],_::_,_,h=>h.elim
 | _::_,[],_,h=>h.elim
theorem Ir.erase {es:List MapEntry} {clock:Nat} (h:Ir es clock) (j:Nat):Ir (es.eraseIdx j) clock :=
 ⟨h.1.sublist ((List.eraseIdx_sublist es j).map _),fun e he=>h.2 e (List.mem_of_mem_eraseIdx he)⟩
theorem Zv (hT:Bg E.P tt) (t t' ty:TypeId) (m k:Operand):(Ot tt s t m k).Sound E s (fun ρ=>do pure (.value (<- Builtin.delete_ #[t,t'] ty #[ρ m,ρ k]))):=by
 unfold Ot
 cases hm:Ga tt t with
 | none=>trivial
 | some km =>
   obtain ⟨ks,te⟩:=km
   obtain ⟨kt,et,fields,h1,_,h2,h3,h4⟩:=Lb hT hm
   simp only
   cases hx:Au s.tm m with
   | none=>trivial
   | some p =>
     cases p with
     | mp id =>
       simp only
       cases hl:look s.hp id with
       | none=>trivial
       | some o =>
         cases o with
         | map ks' rows =>
           simp only
           cases hy:Au s.tm k with
           | none=>trivial
           | some q =>
             cases q with
             | agg as =>
               simp only
               cases d1:Bv ks as with
               | none=>trivial
               | some kv =>
                 simp only
                 cases bu:Kd ks ks' with
                 | false=>trivial
                 | true =>
                   simp only [cond_true]
                   obtain rfl:=Ro bu
                   intro _ a w ι S hC ab
                   obtain ⟨g,em,hg⟩:=(Ak ab hx).1.mp_inv
                   obtain ⟨us,ek,dC⟩:=(Ak ab hy).1.agg_inv
                   have ea:=Ow dC d1
                   have cM:Bv ks (us.map .val)=some kv:=by rw [<- ea]; exact d1
                   obtain ⟨hid,bG,an⟩:=hC.obj id _ hl
                   cases an with
                   | map g' clock ks' rows' es h hw he io =>
                     rw [hg] at h
                     simp only [Option.some.injEq,Pl.blk.injEq] at h
                     obtain ⟨rfl,_⟩:=h
                     have hS:∀ (ob':Obj) b,S b->S b/\({ w with heap:=w.heap.setIfInBounds g ob' }:World).heap[b]?=w.heap[b]?:=fun ob' b hb=>⟨hb,(MapKept.heap_set hw).2 b fun e=>hC.dis b hb ⟨id,0,1,e ▸ hg⟩⟩
                     have dq:=Nl h2 h3 h4 cM w es rows he
                     have dc:=fun e=>Mc h2 h3 cM w e
                     have fin:∀ (es':List MapEntry) (rows':List (List KV × AV)),Al (Nc w S ks) es' rows'->Ir es' clock->Wq kv rows=rows'->(Builtin.delete_ #[t,t'] ty #[a.eval m,a.eval k]).run E.P w=.ok (.tuple #[]) { w with heap:=w.heap.setIfInBounds g (.map es'.toArray clock) } ->
                      Good E s ((do pure (.value (<- Builtin.delete_ #[t,t'] ty #[a.eval m,a.eval k])):Sem Next).run E.P w) w ι S (.tup []) ((id,.map ks (Wq kv rows))::s.hp) s.nx:=by
                      intro es' rows' mE j8 hd ar
                      rw [hd]
                      obtain ⟨c1,c2⟩:=hC.setM (ob':=.map es'.toArray clock) (o':=.map ks rows') hl hg hw (.map g clock ks _ es' hg (MapKept.heap_set hw).1 (mE.mono fun _ _ h=>h.mono (hS _)) j8) trivial
                      exact ⟨_,_,ι,S,Ap ar,c1,Nat.le_refl _,c2,.tup [] [] trivial,fun v hv=>by cases hv⟩
                     cases hi:Hj kv rows with
                     | none =>
                       rw [hi] at dq
                       refine fin es rows he io (a0v hi) ?_
                       rw [em,ek] at *
                       simp [Builtin.delete_,Sem.run_bind,run_underlying h1,Result.andThen_ok,MapKept.run_getObj_map hw,dc,dq,MapKept.run_setObj_map _ hw]
                     | some j =>
                       obtain ⟨r,hr,_,_⟩:=Ox hi
                       obtain ⟨e,d2⟩:∃ e,es[j]?=some e:=by
                        have:j < es.length:=by rw [he.length]; exact (List.getElem?_eq_some_iff.1 hr).1
                        exact ⟨_,List.getElem?_eq_getElem this⟩
                       rw [hi] at dq
                       refine fin (es.eraseIdx j) (rows.eraseIdx j) (he.eraseIdx j) (io.erase j) (a0u hi) ?_
                       have hj:=(List.getElem?_eq_some_iff.1 d2).1
                       have iQ:es.toArray.eraseIdxIfInBounds j=(es.eraseIdx j).toArray:=by
                        apply Array.toList_inj.1
                        simp
                       rw [em,ek] at *
                       simp [Builtin.delete_,Sem.run_bind,run_underlying h1,Result.andThen_ok,MapKept.run_getObj_map hw,dc,dq,d2,iQ,MapKept.run_setObj_map _ hw]
             | _=>trivial
         | _=>trivial
     | _=>trivial
theorem a0w {α:Type} (f:α->Nat):∀ (l:List α) (j:Nat) (h:j < l.length),(l.map f).Nodup->l.filter (fun e=>!(f e==f l[j]))=l.eraseIdx j
 | x::l,0,h,hn=>by
   have fq:f x ∉ l.map f/\(l.map f).Nodup:=List.nodup_cons.1 hn
   simp only [List.getElem_cons_zero,List.eraseIdx_cons_zero,List.filter_cons,beq_self_eq_true,Bool.not_true,Bool.false_eq_true,if_false]
   rw [List.filter_eq_self]
   intro y hy
   simp only [Bool.not_eq_true',beq_eq_false_iff_ne]
   intro e
   exact fq.1 (e ▸ List.mem_map_of_mem hy)
 | x::l,j + 1,h,hn=>by
   have fq:f x ∉ l.map f/\(l.map f).Nodup:=List.nodup_cons.1 hn
   have hj:j < l.length:=by simpa using h
   simp only [List.getElem_cons_succ,List.eraseIdx_cons_succ,List.filter_cons]
   have:(!(f x==f l[j]))=true:=by
    simp only [Bool.not_eq_true',beq_eq_false_iff_ne]
    intro e
    exact fq.1 (e ▸ List.mem_map_of_mem (List.getElem_mem hj))
   rw [if_pos this,a0w f l j hj fq.2]
theorem a7g {es:List MapEntry} {seen:Array Nat} (hb:(es.map (·.born)).Nodup) {j:Nat} (h:j < (es.filter fun e=>!seen.contains e.born).length) :
 (es.filter fun e=>!(seen.push (es.filter fun e=>!seen.contains e.born)[j].born).contains e.born)=(es.filter fun e=>!seen.contains e.born).eraseIdx j:=by
 have hn:((es.filter fun e=>!seen.contains e.born).map (·.born)).Nodup:=hb.sublist (List.filter_sublist.map _)
 rw [<- a0w (·.born) _ j h hn,List.filter_filter]
 refine List.filter_congr fun e _=>?_
 rw [contains_push,Bool.not_or,Bool.and_comm]
theorem a89 {P:Program} {w:World} {g gm clock:Nat} {seen:Array Nat} {es:List MapEntry} (hw:w.heap[g]?=some (.mapIter (some gm) clock seen clock)) (hm:w.heap[gm]?=some (.map es.toArray clock)) (hc:∀ e∈es,e.born < clock) (ty:TypeId) :
 ((es.filter fun e=>!seen.contains e.born)=[]/\(Instr.next (.pointer (some ⟨g,0,none⟩)) false ty).run P w=.ok (.tuple #[.bool false]) w) ∨
 ∃ (j:Nat) (h:j < (es.filter fun e=>!seen.contains e.born).length) (w':World),(w'.heap=w.heap.setIfInBounds g (.mapIter (some gm) clock (seen.push (es.filter fun e=>!seen.contains e.born)[j].born) clock)/\w'.os=w.os/\w'.tape=w.tape/\w'.output=w.output) /\
   (Instr.next (.pointer (some ⟨g,0,none⟩)) false ty).run P w=.ok (.tuple #[.bool true,(es.filter fun e=>!seen.contains e.born)[j].key,(es.filter fun e=>!seen.contains e.born)[j].val]) w':=by
 have aa:∀ x∈es.toArray.toList,x.born < clock:=by simpa using hc
 simp only [Instr.next,getObj,Sem.run_bind,Sem.run,hw,hm,Result.andThen,next_test_false seen es.toArray clock clock aa (Nat.le_refl _),Bool.false_eq_true,if_false]
 have bh:es.toArray.filter (fun e=>!seen.contains e.born)=(es.filter fun e=>!seen.contains e.born).toArray:=by simp
 rw [bh]
 have bc:∀ x∈(es.filter fun e=>!seen.contains e.born),x.born < clock:=fun x hx=>hc x (List.mem_filter.1 hx).1
 generalize (es.filter fun e=>!seen.contains e.born)=L at bc ⊢
 have e1:L.toArray.filter (fun x=>decide (x.born < clock))=L.toArray:=Array.filter_eq_self.2 (fun x hx=>by simpa using bc x (by simpa using hx))
 have e2:L.toArray.filter (fun x=>decide (x.born≥clock))=#[]:=by
  rw [Array.filter_eq_empty_iff]
  intro x hx
  have:=bc x (by simpa using hx)
  simp
  omega
 simp only [e1,e2,Array.append_empty]
 by_cases h0:L=[]
 · left
   subst h0
   refine ⟨rfl,?_⟩
   simp [choose,Sem.run,Question.forced]
 · right
   have aE:0 < L.length:=List.length_pos_iff.2 h0
   have aj:L.toArray.isEmpty=false:=by simp [h0]
   simp only [aj,Bool.false_eq_true,if_false,Array.empty_append,Array.size_map]
   have gA:∃ (j:Nat) (w1:World),j < L.length/\(w1.heap=w.heap/\w1.os=w.os/\w1.tape=w.tape/\w1.output=w.output)/\(choose (Question.mapNext L.toArray.size)).run P w=.ok j w1:=by
    by_cases hf:L.toArray.size<=1
    · exact ⟨0,w,aE,⟨rfl,rfl,rfl,rfl⟩,by simp only [choose,Sem.run,Question.forced,decide_eq_true_eq,hf,if_true]⟩
    · exact ⟨_,w.drew,Nat.mod_lt _ aE,⟨rfl,rfl,rfl,rfl⟩,by
       simp only [choose,Sem.run,Question.forced,decide_eq_true_eq,hf,if_false,Question.cut]
       rfl⟩
   obtain ⟨j,w1,hj,j9,ar⟩:=gA
   refine ⟨j,hj,{ w1 with heap:=w1.heap.setIfInBounds g (.mapIter (some gm) clock (seen.push L[j].born) clock) },⟨by simp only [j9.1],j9.2⟩,?_⟩
   have bI:∀ (o':Obj),(setObj g o').run P w1=.ok () { w1 with heap:=w1.heap.setIfInBounds g o' }:=fun o'=>by
    have:w1.heap[g]?=some (.mapIter (some gm) clock seen clock):=by rw [j9.1]; exact hw
    simp [setObj,Sem.run,this]
   have aN:j < L.toArray.size:=by simpa using hj
   simp only [ar,Array.getElem?_map,Array.getElem?_eq_getElem aN,Option.map_some,Sem.run_bind,bI,Result.andThen]
   simp
theorem a1U:∀ {ks:List KK} {us:List Value} {x:List KV},Bv ks (us.map .val)=some x->Al (A9 w S ι) us (kvA ks x)
 | [],[],x,h=>by simp only [List.map_nil,Bv,Option.some.injEq] at h; subst h; trivial
 | [],_::_,_,h=>by simp [Bv] at h
 | _::_,[],_,h=>by simp [Bv] at h
 | k::ks,u::us,x,h=>by
   simp only [List.map_cons,Bv] at h
   cases h1:Hd k (.val u) with
   | none=>simp [h1] at h
   | some y =>
     cases h2:Bv ks (us.map .val) with
     | none=>simp [h1,h2] at h
     | some ys =>
       simp only [h1,h2,Option.some.injEq] at h
       subst h
       have ih:=a1U h2
       cases k with
       | int k =>
         cases u <;> simp only [Hd,reduceCtorEq] at h1
         rename_i k' n
         cases e1:(k==k') <;> simp [e1] at h1
         subst h1
         obtain rfl:k=k':=by simpa using e1
         exact ⟨.rd (.val _ rfl),ih⟩
       | bool =>
         cases u <;> simp [Hd] at h1
         subst h1
         exact ⟨.rd (.val _ rfl),ih⟩
       | str =>
         cases u <;> simp [Hd] at h1
         subst h1
         exact ⟨.junk _ rfl,ih⟩
theorem W4 {K:Nat->Prop}:∀ (ks:List KK) (x:List KV),∀ c∈kvA ks x,∀ id,c.idOf=some id->K id
 | [],_,c,hc=>by simp [kvA] at hc
 | k::ks,[],c,hc=>by cases k <;> simp [kvA] at hc
 | k::ks,y::ys,c,hc=>by
   have ih:=W4 (K:=K) ks ys c
   cases k <;> cases y <;> simp only [kvA,List.mem_cons] at hc <;> rcases hc with rfl | hc <;> first | (intro id h; cases h) | exact ih hc
theorem a3b (x:Operand) (ty:TypeId):(a0s s x).Sound E s (fun ρ=>do pure (.value (<- Instr.next (ρ x) false ty))):=by
 unfold a0s
 split
 · rename_i id hx
   cases hl:look s.hp id with
   | none=>trivial
   | some o =>
     cases o with
     | ranged ks cur left =>
       intro a w ι S hC ab
       obtain ⟨g0,c0,s0,gB,ev⟩:=(Ak ab hx).1.pt_inv
       obtain ⟨hid,_,an⟩:=hC.obj id _ hl
       cases an with
       | ranged g gm clock ks cur left seen es h h2 hw hm hb ax gC =>
         rw [gB] at h
         simp only [Option.some.injEq,Pl.blk.injEq] at h
         obtain ⟨rfl,rfl,rfl⟩:=h
         have ev':a.eval x=.pointer (some ⟨g0,0,none⟩):=by rw [ev]
         have hr:=a89 (P:=E.P) hw hm hb.2 ty
         rw [<- ev'] at hr
         rcases hr with ⟨h0,hr⟩ | ⟨j,hj,w',bE,hr⟩
         · left
           have:left=[]:=List.eq_nil_of_length_eq_zero (by rw [<- ax.length,h0]; rfl)
           exact ⟨this,Good.same hC (Ap hr) (.tup [.bool false] [_] ⟨.cell (.rd (.val _ rfl)),trivial⟩) (fun v hv=>by simp at hv; subst hv; exact ⟨fun _ h=>(by cases h),fun _ h=>(by cases h)⟩)⟩
         · right
           have aN:j < left.length:=by rw [<- ax.length]; exact hj
           refine ⟨j,aN,?_⟩
           have ip:gm≠g0:=fun e=>by
            have:=hC.inj ⟨id,[0]⟩ ⟨id,[]⟩ g0 _ _ _ _ (e ▸ h2) gB
            cases this
           have hS:∀ b,S b->S b/\w'.heap[b]?=w.heap[b]?:=fun b hb=>⟨hb,by rw [bE.1]; exact (MapKept.heap_set hw).2 b fun e=>hC.dis b hb ⟨id,0,2,e ▸ gB⟩⟩
           have d2:=ax.at (List.getElem?_eq_getElem hj) (List.getElem?_eq_getElem aN)
           have bc:(es.filter fun e=>!seen.contains e.born)[j]∈es:=(List.mem_filter.1 (List.getElem_mem hj)).1
           have bg:Bp w' S ι id (.ranged ks (some left[j]) (left.eraseIdx j)):=by
            refine .ranged g0 gm clock ks _ _ (seen.push (es.filter fun e=>!seen.contains e.born)[j].born) es gB h2 ?_ ?_ hb ?_ ?_
            · rw [bE.1]; exact (MapKept.heap_set hw).1
            · rw [bE.1,(MapKept.heap_set hw).2 gm ip]; exact hm
            · rw [a7g hb.1 hj]; exact (ax.eraseIdx j).mono fun _ _ h=>h.mono hS
            · intro r d3
              simp only [Option.some.injEq] at d3
              subst d3
              exact ⟨_,bc,by simp,d2.mono hS⟩
           obtain ⟨c1,c2⟩:=hC.setN bE hl gB hw bg trivial
           obtain ⟨us,ed,d1⟩:=d2.key
           have bP:=((d2.mono hS).val.ofNone (ι:=ι) (K:=(· < s.nx)))
           refine ⟨_,w',ι,S,Ap hr,c1,Nat.le_refl _,c2,.tup [_,_,_] [_,_,_] ⟨.cell (.rd (.val _ rfl)),?_,bP.1,trivial⟩,?_⟩
           · rw [ed]; exact .agg us _ (a1U d1)
           · intro v hv
             simp only [List.mem_cons,List.not_mem_nil,or_false] at hv
             rcases hv with rfl | rfl | rfl
             · exact ⟨fun _ h=>(by cases h),fun _ h=>(by cases h)⟩
             · refine ⟨fun _ h=>(by cases h),fun cs e=>?_⟩
               cases e
               exact W4 ks _
             · exact ⟨AV.uses_id bP.2,AV.uses_agg bP.2⟩
     | _=>trivial
 · trivial
theorem a1V (x:Operand):(Tl s x).Sound E s (fun ρ=>do pure (.value (<- Instr.entry (ρ x)))):=by
 unfold Tl
 split
 · rename_i id hx
   cases hl:look s.hp id with
   | none=>trivial
   | some o =>
     cases o with
     | ranged ks cur left =>
       cases cur with
       | none=>trivial
       | some r =>
       intro a w ι S hC ab
       obtain ⟨g0,c0,s0,gB,ev⟩:=(Ak ab hx).1.pt_inv
       obtain ⟨hid,_,an⟩:=hC.obj id _ hl
       cases an with
       | ranged g gm clock ks cur left seen es h h2 hw hm hb ax gC =>
         rw [gB] at h
         simp only [Option.some.injEq,Pl.blk.injEq] at h
         obtain ⟨rfl,rfl,rfl⟩:=h
         have ev':a.eval x=.pointer (some ⟨g0,0,none⟩):=by rw [ev]
         obtain ⟨e,he,mF,iq⟩:=gC r rfl
         obtain ⟨us,ed,d1⟩:=iq.key
         have bP:=(iq.val.ofNone (ι:=ι) (K:=(· < s.nx)))
         have hf:es.toArray.find? (·.born==e.born)=some e:=by rw [<- Array.find?_toList]; exact find_born e es hb.1 he
         refine Good.same hC (v:=.tuple #[e.key,e.val]) ?_ (.tup [_,_] [_,_] ⟨?_,bP.1,trivial⟩) ?_
         · refine Ap ?_
           rw [ev']
           simp only [Instr.entry,getObj,Sem.run_bind,Sem.run,hw,hm,Result.andThen,mF,bne_self_eq_false,Bool.false_eq_true,if_false,hf]
           rfl
         · rw [ed]; exact .agg us _ (a1U d1)
         · intro v hv
           simp only [List.mem_cons,List.not_mem_nil,or_false] at hv
           rcases hv with rfl | rfl
           · refine ⟨fun _ h=>(by cases h),fun cs e=>?_⟩
             cases e
             exact W4 ks _
           · exact ⟨AV.uses_id bP.2,AV.uses_agg bP.2⟩
     | _=>trivial
 · trivial
theorem Core.newC (hC:Core E ι S s.hp s.nx w) {v:Value} {o:A2} (ho:Bp w S (put ι s.nx (some (.clo v))) s.nx o) (hu:o.uses (· < s.nx + 1)) :
 Core E (put ι s.nx (some (.clo v))) S ((s.nx,o)::s.hp) (s.nx + 1) w/\Later w w S S ι (put ι s.nx (some (.clo v))) (· < s.nx):=by
 have aj:∀ (i:Key) g c z,put ι s.nx (some (.clo v)) i=some (.blk g c z)->ι i=some (.blk g c z):=by
  intro i g c z h
  by_cases hi:i=s.nx
  · subst hi; rw [As] at h; cases h
  · rwa [Dd _ _ hi] at h
 have hL:Later w w S S ι (put ι s.nx (some (.clo v))) (· < s.nx):=⟨fun b hb=>⟨hb,rfl⟩,fun i p hi h=>by rw [Ci _ _ (by dsimp only; omega)]; exact h⟩
 refine ⟨⟨hC.frame,hC.sub,hC.lt,fun b hb ⟨i,c,z,h⟩=>hC.dis b hb ⟨i,c,z,aj _ _ _ _ h⟩,fun i g c z h=>hC.own i g c z (aj _ _ _ _ h),fun i j g c d z r h1 h2=>hC.inj i j g _ _ _ _ (aj _ _ _ _ h1) (aj _ _ _ _ h2),?_,?_,?_,hC.fxs⟩,hL⟩
 · intro i hi
   rw [Ci _ _ (by dsimp only; omega)]
   exact hC.new i (by omega)
 · intro i o' h
   rw [Aj] at h
   split at h
   · rename_i e
     subst e
     simp only [Option.some.injEq] at h
     subst h
     exact ⟨Nat.lt_succ_self _,hu,ho⟩
   · have ⟨h1,h2,h3⟩:=hC.obj i o' h
     refine ⟨Nat.lt_succ_of_lt h1,?_,h3.mono hL h1 h2 (fun _ k q hk hq=>by rw [Ci _ _ (by rw [hk]; exact Nat.ne_of_lt h1)]; exact hq) (fun _ _ _ _ _ _=>rfl)⟩
     cases o' with
     | box cs=>exact fun c hc j hj=>Nat.lt_succ_of_lt (h2 c hc j hj)
     | list=>trivial
     | map=>trivial
     | ranged=>trivial
     | clo=>exact ⟨fun c hc j hj=>Nat.lt_succ_of_lt (h2.1 c hc j hj),fun c hc j hj=>Nat.lt_succ_of_lt (h2.2 c hc j hj)⟩
     | nest=>exact fun h0 c hc j hj=>Nat.lt_succ_of_lt (h2 h0 c hc j hj)
 · intro i q h
   have h':=hC.stay i q h
   by_cases hi:i=s.nx
   · subst hi; rw [hC.new _ (Nat.le_refl _)] at h'; cases h'
   · rw [Ci _ _ hi]; exact h'
theorem a9a {v:Value} {x:AV} (h:Bi w S ι v x) (hc:a1K x=true):A9 w S ι v x:=by
 cases h with
 | one h=>cases h with
   | cell h=>exact h
   | agg=>simp [a1K] at hc
 | tup=>simp [a1K] at hc
 | any=>simp [a1K] at hc
theorem a4X (n:Nat) (f c:Array Operand):(a81 s n f.toList c.toList).Sound E s (fun ρ=>do pure (.value (<- Instr.makeFunc (.func n) (f.map ρ) (c.map ρ)))):=by
 unfold a81
 cases hf:Iz s.tm f.toList with
 | none=>trivial
 | some fs =>
   simp only
   cases hc:Iz s.tm c.toList with
   | none=>trivial
   | some cs =>
     simp only
     cases hb:(fs.all (fun x=>a1K x)&&cs.all (fun x=>a1K x)) with
     | false=>trivial
     | true =>
       simp only [cond_true]
       simp only [Bool.and_eq_true,List.all_eq_true] at hb
       intro a w ι S hC ab
       have h1:=La ab f.toList fs hf
       have h2:=La ab c.toList cs hc
       have hL:Later w w S S ι (put ι s.nx (some (.clo (.func (.func n) (f.map a.eval) (c.map a.eval))))) (· < s.nx):=⟨fun b hb=>⟨hb,rfl⟩,fun i p hi h=>by rw [Ci _ _ (by dsimp only; omega)]; exact h⟩
       have up:∀ {us:List Value} {xs:List AV},Al (Bi w S ι) us xs->(∀ x∈xs,x.uses (· < s.nx))->(∀ x∈xs,a1K x=true)->Al (A9 w S (put ι s.nx (some (.clo (.func (.func n) (f.map a.eval) (c.map a.eval)))))) us xs:=fun h hu hx=>Al.of h.length fun i v x hv kd =>
        (a9a (h.at hv kd) (hx x (List.mem_of_getElem? kd))).mono hL (AV.uses_id (hu x (List.mem_of_getElem? kd)))
       have ho:Bp w S (put ι s.nx (some (.clo (.func (.func n) (f.map a.eval) (c.map a.eval))))) s.nx (.clo n fs cs):=by
        refine .clo n fs cs (f.toList.map a.eval) (c.toList.map a.eval) ?_ (up h1.1 h1.2 hb.1) (up h2.1 h2.2 hb.2)
        rw [As]
        have e1:(f.toList.map a.eval).toArray=f.map a.eval:=Array.ext' (by simp)
        have e2:(c.toList.map a.eval).toArray=c.map a.eval:=Array.ext' (by simp)
        rw [e1,e2]
       have:=hC.newC ho ⟨fun x hx i hi=>Nat.lt_succ_of_lt (AV.uses_id (h1.2 x hx) i hi),fun x hx i hi=>Nat.lt_succ_of_lt (AV.uses_id (h2.2 x hx) i hi)⟩
       exact ⟨_,w,_,S,Ap rfl,this.1,Nat.le_succ _,this.2,.one (.cell (.clo s.nx _ (As _ _ _) rfl)),Nat.lt_succ_self _⟩
end Go.Am
