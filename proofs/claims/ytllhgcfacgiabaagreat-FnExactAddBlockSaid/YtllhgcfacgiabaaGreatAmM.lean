import Derived.Test.YtllhgcfacgiabaaGreatAm4
import Derived.MapKept
namespace Go.Am
open Go.RowKit
set_option linter.unusedVariables false
set_option linter.unusedSimpArgs false
variable {E:Env} {s:St} {a:Act} {w:World} {ι:Loc} {S:Nat->Prop} {tt:Tab}
theorem Lb (hT:Bg E.P tt) {t:TypeId} {ks:List KK} {te:TI} (h:Ga tt t=some (ks,te)):∃ (kt et:TypeId) (fields:Array Field),E.P.underlying t=some (.map kt et)/\look tt et=some te/\E.P.underlying kt=some (.struct fields)/\Ds E.P 0 fields.toList ks=true/\E.P.stoodInHeld kt=false:=by
 unfold Ga at h
 cases hl:look tt t with
 | none=>simp [hl] at h
 | some ti =>
   obtain ⟨i,d,hk⟩:=hT t ti hl
   have b7:=hk.kind
   simp only [hl] at h
   cases bf:ti.kind with
   | map k e =>
     simp only [bf] at h
     rw [bf] at b7
     cases ef:L3 tt k with
     | none=>simp [ef] at h
     | some ks' =>
       simp only [ef] at h
       cases gy:look tt e with
       | none=>simp [gy] at h
       | some te' =>
         simp only [gy,Option.some.injEq,Prod.mk.injEq] at h
         obtain ⟨rfl,rfl⟩:=h
         obtain ⟨fields,h1,h2,h3,_⟩:=Wt hT ef
         cases d <;> simp [Cw] at b7
         obtain ⟨h4,h5⟩:=b7
         subst h4 h5
         exact ⟨_,_,fields,hk.under,gy,h1,h2,h3⟩
   | _=>simp [bf] at h
theorem b0z {a b:KK} (h:a8Z a b=true):a=b:=by
 cases a <;> cases b <;> simp_all [a8Z]
theorem Ro:∀ {a b:List KK},Kd a b=true->a=b
 | [],[],_=>rfl
 | a::as,b::bs,h=>by simp only [Kd,Bool.and_eq_true] at h; rw [b0z h.1,Ro h.2]
 | [],_::_,h=>by simp [Kd] at h
 | _::_,[],h=>by simp [Kd] at h
theorem a7e {k:KK} (hs:a8Z k k=true) {u v:Value} {x:KV} (hu:Hd k (.val u)=some x) (hv:Hd k (.val v)=some x) (n:Nat):Instr.sameBits n u v=true:=by
 cases k with
 | int k =>
   cases u <;> simp only [Hd,reduceCtorEq] at hu
   cases v <;> simp only [Hd,reduceCtorEq] at hv
   rename_i ka na kb nb
   cases e1:(k==ka) <;> simp [e1] at hu
   cases e2:(k==kb) <;> simp [e2] at hv
   subst hu
   obtain rfl:k=ka:=by simpa using e1
   obtain rfl:k=kb:=by simpa using e2
   cases hv
   cases n <;> simp [Instr.sameBits]
 | bool =>
   cases u <;> simp [Hd] at hu
   cases v <;> simp [Hd] at hv
   subst hu
   cases hv
   cases n <;> simp [Instr.sameBits]
 | str=>simp [a8Z] at hs
theorem Wx (n:Nat):∀ {ks:List KK} {us vs:List Value} {x:List KV},Kd ks ks=true->Bv ks (us.map .val)=some x->Bv ks (vs.map .val)=some x ->
 us.length=vs.length/\((us.zip vs).all fun p=>Instr.sameBits n p.1 p.2)=true
 | [],[],[],x,_,_,_=>⟨rfl,rfl⟩
 | [],_::_,_,x,_,h,_=>by simp [Bv] at h
 | [],[],_::_,x,_,_,h=>by simp [Bv] at h
 | _::_,[],_,x,_,h,_=>by simp [Bv] at h
 | _::_,_::_,[],x,_,_,h=>by simp [Bv] at h
 | k::ks,u::us,v::vs,x,hk,hu,hv=>by
   simp only [Kd,Bool.and_eq_true] at hk
   simp only [List.map_cons,Bv] at hu hv
   cases h1:Hd k (.val u) with
   | none=>simp [h1] at hu
   | some a =>
     cases h2:Bv ks (us.map .val) with
     | none=>simp [h1,h2] at hu
     | some as =>
       cases h3:Hd k (.val v) with
       | none=>simp [h3] at hv
       | some b =>
         cases h4:Bv ks (vs.map .val) with
         | none=>simp [h3,h4] at hv
         | some bs =>
           simp only [h1,h2,Option.some.injEq] at hu
           simp only [h3,h4,Option.some.injEq] at hv
           subst hu
           simp only [List.cons.injEq] at hv
           obtain ⟨rfl,rfl⟩:=hv
           obtain ⟨e1,e2⟩:=Wx n hk.2 h2 h4
           refine ⟨by simp [e1],?_⟩
           simp only [List.zip_cons_cons,List.all_cons,a7e hk.1 h1 h3,e2,Bool.and_self]
theorem a87 {P:Program} {ks:List KK} {us vs:List Value} {x:List KV} (hk:Kd ks ks=true) (hu:Bv ks (us.map .val)=some x) (hv:Bv ks (vs.map .val)=some x) (w:World) :
 (Instr.keyThatStays (.agg us.toArray) (.agg vs.toArray)).run P w=.ok (.agg vs.toArray) w:=by
 obtain ⟨h1,h2⟩:=Wx 9999 hk hu hv
 have:Instr.sameBits 10000 (.agg us.toArray) (.agg vs.toArray)=true:=by
  simp only [Instr.sameBits,List.size_toArray,h1,beq_self_eq_true,Bool.true_and]
  exact h2
 simp [Instr.keyThatStays,this]
theorem a88 {P:Program} {k:KK} {f:Field} {o:Nat} {us:List Value} {b:Value} {xb:KV} (h:V5 P o f k=true) (hb:us[o]?=some b) (hk:Hd k (.val b)=some xb) (w:World) (e:Bool) (n:Nat) :
 f.name ≠ "_" ∧ (part f.type us.toArray f.offset).run P w = .ok b w ∧ (Instr.checkKey e (n + 1) f.type b).run P w = .ok () w := by
 simp only [V5,Bool.and_eq_true,Bool.not_eq_true'] at h
 obtain ⟨⟨h1,h2⟩,h3⟩:=h
 have ho:=Nat.eq_of_beq_eq_true h1
 refine ⟨by simpa using h2,?_⟩
 cases hd:P.underlying f.type with
 | none=>simp [hd] at h3
 | some dd =>
   simp only [hd] at h3
   have br:L6 dd=false:=by cases dd <;> simp at h3 <;> rfl
   refine ⟨by simp [part,Sem.run_bind,F2 hd w,br,Result.andThen_ok,ho,hb],?_⟩
   unfold Instr.checkKey
   simp only [Sem.run_bind,run_underlying hd,Result.andThen_ok]
   cases dd <;> simp at h3 <;> cases b <;> simp [Hd] at hk <;> simp
theorem U1 {P:Program} (w:World) (e:Bool) (n:Nat) (us:List Value):∀ (fs:List Field) (ks:List KK) (o:Nat) (x:List KV),Ds P o fs ks=true->Bv ks ((us.drop o).map .val)=some x ->
 (forIn fs PUnit.unit (fun f (_:PUnit)=>(do
   if f.name ≠ "_" then
    Instr.checkKey e (n + 1) f.type (<- part f.type us.toArray f.offset)
    pure (ForInStep.yield PUnit.unit)
   else pure (ForInStep.yield PUnit.unit):Sem (ForInStep PUnit)))).run P w=.ok PUnit.unit w
 | [],_,_,_,_,_=>by simp
 | f::fs,[],o,x,h,hx=>by simp [Ds] at h
 | f::fs,k::ks,o,x,h,hx=>by
   simp only [Ds,Bool.and_eq_true] at h
   cases hu:us.drop o with
   | nil=>rw [hu] at hx; simp [Bv] at hx
   | cons b bs =>
     have hb:us[o]?=some b:=by have:=congrArg (·[0]?) hu; simpa using this
     have j0:us.drop (o + 1)=bs:=by rw [<- List.tail_drop,hu]; rfl
     rw [hu,List.map_cons] at hx
     simp only [Bv] at hx
     cases cy:Hd k (.val b) with
     | none=>simp [cy] at hx
     | some xb =>
       cases hr:Bv ks (bs.map .val) with
       | none=>simp [cy,hr] at hx
       | some xr =>
         obtain ⟨g1,g2,g3⟩:=a88 h.1 hb cy w e n
         have ih:=U1 w e n us fs ks (o + 1) xr h.2 (by rw [j0]; exact hr)
         rw [List.forIn_cons]
         simp only [if_pos g1,Sem.run_bind,g2,g3,Result.andThen_ok,Sem.run_pure,bind_assoc,pure_bind]
         exact ih
theorem Mc {P:Program} {kt:TypeId} {fields:Array Field} {ks:List KK} {us:List Value} {x:List KV} (hu:P.underlying kt=some (.struct fields)) (hf:Ds P 0 fields.toList ks=true) (hk:Bv ks (us.map .val)=some x) (w:World) (e:Bool) :
 (Instr.checkKey e 10000 kt (.agg us.toArray)).run P w=.ok () w:=by
 have:=U1 w e 9998 us fields.toList ks 0 x hf (by simpa using hk)
 unfold Instr.checkKey
 simp only [Sem.run_bind,run_underlying hu,Result.andThen_ok]
 rw [<- Array.forIn_toList]
 exact (congrArg (fun r=>r.andThen fun _ w'=>(pure ():Sem Unit).run P w') this).trans rfl
def Hj (k:List KV):List (List KV × AV)->Option Nat
 | []=>none
 | r::rs=>if r.1=k then some 0 else (Hj k rs).map (· + 1)
theorem Ox {k:List KV}:∀ {rows:List (List KV × AV)} {j:Nat},Hj k rows=some j->∃ r,rows[j]?=some r/\Gi k rows=some r.2/\∀ a,Rk k a rows=rows.set j (k,a)
 | [],j,h=>by simp [Hj] at h
 | r::rs,j,h=>by
   simp only [Hj] at h
   by_cases hr:r.1=k
   · rw [if_pos hr] at h
     cases h
     exact ⟨r,rfl,by simp [Gi,hr],fun a=>by simp [Rk,hr]⟩
   · rw [if_neg hr] at h
     cases hi:Hj k rs with
     | none=>simp [hi] at h
     | some i =>
       simp only [hi,Option.map_some,Option.some.injEq] at h
       subst h
       obtain ⟨q,h1,h2,h3⟩:=Ox hi
       exact ⟨q,by simpa using h1,by simp [Gi,hr,h2],fun a=>by simp [Rk,hr,h3]⟩
theorem a3a {k:List KV}:∀ {rows:List (List KV × AV)} {j:Nat} {r:List KV × AV},Hj k rows=some j->rows[j]?=some r->r.1=k
 | [],j,r,h,_=>by simp [Hj] at h
 | q::rs,j,r,h,hr=>by
   simp only [Hj] at h
   by_cases hq:q.1=k
   · rw [if_pos hq] at h; cases h; simp at hr; rw [<- hr]; exact hq
   · rw [if_neg hq] at h
     cases hi:Hj k rs with
     | none=>simp [hi] at h
     | some i =>
       simp only [hi,Option.map_some,Option.some.injEq] at h
       subst h
       exact a3a hi (by simpa using hr)
theorem Ts {k:List KV}:∀ {rows:List (List KV × AV)},Hj k rows=none->Gi k rows=none/\∀ a,Rk k a rows=rows++[(k,a)]
 | [],_=>⟨rfl,fun _=>rfl⟩
 | r::rs,h=>by
   simp only [Hj] at h
   by_cases hr:r.1=k
   · rw [if_pos hr] at h; cases h
   · rw [if_neg hr] at h
     cases hi:Hj k rs with
     | some i=>simp [hi] at h
     | none =>
       obtain ⟨h1,h2⟩:=Ts hi
       exact ⟨by simp [Gi,hr,h1],fun a=>by simp [Rk,hr,h2]⟩
theorem Nk {P:Program} {kt:TypeId} {fields:Array Field} {ks:List KK} {us:List Value} {x:List KV} (hu:P.underlying kt=some (.struct fields)) (hf:Ds P 0 fields.toList ks=true) (hs:P.stoodInHeld kt=false) (hk:Bv ks (us.map .val)=some x) (w:World) :
 ∀ (es:List MapEntry) (rows:List (List KV × AV)) (i:Nat),Al (Nc w S ks) es rows->(Instr.findAsking kt (.agg us.toArray) es i).run P w=.ok ((Hj x rows).bind fun j=>(es[j]?).map fun e=>(i + j,e.val)) w
 | [],[],i,_=>by simp [Instr.findAsking,Hj]
 | e::es,r::rs,i,h=>by
   obtain ⟨us',ed,d1⟩:=h.1.key
   have gt:P.fieldsOf kt=fields:=by simp [Program.fieldsOf,hu]
   have iO:(Op.equalIn 10000 kt (.agg us.toArray) (.agg us'.toArray)).run P w=.ok (decide (x=r.1)) w:=by
    rw [run_equalIn_struct w 9999 kt _ _ (by rw [gt]; exact hu) hs,gt]
    exact Mb w 9998 us us' _ ks 0 x r.1 hf (by simpa using hk) (by simpa using d1)
   have j5:(Op.equal kt (.agg us.toArray) e.key).run P w=.ok (decide (x=r.1)) w:=by rw [ed]; exact iO
   have ih:=Nk hu hf hs hk w es rs (i + 1) h.2
   simp only [Instr.findAsking,Sem.run_bind,j5,Result.andThen_ok,Hj]
   by_cases hr:r.1=x
   · rw [if_pos hr,if_pos (by simp [hr])]
     simp
   · rw [if_neg hr,if_neg (by simp; exact fun e=>hr e.symm),ih]
     cases Hj x rs with
     | none=>rfl
     | some j=>simp [Nat.add_assoc,Nat.add_comm 1]
 | [],_::_,_,h=>h.elim
 | _::_,[],_,h=>h.elim
theorem Nl {P:Program} {kt:TypeId} {fields:Array Field} {ks:List KK} {us:List Value} {x:List KV} (hu:P.underlying kt=some (.struct fields)) (hf:Ds P 0 fields.toList ks=true) (hs:P.stoodInHeld kt=false) (hk:Bv ks (us.map .val)=some x) (w:World)
 (es:List MapEntry) (rows:List (List KV × AV)) (h:Al (Nc w S ks) es rows):(Instr.findKey kt (.agg us.toArray) es).run P w=.ok ((Hj x rows).bind fun j=>(es[j]?).map fun e=>(j,e.val)) w:=by
 have:=Nk hu hf hs hk w es rows 0 h
 simp only [Nat.zero_add] at this
 rw [<- this]
 cases es with
 | nil=>simp [Instr.findKey,run_underlying hu,Instr.findNow,Instr.findAsking]
 | cons e es=>simp [Instr.findKey,run_underlying hu,Instr.findNow,Instr.sameNow]
theorem a4W {v:Value} {a:AV} (h:Bi w S ι v a) (hp:Qh a=true):Eo w S (fun _=>none) v a:=by
 cases h with
 | one h=>cases h with
   | cell h =>
     cases h with
     | rd h=>exact .cell (.rd h)
     | _=>simp [Qh,Dw] at hp
   | agg vs cs h =>
     refine .agg vs cs (Al.of h.length fun i v a hv ha=>.rd (K9 (h.at hv ha) ?_))
     simp only [Qh] at hp
     exact List.all_eq_true.1 hp a (List.mem_of_getElem? ha)
 | tup=>simp [Qh,Dw] at hp
 | any=>simp [Qh,Dw] at hp
theorem A9.noneId {v:Value} {a:AV} (h:A9 w S (fun _=>none) v a):a.idOf=none:=by
 cases h with
 | rd h=>exact h.noId
 | own id len g cap s h=>cases h
 | own0 id h=>cases h
 | pt id row off g c s h=>cases h
 | sb id row off len g c s o cap h=>cases h
 | sb0 id row off h=>cases h
 | mp id g h=>cases h
 | clo id v h=>cases h
 | junk=>rfl
 | rp=>rfl
theorem Eo.ofNone {v:Value} {a:AV} {K:Nat->Prop} (h:Eo w S (fun _=>none) v a):Eo w S ι v a/\a.uses K:=by
 refine ⟨h.mono (K:=fun _=>True) ⟨fun b hb=>⟨hb,rfl⟩,fun _ _ _ h=>by cases h⟩ (fun _ _=>trivial) (fun _ _ _ _ _ _=>trivial),?_⟩
 cases h with
 | cell h =>
   have:=h.noneId
   cases a <;> first | trivial | (simp [AV.idOf] at this) | skip
 | agg vs cs h =>
    intro c hc id hi
    obtain ⟨i,aQ,e⟩:=List.mem_iff_getElem.1 hc
    have h1:cs[i]?=some c:=by rw [List.getElem?_eq_getElem aQ,e]
    have h2:i < vs.length:=by rw [h.length]; exact aQ
    rw [(h.at (List.getElem?_eq_getElem h2) h1).noneId] at hi
    cases hi
theorem Core.setM (hC:Core E ι S s.hp s.nx w) {id g c sz:Nat} {o o':A2} {ob ob':Obj} (ho:look s.hp id=some o) (hg:ι id=some (.blk g c sz)) (hw:w.heap[g]?=some ob)
 (bY:Bp { w with heap:=w.heap.setIfInBounds g ob' } S ι id o') (hu:o'.uses (· < s.nx)) :
 Core E ι S ((id,o')::s.hp) s.nx { w with heap:=w.heap.setIfInBounds g ob' }/\Later w { w with heap:=w.heap.setIfInBounds g ob' } S S ι ι (· < s.nx):=by
 have other:∀ b,b≠g->({ w with heap:=w.heap.setIfInBounds g ob' }:World).heap[b]?=w.heap[b]?:=fun b hb=>(MapKept.heap_set hw).2 b hb
 have hS:∀ b,S b->b≠g:=fun b hb e=>hC.dis b hb ⟨id,c,sz,e ▸ hg⟩
 have hL:∀ K,Later w { w with heap:=w.heap.setIfInBounds g ob' } S S ι ι K:=fun K=>⟨fun b hb=>⟨hb,other b (hS b hb)⟩,fun _ _ _ h=>h⟩
 refine ⟨⟨?_,hC.sub,fun b hb=>by simpa using hC.lt b hb,hC.dis,fun i g' c' s' h=>by simpa using hC.own i g' c' s' h,hC.inj,hC.new,?_,hC.stay,hC.fxs⟩,hL _⟩
 · refine hC.frame.trans (D':=fun b=>b=g) ⟨rfl,rfl,rfl,by simp,fun b _ hn=>other b hn⟩ ?_
   rintro b hb rfl
   rcases (hC.own id b c sz hg).2 with h | h
   · omega
   · exact h
 · intro i oi h
   rw [Aj] at h
   split at h
   · rename_i e
     subst e
     simp at h
     subst h
     exact ⟨(hC.obj id o ho).1,hu,bY⟩
   · rename_i aj
     obtain ⟨h1,h2,h3⟩:=hC.obj i oi h
     refine ⟨h1,h2,h3.mono (hL (fun _=>True)) trivial (by cases oi <;> simp [A2.uses]) (fun _ _ _ _ h=>h) (fun k g' c' s' hk dk=>other g' (fun e=>aj ?_))⟩
     subst e
     have:=hC.inj id k g' c c' sz s' hg dk
     rw [<- hk,<- this]
theorem Wy (hT:Bg E.P tt) (t:TypeId) (r:Option Operand):(K7 tt s t r).Sound E s (fun ρ=>do pure (.value (<- Instr.makeMap t (r.map ρ)))):=by
 have main:∀ (ks:List KK) (r':Option Value) (a:Act) (w:World) (ι:Loc) (S:Nat->Prop),(Instr.makeMap t r').run E.P w=.ok (.map (some w.heap.size)) (w.alloc (.map #[] 0))->Core E ι S s.hp s.nx w ->
  Good E s ((do pure (.value (<- Instr.makeMap t r')):Sem Next).run E.P w) w ι S (.mp s.nx) ((s.nx,.map ks [])::s.hp) (s.nx + 1):=by
  intro ks r' a w ι S hr hC
  have ho:Bp (w.alloc (.map #[] 0)) S (put ι s.nx (some (.blk w.heap.size 0 1))) s.nx (.map ks []):=.map w.heap.size 0 ks [] [] (As _ _ _) (MapKept.heap_alloc w _).1 trivial ⟨.nil,fun _ h=>(by cases h)⟩
  have:=hC.alloc (c:=0) (sz:=1) ho trivial
  exact ⟨_,_,_,S,Ap hr,this.1,Nat.le_succ _,this.2,.one (.cell (.mp _ _ (As _ _ _))),Nat.lt_succ_self _⟩
 cases r with
 | none =>
   simp only [K7]
   cases hm:Ga tt t with
   | none=>trivial
   | some km =>
     obtain ⟨ks,te⟩:=km
     intro a w ι S hC ab
     exact main ks none a w ι S rfl hC
 | some x =>
   simp only [K7]
   cases hm:Ga tt t with
   | none=>trivial
   | some km =>
     obtain ⟨ks,te⟩:=km
     obtain ⟨kt,et,fields,h1,_⟩:=Lb hT hm
     cases hx:Au s.tm x with
     | none=>trivial
     | some q =>
       cases q with
       | val u =>
         cases u with
         | int k n =>
           intro a w ι S hC ab
           have hv:=(Ak ab hx).1.val_inv.1
           refine main ks (some (a.eval x)) a w ι S ?_ hC
           rw [hv]
           simp only [Instr.makeMap,Sem.run_bind,run_underlying h1,Result.andThen_ok,asInt,asIntOf,Sem.run_pure]
           rfl
         | _=>trivial
       | _=>trivial
theorem Wz {es:List MapEntry} {j:Nat} {e:MapEntry} {f:MapEntry->MapEntry} (he:es[j]?=some e):es.modify j f=es.set j (f e):=by
 apply List.ext_getElem?
 intro i
 have hj:=(List.getElem?_eq_some_iff.1 he).1
 rw [List.getElem?_modify,List.getElem?_set]
 by_cases h:j=i
 · subst h
   simp [he,hj]
   exact congrArg f (List.getElem?_eq_some_iff.1 he).2
 · simp [h]
theorem Ir.push {es:List MapEntry} {clock:Nat} (h:Ir es clock) (k v:Value):Ir (es++[MapEntry.mk k v clock]) (clock + 1):=by
 refine ⟨?_,fun e he=>?_⟩
 · rw [List.map_append,List.nodup_append]
   refine ⟨h.1,by simp,fun a ha b hb=>?_⟩
   obtain ⟨e,he,rfl⟩:=List.mem_map.1 ha
   simp at hb
   have:=h.2 e he
   omega
 · rcases List.mem_append.1 he with he | he
   · have:=h.2 e he; omega
   · simp at he; subst he; simp
theorem Ir.set {es:List MapEntry} {clock j:Nat} {e:MapEntry} (h:Ir es clock) (he:es[j]?=some e) (k v:Value):Ir (es.set j (MapEntry.mk k v e.born)) clock:=by
 have hj:=(List.getElem?_eq_some_iff.1 he).1
 have hm:(es.set j (MapEntry.mk k v e.born)).map (·.born)=es.map (·.born):=by
  apply List.ext_getElem?
  intro i
  simp only [List.map_set,List.getElem?_set,List.getElem?_map,List.length_map]
  by_cases ah:j=i
  · subst ah; simp [hj,(List.getElem?_eq_some_iff.1 he).2]
  · simp [ah]
 refine ⟨by rw [hm]; exact h.1,fun x hx=>?_⟩
 have:x.born∈(es.set j (MapEntry.mk k v e.born)).map (·.born):=List.mem_map_of_mem hx
 rw [hm] at this
 obtain ⟨y,hy,e'⟩:=List.mem_map.1 this
 have:=h.2 y hy
 omega
theorem Zt (hT:Bg E.P tt) (t:TypeId) (m k v:Operand):(Oo tt s t m k v).Sound E s (fun ρ=>do (Instr.mapUpdate t (ρ m) (ρ k) (ρ v):Sem Unit); pure .skip):=by
 unfold Oo
 cases hm:Ga tt t with
 | none=>trivial
 | some km =>
   obtain ⟨ks,te⟩:=km
   obtain ⟨kt,et,fields,h1,_,h2,h3,h4⟩:=Lb hT hm
   simp only
   cases hx:Au s.tm m with
   | none=>trivial
   | some p =>
     cases p with
     | mp id =>
       simp only
       cases hl:look s.hp id with
       | none=>trivial
       | some o =>
         cases o with
         | map ks' rows =>
           simp only
           cases hy:Au s.tm k with
           | none=>trivial
           | some q =>
             cases q with
             | agg as =>
               simp only
               cases d1:Bv ks as with
               | none=>trivial
               | some kv =>
                 simp only
                 cases hz:Au s.tm v with
                 | none=>trivial
                 | some av =>
                   simp only
                   cases hb:(Kd ks ks'&&Qh av) with
                   | false=>trivial
                   | true =>
                     simp only [cond_true]
                     simp only [Bool.and_eq_true] at hb
                     obtain ⟨bu,a8⟩:=hb
                     obtain rfl:=Ro bu
                     intro _ a w ι S hC ab
                     obtain ⟨g,em,hg⟩:=(Ak ab hx).1.mp_inv
                     obtain ⟨us,ek,dC⟩:=(Ak ab hy).1.agg_inv
                     have ea:=Ow dC d1
                     have cM:Bv ks (us.map .val)=some kv:=by rw [<- ea]; exact d1
                     have bP:=a4W (Ak ab hz).1 a8
                     obtain ⟨hid,bG,an⟩:=hC.obj id _ hl
                     cases an with
                     | map g' clock ks' rows' es h hw he io =>
                       rw [hg] at h
                       simp only [Option.some.injEq,Pl.blk.injEq] at h
                       obtain ⟨rfl,_⟩:=h
                       have hS:∀ (ob':Obj) b,S b->S b/\({ w with heap:=w.heap.setIfInBounds g ob' }:World).heap[b]?=w.heap[b]?:=fun ob' b hb=>⟨hb,(MapKept.heap_set hw).2 b fun e=>hC.dis b hb ⟨id,0,1,e ▸ hg⟩⟩
                       have dq:=Nl h2 h3 h4 cM w es rows he
                       have dc:=Mc h2 h3 cM w false
                       have bg:∀ ob' c,Nc { w with heap:=w.heap.setIfInBounds g ob' } S ks (MapEntry.mk (a.eval k) (a.eval v) c) (kv,av):=fun ob' c=>Nc.mono (hS ob') ⟨⟨us,ek,cM⟩,bP⟩
                       cases hi:Hj kv rows with
                       | none =>
                         obtain ⟨_,aS⟩:=Ts hi
                         rw [hi] at dq
                         have ar:(Instr.mapUpdate t (a.eval m) (a.eval k) (a.eval v)).run E.P w=.ok () { w with heap:=w.heap.setIfInBounds g (.map (es++[MapEntry.mk (a.eval k) (a.eval v) clock]).toArray (clock + 1)) }:=by
                          rw [em,ek] at *
                          simp [Instr.mapUpdate,Sem.run_bind,run_underlying h1,Result.andThen_ok,MapKept.run_getObj_map hw,dc,dq,MapKept.run_setObj_map _ hw]
                         rw [aS]
                         obtain ⟨c1,c2⟩:=hC.setM (ob':=.map (es++[MapEntry.mk (a.eval k) (a.eval v) clock]).toArray (clock + 1)) (o':=.map ks (rows++[(kv,av)])) hl hg hw (.map g (clock + 1) ks _ (es++[MapEntry.mk (a.eval k) (a.eval v) clock]) hg (MapKept.heap_set hw).1 ((he.mono fun _ _ h=>h.mono (hS _)).append ⟨bg _ _,trivial⟩) (io.push _ _)) trivial
                         exact ⟨_,ι,S,by simp [Sem.run_bind,ar,Result.andThen_ok],c1,Nat.le_refl _,c2⟩
                       | some j =>
                         obtain ⟨r,hr,_,aS⟩:=Ox hi
                         obtain ⟨e,d2⟩:∃ e,es[j]?=some e:=by
                          have:j < es.length:=by rw [he.length]; exact (List.getElem?_eq_some_iff.1 hr).1
                          exact ⟨_,List.getElem?_eq_getElem this⟩
                         rw [hi] at dq
                         have mC:=(he.at d2 hr).key
                         obtain ⟨us',ed,iP⟩:=mC
                         have j6:r.1=kv:=a3a hi hr
                         rw [j6] at iP
                         have ef:=a87 (P:=E.P) bu iP cM w
                         have ar:(Instr.mapUpdate t (a.eval m) (a.eval k) (a.eval v)).run E.P w=.ok () { w with heap:=w.heap.setIfInBounds g (.map (es.set j (MapEntry.mk (a.eval k) (a.eval v) e.born)).toArray clock) }:=by
                          have j7:es.modify j (fun e=>{ e with key:=a.eval k,val:=a.eval v })=es.set j (MapEntry.mk (a.eval k) (a.eval v) e.born):=Wz d2
                          rw [<- j7]
                          rw [em,ek] at *
                          simp [Instr.mapUpdate,Sem.run_bind,run_underlying h1,Result.andThen_ok,MapKept.run_getObj_map hw,dc,dq,d2,ed,ef,MapKept.run_setObj_map _ hw]
                         rw [aS]
                         obtain ⟨c1,c2⟩:=hC.setM (ob':=.map (es.set j (MapEntry.mk (a.eval k) (a.eval v) e.born)).toArray clock) (o':=.map ks (rows.set j (kv,av))) hl hg hw (.map g clock ks _ (es.set j (MapEntry.mk (a.eval k) (a.eval v) e.born)) hg (MapKept.heap_set hw).1 (Al.set (bg _ _) j (he.mono fun _ _ h=>h.mono (hS _))) (io.set d2 _ _)) trivial
                         exact ⟨_,ι,S,by simp [Sem.run_bind,ar,Result.andThen_ok],c1,Nat.le_refl _,c2⟩
             | _=>trivial
         | _=>trivial
     | _=>trivial
theorem a7f {P:Program} {t:TypeId} {ti:TI} {i:TypeInfo} {d:TypeDesc} (h:Qi P t ti i d) (hs:Nat.beq ti.size 1=false):∃ z,(zeroValue t).run P w=.ok z w/\Eo w S ι z (zeroV ti):=by
 obtain ⟨z,hz,dA⟩:=h.zero
 refine ⟨z,by simp [zeroValue,typeInfo,h.info,hz],?_⟩
 have aj:z.cells.toList.length≠1:=by
  rw [dA,h.zlen]; intro e; rw [e] at hs; simp at hs
 have hr:=Tm (w:=w) (S:=S) (ι:=ι) h
 rw [<- dA] at hr
 cases z with
 | agg vs =>
   have:=Eo.agg (w:=w) (S:=S) (ι:=ι) vs.toList (Dr ti) (by simpa [Value.cells] using hr)
   simpa [zeroV] using this
 | _=>simp [Value.cells] at aj
theorem Zu (hT:Bg E.P tt) (t:TypeId) (m k:Operand) (b:Bool):(Oq tt s t m k b).Sound E s (fun ρ=>do pure (.value (<- Instr.lookup t (ρ m) (ρ k) b))):=by
 unfold Oq
 cases hm:Ga tt t with
 | none=>trivial
 | some km =>
   obtain ⟨ks,te⟩:=km
   obtain ⟨kt,et,fields,h1,gy,h2,h3,h4⟩:=Lb hT hm
   simp only
   cases hx:Au s.tm m with
   | none=>trivial
   | some p =>
     cases p with
     | mp id =>
       simp only
       cases hl:look s.hp id with
       | none=>trivial
       | some o =>
         cases o with
         | map ks' rows =>
           simp only
           cases hy:Au s.tm k with
           | none=>trivial
           | some q =>
             cases q with
             | agg as =>
               simp only
               cases d1:Bv ks as with
               | none=>trivial
               | some kv =>
                 simp only
                 cases hb:(Kd ks ks'&&!Nat.beq te.size 1) with
                 | false=>trivial
                 | true =>
                   simp only [cond_true]
                   simp only [Bool.and_eq_true,Bool.not_eq_true'] at hb
                   obtain ⟨bu,a8⟩:=hb
                   obtain rfl:=Ro bu
                   intro _ a w ι S hC ab
                   obtain ⟨g,em,hg⟩:=(Ak ab hx).1.mp_inv
                   obtain ⟨us,ek,dC⟩:=(Ak ab hy).1.agg_inv
                   have ea:=Ow dC d1
                   have cM:Bv ks (us.map .val)=some kv:=by rw [<- ea]; exact d1
                   obtain ⟨hid,bG,an⟩:=hC.obj id _ hl
                   cases an with
                   | map g' clock ks' rows' es h hw he io =>
                     rw [hg] at h
                     simp only [Option.some.injEq,Pl.blk.injEq] at h
                     obtain ⟨rfl,_⟩:=h
                     have dq:=Nl h2 h3 h4 cM w es rows he
                     have dc:=fun e=>Mc h2 h3 cM w e
                     obtain ⟨i,d,hk⟩:=hT et te gy
                     obtain ⟨z,mD,gz⟩:=a7f (w:=w) (S:=S) (ι:=ι) hk a8
                     have main:∀ (v:Value) (r:Option AV),Gi kv rows=r->Eo w S ι v (r.getD (zeroV te))->(r.getD (zeroV te)).uses (· < s.nx)->(Instr.lookup t (a.eval m) (a.eval k) b).run E.P w=.ok (if b then .tuple #[v,.bool r.isSome] else v) w ->
                      Good E s ((do pure (.value (<- Instr.lookup t (a.eval m) (a.eval k) b)):Sem Next).run E.P w) w ι S (a80 te (Gi kv rows) b) s.hp s.nx:=by
                      intro v r hr hv hu ar
                      rw [hr]
                      refine Good.same hC (Ap ar) ?_ ?_
                      · cases b with
                        | false=>exact .one hv
                        | true=>exact .tup [v,.bool r.isSome] [_,_] ⟨hv,.cell (.rd (.val _ rfl)),trivial⟩
                      · cases b with
                        | false=>exact hu
                        | true =>
                          intro x hx
                          simp only [a80,List.mem_cons,List.not_mem_nil,or_false] at hx
                          rcases hx with rfl | rfl
                          · exact ⟨AV.uses_id hu,AV.uses_agg hu⟩
                          · exact ⟨fun id h=>(by cases h),fun cs h=>(by cases h)⟩
                     cases hi:Hj kv rows with
                     | none =>
                       obtain ⟨hf,_⟩:=Ts hi
                       rw [hi] at dq
                       refine main z none hf gz (fun c hc id hi=>Ma (K:=fun i=>i < s.nx) c hc id hi) ?_
                       rw [em,ek]
                       cases b <;> simp [Instr.lookup,Sem.run_bind,run_underlying h1,Result.andThen_ok,MapKept.run_getObj_map hw,dc,dq,mD]
                     | some j =>
                       obtain ⟨r,hr,hf,_⟩:=Ox hi
                       obtain ⟨e,d2⟩:∃ e,es[j]?=some e:=by
                        have:j < es.length:=by rw [he.length]; exact (List.getElem?_eq_some_iff.1 hr).1
                        exact ⟨_,List.getElem?_eq_getElem this⟩
                       rw [hi] at dq
                       have hv:=(he.at d2 hr).val.ofNone (ι:=ι) (K:=(· < s.nx))
                       refine main e.val (some r.2) hf hv.1 hv.2 ?_
                       rw [em,ek]
                       cases b <;> simp [Instr.lookup,Sem.run_bind,run_underlying h1,Result.andThen_ok,MapKept.run_getObj_map hw,dc,dq,d2]
             | _=>trivial
         | _=>trivial
     | _=>trivial
end Go.Am
