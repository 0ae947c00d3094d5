import Derived.Test.YtllhgcfacgiabaaGreatAm3
namespace Go.Am
open Go.RowKit
set_option linter.unusedVariables false
set_option linter.unusedSimpArgs false
variable {E:Env} {s:St} {a:Act} {w:World} {ι:Loc} {S:Nat->Prop} {tt:Tab}
theorem a24 (off:Nat):∀ (vs:List Value) (k:Nat) (cells:Array Value),off + k + vs.length<=cells.size ->
 ((vs.zipIdx k).foldl (fun cs (x:Value × Nat)=>cs.setIfInBounds (off + x.2) x.1) cells).toList=cells.toList.take (off + k)++vs++cells.toList.drop (off + k + vs.length)
 | [],k,cells,_=>by simp
 | v::vs,k,cells,h=>by
   simp only [List.length_cons] at h
   rw [List.zipIdx_cons,List.foldl_cons,a24 off vs (k + 1) _ (by simp; omega)]
   simp only [Array.toList_setIfInBounds,List.length_cons]
   have e1:off + (k + 1)=off + k + 1:=by omega
   rw [e1]
   have aa:off + k < cells.toList.length:=by simp; omega
   rw [List.take_succ_eq_append_getElem (by simpa using aa),List.take_set_of_le (by omega),List.drop_set_of_lt (by omega)]
   simp [List.append_assoc,Nat.add_assoc,Nat.add_comm 1]
theorem Rm {R:Value->AV->Prop} {place placeA:Nat->Option (Nat × Nat)} (hp:∀ i p,placeA i=some p->place i=some p) :
 ∀ (ps:List (Nat × Value)) (qs:List (Nat × AV)),Al (fun (p:Nat × Value) (q:Nat × AV)=>p.1=q.1/\Al R p.2.cells.toList q.2.cells) ps qs ->
 ∀ (cells:Array Value) (cs res:List AV),Al R cells.toList cs->H6 placeA cs qs=some res ->
 ∃ cells',Instr.fill place cells ps=some cells'/\Al R cells'.toList res
 | [],[],_,cells,cs,res,hc,hf=>by simp [H6] at hf; subst hf; exact ⟨cells,rfl,hc⟩
 | [],_::_,h,_,_,_,_,_=>h.elim
 | _::_,[],h,_,_,_,_,_=>h.elim
 | (i,v)::ps,(j,q)::qs,h,cells,cs,res,hc,hf=>by
   obtain ⟨⟨h1,h2⟩,h3⟩:=h
   simp only at h1; subst h1
   simp only [H6] at hf
   cases cm:placeA i with
   | none=>simp [cm] at hf
   | some p =>
     obtain ⟨off,size⟩:=p
     simp only [cm] at hf
     cases hb:(Nat.beq q.cells.length size&&Nat.ble (off + size) cs.length) with
     | false=>simp [hb] at hf
     | true =>
       rw [hb] at hf
       simp only [cond_true] at hf
       simp only [Bool.and_eq_true] at hb
       have hs:q.cells.length=size:=Nat.eq_of_beq_eq_true hb.1
       have ho:off + size<=cs.length:=Nat.le_of_ble_eq_true hb.2
       have hv:v.cells.size=size:=by have:=h2.length; simp at this; omega
       have hl:cells.size=cs.length:=by have:=hc.length; simpa using this
       have lG:=a24 off v.cells.toList 0 cells (by simp; omega)
       simp only [Nat.add_zero] at lG
       have hrel:Al R ((v.cells.toList.zipIdx 0).foldl (fun cs (x:Value × Nat)=>cs.setIfInBounds (off + x.2) x.1) cells).toList (cs.take off++q.cells++cs.drop (off + size)):=by
        rw [lG]
        have:v.cells.toList.length=size:=by simpa using hv
        rw [this]
        exact ((hc.take off).append h2).append (hc.drop _)
       obtain ⟨c',aP,aD⟩:=Rm hp ps qs h3 _ _ res hrel hf
       refine ⟨c',?_,aD⟩
       simp only [Instr.fill,hp i _ cm]
       rw [if_neg (by simp [hv]; omega)]
       rw [<- aP]
       congr 1
       rw [<- Array.foldl_toList]
       simp [Array.toList_zipIdx]
theorem P0 {P:Program}:∀ (fields:List Field) (fs:List (Nat × Nat × Bool)),Fp P fields fs=true ->
 fields.mapM (fun f=>(P.info? f.type).map fun i=>(f.offset,i.size))=some (fs.map fun x=>(x.1,x.2.1))
 | [],[],_=>rfl
 | f::fields,x::fs,h=>by
   simp only [Fp,Rl,Bool.and_eq_true] at h
   obtain ⟨⟨⟨h1,h2⟩,h3⟩,h4⟩:=h
   have ih:=P0 fields fs h4
   cases hi:P.info? f.type with
   | none=>simp [hi] at h2
   | some i =>
     simp only [hi] at h2
     simp only [List.mapM_cons,hi,ih,Option.map_some,Option.bind_eq_bind,Option.bind_some,Option.pure_def,List.map_cons]
     rw [Nat.eq_of_beq_eq_true h1,Nat.eq_of_beq_eq_true h2]
 | [],_::_,h=>by simp [Fp] at h
 | _::_,[],h=>by simp [Fp] at h
theorem Qj {nx nt:Nat} (ab:Cr ι S s.tm nt nx w a.tmps):∀ (ps:List (Nat × Operand)) (as:List (Nat × AV)),Hg s.tm ps=some as ->
 Al (fun (p:Nat × Value) (q:Nat × AV)=>p.1=q.1/\Al (A9 w S ι) p.2.cells.toList q.2.cells) (ps.map fun x=>(x.1,a.eval x.2)) as/\∀ x∈as,∀ c∈x.2.cells,∀ id,c.idOf=some id->id < nx
 | [],as,h=>by simp [Hg] at h; subst h; exact ⟨trivial,fun x hx=>by cases hx⟩
 | (i,x)::ps,as,h=>by
   simp only [Hg] at h
   cases hx:Au s.tm x with
   | none=>simp [hx] at h
   | some v =>
     by_cases ht:∃ vs,v=.tup vs
     · obtain ⟨vs,rfl⟩:=ht; simp [hx] at h
     · have fG:∀ vs,v≠.tup vs:=fun vs e=>ht ⟨vs,e⟩
       cases hr:Hg s.tm ps with
       | none=>cases v <;> simp [hx,hr] at h
       | some rest =>
         have h':(i,v)::rest=as:=by cases v <;> first | exact absurd rfl (fG _) | (simpa [hx,hr] using h)
         subst h'
         have h1:=Ak ab hx
         have ih:=Qj ab ps rest hr
         refine ⟨⟨⟨rfl,h1.1.cells_rel (Jg hx) fG⟩,ih.1⟩,fun y hy=>?_⟩
         rcases List.mem_cons.1 hy with rfl | hy
         · exact L8 h1.2 fG
         · exact ih.2 y hy
theorem Ni {place:Nat->Option (Nat × Nat)}:∀ (qs:List (Nat × AV)) (cs res:List AV),H6 place cs qs=some res->∀ (P:AV->Prop),(∀ c∈cs,P c)->(∀ q∈qs,∀ c∈q.2.cells,P c)->∀ c∈res,P c
 | [],cs,res,h,P,h1,_=>by simp [H6] at h; subst h; exact h1
 | (i,q)::qs,cs,res,h,P,h1,h2=>by
   simp only [H6] at h
   cases cm:place i with
   | none=>simp [cm] at h
   | some p =>
     obtain ⟨off,size⟩:=p
     simp only [cm] at h
     cases hb:(Nat.beq q.cells.length size&&Nat.ble (off + size) cs.length) with
     | false=>simp [hb] at h
     | true =>
       rw [hb] at h
       simp only [cond_true] at h
       refine Ni qs _ res h P (fun c hc=>?_) (fun x hx=>h2 x (List.mem_cons_of_mem _ hx))
       simp only [List.mem_append] at hc
       rcases hc with (hc | hc) | hc
       · exact h1 c (List.mem_of_mem_take hc)
       · exact h2 (i,q) (List.mem_cons_self ..) c hc
       · exact h1 c (List.mem_of_mem_drop hc)
theorem a86 {fs:List (Nat × Nat × Bool)} {i:Nat} {p:Nat × Nat} (h:(match fs[i]? with | some (o,s,_)=>some (o,s) | none=>none)=some p) :
 ((fs.map fun x=>(x.1,x.2.1)).toArray)[i]?=some p:=by
 cases hf:fs[i]? with
 | none=>simp [hf] at h
 | some x=>simp [hf] at h; simp [hf,h]
theorem a1O (hT:Bg E.P tt) (t:TypeId) (ps:Array (Nat × Operand)):(Wm tt s t ps.toList).Sound E s (fun ρ=>do pure (.value (<- Instr.build t (ps.map fun (i,x)=>(i,ρ x))))):=by
 unfold Wm
 cases h:look tt t with
 | none=>trivial
 | some ti =>
   cases co:Hg s.tm ps.toList with
   | none=>trivial
   | some as =>
     simp only
     cases hf:H6 (placeOf tt ti.kind) (Dr ti) as with
     | none=>trivial
     | some cs =>
       simp only
       cases br:ti.kind.isAgg with
       | false=>trivial
       | true =>
         simp only [cond_true,C0]
         intro a w ι S hC ab
         obtain ⟨i,d,hk⟩:=hT t ti h
         obtain ⟨z,hz,dA⟩:=hk.zero
         have dB:=Qj ab ps.toList as co
         have d9:Al (A9 w S ι) z.cells.toList (Dr ti):=by rw [dA]; exact Tm hk
         have gr:∃ cells,E.P.built t (ps.map fun (x:Nat × Operand)=>(x.1,a.eval x.2)).toList=some cells/\Al (A9 w S ι) cells.toList cs:=by
          have e:(ps.map fun (x:Nat × Operand)=>(x.1,a.eval x.2)).toList=ps.toList.map fun x=>(x.1,a.eval x.2):=by simp
          rw [e]
          unfold Program.built
          simp only [hk.info,hk.under]
          have b7:=hk.kind
          cases bf:ti.kind with
          | word=>simp [bf,TK.isAgg] at br
          | slice e'=>simp [bf,TK.isAgg] at br
          | str=>simp [bf,TK.isAgg] at br
          | bool=>simp [bf,TK.isAgg] at br
          | map k' e'=>simp [bf,TK.isAgg] at br
          | struct fs =>
            rw [bf] at b7 hf
            cases d <;> simp [Cw] at b7
            rename_i fields
            simp only [hz,P0 fields.toList fs b7]
            exact Rm (fun i p hp=>a86 hp) _ as dB.1 z.cells (Dr ti) cs d9 hf
          | array n e' =>
            rw [bf] at b7 hf
            cases d <;> simp [Cw] at b7
            rename_i m e2
            obtain ⟨⟨rfl,rfl⟩,iG⟩:=b7
            cases ax:look tt e' with
            | none =>
              cases as with
              | nil =>
                obtain ⟨ie,mw⟩:=Option.isSome_iff_exists.1 iG
                simp [H6] at hf
                subst hf
                simp only [hz,mw]
                have:ps.toList=[]:=by
                 cases cm:ps.toList with
                 | nil=>rfl
                 | cons x r=>rw [cm] at dB; exact dB.1.elim
                rw [this]
                exact ⟨_,rfl,d9⟩
              | cons q qs=>obtain ⟨j,q⟩:=q; simp [H6,placeOf,ax] at hf
            | some te =>
              obtain ⟨ie,de,ed⟩:=hT e' te ax
              simp only [hz,ed.info]
              refine Rm (fun i p hp=>?_) _ as dB.1 z.cells (Dr ti) cs d9 hf
              simp only [placeOf,ax] at hp
              cases hb:Nat.blt i n with
              | false=>simp [hb] at hp
              | true=>simp [hb] at hp; rw [ed.size]; simp [hp]
         obtain ⟨cells,hb,hrel⟩:=gr
         have ar:=run_build (P:=E.P) w t (ps.map fun (x:Nat × Operand)=>(x.1,a.eval x.2)) cells hb
         refine Good.same hC (v:=.agg cells) (Ap ar) ?_ ?_
         · have:(Value.agg cells)=.agg cells.toList.toArray:=by simp
           rw [this]
           exact .one (.agg _ _ hrel)
         · exact Ni as _ cs hf (fun c=>∀ id,c.idOf=some id->id < s.nx) Ma dB.2
theorem Zo {P:Program} {ad:Addr} {v:Value} (h:w.cell? ad=some v):(load ad).run P w=.ok v w:=by
 simp [load,Sem.run,h]
theorem Addr.add_none (b o j:Nat):(⟨b,o,none⟩:Addr).add j=⟨b,o + j,none⟩:=by
 unfold Addr.add; split <;> simp_all
theorem Gj {P:Program} {t:TypeId} {ti:TI} {i:TypeInfo} {d:TypeDesc} (hk:Qi P t ti i d) {b o:Nat} {vs:List Value} {cs:List AV} {R:Value->AV->Prop} (hR:Al R vs cs)
 (hc:∀ (j:Nat) (v:Value),vs[j]?=some v->w.cell? ⟨b,o + j,none⟩=some v) {off:Nat} {x:AV} (hl:Fw ti.kind.isAgg ti.size cs off=some x) :
 ∃ v,(loadVar t ⟨b,o + off,none⟩).run P w=.ok v w/\((ti.kind.isAgg=false/\R v x)∨∃ us ys,v=.agg us.toArray/\x=.agg ys/\Al R us ys/\(∀ y∈ys,y∈cs)):=by
 cases br:ti.kind.isAgg with
 | false =>
   simp only [br,Fw] at hl
   have aa:off < vs.length:=by
    rw [hR.length]
    exact (List.getElem?_eq_some_iff.1 hl).1
   have hv:=List.getElem?_eq_getElem aa
   refine ⟨vs[off],?_,.inl ⟨rfl,hR.at hv hl⟩⟩
   have cj:=Zo (P:=P) (hc off _ hv)
   unfold loadVar
   simp only [Sem.run_bind,hk.isAgg,br,Result.andThen_ok,Bool.false_eq_true,if_false]
   exact cj
 | true =>
   simp only [br,Fw,C0] at hl
   cases hb:Nat.ble (off + ti.size) cs.length with
   | false=>simp [hb] at hl
   | true =>
     simp [hb] at hl
     have ax:=Nat.le_of_ble_eq_true hb
     have ae:=hR.length
     have hd:=(hR.drop off).take ti.size
     have hn:((vs.drop off).take ti.size).length=ti.size:=by simp; omega
     have f9:=run_loadCells_list (P:=P) w ⟨b,o + off,none⟩ ((vs.drop off).take ti.size) (fun j v hj=>by
      rw [Addr.add_none]
      rw [List.getElem?_take] at hj
      split at hj
      · rw [List.getElem?_drop] at hj
        have:=hc (off + j) v hj
        rwa [<- Nat.add_assoc] at this
      · cases hj)
     rw [hn] at f9
     refine ⟨.agg ((vs.drop off).take ti.size).toArray,?_,.inr ⟨_,_,rfl,hl.symm,hd,fun y hy=>List.mem_of_mem_drop (List.mem_of_mem_take hy)⟩⟩
     simp [loadVar,hk.isAgg,br,hk.sizeOf,f9]
theorem Ov {x:AV} {v:Value} {R:Value->AV->Prop} (hR:∀ v a,R v a->A9 w S ι v a) {cs:List AV} {q:Bool}
 (h:(q=false/\R v x)∨∃ us ys,v=.agg us.toArray/\x=.agg ys/\Al R us ys/\(∀ y∈ys,y∈cs)):Bi w S ι v x:=by
 rcases h with ⟨_,h⟩ | ⟨us,ys,rfl,rfl,h,_⟩
 · exact .one (.cell (hR _ _ h))
 · exact .one (.agg _ _ (h.mono hR))
theorem K8 {P:Program} {t:TypeId} {ad:Addr} {v:Value} (h:(loadVar t ad).run P w=.ok v w):(do pure (Next.value (<- Instr.loadAt t (.pointer (some ad)))):Sem Next).run P w=.ok (.value v) w:=by
 simp [Instr.loadAt,Instr.sureAddr,h]
theorem cells_of_block {g:Nat} {vs:List Value} {T:Nat} {fr:Nat × Nat} (h:w.heap[g]?=some (.cells vs.toArray T fr)) (j:Nat) (v:Value) (hj:vs[j]?=some v):w.cell? ⟨g,j,none⟩=some v:=by
 simp [World.cell?,h,hj]
theorem a7b {ag:Bool} {n off:Nat} {cs:List AV} {x:AV} (h:Fw ag n cs off=some x):x∈cs∨∃ ys,x=.agg ys/\∀ y∈ys,y∈cs:=by
 cases ag with
 | false=>exact .inl (List.mem_of_getElem? h)
 | true =>
   simp only [Fw,C0] at h
   cases hb:Nat.ble (off + n) cs.length with
   | false=>simp [hb] at h
   | true=>simp [hb] at h; exact .inr ⟨_,h.symm,fun y hy=>List.mem_of_mem_drop (List.mem_of_mem_take hy)⟩
theorem Db {K:Nat->Prop} {x:AV} (hx:∀ cs,x≠.agg cs) (ht:∀ cs,x≠.tup cs) (h:∀ id,x.idOf=some id->K id):x.uses K:=by
 cases x with
 | agg cs=>exact absurd rfl (hx cs)
 | tup cs=>exact absurd rfl (ht cs)
 | own id len=>exact h id rfl
 | pt id r o=>exact h id rfl
 | sb id r o l=>exact h id rfl
 | mp id=>exact h id rfl
 | clo id=>exact h id rfl
 | _=>trivial
theorem A9.not_agg {v:Value} {x:AV} (h:A9 w S ι v x):(∀ cs,x≠.agg cs)/\∀ cs,x≠.tup cs:=by
 cases h with
 | rd h=>cases h <;> exact ⟨fun _ e=>(by cases e),fun _ e=>(by cases e)⟩
 | _=>exact ⟨fun _ e=>(by cases e),fun _ e=>(by cases e)⟩
theorem Rd.noid {v:Value} {x:AV} (h:Rd w S v x):x.idOf=none:=by cases h <;> rfl
theorem I3 {α:Type} {s:Nat}:∀ (rows:List (List α)) (k:Nat),(∀ r∈rows,r.length=s)->rows.flatten.drop (k * s)=(rows.drop k).flatten
 | [],k,_=>by simp
 | r::rows,0,_=>by simp
 | r::rows,k + 1,h=>by
   have hr:=h r (List.mem_cons_self ..)
   rw [List.flatten_cons,Nat.add_mul,Nat.one_mul,Nat.add_comm,<- List.drop_drop,List.drop_left' hr,List.drop_succ_cons]
   exact I3 rows k fun r' aD=>h r' (List.mem_cons_of_mem _ aD)
theorem Ke {α:Type} {s:Nat} (rows:List (List α)) (k:Nat) (h:∀ r∈rows,r.length=s) (hk:k < rows.length):(rows.flatten.drop (k * s)).take s=rows.getD k []:=by
 rw [I3 rows k h,List.drop_eq_getElem_cons hk,List.flatten_cons]
 have:=h rows[k] (List.getElem_mem hk)
 rw [List.take_left' this]
 simp [List.getD_eq_getElem?_getD,hk]
theorem Ay {α:Type} {s:Nat}:∀ (rows:List (List α)),(∀ r∈rows,r.length=s)->rows.flatten.length=rows.length * s
 | [],_=>by simp
 | r::rows,h=>by
   rw [List.flatten_cons,List.length_append,h r (List.mem_cons_self ..),Ay rows fun r' aD=>h r' (List.mem_cons_of_mem _ aD),List.length_cons,Nat.add_mul,Nat.one_mul,Nat.add_comm]
theorem rows_at {R:Value->AV->Prop} {rows:List (List AV)} {vs:List Value} {s row:Nat} (hu:∀ r∈rows,r.length=s) (hl:rows.length * s<=vs.length) (hr:row < rows.length)
 (hc:∀ (i:Nat) (v:Value) (a:AV),vs[i]?=some v->rows.flatten[i]?=some a->R v a):Al R ((vs.drop (row * s)).take s) (rows.getD row []):=by
 rw [<- Ke rows row hu hr]
 have h1:row * s + s<=rows.length * s:=by
  have:=Nat.mul_le_mul_right s (Nat.succ_le_of_lt hr)
  rwa [Nat.succ_mul] at this
 refine Al.of ?_ fun i v a hv ha=>?_
 · simp only [List.length_take,List.length_drop,Ay rows hu]; omega
 · rw [List.getElem?_take] at hv ha
   split at hv
   · rename_i hi
     rw [if_pos hi] at ha
     rw [List.getElem?_drop] at hv ha
     exact hc _ v a hv ha
   · cases hv
theorem a1P (hT:Bg E.P tt) (t:TypeId) (ti:TI) (cp:look tt t=some ti) (p:AV) (x:Operand) (hx:Au s.tm x=some p) :
 (L2 s ti.kind.isAgg ti.size p).Sound E s (fun ρ=>do pure (.value (<- Instr.loadAt t (ρ x)))):=by
 obtain ⟨i,d,hk⟩:=hT t ti cp
 cases p with
 | pt id row off =>
   simp only [L2]
   cases ho:look s.hp id with
   | none=>trivial
   | some o =>
     cases o with
     | map _ _=>trivial
     | ranged _ _ _=>trivial
     | clo _ _ _=>trivial
     | box cs =>
       have mainB:∀ (av:AV) (hl:Fw ti.kind.isAgg ti.size cs off=some av) (a:Act) (w:World) (ι:Loc) (S:Nat->Prop),Core E ι S s.hp s.nx w->Cr ι S s.tm E.nt s.nx w a.tmps ->
        Good E s ((do pure (.value (<- Instr.loadAt t (a.eval x))):Sem Next).run E.P w) w ι S av s.hp s.nx:=by
        intro av hl a w ι S hC ab
        obtain ⟨hid,bG,an⟩:=hC.obj id _ ho
        have hv:=(Ak ab hx).1
        cases an with
        | box g c sz T cs vs h h0 hw hc =>
          subst h0
          have cK:a.eval x=.pointer (some ⟨g,0 + off,none⟩):=by
           obtain ⟨g',c',s',h',e⟩:=hv.pt_inv
           rw [h] at h'; simp at h'; obtain ⟨rfl,_,rfl⟩:=h'; simpa using e
          obtain ⟨v,hr,hrel⟩:=Gj (b:=g) (o:=0) hk hc (fun j v hj=>by rw [Nat.zero_add]; exact cells_of_block hw j v hj) hl
          refine Good.same hC (by rw [cK]; exact K8 hr) (Ov (fun _ _ h=>h) hrel) ?_
          rcases hrel with ⟨_,hrel⟩ | ⟨us,ys,rfl,rfl,hrel,bL⟩
          · rcases a7b hl with hm | ⟨ys,rfl,_⟩
            · exact Db hrel.not_agg.1 hrel.not_agg.2 (bG _ hm)
            · exact absurd rfl (hrel.not_agg.1 _)
          · exact fun y hy id hi=>bG y (bL y hy) id hi
       cases row with
       | zero =>
         simp only
         cases hl:Fw ti.kind.isAgg ti.size cs off with
         | none=>trivial
         | some av=>exact mainB av hl
       | succ row =>
         simp only
         cases br:ti.kind.isAgg with
         | true=>trivial
         | false =>
           intro aa
           rw [br] at mainB
           exact mainB _ (by simp [Fw,List.getD_eq_getElem?_getD,List.getElem?_eq_getElem aa])
     | @nest b0 e sz rows =>
       simp only
       cases br:ti.kind.isAgg with
       | true =>
         simp only
         cases hb:Nat.ble (off + ti.size) sz with
         | false=>trivial
         | true =>
           simp only [cond_true]
           rintro ⟨aa,bM⟩ a w ι S hC ab
           obtain ⟨hid,bG,an⟩:=hC.obj id _ ho
           have hv:=(Ak ab hx).1
           cases an with
           | nest0=>simp at aa
           | nest g cap _ _ _ vs h hs hr ax hm hw hn hc =>
             obtain ⟨g',c',s2,h',cK⟩:=hv.pt_inv
             rw [h] at h'; simp at h'; obtain ⟨rfl,rfl,rfl⟩:=h'
             have aV:rows.length * sz<=vs.length:=by rw [hn]; exact Nat.mul_le_mul_right _ ax
             have hR:=rows_at (R:=fun v a=>((b0=false/\A9 w S ι v a)/\a∈rows.flatten)∨∃ k,Tr w S ι k v a) hr aV aa (fun i v a hv ha=>(hc i v a hv ha).imp (fun h=>⟨h,List.mem_of_getElem? ha⟩) (fun h=>⟨_,h⟩))
             have h1:(rows.getD row []).length=sz:=by
              have:rows.getD row []=rows[row]:=by simp [List.getD_eq_getElem?_getD,aa]
              rw [this]; exact hr _ (List.getElem_mem aa)
             have iH:Al (fun v y=>A9 w S ι v y/\∀ id,y.idOf=some id->id < s.nx) ((vs.drop (row * sz)).take sz) (rows.getD row []):=Al.of hR.length fun i v y hv hy=>by
              have jN:=List.all_eq_true.1 bM y (List.mem_of_getElem? hy)
              rcases hR.at hv hy with ⟨⟨im,h⟩,jO⟩ | ⟨k,h⟩
              · exact ⟨h,fun id e=>bG im y jO id e⟩
              · cases h with
                | rd h=>exact ⟨.rd h,fun id e=>by rw [h.noid] at e; cases e⟩
                | _=>simp [a1H] at jN
             obtain ⟨v,ar,hrel⟩:=Gj (w:=w) (b:=g) (o:=row * sz) (off:=off) (x:=.agg (((rows.getD row []).drop off).take ti.size)) hk iH (fun j v hj=>by
              rw [List.getElem?_take] at hj
              split at hj
              · rw [List.getElem?_drop] at hj; exact cells_of_block hw _ v hj
              · cases hj) (by simp only [br,Fw,C0]; rw [h1,hb]; rfl)
             refine Good.same hC (by show (do pure (Next.value (<- Instr.loadAt t (a.eval x))):Sem Next).run E.P w=_; rw [cK]; exact K8 ar) (Ov (R:=fun v y=>A9 w S ι v y/\∀ id,y.idOf=some id->id < s.nx) (fun _ _ h=>h.1) hrel) ?_
             rcases hrel with ⟨_,hrel⟩ | ⟨us,ys,rfl,e2,hrel,bL⟩
             · exact absurd rfl (hrel.1.not_agg.1 _)
             · rw [e2]
               intro y hy id hi
               obtain ⟨i,fm⟩:=List.getElem?_of_mem hy
               have jP:=(List.getElem?_eq_some_iff.1 fm).1
               exact (hrel.at (List.getElem?_eq_getElem (by rw [hrel.length]; exact jP)) fm).2 id hi
       | false =>
         simp only
         cases hb:Nat.blt off sz with
         | false=>trivial
         | true =>
           simp only [cond_true]
           rintro ⟨aa,bM⟩ a w ι S hC ab
           obtain ⟨hid,bG,an⟩:=hC.obj id _ ho
           have hv:=(Ak ab hx).1
           cases an with
           | nest0=>simp at aa
           | nest g cap _ _ _ vs h hs hr ax hm hw hn hc =>
             obtain ⟨g',c',s2,h',cK⟩:=hv.pt_inv
             rw [h] at h'; simp at h'; obtain ⟨rfl,rfl,rfl⟩:=h'
             have aV:rows.length * sz<=vs.length:=by rw [hn]; exact Nat.mul_le_mul_right _ ax
             have hR:=rows_at (R:=fun v a=>((b0=false/\A9 w S ι v a)/\a∈rows.flatten)∨∃ k,Tr w S ι k v a) hr aV aa (fun i v a hv ha=>(hc i v a hv ha).imp (fun h=>⟨h,List.mem_of_getElem? ha⟩) (fun h=>⟨_,h⟩))
             have h1:(rows.getD row []).length=sz:=by
              have:rows.getD row []=rows[row]:=by simp [List.getD_eq_getElem?_getD,aa]
              rw [this]; exact hr _ (List.getElem_mem aa)
             have h2:off < sz:=Nat.le_of_ble_eq_true hb
             have hl:(rows.getD row [])[off]?=some ((rows.getD row []).getD off .junk):=by
              generalize rows.getD row []=l at h1 ⊢
              simp [List.getD_eq_getElem?_getD,List.getElem?_eq_getElem (show off < l.length by omega)]
             generalize (rows.getD row []).getD off .junk=y at *
             have good:∀ v,(((b0=false/\A9 w S ι v y)/\y∈rows.flatten)∨∃ k,Tr w S ι k v y)->A9 w S ι v y/\∀ id,y.idOf=some id->id < s.nx:=by
              rintro v (⟨⟨im,h⟩,jO⟩ | ⟨k,h⟩)
              · exact ⟨h,fun id e=>bG im y jO id e⟩
              · cases h with
                | rd h=>exact ⟨.rd h,fun id e=>by rw [h.noid] at e; cases e⟩
                | _=>simp [a1H] at bM
             obtain ⟨v,ar,hrel⟩:=Gj (w:=w) (b:=g) (o:=row * sz) (off:=off) (x:=y) hk hR (fun j v hj=>by
              rw [List.getElem?_take] at hj
              split at hj
              · rw [List.getElem?_drop] at hj; exact cells_of_block hw _ v hj
              · cases hj) (by simp only [br,Fw]; exact hl)
             rcases hrel with ⟨_,hrel⟩ | ⟨us,ys,rfl,rfl,hrel,bL⟩
             · obtain ⟨k1,k2⟩:=good v hrel
               exact Good.same hC (by show (do pure (Next.value (<- Instr.loadAt t (a.eval x))):Sem Next).run E.P w=_; rw [cK]; exact K8 ar) (.one (.cell k1)) (Db k1.not_agg.1 k1.not_agg.2 k2)
             · exfalso
               obtain ⟨v',aY⟩:∃ v',((vs.drop (row * sz)).take sz)[off]?=some v':=⟨_,List.getElem?_eq_getElem (by rw [hR.length,h1]; exact h2)⟩
               exact (good v' (hR.at aY hl)).1.not_agg.1 _ rfl
     | list e sz rows =>
       have main:∀ (aa:row < rows.length) (av:AV) (hl:Fw ti.kind.isAgg ti.size (rows.getD row []) off=some av) (a:Act) (w:World) (ι:Loc) (S:Nat->Prop),Core E ι S s.hp s.nx w->Cr ι S s.tm E.nt s.nx w a.tmps ->
        Good E s ((do pure (.value (<- Instr.loadAt t (a.eval x))):Sem Next).run E.P w) w ι S av s.hp s.nx:=by
        intro aa av hl a w ι S hC ab
        obtain ⟨hid,bG,an⟩:=hC.obj id _ ho
        have hv:=(Ak ab hx).1
        cases an with
        | nil e s' h hs=>simp at aa
        | list g cap e s' rows vs h hs hr ax hm hw hn hc =>
          obtain ⟨g',c',s2,h',cK⟩:=hv.pt_inv
          rw [h] at h'; simp at h'; obtain ⟨rfl,rfl,rfl⟩:=h'
          have aV:rows.length * sz<=vs.length:=by rw [hn]; exact Nat.mul_le_mul_right _ ax
          have hR:=rows_at hr aV aa hc
          obtain ⟨v,ar,hrel⟩:=Gj (w:=w) (b:=g) (o:=row * sz) hk hR (fun j v hj=>by
           rw [List.getElem?_take] at hj
           split at hj
           · rw [List.getElem?_drop] at hj; exact cells_of_block hw _ v hj
           · cases hj) hl
          refine Good.same hC (by rw [cK]; exact K8 ar) (Ov (fun _ _ h=>.rd h) hrel) ?_
          rcases hrel with ⟨_,hrel⟩ | ⟨us,ys,rfl,rfl,hrel,bL⟩
          · exact Db (A9.not_agg (ι:=ι) (.rd hrel)).1 (A9.not_agg (ι:=ι) (.rd hrel)).2 (fun id hi=>by rw [hrel.noid] at hi; cases hi)
          · exact fun y hy id hi=>by rw [hrel.notid y hy] at hi; cases hi
       have ae:∀ (a:Act) (w:World) (ι:Loc) (S:Nat->Prop),Core E ι S s.hp s.nx w->row < rows.length->(rows.getD row []).length=sz:=by
        intro a w ι S hC aa
        obtain ⟨_,_,an⟩:=hC.obj id _ ho
        cases an with
        | nil e s' h hs=>simp at aa
        | list g cap e s' rows vs h hs hr ax hm hw hn hc =>
          have:rows.getD row []=rows[row]:=by simp [List.getD_eq_getElem?_getD,aa]
          rw [this]; exact hr _ (List.getElem_mem aa)
       cases br:ti.kind.isAgg with
       | true =>
         simp only
         cases hb:Nat.ble (off + ti.size) sz with
         | false=>trivial
         | true =>
           simp only [cond_true]
           intro aa a w ι S hC ab
           refine main aa _ ?_ a w ι S hC ab
           simp only [br,Fw,C0]
           rw [ae a w ι S hC aa,hb]; rfl
       | false =>
         simp only
         cases hb:Nat.blt off sz with
         | false=>trivial
         | true =>
           simp only [cond_true]
           intro aa a w ι S hC ab
           refine main aa _ ?_ a w ι S hC ab
           simp only [br,Fw]
           have h1:=ae a w ι S hC aa
           have h2:off < sz:=Nat.le_of_ble_eq_true hb
           generalize rows.getD row []=l at h1 ⊢
           simp [List.getD_eq_getElem?_getD,List.getElem?_eq_getElem (show off < l.length by omega)]
 | rp cs =>
   simp only [L2]
   cases hl:Fw ti.kind.isAgg ti.size cs 0 with
   | none=>trivial
   | some av =>
     intro a w ι S hC ab
     have hv:=(Ak ab hx).1
     obtain ⟨b,off,vs,cK,_,hR,aA⟩:=hv.rp_inv
     obtain ⟨v,hr,hrel⟩:=Gj (off:=0) hk hR aA hl
     refine Good.same hC (by dsimp only; rw [cK]; exact K8 hr) (Ov (fun _ _ h=>.rd h) hrel) ?_
     rcases hrel with ⟨_,hrel⟩ | ⟨us,ys,rfl,rfl,hrel,bL⟩
     · exact Db (A9.not_agg (ι:=ι) (.rd hrel)).1 (A9.not_agg (ι:=ι) (.rd hrel)).2 (fun id hi=>by rw [hrel.noid] at hi; cases hi)
     · exact fun y hy id hi=>by rw [hrel.notid y hy] at hi; cases hi
 | _=>trivial
theorem a1Q (hT:Bg E.P tt) (t:TypeId) (x:Operand):(Tg tt s t x).Sound E s (fun ρ=>do pure (.value (<- Instr.loadAt t (ρ x)))):=by
 unfold Tg
 cases cp:look tt t with
 | none=>trivial
 | some ti =>
   cases hx:Au s.tm x with
   | none=>trivial
   | some p=>exact a1P hT t ti cp p x hx
theorem Core.set (hC:Core E ι S s.hp s.nx w) {id g c sz:Nat} {o o':A2} {T:Nat} {old new:List Value} (ho:look s.hp id=some o) (hg:ι id=some (.blk g c sz)) (hw:w.heap[g]?=some (.cells old.toArray T (0,0)))
 (bY:Bp (w.setRow g new.toArray) S ι id o') (hu:o'.uses (· < s.nx)) :
 Core E ι S ((id,o')::s.hp) s.nx (w.setRow g new.toArray)/\Later w (w.setRow g new.toArray) S S ι ι (· < s.nx):=by
 have hS:∀ b,S b->b≠g:=fun b hb e=>hC.dis b hb ⟨id,c,sz,e ▸ hg⟩
 have hL:∀ K,Later w (w.setRow g new.toArray) S S ι ι K:=fun K=>⟨fun b hb=>⟨hb,setRow_other w g b _ (hS b hb)⟩,fun _ _ _ h=>h⟩
 refine ⟨⟨?_,hC.sub,fun b hb=>by simpa using hC.lt b hb,hC.dis,fun i g' c' s' h=>by simpa using hC.own i g' c' s' h,hC.inj,hC.new,?_,hC.stay,hC.fxs⟩,hL _⟩
 · refine hC.frame.trans (D':=fun b=>b=g) ⟨rfl,rfl,rfl,by simp,fun b _ hn=>setRow_other w g b _ hn⟩ ?_
   rintro b hb rfl
   rcases (hC.own id b c sz hg).2 with h | h
   · omega
   · exact h
 · intro i oi h
   rw [Aj] at h
   split at h
   · rename_i e
     subst e
     simp at h
     subst h
     exact ⟨(hC.obj id o ho).1,hu,bY⟩
   · rename_i aj
     obtain ⟨h1,h2,h3⟩:=hC.obj i oi h
     refine ⟨h1,h2,h3.mono (hL (fun _=>True)) trivial (by cases oi <;> simp [A2.uses]) (fun _ _ _ _ h=>h) (fun k g' c' s' hk dk=>setRow_other w g g' _ (fun e=>aj ?_))⟩
     subst e
     have:=hC.inj id k g' c c' sz s' hg dk
     rw [<- hk,<- this]
theorem K9 {v:Value} {x:AV} (h:A9 w S ι v x) (hp:Dw x=true):Rd w S v x:=by
 cases h with
 | rd h=>exact h
 | _=>simp [Dw] at hp
theorem G2 {P:Program} {g o T:Nat} {old news:List Value} (hw:w.heap[g]?=some (.cells old.toArray T (0,0))) (hl:o + news.length<=old.length) (h1:∀ v∈news,v.oneCell'=true) :
 (storeCells ⟨g,o,none⟩ news).run P w=.ok () (w.setRow g (old.take o++news++old.drop (o + news.length)).toArray):=by
 have:=run_storeCells_at (P:=P) g o T news 0 old.toArray w hw (by simpa using hl) h1
 simpa using this
theorem Qk {P:Program} {t:TypeId} {ti:TI} {i:TypeInfo} {d:TypeDesc} (hk:Qi P t ti i d) {ad:Addr} {v:Value} {w':World} (hs:v.cells.size=ti.size) (h:(storeCells ad v.cells.toList).run P w=.ok () w') :
 (do (Instr.storeAt t (.pointer (some ad)) v:Sem Unit); pure Next.skip:Sem Next).run P w=.ok .skip w':=by
 simp [Instr.storeAt,Instr.sureAddr,storeVar,hk.sizeOf,hs,h]
theorem H9 {vs:List Value} {cs:List AV} (h:Al (A9 w S ι) vs cs):∀ v∈vs,v.oneCell'=true:=by
 intro v hv
 obtain ⟨i,hi,e⟩:=List.mem_iff_getElem.1 hv
 have h1:vs[i]?=some v:=by rw [List.getElem?_eq_getElem hi,e]
 have aQ:i < cs.length:=by rw [<- h.length]; exact hi
 exact (h.at h1 (List.getElem?_eq_getElem aQ)).one
theorem Hi {α:Type} {s:Nat}:∀ (rows:List (List α)) (k:Nat) (r:List α),(∀ x∈rows,x.length=s)->k < rows.length->r.length=s ->
 (rows.set k r).flatten=rows.flatten.take (k * s)++r++rows.flatten.drop (k * s + s)
 | [],k,r,_,hk,_=>by simp at hk
 | x::rows,0,r,h,_,hr=>by
   have hx:=h x (List.mem_cons_self ..)
   simp [List.drop_left' hx]
 | x::rows,k + 1,r,h,hk,hr=>by
   have hx:=h x (List.mem_cons_self ..)
   have ih:=Hi rows k r (fun y hy=>h y (List.mem_cons_of_mem _ hy)) (by simpa using hk) hr
   have t1:(x++rows.flatten).take (k * s + s)=x++rows.flatten.take (k * s):=by
    rw [show k * s + s=x.length + k * s from by omega,List.take_length_add_append]
   have t2:(x++rows.flatten).drop (k * s + s + s)=rows.flatten.drop (k * s + s):=by
    rw [show k * s + s + s=x.length + (k * s + s) from by omega,List.drop_length_add_append]
   rw [List.set_cons_succ,List.flatten_cons,ih,List.flatten_cons,Nat.add_mul,Nat.one_mul,t1,t2]
   simp [List.append_assoc]
theorem Ws {α:Type} (l b:List α) (k s off n:Nat) (hs:off + n<=s) (hl:k + s<=l.length) :
 l.take k++(((l.drop k).take s).take off++b++((l.drop k).take s).drop (off + n))++l.drop (k + s)=l.take (k + off)++b++l.drop (k + off + n):=by
 have e1:l.take (k + off)=l.take k++(l.drop k).take off:=by rw [List.take_add]
 have e2:((l.drop k).take s).drop (off + n)++l.drop (k + s)=l.drop (k + off + n):=by
  rw [List.drop_take,List.drop_drop]
  have:l.drop (k + s)=(l.drop (k + (off + n))).drop (s - (off + n)):=by rw [List.drop_drop]; congr 1; omega
  rw [this,List.take_append_drop]
  congr 1; omega
 rw [e1,List.take_take,Nat.min_eq_left (by omega),<- e2]
 simp [List.append_assoc]
theorem a7c {α β:Type} {R:α->β->Prop} {vs u:List α} {fl b:List β} {n m:Nat} (hc:∀ (i:Nat) (v:α) (a:β),vs[i]?=some v->fl[i]?=some a->R v a) (hu:Al R u b) (h1:n<=vs.length) (h2:n<=fl.length) :
 ∀ (j:Nat) (y:α) (z:β),(vs.take n++u++vs.drop m)[j]?=some y->(fl.take n++b++fl.drop m)[j]?=some z->R y z:=by
 intro j y z hy hz
 have hl:=hu.length
 have l1:(vs.take n).length=n:=by simp; omega
 have l2:(fl.take n).length=n:=by simp; omega
 rw [List.append_assoc] at hy hz
 by_cases hj:j < n
 · rw [List.getElem?_append_left (by omega),List.getElem?_take,if_pos hj] at hy hz
   exact hc j y z hy hz
 · rw [List.getElem?_append_right (by omega)] at hy hz
   rw [l1] at hy
   rw [l2] at hz
   by_cases gs:j - n < u.length
   · rw [List.getElem?_append_left (by omega)] at hy hz
     exact hu.at hy hz
   · rw [List.getElem?_append_right (by omega),List.getElem?_drop] at hy hz
     rw [hl] at hy
     exact hc _ y z hy hz
theorem a4P {α β:Type} {R:Nat->α->β->Prop} {vs u:List α} {fl b:List β} {n m:Nat} (hc:∀ (i:Nat) (v:α) (a:β),vs[i]?=some v->fl[i]?=some a->R i v a) (hu:∀ (i:Nat) (v:α) (a:β),u[i]?=some v->b[i]?=some a->R (n + i) v a) (hl:u.length=b.length) (hm:m=n + u.length) (h1:n<=vs.length) (h2:n<=fl.length) :
 ∀ (j:Nat) (y:α) (z:β),(vs.take n++u++vs.drop m)[j]?=some y->(fl.take n++b++fl.drop m)[j]?=some z->R j y z:=by
 intro j y z hy hz
 have l1:(vs.take n).length=n:=by simp; omega
 have l2:(fl.take n).length=n:=by simp; omega
 rw [List.append_assoc] at hy hz
 by_cases hj:j < n
 · rw [List.getElem?_append_left (by omega),List.getElem?_take,if_pos hj] at hy hz
   exact hc j y z hy hz
 · rw [List.getElem?_append_right (by omega)] at hy hz
   rw [l1] at hy
   rw [l2] at hz
   by_cases gs:j - n < u.length
   · rw [List.getElem?_append_left (by omega)] at hy hz
     have:=hu (j - n) y z hy hz
     rwa [show n + (j - n)=j by omega] at this
   · rw [List.getElem?_append_right (by omega),List.getElem?_drop] at hy hz
     rw [hl] at hy
     have:=hc _ y z hy hz
     rwa [show m + (j - n - b.length)=j by omega] at this
theorem Zp (hT:Bg E.P tt) (t:TypeId) (ti:TI) (cp:look tt t=some ti) (p b:AV) (hb:∀ vs,b≠.tup vs) (x v:Operand) (hx:Au s.tm x=some p) (hv:Au s.tm v=some b) :
 (Ol s ti.size b p).Sound E s (fun ρ=>do (Instr.storeAt t (ρ x) (ρ v):Sem Unit); pure .skip):=by
 obtain ⟨i,d,hk⟩:=hT t ti cp
 cases p with
 | pt id row off =>
   simp only [Ol]
   cases ho:look s.hp id with
   | none=>trivial
   | some o =>
     cases o with
     | map _ _=>trivial
     | ranged _ _ _=>trivial
     | clo _ _ _=>trivial
     | box cs =>
       have mainB:b.cells.length=ti.size->off + ti.size<=cs.length->∀ (a:Act) (w:World) (ι:Loc) (S:Nat->Prop),Core E ι S s.hp s.nx w->Cr ι S s.tm E.nt s.nx w a.tmps ->
        ∃ w' ι' S',((do (Instr.storeAt t (a.eval x) (a.eval v):Sem Unit); pure .skip):Sem Next).run E.P w=.ok .skip w'/\Core E ι' S' ((id,.box (cs.take off++b.cells++cs.drop (off + ti.size)))::s.hp) s.nx w'/\s.nx<=s.nx/\Later w w' S S' ι ι' (· < s.nx):=by
        intro ee fo a w ι S hC ab
        obtain ⟨hid,bG,an⟩:=hC.obj id _ ho
        have ga:=(Ak ab hx).1
        have fH:=Ak ab hv
        cases an with
        | box g c sz T cs vs h h0 hw hc =>
          subst h0
          obtain ⟨g',c',s',h',cK⟩:=ga.pt_inv
          rw [h] at h'; simp at h'; obtain ⟨rfl,_,rfl⟩:=h'
          have aR:=fH.1.cells_rel (Jg hv) hb
          have ao:(a.eval v).cells.toList.length=ti.size:=by rw [aR.length,ee]
          have ak:=G2 (P:=E.P) (o:=off) hw (news:=(a.eval v).cells.toList) (by rw [ao,hc.length]; exact fo) (H9 aR)
          rw [ao] at ak
          have hrel:Al (A9 w S ι) (vs.take off++(a.eval v).cells.toList++vs.drop (off + ti.size)) (cs.take off++b.cells++cs.drop (off + ti.size)):=((hc.take off).append aR).append (hc.drop _)
          have hu:∀ y∈cs.take off++b.cells++cs.drop (off + ti.size),∀ id,y.idOf=some id->id < s.nx:=by
           intro y hy
           simp only [List.mem_append] at hy
           rcases hy with (hy | hy) | hy
           · exact bG y (List.mem_of_mem_take hy)
           · exact L8 fH.2 hb y hy
           · exact bG y (List.mem_of_mem_drop hy)
          have hS:∀ b,S b->b≠g:=fun b hb e=>hC.dis b hb ⟨id,c,0,e ▸ h⟩
          have hL:∀ K new,Later w (w.setRow g new) S S ι ι K:=fun K new=>⟨fun b hb=>⟨hb,setRow_other w g b _ (hS b hb)⟩,fun _ _ _ h=>h⟩
          have:=hC.set (new:=vs.take off++(a.eval v).cells.toList++vs.drop (off + ti.size)) ho h hw (.box g c 0 T _ _ h rfl (setRow_heap w g _ _ T _ hw) (Al.of hrel.length fun i y z hy hz=>(hrel.at hy hz).mono (hL (fun _=>True) _) (fun _ _=>trivial))) hu
          refine ⟨_,ι,S,?_,this.1,Nat.le_refl _,this.2⟩
          rw [cK]
          refine Qk hk (by simpa using ao) ?_
          simpa using ak
       cases row with
       | zero =>
         simp only
         cases hq:(Nat.beq b.cells.length ti.size&&Nat.ble (off + ti.size) cs.length) with
         | false=>trivial
         | true =>
           simp only [cond_true,C0]
           simp only [Bool.and_eq_true] at hq
           exact mainB (Nat.eq_of_beq_eq_true hq.1) (Nat.le_of_ble_eq_true hq.2)
       | succ row =>
         simp only
         cases hq:Nat.beq b.cells.length ti.size with
         | false=>trivial
         | true=>exact fun fo=>mainB (Nat.eq_of_beq_eq_true hq) fo
     | @nest b0 e sz rows =>
       simp only
       cases hq:(Nat.beq b.cells.length ti.size&&Nat.ble (off + ti.size) sz&&b.cells.all Pz) with
       | false=>trivial
       | true =>
         simp only [cond_true]
         simp only [Bool.and_eq_true] at hq
         have ee:=Nat.eq_of_beq_eq_true hq.1.1
         have fo:=Nat.le_of_ble_eq_true hq.1.2
         intro aa a w ι S hC ab
         obtain ⟨hid,bG,an⟩:=hC.obj id _ ho
         have ga:=(Ak ab hx).1
         have fH:=Ak ab hv
         cases an with
         | nest0 e s' h hs=>simp at aa
         | nest g cap e s' rows vs h hs hr ax hm hw hn hc =>
           obtain ⟨g',c',s',h',cK⟩:=ga.pt_inv
           rw [h] at h'; simp at h'; obtain ⟨rfl,rfl,rfl⟩:=h'
           have aR:=fH.1.cells_rel (Jg hv) hb
           have ao:(a.eval v).cells.toList.length=ti.size:=by rw [aR.length,ee]
           have aV:row * sz + sz<=rows.length * sz:=by
            have:=Nat.mul_le_mul_right sz (Nat.succ_le_of_lt aa)
            rwa [Nat.succ_mul] at this
           have iI:rows.length * sz<=cap * sz:=Nat.mul_le_mul_right _ ax
           have ak:=G2 (P:=E.P) (o:=row * sz + off) hw (news:=(a.eval v).cells.toList) (by rw [ao,hn]; omega) (H9 aR)
           rw [ao] at ak
           have hS:∀ b,S b->b≠g:=fun b hb e=>hC.dis b hb ⟨id,cap,sz,e ▸ h⟩
           have am:(rows.getD row []).length=sz:=by
            have:rows.getD row []=rows[row]:=by simp [List.getD_eq_getElem?_getD,aa]
            rw [this]; exact hr _ (List.getElem_mem aa)
           have bg:((rows.getD row []).take off++b.cells++(rows.getD row []).drop (off + ti.size)).length=sz:=by
            simp only [List.length_append,List.length_take,List.length_drop,am,ee]; omega
           have cx:=Hi rows row _ hr aa bg
           have bh:rows.flatten.length=rows.length * sz:=Ay rows hr
           have jZ:=Ke rows row hr aa
           have iJ:(rows.set row ((rows.getD row []).take off++b.cells++(rows.getD row []).drop (off + ti.size))).flatten=rows.flatten.take (row * sz + off)++b.cells++rows.flatten.drop (row * sz + off + ti.size):=by
            rw [cx,<- jZ,Ws rows.flatten b.cells (row * sz) sz off ti.size fo (by omega)]
           have hL:∀ new,Later w (w.setRow g new) S S ι ι (fun _=>True):=fun new=>⟨fun b hb=>⟨hb,setRow_other w g b _ (hS b hb)⟩,fun _ _ _ h=>h⟩
           have:=hC.set (o':=.nest (c:=b0&&b.cells.all Dw) e sz (rows.set row ((rows.getD row []).take off++b.cells++(rows.getD row []).drop (off + ti.size)))) (new:=vs.take (row * sz + off)++(a.eval v).cells.toList++vs.drop (row * sz + off + ti.size)) ho h hw
            (.nest g cap e sz _ _ h hs (fun r aD=>by
              rcases List.mem_or_eq_of_mem_set aD with aD | rfl
              · exact hr r aD
              · exact bg) (by simpa using ax) hm (setRow_heap w g _ _ e _ hw) (by simp only [List.length_append,List.length_take,List.length_drop,ao,hn]; omega) (by
              intro j y z hy hz
              rw [iJ] at hz
              have:=a4P (R:=fun j y z=>((b0&&b.cells.all Dw)=false/\A9 w S ι y z)∨Tr w S ι ⟨id,[j]⟩ y z) (n:=row * sz + off) (m:=row * sz + off + ti.size) (fun i v a hv ha=>(hc i v a hv ha).imp (fun h=>⟨by rw [h.1]; rfl,h.2⟩) fun h=>h) (fun i v a hv ha=>by
               cases cm:b.cells.all Dw with
               | false=>exact .inl ⟨by simp,aR.at hv ha⟩
               | true=>exact .inr (.rd (K9 (aR.at hv ha) (List.all_eq_true.1 cm a (List.mem_of_getElem? ha))))) aR.length (by rw [ao]) (by rw [hn]; omega) (by omega) j y z hy hz
              rcases this with ⟨im,hx⟩ | hx
              · exact .inl ⟨im,hx.mono (hL _) fun _ _=>trivial⟩
              · exact .inr (hx.monoC (fun k=>k.id=id/\k.path≠[]) (fun k x hk=>⟨hk.1,by simp⟩) (hL _).rd (fun _ _ _ h=>h) (fun k g' c' s' hk dk=>setRow_other w g g' _ (fun e'=>by
                 subst e'
                 have:=hC.inj k ⟨id,[]⟩ g' _ _ _ _ dk h
                 exact hk.2 (by rw [this]))) ⟨rfl,by simp⟩))) (by
              intro im c bp i hi
              rw [iJ] at bp
              simp only [List.mem_append] at bp
              have old:∀ c∈rows.flatten,∀ i,c.idOf=some i->i < s.nx:=fun c bp i hi=>by
               cases bO:b0 with
               | false=>exact bG bO c bp i hi
               | true =>
                 obtain ⟨k,ck⟩:=List.mem_iff_getElem?.1 bp
                 have aw:k < rows.flatten.length:=(List.getElem?_eq_some_iff.1 ck).1
                 rcases hc k _ c (List.getElem?_eq_getElem (show k < vs.length by rw [hn]; omega)) ck with ⟨h0,_⟩ | hx
                 · rw [bO] at h0; cases h0
                 · rw [hx.noId] at hi; cases hi
              rcases bp with (bp | bp) | bp
              · exact old c (List.mem_of_mem_take bp) i hi
              · exact L8 fH.2 hb c bp i hi
              · exact old c (List.mem_of_mem_drop bp) i hi)
           refine ⟨_,ι,S,?_,this.1,Nat.le_refl _,this.2⟩
           dsimp only
           rw [cK]
           refine Qk hk (by simpa using ao) ?_
           simpa using ak
     | list e sz rows =>
       simp only
       cases hq:(Nat.beq b.cells.length ti.size&&Nat.ble (off + ti.size) sz&&b.cells.all Dw) with
       | false=>trivial
       | true =>
         simp only [cond_true]
         simp only [Bool.and_eq_true] at hq
         have ee:=Nat.eq_of_beq_eq_true hq.1.1
         have fo:=Nat.le_of_ble_eq_true hq.1.2
         intro aa a w ι S hC ab
         obtain ⟨hid,bG,an⟩:=hC.obj id _ ho
         have ga:=(Ak ab hx).1
         have fH:=Ak ab hv
         cases an with
         | nil e s' h hs=>simp at aa
         | list g cap e s' rows vs h hs hr ax hm hw hn hc =>
           obtain ⟨g',c',s',h',cK⟩:=ga.pt_inv
           rw [h] at h'; simp at h'; obtain ⟨rfl,rfl,rfl⟩:=h'
           have aR:=fH.1.cells_rel (Jg hv) hb
           have ao:(a.eval v).cells.toList.length=ti.size:=by rw [aR.length,ee]
           have aV:row * sz + sz<=rows.length * sz:=by
            have:=Nat.mul_le_mul_right sz (Nat.succ_le_of_lt aa)
            rwa [Nat.succ_mul] at this
           have iI:rows.length * sz<=cap * sz:=Nat.mul_le_mul_right _ ax
           have ak:=G2 (P:=E.P) (o:=row * sz + off) hw (news:=(a.eval v).cells.toList) (by rw [ao,hn]; omega) (H9 aR)
           rw [ao] at ak
           have hS:∀ b,S b->b≠g:=fun b hb e=>hC.dis b hb ⟨id,cap,sz,e ▸ h⟩
           have my:∀ new v x,Rd w S v x->Rd (w.setRow g new) S v x:=fun new v x hv=>hv.mono fun b hb=>⟨hb,setRow_other w g b _ (hS b hb)⟩
           have am:(rows.getD row []).length=sz:=by
            have:rows.getD row []=rows[row]:=by simp [List.getD_eq_getElem?_getD,aa]
            rw [this]; exact hr _ (List.getElem_mem aa)
           have bg:((rows.getD row []).take off++b.cells++(rows.getD row []).drop (off + ti.size)).length=sz:=by
            simp only [List.length_append,List.length_take,List.length_drop,am,ee]; omega
           have cx:=Hi rows row _ hr aa bg
           have bh:rows.flatten.length=rows.length * sz:=Ay rows hr
           have:=hC.set (o':=.list e sz (rows.set row ((rows.getD row []).take off++b.cells++(rows.getD row []).drop (off + ti.size)))) (new:=vs.take (row * sz + off)++(a.eval v).cells.toList++vs.drop (row * sz + off + ti.size)) ho h hw
            (.list g cap e sz _ _ h hs (fun r aD=>by
              rcases List.mem_or_eq_of_mem_set aD with aD | rfl
              · exact hr r aD
              · exact bg) (by simpa using ax) hm (setRow_heap w g _ _ e _ hw) (by simp only [List.length_append,List.length_take,List.length_drop,ao,hn]; omega) (by
              intro j y z hy hz
              refine my _ _ _ ?_
              have jZ:=Ke rows row hr aa
              rw [cx,<- jZ,Ws rows.flatten b.cells (row * sz) sz off ti.size fo (by omega)] at hz
              exact a7c hc (Al.of aR.length fun i v a hv ha=>K9 (aR.at hv ha) (by simpa using (List.all_eq_true.1 hq.2) a (List.mem_of_getElem? ha))) (by rw [hn]; omega) (by omega) j y z hy hz)) trivial
           refine ⟨_,ι,S,?_,this.1,Nat.le_refl _,this.2⟩
           dsimp only
           rw [cK]
           refine Qk hk (by simpa using ao) ?_
           simpa using ak
 | _=>trivial
theorem a1R (hT:Bg E.P tt) (t:TypeId) (x v:Operand):(Ti tt s t x v).Sound E s (fun ρ=>do (Instr.storeAt t (ρ x) (ρ v):Sem Unit); pure .skip):=by
 unfold Ti
 cases cp:look tt t with
 | none=>trivial
 | some ti =>
   cases hx:Au s.tm x with
   | none=>trivial
   | some p =>
     cases hv:Au s.tm v with
     | none=>trivial
     | some b =>
       by_cases ht:∃ vs,b=.tup vs
       · obtain ⟨vs,rfl⟩:=ht; trivial
       · have fG:∀ vs,b≠.tup vs:=fun vs e=>ht ⟨vs,e⟩
         have:=Zp hT t ti cp p b fG x v hx hv
         cases b with
         | tup vs=>exact absurd rfl (fG vs)
         | _=>exact this
theorem Ql {P:Program} (op:BinOp) (t:TypeId) (x y:Operand) {a b:Value} (h:∀ u v,(a,b)≠(.agg u,.agg v)) (h':(a,b)≠(.nilIface,.nilIface)):(eqGuard op t x y a b).run P w=.ok () w:=by
 unfold eqGuard
 cases op <;> first | rfl | (cases a <;> cases b <;> first | rfl | exact absurd rfl h' | exact absurd rfl (h _ _))
def b1e (P:Program) (op:BinOp) (t:TypeId) (a b v:Value):Prop :=
 (∀ w,(binOp op t a b).run P w=.ok v w)/\v.oneCell'=true/\(∀ u v,(a,b)≠(.agg u,.agg v))/\(a,b)≠(.nilIface,.nilIface)
def Rn (P:Program) (op:BinOp) (t:TypeId) (a b:Value):EV->Prop
 | .ok v=>b1e P op t a b v
 | .cond p v=>p->b1e P op t a b v
 | .no=>True
theorem a1S {P:Program} (op:BinOp) (t:TypeId) (k k':IntKind) (a b:Int):Rn P op t (.int k a) (.int k' b) (Tf op k a b):=by
 cases op <;> simp only [Tf,Rn] <;> intro hb <;> (
  refine ⟨fun w=>?_,rfl,by simp,by simp⟩
  have:¬ b < 0:=by omega
  simp [binOp,Op.shift,this])
theorem a4Q {P:Program} (op:BinOp) (t:TypeId) (k:IntKind) (a b:Int):Rn P op t (.int k a) (.int k b) (a1E op k a b):=by
 cases op <;> simp only [a1E,Rn] <;> first
  | trivial
  | (intro hb
     refine ⟨fun w=>?_,rfl,by simp,by simp⟩
     simp [binOp,Op.intDiv,hb]; done)
  | (refine ⟨fun w=>?_,rfl,by simp,by simp⟩
     first
      | (simp [binOp,Op.intArith]; done)
      | (simp [binOp,Op.intBits,a8R]; done)
      | (simp [binOp]; rfl))
theorem a4R {P:Program} (op:BinOp) (t:TypeId) (x y:ByteArray):Rn P op t (.string x) (.string y) (a1F op x y):=by
 cases op <;> simp only [a1F,Rn] <;> first
  | trivial
  | exact ⟨fun w=>by simp [binOp,Op.stringOp],rfl,by simp,by simp⟩
  | (intro h
     refine ⟨fun w=>?_,rfl,by simp,by simp⟩
     have:¬ ((x.size + y.size:Nat):Int) > IntKind.i64.max:=by
      simp only [maxLen] at h
      simp [IntKind.max,IntKind.signed,IntKind.bits]; omega
     simp only [binOp,Op.stringOp,this,if_false]; rfl)
theorem a25 {P:Program} (op:BinOp) (t:TypeId) (a b:Bool) (ht:P.underlying t=some .bool):Rn P op t (.bool a) (.bool b) (Re op a b):=by
 cases op <;> simp only [Re,Rn] <;> first
  | trivial
  | exact ⟨fun w=>by simp [binOp,run_equal_bool _ t a b ht],rfl,by simp,by simp⟩
theorem a4S {P:Program} (op:BinOp) (t:TypeId) (a b:Value):Rn P op t a b (V3 op a b):=by
 cases a with
 | int k a =>
   cases b with
   | int k' b =>
     simp only [V3]
     cases a6v op with
     | true=>exact a1S op t k k' a b
     | false =>
       simp only [cond_false]
       by_cases hk:k=k'
       · subst hk
         have:(k==k)=true:=by simp
         rw [this]; exact a4Q op t k a b
       · have:(k==k')=false:=by simp [hk]
         rw [this]; trivial
   | _=>trivial
 | string x =>
   cases b with
   | string y=>exact a4R op t x y
   | _=>trivial
 | _=>trivial
theorem Tn {f:(Operand->Value)->Sem Next} {e:EV} (aZ:match e with
 | .ok v=>v.oneCell'=true/\∀ (a:Act) (w:World) (ι:Loc) (S:Nat->Prop),Cr ι S s.tm E.nt s.nx w a.tmps->(f a.eval).run E.P w=.ok (.value v) w
 | .cond p v=>p->v.oneCell'=true/\∀ (a:Act) (w:World) (ι:Loc) (S:Nat->Prop),Cr ι S s.tm E.nt s.nx w a.tmps->(f a.eval).run E.P w=.ok (.value v) w
 | .no=>True):(evA s e).Sound E s f:=by
 cases e with
 | no=>trivial
 | ok v=>exact fun a w ι S hC ab=>Good.same hC (aZ.2 a w ι S ab) (.one (.cell (.rd (.val _ aZ.1)))) trivial
 | cond p v=>exact fun hp a w ι S hC ab=>Good.same hC ((aZ hp).2 a w ι S ab) (.one (.cell (.rd (.val _ (aZ hp).1)))) trivial
theorem a4T (op:BinOp) (t t':TypeId) (x y:Operand):(a8V s op x y).Sound E s (fun ρ=>do pure (.value (<- (do eqGuard op t x y (ρ x) (ρ y); binOp op t (ρ x) (ρ y):Sem Value)))):=by
 unfold a8V
 cases hx:Au s.tm x with
 | none=>trivial
 | some p =>
   cases p with
   | val u =>
     cases hy:Au s.tm y with
     | none=>trivial
     | some q =>
       cases q with
       | val v =>
         simp only
         refine Tn ?_
         have h:=a4S (P:=E.P) op t u v
         have run:∀ (r:Value) (a:Act) (w:World) (ι:Loc) (S:Nat->Prop),Cr ι S s.tm E.nt s.nx w a.tmps->(∀ w,(binOp op t u v).run E.P w=.ok r w)->(∀ a b,(u,v)≠(.agg a,.agg b))->(u,v)≠(.nilIface,.nilIface) ->
          (do pure (Next.value (<- (do eqGuard op t x y (a.eval x) (a.eval y); binOp op t (a.eval x) (a.eval y):Sem Value))):Sem Next).run E.P w=.ok (.value r) w:=by
          intro r a w ι S ab h1 h2 h3
          have e1:=(Ak ab hx).1.val_inv.1
          have e2:=(Ak ab hy).1.val_inv.1
          rw [e1,e2]
          simp only [Sem.run_bind,Ql op t x y h2 h3,Result.andThen_ok,h1 w,Sem.run_pure]
         cases he:V3 op u v with
         | no=>trivial
         | ok r=>rw [he] at h; exact ⟨h.2.1,fun a w ι S ab=>run r a w ι S ab h.1 h.2.2.1 h.2.2.2⟩
         | cond p r=>rw [he] at h; exact fun hp=>⟨(h hp).2.1,fun a w ι S ab=>run r a w ι S ab (h hp).1 (h hp).2.2.1 (h hp).2.2.2⟩
       | _=>trivial
   | _=>trivial
theorem a4U (hT:Bg E.P tt) {t:TypeId} (h:V4 tt t=true):E.P.underlying t=some .bool:=by
 unfold V4 at h
 cases hl:look tt t with
 | none=>simp [hl] at h
 | some ti =>
   obtain ⟨i,d,hk⟩:=hT t ti hl
   simp only [hl] at h
   cases bf:ti.kind with
   | bool =>
     have:=hk.kind
     rw [bf] at this
     cases d <;> simp [Cw] at this
     exact hk.under
   | _=>simp [bf] at h
theorem a26 (op:BinOp) (t t':TypeId) (x y:Operand) (ht:E.P.underlying t=some .bool):(a20 s op x y).Sound E s (fun ρ=>do pure (.value (<- (do eqGuard op t x y (ρ x) (ρ y); binOp op t (ρ x) (ρ y):Sem Value)))):=by
 unfold a20
 cases hx:Au s.tm x with
 | none=>trivial
 | some p =>
   cases p with
   | val u =>
     cases u with
     | bool bx =>
       cases hy:Au s.tm y with
       | none=>trivial
       | some q =>
         cases q with
         | val v =>
           cases v with
           | bool bz =>
             simp only
             refine Tn ?_
             have h:=a25 (P:=E.P) op t bx bz ht
             have run:∀ (r:Value) (a:Act) (w:World) (ι:Loc) (S:Nat->Prop),Cr ι S s.tm E.nt s.nx w a.tmps->(∀ w,(binOp op t (.bool bx) (.bool bz)).run E.P w=.ok r w)->(∀ a b,(Value.bool bx,Value.bool bz)≠(.agg a,.agg b))->(Value.bool bx,Value.bool bz)≠(.nilIface,.nilIface) ->
              (do pure (Next.value (<- (do eqGuard op t x y (a.eval x) (a.eval y); binOp op t (a.eval x) (a.eval y):Sem Value))):Sem Next).run E.P w=.ok (.value r) w:=by
              intro r a w ι S ab h1 h2 h3
              have e1:=(Ak ab hx).1.val_inv.1
              have e2:=(Ak ab hy).1.val_inv.1
              rw [e1,e2]
              simp only [Sem.run_bind,Ql op t x y h2 h3,Result.andThen_ok,h1 w,Sem.run_pure]
             cases he:Re op bx bz with
             | no=>trivial
             | ok r=>rw [he] at h; exact ⟨h.2.1,fun a w ι S ab=>run r a w ι S ab h.1 h.2.2.1 h.2.2.2⟩
             | cond p r=>rw [he] at h; exact fun hp=>⟨(h hp).2.1,fun a w ι S ab=>run r a w ι S ab (h hp).1 (h hp).2.2.1 (h hp).2.2.2⟩
           | _=>trivial
         | _=>trivial
     | _=>trivial
   | _=>trivial
theorem Mb {P:Program} (w:World) (d:Nat) (vs us:List Value):∀ (fs:List Field) (ks:List KK) (o:Nat) (x y:List KV),Ds P o fs ks=true->Bv ks ((vs.drop o).map .val)=some x->Bv ks ((us.drop o).map .val)=some y ->
 (Op.eqFields (d + 1) vs.toArray us.toArray fs).run P w=.ok (decide (x=y)) w
 | [],[],o,x,y,_,hx,hy=>by
   cases hv:(vs.drop o).map AV.val with
   | cons a as=>rw [hv] at hx; simp [Bv] at hx
   | nil =>
     cases hu:(us.drop o).map AV.val with
     | cons a as=>rw [hu] at hy; simp [Bv] at hy
     | nil =>
       rw [hv] at hx; rw [hu] at hy
       simp only [Bv,Option.some.injEq] at hx hy
       subst hx hy
       simp [Op.eqFields]
 | f::fs,k::ks,o,x,y,h,hx,hy=>by
   simp only [Ds,V5,Bool.and_eq_true,Bool.not_eq_true'] at h
   obtain ⟨⟨⟨h1,h2⟩,h3⟩,h4⟩:=h
   have ho:=Nat.eq_of_beq_eq_true h1
   have iK : f.name ≠ "_" := by simpa using h2
   cases hv:vs.drop o with
   | nil=>rw [hv] at hx; simp [Bv] at hx
   | cons a as =>
     cases hu:us.drop o with
     | nil=>rw [hu] at hy; simp [Bv] at hy
     | cons b bs =>
       have ha:vs[o]?=some a:=by have:=congrArg (·[0]?) hv; simpa using this
       have hb:us[o]?=some b:=by have:=congrArg (·[0]?) hu; simpa using this
       have has:vs.drop (o + 1)=as:=by rw [<- List.tail_drop,hv]; rfl
       have j0:us.drop (o + 1)=bs:=by rw [<- List.tail_drop,hu]; rfl
       rw [hv,List.map_cons] at hx
       rw [hu,List.map_cons] at hy
       simp only [Bv] at hx hy
       cases bH:Hd k (.val a) with
       | none=>simp [bH] at hx
       | some xa =>
         cases cy:Hd k (.val b) with
         | none=>simp [cy] at hy
         | some yb =>
           cases j1:Bv ks (as.map .val) with
           | none=>simp [bH,j1] at hx
           | some xr =>
             cases j2:Bv ks (bs.map .val) with
             | none=>simp [cy,j2] at hy
             | some yr =>
               simp only [bH,j1,Option.some.injEq] at hx
               simp only [cy,j2,Option.some.injEq] at hy
               subst hx hy
               have ih:=Mb w d vs us fs ks (o + 1) xr yr h4 (by rw [has]; exact j1) (by rw [j0]; exact j2)
               cases hd:P.underlying f.type with
               | none=>simp [hd] at h3
               | some dd =>
                 have br:L6 dd=false:=by
                  simp only [hd] at h3
                  cases dd <;> simp at h3 <;> rfl
                 have p1:∀ w,(part f.type vs.toArray f.offset).run P w=.ok a w:=fun w=>by
                  simp [part,Sem.run_bind,F2 hd w,br,Result.andThen_ok,ho,ha]
                 have p2:∀ w,(part f.type us.toArray f.offset).run P w=.ok b w:=fun w=>by
                  simp [part,Sem.run_bind,F2 hd w,br,Result.andThen_ok,ho,hb]
                 have e:(Op.equalIn (d + 1) f.type a b).run P w=.ok (decide (xa=yb)) w:=by
                  simp only [hd] at h3
                  cases k with
                  | int k =>
                    cases a <;> simp only [Hd,reduceCtorEq] at bH
                    rename_i ka na
                    cases b <;> simp only [Hd,reduceCtorEq] at cy
                    rename_i kb nb
                    cases e5:(k==ka) with
                    | false=>simp [e5] at bH
                    | true =>
                      cases e6:(k==kb) with
                      | false=>simp [e6] at cy
                      | true =>
                        simp only [e5,cond_true,Option.some.injEq] at bH
                        simp only [e6,cond_true,Option.some.injEq] at cy
                        obtain rfl:k=ka:=by simpa using e5
                        obtain rfl:k=kb:=by simpa using e6
                        subst bH cy
                        cases dd <;> simp at h3
                        rw [run_equalIn_int w d f.type _ _ _ _ hd]
                        by_cases e2:na=nb <;> simp [e2]
                  | bool =>
                    cases a <;> simp [Hd] at bH
                    rename_i na
                    cases b <;> simp [Hd] at cy
                    rename_i nb
                    subst bH cy
                    cases dd <;> simp at h3
                    rw [run_equalIn_bool' w d f.type _ _ hd]
                    by_cases e2:na=nb <;> simp [e2]
                  | str =>
                    cases a <;> simp [Hd] at bH
                    rename_i na
                    cases b <;> simp [Hd] at cy
                    rename_i nb
                    subst bH cy
                    cases dd <;> simp at h3
                    rw [run_equalIn_string w d f.type _ _ hd]
                    by_cases e2:na.toList=nb.toList <;> simp [e2]
                 simp only [Op.eqFields,if_pos iK,Sem.run_bind,p1,p2,e,Result.andThen_ok]
                 by_cases e2:xa=yb
                 · subst e2
                   simp only [decide_true,Bool.not_true,Bool.false_eq_true,if_false,ih]
                   by_cases e3:xr=yr <;> simp [e3]
                 · simp [e2]
 | [],_::_,_,_,_,h,_,_=>by simp [Ds] at h
 | _::_,[],_,_,_,h,_,_=>by simp [Ds] at h
theorem b1q {k:KK} {v:Value} {a:AV} {x:KV} (h:A9 w S ι v a) (hk:Hd k a=some x):a=.val v:=by
 cases h with
 | rd h=>cases h with
   | val v h=>rfl
   | _=>cases k <;> simp [Hd] at hk
 | _=>cases k <;> simp [Hd] at hk
theorem Ow:∀ {ks:List KK} {vs:List Value} {as:List AV} {x:List KV},Al (A9 w S ι) vs as->Bv ks as=some x->as=vs.map .val
 | ks,[],[],x,_,_=>rfl
 | [],v::vs,a::as,x,_,hk=>by simp [Bv] at hk
 | k::ks,v::vs,a::as,x,h,hk=>by
   simp only [Bv] at hk
   cases bH:Hd k a with
   | none=>simp [bH] at hk
   | some u =>
     cases hr:Bv ks as with
     | none=>simp [bH,hr] at hk
     | some r=>rw [List.map_cons,b1q h.1 bH,Ow h.2 hr]
 | _,_::_,[],_,h,_=>h.elim
 | _,[],_::_,_,h,_=>h.elim
theorem Wt (hT:Bg E.P tt) {t:TypeId} {ks:List KK} (h:L3 tt t=some ks):∃ fields:Array Field,E.P.underlying t=some (.struct fields)/\Ds E.P 0 fields.toList ks=true/\E.P.stoodInHeld t=false/\E.P.eqGuardType E.P.depth t=false:=by
 unfold L3 at h
 cases hl:look tt t with
 | none=>simp [hl] at h
 | some ti =>
   obtain ⟨i,d,hk⟩:=hT t ti hl
   have bf:=hk.keys
   simp only [hl] at h
   cases ef:ti.keys with
   | nil=>simp [ef] at h
   | cons k r =>
     simp only [ef,Option.some.injEq] at h
     subst h
     rw [ef] at bf
     simp only [a1M,Bool.and_eq_true,Bool.not_eq_true'] at bf
     obtain ⟨⟨h1,h2⟩,h3⟩:=bf
     cases d <;> simp at h1
     exact ⟨_,hk.under,h1,h2,h3⟩
theorem a4V (hT:Bg E.P tt) (ks:List KK) (op:BinOp) (t t':TypeId) (x y:Operand) (hk:L3 tt t=some ks):(a8W s ks op x y).Sound E s (fun ρ=>do pure (.value (<- (do eqGuard op t x y (ρ x) (ρ y); binOp op t (ρ x) (ρ y):Sem Value)))):=by
 obtain ⟨fields,hu,hf,ew,ez⟩:=Wt hT hk
 unfold a8W
 cases hx:Au s.tm x with
 | none=>trivial
 | some p =>
   cases p with
   | agg as =>
     cases hy:Au s.tm y with
     | none=>trivial
     | some q =>
       cases q with
       | agg bs =>
         simp only
         cases lH:Bv ks as with
         | none=>trivial
         | some u =>
           cases lI:Bv ks bs with
           | none=>trivial
           | some v =>
             simp only
             have run:∀ (a:Act) (w:World) (ι:Loc) (S:Nat->Prop),Cr ι S s.tm E.nt s.nx w a.tmps->∃ vs us:List Value,a.eval x=.agg vs.toArray/\a.eval y=.agg us.toArray/\(Op.equalIn 10000 t (.agg vs.toArray) (.agg us.toArray)).run E.P w=.ok (decide (u=v)) w:=by
              intro a w ι S ab
              obtain ⟨vs,e1,h1⟩:=(Ak ab hx).1.agg_inv
              obtain ⟨us,e2,h2⟩:=(Ak ab hy).1.agg_inv
              have ea:=Ow h1 lH
              have eb:=Ow h2 lI
              refine ⟨vs,us,e1,e2,?_⟩
              have gt:E.P.fieldsOf t=fields:=by simp [Program.fieldsOf,hu]
              rw [run_equalIn_struct w 9999 t _ _ (by rw [gt]; exact hu) ew,gt]
              exact Mb w 9998 vs us _ ks 0 u v hf (by rw [List.drop_zero,<- ea]; exact lH) (by rw [List.drop_zero,<- eb]; exact lI)
             cases op with
             | eql =>
               intro a w ι S hC ab
               obtain ⟨vs,us,e1,e2,he⟩:=run a w ι S ab
               refine Good.same hC (v:=.bool (decide (u=v))) ?_ (.one (.cell (.rd (.val _ rfl)))) trivial
               simp only [e1,e2,Sem.run_bind,run_eqGuard_agg w .eql t x y _ _ ez,Result.andThen_ok,run_eql_struct,he,Sem.run_pure]
             | neq =>
               intro a w ι S hC ab
               obtain ⟨vs,us,e1,e2,he⟩:=run a w ι S ab
               refine Good.same hC (v:=.bool (decide (¬ u=v))) ?_ (.one (.cell (.rd (.val _ rfl)))) trivial
               simp only [e1,e2,Sem.run_bind,run_eqGuard_agg w .neq t x y _ _ ez,Result.andThen_ok,run_neq_struct,he,Sem.run_pure]
               simp
             | _=>trivial
       | _=>trivial
   | _=>trivial
theorem a7d (op:UnOp) (x:Operand):(unA s op x).Sound E s (fun ρ=>do pure (.value (<- Op.unary op (ρ x)))):=by
 unfold unA
 cases hx:Au s.tm x with
 | none=>trivial
 | some p =>
   cases p with
   | val u =>
     simp only
     refine Tn ?_
     cases u <;> cases op <;> first
      | trivial
      | (refine ⟨rfl,fun a w ι S ab=>?_⟩
         rw [(Ak ab hx).1.val_inv.1]; rfl)
   | _=>trivial
theorem a27 (hT:Bg E.P tt) (src dst:TypeId) (x:Operand):(convA tt s src dst x).Sound E s (fun ρ=>do pure (.value (<- convert src dst (ρ x)))):=by
 unfold convA
 cases fI:look tt src with
 | none=>trivial
 | some tsrc =>
 simp only
 cases cp:look tt dst with
 | none=>trivial
 | some ti =>
   simp only
   cases hk:ti.int with
   | none=>trivial
   | some k =>
     simp only
     obtain ⟨i,d,aZ⟩:=hT dst ti cp
     cases hx:Au s.tm x with
     | none=>trivial
     | some p =>
       cases p with
       | val u =>
         cases u with
         | int k' n =>
           intro a w ι S hC ab
           refine Good.same hC (v:=.int k (k.wrap n)) ?_ (.one (.cell (.rd (.val _ rfl)))) trivial
           dsimp only
           rw [(Ak ab hx).1.val_inv.1]
           obtain ⟨_,d',ef⟩:=hT src tsrc fI
           have a6:=ef.under
           have hd:=aZ.int k hk
           subst hd
           refine Ap ?_
           unfold convert
           simp only [Sem.run_bind,run_underlying a6,run_underlying aZ.under,Result.andThen_ok]
           cases d' <;> rfl
         | _=>trivial
       | _=>trivial
theorem Wu (hT:Bg E.P tt) {t f o sz:Nat} {ag:Bool} (h:Om tt t f=some (o,sz,ag)) :
 ∃ fields fd i d,E.P.underlying t=some (.struct fields)/\fields[f]?=some fd/\fd.offset=o/\E.P.info? fd.type=some i/\i.size=sz/\E.P.underlying fd.type=some d/\L6 d=ag:=by
 unfold Om at h
 cases hl:look tt t with
 | none=>simp [hl] at h
 | some ti =>
   obtain ⟨i,d,hk⟩:=hT t ti hl
   simp only [hl] at h
   cases bf:ti.kind with
   | struct fs =>
     simp only [bf] at h
     have b7:=hk.kind
     rw [bf] at b7
     cases d <;> simp [Cw] at b7
     rename_i fields
     have key:∀ (fl:List Field) (fs:List (Nat × Nat × Bool)) (f:Nat),Fp E.P fl fs=true->fs[f]?=some (o,sz,ag)->∃ fd,fl[f]?=some fd/\Rl E.P fd (o,sz,ag)=true:=by
      intro fl
      induction fl with
      | nil=>intro fs f h1 h2; cases fs with
        | nil=>simp at h2
        | cons=>simp [Fp] at h1
      | cons x fl ih =>
        intro fs f h1 h2
        cases fs with
        | nil=>simp at h2
        | cons y fs =>
          simp only [Fp,Bool.and_eq_true] at h1
          cases f with
          | zero=>simp at h2; subst h2; exact ⟨x,rfl,h1.1⟩
          | succ f=>simpa using ih fs f h1.2 (by simpa using h2)
     obtain ⟨fd,iL,hc⟩:=key fields.toList fs f b7 h
     simp only [Rl,Bool.and_eq_true] at hc
     obtain ⟨⟨h1,h2⟩,h3⟩:=hc
     cases hi:E.P.info? fd.type with
     | none=>simp [hi] at h2
     | some i' =>
       cases hd:E.P.underlying fd.type with
       | none=>simp [hd] at h3
       | some d' =>
         simp only [hi] at h2
         simp only [hd] at h3
         exact ⟨fields,fd,i',d',hk.under,by simpa using iL,Nat.eq_of_beq_eq_true h1,hi,Nat.eq_of_beq_eq_true h2,hd,by simpa using h3⟩
   | _=>simp [bf] at h
theorem To (hT:Bg E.P tt) (t:TypeId) (x:Operand) (f:Nat):(Jn tt s t x f).Sound E s (fun ρ=>do pure (.value (<- Instr.fieldAt t (ρ x) f))):=by
 unfold Jn
 cases hf:Om tt t f with
 | none=>trivial
 | some p =>
   obtain ⟨o,sz,ag⟩:=p
   simp only
   obtain ⟨fields,fd,i,d,hu,iL,dl,hi,ao,_,_⟩:=Wu hT hf
   cases hz:Nat.beq sz 0 with
   | true=>trivial
   | false =>
     simp only [cond_false]
     have j3:¬ sz=0:=fun e=>by subst e; simp at hz
     cases hx:Au s.tm x with
     | none=>trivial
     | some p =>
       have run:∀ (w:World) (b off:Nat),(Instr.fieldAt t (.pointer (some ⟨b,off,none⟩)) f).run E.P w=.ok (.pointer (some ⟨b,off + o,none⟩)) w:=by
        intro w b off
        simp [Instr.fieldAt,run_underlying hu,iL,Instr.sureAddr,fieldPlace,Go.sizeOf,typeInfo,hi,ao,j3,dl,Addr.add_none]
       cases p with
       | pt id row off =>
         intro a w ι S hC ab
         have h:=Ak ab hx
         obtain ⟨g,c,s',hg,e⟩:=h.1.pt_inv
         refine Good.same hC (v:=.pointer (some ⟨g,row * s' + (off + o),none⟩)) ?_ (.one (.cell (.pt id row (off + o) g c s' hg))) h.2
         dsimp only
         rw [e,<- Nat.add_assoc]
         exact Ap (run w _ _)
       | rp cs =>
         simp only [H7]
         cases hb:Nat.ble o cs.length with
         | false=>trivial
         | true =>
           simp only [cond_true]
           intro a w ι S hC ab
           have h:=Ak ab hx
           obtain ⟨b,off,vs,e,hS,hR,hc⟩:=h.1.rp_inv
           have cv:=hR.drop o
           refine Good.same hC (v:=.pointer (some ⟨b,off + o,none⟩)) ?_ (.one (.cell (.rp (cs.drop o) b (off + o) hS (vs.drop o) cv.length (fun i v hv=>?_) (fun i v x hv hx=>cv.at hv hx)))) trivial
           · dsimp only
             rw [e]
             exact Ap (run w _ _)
           · rw [List.getElem?_drop] at hv
             have:=hc _ v hv
             rwa [<- Nat.add_assoc] at this
       | _=>trivial
theorem a1T (hT:Bg E.P tt) (t:TypeId) (x:Operand) (f:Nat):(Wo tt s t x f).Sound E s (fun ρ=>do pure (.value (<- Instr.field t (ρ x) f))):=by
 unfold Wo
 cases hf:Om tt t f with
 | none=>trivial
 | some p =>
   obtain ⟨o,sz,ag⟩:=p
   simp only
   obtain ⟨fields,fd,i,d,hu,iL,dl,hi,ao,mz,br⟩:=Wu hT hf
   cases hx:Au s.tm x with
   | none=>trivial
   | some p =>
     cases p with
     | agg cs =>
       simp only
       cases hl:Fw ag sz cs o with
       | none=>trivial
       | some av =>
         intro a w ι S hC ab
         have h:=Ak ab hx
         obtain ⟨vs,e,hR⟩:=h.1.agg_inv
         have lJ:(isAgg fd.type).run E.P w=.ok ag w:=by rw [<- br]; exact F2 mz w
         have mA:(Go.sizeOf fd.type).run E.P w=.ok sz w:=by simp [Go.sizeOf,typeInfo,hi,ao]
         have run:(Instr.field t (.agg vs.toArray) f).run E.P w=(part fd.type vs.toArray o).run E.P w:=by
          simp [Instr.field,run_underlying hu,iL,asAgg,dl]
         have hp:∃ v,(part fd.type vs.toArray o).run E.P w=.ok v w/\Bi w S ι v av/\av.uses (· < s.nx):=by
          cases ag with
          | false =>
            simp only [Fw] at hl
            have aa:o < vs.length:=by rw [hR.length]; exact (List.getElem?_eq_some_iff.1 hl).1
            have hv:=List.getElem?_eq_getElem aa
            have hrel:=hR.at hv hl
            refine ⟨vs[o],?_,.one (.cell hrel),Db hrel.not_agg.1 hrel.not_agg.2 fun id hid=>h.2 av (List.mem_of_getElem? hl) id hid⟩
            unfold part
            simp only [Sem.run_bind,lJ,Result.andThen_ok,Bool.false_eq_true,if_false]
            simp [hv]
          | true =>
            simp only [Fw,C0] at hl
            cases hb:Nat.ble (o + sz) cs.length with
            | false=>simp [hb] at hl
            | true =>
              simp [hb] at hl
              subst hl
              refine ⟨.agg ((vs.drop o).take sz).toArray,?_,.one (.agg _ _ ((hR.drop o).take sz)),fun y hy id hid=>h.2 y (List.mem_of_mem_drop (List.mem_of_mem_take hy)) id hid⟩
              unfold part
              simp only [Sem.run_bind,lJ,Result.andThen_ok,if_true,mA,Sem.run_pure]
              congr 2
              simp
         obtain ⟨v,hr,hv,gw⟩:=hp
         refine Good.same hC (v:=v) ?_ hv gw
         dsimp only
         rw [e]
         exact Ap (run.trans hr)
     | _=>trivial
end Go.Am
