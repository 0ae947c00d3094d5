import Derived.Test.YtllhgcfacgiabaaGreatAm5
import Derived.Test.YtllhgcfacgiabaaGreatAmM
import Derived.Test.YtllhgcfacgiabaaGreatAmI
import Derived.Lib.SliceRun
namespace Go.Am
open Go.RowKit
set_option linter.unusedVariables false
set_option linter.unusedSimpArgs false
variable {E:Env} {s:St} {a:Act} {w:World} {ι:Loc} {S:Nat->Prop} {tt:Tab}
theorem H0 (sz:Nat):∀ (n:Nat) (cs:List AV),(chunks sz n cs).length=n
 | 0,_=>rfl
 | n + 1,cs=>by simp [chunks,H0 sz n]
theorem Qm {sz:Nat}:∀ (n:Nat) (cs:List AV),cs.length=n * sz->∀ r∈chunks sz n cs,r.length=sz
 | 0,_,_,r,h=>by simp [chunks] at h
 | n + 1,cs,hl,r,h=>by
   rw [Nat.add_mul,Nat.one_mul] at hl
   simp only [chunks,List.mem_cons] at h
   rcases h with rfl | h
   · simp; omega
   · exact Qm n _ (by simp; omega) r h
theorem chunks_flatten {sz:Nat}:∀ (n:Nat) (cs:List AV),cs.length=n * sz->(chunks sz n cs).flatten=cs
 | 0,cs,hl=>by simp at hl; simp [chunks,hl]
 | n + 1,cs,hl=>by
   rw [Nat.add_mul,Nat.one_mul] at hl
   simp only [chunks,List.flatten_cons]
   rw [chunks_flatten n _ (by simp; omega),List.take_append_drop]
theorem Md {place:Nat->Option (Nat × Nat)}:∀ (qs:List (Nat × AV)) (cs res:List AV),H6 place cs qs=some res->res.length=cs.length
 | [],cs,res,h=>by simp [H6] at h; subst h; rfl
 | (i,q)::qs,cs,res,h=>by
   simp only [H6] at h
   cases cm:place i with
   | none=>simp [cm] at h
   | some p =>
     obtain ⟨off,size⟩:=p
     simp only [cm] at h
     cases hb:(Nat.beq q.cells.length size&&Nat.ble (off + size) cs.length) with
     | false=>simp [hb] at h
     | true =>
       rw [hb] at h
       simp only [cond_true] at h
       simp only [Bool.and_eq_true] at hb
       have h1:=Nat.eq_of_beq_eq_true hb.1
       have h2:=Nat.le_of_ble_eq_true hb.2
       rw [Md qs _ res h]
       simp; omega
theorem Nm (hT:Bg E.P tt) (t:TypeId) (n:Nat) (ps:Array (Nat × Operand)) {e:Nat} {te:TI} (he:B2 tt t=some (e,te)) {as:List (Nat × AV)} (co:Hg s.tm ps.toList=some as) {cs:List AV} (hf:H6 (fun i=>some (i * te.size,te.size)) ((List.replicate n (Dr te)).flatten) as=some cs)
 (aE:0 < te.size) (ax:n * te.size<=65536) {o:A2} (aJ:∀ e' sz' rows',o=.list e' sz' rows'->n<=rows'.length) (bG:(∀ c∈cs,∀ id,c.idOf=some id->id < s.nx)->o.uses (· < s.nx + 1))
 (an:∀ (w:World) (ι:Loc) (S:Nat->Prop) (g:Nat) (cells:List Value),ι s.nx=some (.blk g n te.size)->w.heap[g]?=some (.cells cells.toArray e (0,0))->cells.length=n * te.size->cs.length=n * te.size->(∀ (i:Nat) (v:Value) (a:AV),cells[i]?=some v->cs[i]?=some a->A9 w S ι v a)->Bp w S ι s.nx o) :
 (SR.newL0 n o).Sound E s (fun ρ=>do pure (.value (<- Instr.buildSlice t n (ps.map fun (i,x)=>(i,ρ x))))):=by
   obtain ⟨hu,it,dt,hk⟩:=Dx hT he
   intro a w ι S hC ab
   obtain ⟨z,hz,dA⟩:=hk.zero
   have dm:z.cells.size=te.size:=by rw [<- hk.zlen,<- dA]; simp
   have gx:(Dr te).length=te.size:=by simp [Dr,hk.zlen]
   have dB:=Qj ab ps.toList as co
   have h0:Al (A9 w S ι) (madeCells z.cells (n * te.size)).toList ((List.replicate n (Dr te)).flatten):=by
    refine Al.of ?_ fun i v av hv ha=>?_
    · simp [size_madeCells,Dr,hk.zlen]
    · have aY:=a0t z.cells n i v (by rw [dm]; exact hv) (by omega)
      rw [Jp _ _ _ (by rw [gx,<- dm]; exact aY.1),gx] at ha
      rw [dm,dA] at aY
      simp only [Dr,List.getElem?_map,aY.2,Option.map_some,Option.some.injEq] at ha
      subst ha
      exact .rd (.val _ (hk.zone _ (List.mem_of_getElem? aY.2)))
   obtain ⟨cells,eF,hrel⟩:=Rm (R:=A9 w S ι) (fun i p hp=>hp) _ as dB.1 _ _ cs h0 hf
   have cL:cs.length=n * te.size:=by rw [Md _ _ _ hf,Ay (s:=te.size) _ (fun r hr=>by rw [List.eq_of_mem_replicate hr]; exact gx),List.length_replicate]
   have ar:(Instr.buildSlice t n (ps.map fun (x:Nat × Operand)=>(x.1,a.eval x.2))).run E.P w=.ok (.slice (some ⟨w.heap.size,0,none⟩) n n) (w.alloc (.cells cells e)):=by
    have hs:=hk.sizeOf w
    have e1:(ps.map fun (x:Nat × Operand)=>(x.1,a.eval x.2)).toList=ps.toList.map fun x=>(x.1,a.eval x.2):=by simp
    have aJ:¬ (n * te.size > 16777216):=by omega
    unfold Instr.buildSlice
    simp only [Sem.run_bind,run_underlying hu,Result.andThen_ok,hs]
    simp only [show (2:Nat) ^ 24=16777216 from rfl,aJ,if_false,Sem.run_pure,Result.andThen_ok]
    by_cases hn:n * te.size=0
    · have cZ:n=0:=by
       rcases Nat.mul_eq_zero.1 hn with h | h <;> omega
      subst cZ
      have iR:madeCells z.cells (0 * te.size)=#[]:=by simp [madeCells]
      rw [iR] at eF
      simp only [hn,if_true,Sem.run_bind,Sem.run_pure,Result.andThen_ok]
      have:(Array.range 0).map (fun x=>(#[]:Array Value)[x % (#[]:Array Value).size]!)=#[]:=by simp
      rw [this,e1,eF]
      simp [L9]
    · have iS:(zeroValue e).run E.P w=.ok z w:=by simp [zeroValue,typeInfo,hk.info,hz]
      simp only [hn,if_false,Sem.run_bind,iS,Result.andThen_ok,Sem.run_pure]
      have:(Array.range (n * te.size)).map (fun x=>z.cells[x % z.cells.size]!)=madeCells z.cells (n * te.size):=rfl
      rw [this,e1,eF]
      simp [L9]
   have aG:cells=cells.toList.toArray:=by simp
   rw [aG] at ar
   have hL:Later w (w.alloc (.cells cells.toList.toArray e)) S S ι (put ι s.nx (some (.blk w.heap.size n te.size))) (· < s.nx) :=
    ⟨fun b hb=>⟨hb,Below.heap_alloc _ _ _ (hC.lt b hb)⟩,fun id p hid h=>by rw [Ci _ _ (by first | omega | (dsimp only; omega) | (dsimp only at *; omega))]; exact h⟩
   have gC:∀ c∈cs,∀ id,c.idOf=some id->id < s.nx:=Ni as _ cs hf (fun c=>∀ id,c.idOf=some id->id < s.nx) (fun c hc=>by
    obtain ⟨r,hr,aR⟩:=List.mem_flatten.1 hc
    rw [List.eq_of_mem_replicate hr] at aR
    exact Ma c aR) dB.2
   have ho:Bp (w.alloc (.cells cells.toList.toArray e)) S (put ι s.nx (some (.blk w.heap.size n te.size))) s.nx o :=
    an _ _ S w.heap.size cells.toList (As _ _ _) (heap_alloc_new w _) (by rw [hrel.length,cL]) cL fun i v av hv ha=>(hrel.at hv ha).mono hL (gC av (List.mem_of_getElem? ha))
   have:=hC.alloc ho (bG gC)
   exact ⟨_,_,_,S,Ap ar,this.1,this.2,.one (.cell (.own s.nx n w.heap.size n te.size (As _ _ _) (Nat.le_refl _) (by simp only [maxLen]; have:=Nat.le_mul_of_pos_right n aE; omega))),fun g c z h=>by rw [As] at h; cases h; exact Nat.le_refl _,aJ⟩
theorem Rp (hT:Bg E.P tt) (t:TypeId) (n:Nat) (ps:Array (Nat × Operand)):(H8 tt s t n ps.toList).Sound E s (fun ρ=>do pure (.value (<- Instr.buildSlice t n (ps.map fun (i,x)=>(i,ρ x))))):=by
 unfold H8
 cases he:B2 tt t with
 | none=>trivial
 | some et =>
   obtain ⟨e,te⟩:=et
   simp only
   cases co:Hg s.tm ps.toList with
   | none=>trivial
   | some as =>
     simp only
     cases hf:H6 (fun i=>some (i * te.size,te.size)) ((List.replicate n (Dr te)).flatten) as with
     | none=>trivial
     | some cs =>
       simp only
       cases hb:(cs.all Dw&&Nat.blt 0 te.size&&Nat.ble (n * te.size) 65536) with
       | true =>
         simp only [cond_true,L1,L0]
         simp only [Bool.and_eq_true] at hb
         have cm:=List.all_eq_true.1 hb.1.1
         have aE:0 < te.size:=Nat.le_of_ble_eq_true hb.1.2
         have ax:=Nat.le_of_ble_eq_true hb.2
         refine Nm hT t n ps he co hf aE ax (fun e' sz' rows' h=>by cases h; rw [H0]; exact Nat.le_refl _) (fun _=>trivial) fun w ι S g cells h1 h2 h3 h4 h5=>?_
         refine .list g n e te.size _ cells h1 aE (Qm n cs h4) (by rw [H0]; exact Nat.le_refl _) (by simp only [maxLen]; have:=Nat.le_mul_of_pos_right n aE; omega) h2 h3 (fun i v av hv ha=>?_)
         rw [chunks_flatten n cs h4] at ha
         exact K9 (h5 i v av hv ha) (by simpa using cm av (List.mem_of_getElem? ha))
       | false =>
         simp only [cond_false]
         cases hb:(cs.all Pz&&Nat.blt 0 te.size&&Nat.ble (n * te.size) 65536) with
         | false=>trivial
         | true =>
           simp only [cond_true,L1,L0]
           simp only [Bool.and_eq_true] at hb
           have aE:0 < te.size:=Nat.le_of_ble_eq_true hb.1.2
           have ax:=Nat.le_of_ble_eq_true hb.2
           have cL:cs.length=n * te.size:=by
            obtain ⟨hu,it,dt,hk⟩:=Dx hT he
            rw [Md _ _ _ hf,Ay (s:=te.size) _ (fun r hr=>by rw [List.eq_of_mem_replicate hr]; simp [Dr,hk.zlen]),List.length_replicate]
           refine Nm hT t n ps he co hf aE ax (fun e' sz' rows' h=>by cases h) (fun gC _ c hc id hid=>by
            rw [chunks_flatten n cs cL] at hc
            exact Nat.lt_succ_of_lt (gC c hc id hid)) fun w ι S g cells h1 h2 h3 h4 h5=>?_
           refine .nest g n e te.size _ cells h1 aE (Qm n cs h4) (by rw [H0]; exact Nat.le_refl _) (by simp only [maxLen]; have:=Nat.le_mul_of_pos_right n aE; omega) h2 h3 (fun i v av hv ha=>?_)
           rw [chunks_flatten n cs h4] at ha
           exact .inl ⟨rfl,h5 i v av hv ha⟩
theorem Jq (ks:List Nat) (i:Nat):∀ (hp:List (Nat × A2)),look (K5 ks hp) i=(look hp i).map (Rh ks)
 | []=>rfl
 | (k,o)::r=>by
   simp only [K5,Aj]
   split
   · rfl
   · exact Jq ks i r
theorem W5 (ks:List Nat) (t:Nat):∀ (tm:List (Nat × AV)),look (Nf ks tm) t=(look tm t).map (Wl ks)
 | []=>rfl
 | (k,v)::r=>by
   simp only [Nf,Aj]
   split
   · rfl
   · exact W5 ks t r
theorem Jh {w':World} {S':Nat->Prop} {ι':Loc} {ks:List Nat} {K:Nat->Prop} (h':Later w w' S S' ι ι' K) {v:Value} {c:AV} (hK:∀ i,c.idOf=some i->Af i ks=false->K i) (h:A9 w S ι v c):A9 w' S' ι' v (Eg ks c):=by
 have keep:(∀ i,c.idOf=some i->Af i ks=false)->A9 w' S' ι' v c:=fun hn=>h.mono h' fun i hi=>hK i hi (hn i hi)
 cases c with
 | own i len =>
   simp only [Eg]
   cases hb:Af i ks with
   | true=>exact .junk _ h.one
   | false=>exact keep fun j hj=>by simp [AV.idOf] at hj; subst hj; exact hb
 | pt i r o =>
   simp only [Eg]
   cases hb:Af i ks with
   | true=>exact .junk _ h.one
   | false=>exact keep fun j hj=>by simp [AV.idOf] at hj; subst hj; exact hb
 | sb i r o l =>
   simp only [Eg]
   cases hb:Af i ks with
   | true=>exact .junk _ h.one
   | false=>exact keep fun j hj=>by simp [AV.idOf] at hj; subst hj; exact hb
 | mp i =>
   simp only [Eg]
   cases hb:Af i ks with
   | true=>exact .junk _ h.one
   | false=>exact keep fun j hj=>by simp [AV.idOf] at hj; subst hj; exact hb
 | clo i =>
   simp only [Eg]
   cases hb:Af i ks with
   | true=>exact .junk _ h.one
   | false=>exact keep fun j hj=>by simp [AV.idOf] at hj; subst hj; exact hb
 | _=>exact keep fun j hj=>by simp [AV.idOf] at hj
theorem Lc {ks:List Nat} {c:AV} {i:Nat} (h:(Eg ks c).idOf=some i):c.idOf=some i:=by
 cases c with
 | own j len=>simp only [Eg] at h; cases hb:Af j ks <;> simp [hb,AV.idOf] at h; simp [AV.idOf,h]
 | pt j r o=>simp only [Eg] at h; cases hb:Af j ks <;> simp [hb,AV.idOf] at h; simp [AV.idOf,h]
 | sb j r o l=>simp only [Eg] at h; cases hb:Af j ks <;> simp [hb,AV.idOf] at h; simp [AV.idOf,h]
 | mp j=>simp only [Eg] at h; cases hb:Af j ks <;> simp [hb,AV.idOf] at h; simp [AV.idOf,h]
 | clo j=>simp only [Eg] at h; cases hb:Af j ks <;> simp [hb,AV.idOf] at h; simp [AV.idOf,h]
 | _=>exact h
theorem a7h {w':World} {S':Nat->Prop} {ι':Loc} {ks:List Nat} {nx:Nat} (h':Later w w' S S' ι ι' (fun i=>i < nx/\Af i ks=false)) {v:Value} {a:AV} (hu:a.uses (· < nx)) (h:Bi w S ι v a):Bi w' S' ι' v (Wl ks a)/\(Wl ks a).uses (· < nx):=by
 have cell:∀ (hc:A9 w S ι v a),Wl ks a=Eg ks a->Bi w' S' ι' v (Wl ks a)/\(Wl ks a).uses (· < nx):=by
  intro hc e
  rw [e]
  have hr:=Jh (ks:=ks) h' (fun i hi hn=>⟨AV.uses_id hu i hi,hn⟩) hc
  exact ⟨.one (.cell hr),Db hr.not_agg.1 hr.not_agg.2 fun i hi=>AV.uses_id hu i (Lc hi)⟩
 cases h with
 | one h=>cases h with
   | cell hc =>
     refine cell hc ?_
     cases a with
     | agg cs=>exact absurd rfl (hc.not_agg.1 _)
     | tup cs=>exact absurd rfl (hc.not_agg.2 _)
     | _=>rfl
   | agg vs cs hc =>
     refine ⟨.one (.agg vs _ ?_),?_⟩
     · refine Al.of (by simp [hc.length]) fun i v c hv bn=>?_
       simp only [List.getElem?_map,Option.map_eq_some_iff] at bn
       obtain ⟨c0,h0,rfl⟩:=bn
       exact Jh h' (fun i hi hn=>⟨hu c0 (List.mem_of_getElem? h0) i hi,hn⟩) (hc.at hv h0)
     · intro c aP i hi
       simp only [List.mem_map] at aP
       obtain ⟨c0,h0,rfl⟩:=aP
       exact hu c0 h0 i (Lc hi)
 | tup vs cs hc=>exact ⟨.any _,trivial⟩
 | any v=>exact ⟨.any _,trivial⟩
theorem Cr.kill {w':World} {S':Nat->Prop} {ι':Loc} {ks:List Nat} {nx nt:Nat} {tm:List (Nat × AV)} {tmps:Array Value} (h:Cr ι S tm nt nx w tmps) (h':Later w w' S S' ι ι' (fun i=>i < nx/\Af i ks=false)):Cr ι' S' (Nf ks tm) nt nx w' tmps:=by
 refine ⟨fun t v hv=>?_⟩
 rw [W5] at hv
 simp only [Option.map_eq_some_iff] at hv
 obtain ⟨v0,h0,rfl⟩:=hv
 obtain ⟨h1,h2,h3⟩:=h.tm t v0 h0
 have:=a7h (ks:=ks) h' h2 h3
 exact ⟨h1,this.2,this.1⟩
theorem Bp.kill {w':World} {S':Nat->Prop} {ι':Loc} {ks:List Nat} {nx i:Nat} {o:A2} (h':Later w w' S S' ι ι' (fun i=>i < nx/\Af i ks=false)) (hi:i < nx) (hk:Af i ks=false) (hu:o.uses (· < nx))
 (hd:o.isNest=true->∀ (k:Key) p,k.id=i->ι k=some p->ι' k=some p) (bE:∀ (k:Key) g c s,k.id=i->ι k=some (.blk g c s)->w'.heap[g]?=w.heap[g]?) (h:Bp w S ι i o):(Rh ks o).uses (· < nx)/\Bp w' S' ι' i (Rh ks o):=by
 refine ⟨?_,?_⟩
 · cases o with
   | box cs =>
     intro c hc j hj
     simp only [List.mem_map] at hc
     obtain ⟨c0,c6,rfl⟩:=hc
     exact hu c0 c6 j (Lc hj)
   | list=>trivial
   | map=>trivial
   | ranged=>trivial
   | clo f fs cs =>
     refine ⟨fun c hc j hj=>?_,fun c hc j hj=>?_⟩
     · simp only [List.mem_map] at hc
       obtain ⟨c0,c6,rfl⟩:=hc
       exact hu.1 c0 c6 j (Lc hj)
     · simp only [List.mem_map] at hc
       obtain ⟨c0,c6,rfl⟩:=hc
       exact hu.2 c0 c6 j (Lc hj)
   | @nest b e s rows =>
     cases b with
     | true=>intro h0; cases h0
     | false =>
       intro _ c hc j hj
       simp only [<- List.map_flatten,List.mem_map] at hc
       obtain ⟨c0,c6,rfl⟩:=hc
       exact hu rfl c0 c6 j (Lc hj)
 · cases h with
   | box g c s T cs vs h eA hw hc =>
     refine .box g c s T _ vs (h'.at_ _ _ ⟨hi,hk⟩ h) eA ((bE _ g c s rfl h).trans hw) (Al.of (by simp [hc.length]) fun j v c hv bn=>?_)
     simp only [List.getElem?_map,Option.map_eq_some_iff] at bn
     obtain ⟨c0,d4,rfl⟩:=bn
     exact Jh h' (fun i hi hn=>⟨hu c0 (List.mem_of_getElem? d4) i hi,hn⟩) (hc.at hv d4)
   | nil e s h hs=>exact .nil e s (h'.at_ _ _ ⟨hi,hk⟩ h) hs
   | map g clock kk rows es h hw he hb=>exact .map g clock kk rows es (h'.at_ _ _ ⟨hi,hk⟩ h) ((bE _ g 0 1 rfl h).trans hw) (he.mono fun _ _ h1=>h1.mono h'.rd) hb
   | ranged g gm clock ks cur left seen es h h2 hw hm hb hl hc =>
     exact .ranged g gm clock ks cur left seen es (hd rfl _ _ rfl h) (hd rfl _ _ rfl h2) ((bE _ g 0 2 rfl h).trans hw) ((bE _ gm 0 1 rfl h2).trans hm) hb (hl.mono fun _ _ he=>he.mono h'.rd) fun r hr=>let ⟨e,h1,h2,h3⟩:=hc r hr; ⟨e,h1,h2,h3.mono h'.rd⟩
   | clo f fs cs us vs h h1 h2 =>
     refine .clo f _ _ us vs (h'.at_ _ _ ⟨hi,hk⟩ h) (Al.of (by simp [h1.length]) fun j v c hv bn=>?_) (Al.of (by simp [h2.length]) fun j v c hv bn=>?_)
     · simp only [List.getElem?_map,Option.map_eq_some_iff] at bn
       obtain ⟨c0,d4,rfl⟩:=bn
       exact Jh h' (fun i hi hn=>⟨hu.1 c0 (List.mem_of_getElem? d4) i hi,hn⟩) (h1.at hv d4)
     · simp only [List.getElem?_map,Option.map_eq_some_iff] at bn
       obtain ⟨c0,d4,rfl⟩:=bn
       exact Jh h' (fun i hi hn=>⟨hu.2 c0 (List.mem_of_getElem? d4) i hi,hn⟩) (h2.at hv d4)
   | list g cap e s rows vs h hs hr hl hm hw hn hc=>exact .list g cap e s rows vs (h'.at_ _ _ ⟨hi,hk⟩ h) hs hr hl hm ((bE _ g cap s rfl h).trans hw) hn fun j v c hv ha=>(hc j v c hv ha).mono h'.rd
   | @nest0 b e s h hs=>cases b <;> exact .nest0 e s (h'.at_ _ _ ⟨hi,hk⟩ h) hs
   | @nest b g cap e s rows vs h hs hr hl hm hw hn hc =>
    cases b with
    | true=>exact .nest g cap e s rows vs (h'.at_ _ _ ⟨hi,hk⟩ h) hs hr hl hm ((bE _ g cap s rfl h).trans hw) hn fun j v c hv ha=>(hc j v c hv ha).elim (fun h=>by cases h.1) fun hx=>.inr (hx.mono (id:=i) h'.rd (hd rfl) bE rfl)
    | false =>
     refine .nest g cap e s _ vs (h'.at_ _ _ ⟨hi,hk⟩ h) hs (fun r aD=>?_) (by simpa using hl) hm ((bE _ g cap s rfl h).trans hw) hn fun j v c hv ha=>?_
     · simp only [List.mem_map] at aD
       obtain ⟨r0,h0,rfl⟩:=aD
       simpa using hr r0 h0
     · rw [<- List.map_flatten,List.getElem?_map,Option.map_eq_some_iff] at ha
       obtain ⟨c0,d4,rfl⟩:=ha
       rcases hc j v c0 hv d4 with ⟨_,hx⟩ | hx
       · exact .inl ⟨rfl,Jh h' (fun i hi hn=>⟨hu rfl c0 (List.mem_of_getElem? d4) i hi,hn⟩) hx⟩
       · have df:=hx.mono (id:=i) h'.rd (hd rfl) bE rfl
         have:Eg ks c0=c0:=by
          cases hx with
          | rd hx=>cases hx <;> rfl
          | _=>rfl
         rw [this]; exact .inr df
theorem Core.kill {hp:List (Nat × A2)} {nx:Nat} (hC:Core E ι S hp nx w) {id:Nat} {o o':A2} {w':World} {p:Pl} (ho:look hp id=some o)
 (mG:w'.os=w.os) (iT:w'.tape=w.tape) (eG:w'.output=w.output) (eH:w.heap.size<=w'.heap.size)
 (be:∀ k,k < w.heap.size->(∀ c s,ι id≠some (.blk k c s))->w'.heap[k]?=w.heap[k]?)
 (hp':∀ g c s,p=.blk g c s->g < w'.heap.size/\((∃ c s,ι id=some (.blk g c s))∨w.heap.size<=g))
 (bY:Bp w' S (put ι id (some p)) id o') (hu:o'.uses (· < nx)) (bQ:E.fix id=none) :
 Core E (put ι id (some p)) S ((id,o')::K5 [id] hp) nx w'/\Later w w' S S ι (put ι id (some p)) (fun i=>i < nx/\Af i [id]=false):=by
 have hid:=(hC.obj id o ho).1
 have hS:∀ b,S b->w'.heap[b]?=w.heap[b]?:=fun b hb=>be b (hC.lt b hb) fun c s e=>hC.dis b hb ⟨id,c,s,e⟩
 have mH:∀ i,i≠id->Af i [id]=false:=fun i hi=>by simp only [Af]; cases hb:Nat.beq i id with
  | true=>exact absurd (Nat.eq_of_beq_eq_true hb) hi
  | false=>rfl
 have cJ:∀ i,Af i [id]=false->i≠id:=fun i hi e=>by subst e; simp [Af] at hi
 have hL:Later w w' S S ι (put ι id (some p)) (fun i=>i < nx/\Af i [id]=false):=⟨fun b hb=>⟨hb,hS b hb⟩,fun i q hi h=>by rw [Ci _ _ (cJ _ hi.2)]; exact h⟩
 refine ⟨⟨?_,hC.sub,fun b hb=>Nat.lt_of_lt_of_le (hC.lt b hb) eH,?_,?_,?_,?_,?_,fun i q h=>by rw [Ci _ _ (fun e=>by have e':i=id:=e; subst e'; rw [bQ] at h; cases h)]; exact hC.stay i q h,hC.fxs⟩,hL⟩
 · refine hC.frame.trans (D':=fun k=>∃ c s,ι id=some (.blk k c s)) ⟨mG,iT,eG,eH,fun k hk hn=>be k hk fun c s e=>hn ⟨c,s,e⟩⟩ ?_
   rintro g hg ⟨c,s,e⟩
   rcases (hC.own id g c s e).2 with h | h
   · omega
   · exact h
 · rintro b hb ⟨i,c,s,e⟩
   by_cases hi:i=id
   · subst hi
     rw [As] at e
     simp at e
     rcases (hp' b c s e).2 with ⟨c',s',h⟩ | h
     · exact hC.dis b hb ⟨_,c',s',h⟩
     · have:=hC.lt b hb; omega
   · rw [Dd _ _ hi] at e
     exact hC.dis b hb ⟨i,c,s,e⟩
 · intro i g c s e
   by_cases hi:i=id
   · subst hi
     rw [As] at e
     simp at e
     have:=hp' g c s e
     refine ⟨this.1,?_⟩
     rcases this.2 with ⟨c',s',h⟩ | h
     · exact (hC.own _ g c' s' h).2
     · exact .inl (Nat.le_trans hC.frame.size h)
   · rw [Dd _ _ hi] at e
     have:=hC.own i g c s e
     exact ⟨Nat.lt_of_lt_of_le this.1 eH,this.2⟩
 · intro i j g c d s r ei ej
   by_cases hi:i=id <;> by_cases hj:j=id
   · exact hi.trans hj.symm
   · subst hi
     rw [As] at ei
     rw [Dd _ _ hj] at ej
     simp at ei
     rcases (hp' g c s ei).2 with ⟨c',s',h⟩ | h
     · exact hC.inj _ _ g _ _ _ _ h ej
     · have:=(hC.own j g _ _ ej).1; omega
   · subst hj
     rw [As] at ej
     rw [Dd _ _ hi] at ei
     simp at ej
     rcases (hp' g d r ej).2 with ⟨c',s',h⟩ | h
     · exact hC.inj _ _ g _ _ _ _ ei h
     · have:=(hC.own i g _ _ ei).1; omega
   · rw [Dd _ _ hi] at ei
     rw [Dd _ _ hj] at ej
     exact hC.inj i j g _ _ _ _ ei ej
 · intro i hi
   rw [Ci _ _ (by first | omega | (dsimp only; omega) | (dsimp only at *; omega))]
   exact hC.new i hi
 · intro i oi h
   rw [Aj] at h
   split at h
   · rename_i e
     subst e
     simp at h
     subst h
     exact ⟨hid,hu,bY⟩
   · rename_i aj
     rw [Jq] at h
     simp only [Option.map_eq_some_iff] at h
     obtain ⟨o0,h0,rfl⟩:=h
     obtain ⟨h1,h2,h3⟩:=hC.obj i o0 h0
     have gD:i≠id:=fun e=>aj e.symm
     have bE:∀ (k:Key) g c s,k.id=i->ι k=some (.blk g c s)->w'.heap[g]?=w.heap[g]?:=fun k g c s hk e=>be g (hC.own k g c s e).1 fun c' s' e'=>gD (by have:=hC.inj k id g _ _ _ _ e e'; rw [<- hk,this])
     have:=h3.kill hL h1 (mH i gD) h2 (fun _ k q hk hq=>by rw [Ci _ _ (by rw [hk]; exact gD)]; exact hq) bE
     exact ⟨h1,this.1,this.2⟩
theorem Oy {nt:Nat} (hC:Core E ι S s.hp s.nx w) (ab:Cr ι S s.tm nt s.nx w a.tmps) {x:Operand} {b:AV} (hx:Au s.tm x=some b) {ys:List (List AV)} {p:Prop} (hr:Gz s.hp b=some (ys,p)) (hp:p) {sz:Nat} (ao:∀ r∈ys,r.length=sz) (aE:0 < sz) :
 ∃ ad cap news,a.eval x=.slice ad ys.length cap/\Al (Rd w S) news ys.flatten/\(ad=none->ys=[])/\∀ d,ad=some d->∀ (j:Nat) (v:Value),news[j]?=some v->w.cell? (d.add j)=some v:=by
 have hv:=(Ak ab hx).1
 cases b with
 | lst rows =>
   simp [Gz] at hr
   obtain ⟨rfl,_⟩:=hr
   have h:=hv.lst_inv
   generalize a.eval x=v0 at h
   cases h with
   | nil ad cap hc=>exact ⟨ad,cap,[],rfl,trivial,fun _=>rfl,fun d _ j v hj=>by simp at hj⟩
   | lst _ b off cap s' cells g0 g1 g2 g3 g4 g5 g6 g7 =>
     refine ⟨_,cap,cells,rfl,Al.of (by rw [g5,Ay _ g4]) g7,fun e=>(by cases e),fun d e j v hj=>?_⟩
     cases e
     rw [Addr.add_none]
     exact g6 j v hj
 | own id len =>
   simp only [Gz] at hr
   cases ho:look s.hp id with
   | none=>simp [ho] at hr
   | some o =>
     cases o with
     | box cs=>simp [ho] at hr
     | map=>simp [ho] at hr
     | ranged=>simp [ho] at hr
     | clo=>simp [ho] at hr
     | nest e s' rows=>simp [ho] at hr
     | list e s' rows =>
       simp [ho] at hr
       obtain ⟨rfl,hq⟩:=hr
       have hp:=hq.2 hp
       have hl:(rows.take len).length=len:=by simp; omega
       obtain ⟨_,_,an⟩:=hC.obj id _ ho
       rcases hv.own_inv with ⟨g,cap,s2,hg,h1,h2,ev⟩ | ⟨hg,rfl,ev⟩
       · cases an with
         | nil _ _ h' _=>rw [hg] at h'; cases h'
         | list g' cap' _ _ _ vs h' hs hr ax hm hw hn hc =>
           rw [hg] at h'; simp at h'; obtain ⟨rfl,rfl,rfl⟩:=h'
           have aV:rows.length * s2<=cap * s2:=Nat.mul_le_mul_right _ ax
           have bd:len * s2<=rows.length * s2:=Nat.mul_le_mul_right _ hp
           refine ⟨_,cap,vs.take (len * s2),by rw [hl]; exact ev,?_,fun e=>(by cases e),fun d e j v hj=>?_⟩
           · rw [By _ _ hr]
             refine Al.of ?_ fun i v av aY ha=>?_
             · simp only [List.length_take,Ay _ hr,hn]; omega
             · rw [List.getElem?_take] at aY ha
               split at aY
               · rename_i aa
                 rw [if_pos aa] at ha
                 exact hc i v av aY ha
               · cases aY
           · cases e
             rw [Addr.add_none,Nat.zero_add]
             rw [List.getElem?_take] at hj
             split at hj
             · exact cells_of_block hw j v hj
             · cases hj
       · exact ⟨none,0,[],by simpa using ev,by simp [Al],fun _=>(by simp),fun d e=>by cases e⟩
 | val u =>
   simp only [Gz] at hr
   unfold a6w at hr
   split at hr
   · rename_i ad cap
     simp at hr
     obtain ⟨rfl,_⟩:=hr
     exact ⟨ad,cap,[],hv.val_inv.1,trivial,fun _=>rfl,fun d _ j v hj=>by simp at hj⟩
   · cases hr
 | _=>simp [Gz] at hr
theorem Al.oneRd {vs:List Value} {cs:List AV} (h:Al (Rd w S) vs cs):∀ v∈vs,v.oneCell'=true:=by
 intro v hv
 obtain ⟨i,hi,e⟩:=List.mem_iff_getElem.1 hv
 have h1:vs[i]?=some v:=by rw [List.getElem?_eq_getElem hi,e]
 have aQ:i < cs.length:=by rw [<- h.length]; exact hi
 exact (h.at h1 (List.getElem?_eq_getElem aQ)).one
theorem a1W {α β:Type} {R:α->β->Prop} {vs u rest:List α} {fl b:List β} {n:Nat} (hc:∀ (i:Nat) (v:α) (a:β),vs[i]?=some v->fl[i]?=some a->R v a) (hu:Al R u b) (h1:n<=vs.length) (h2:n<=fl.length) :
 ∀ (j:Nat) (y:α) (z:β),(vs.take n++u++rest)[j]?=some y->(fl.take n++b)[j]?=some z->R y z:=by
 intro j y z hy hz
 have hl:=hu.length
 have l1:(vs.take n).length=n:=by simp; omega
 have l2:(fl.take n).length=n:=by simp; omega
 rw [List.append_assoc] at hy
 by_cases hj:j < n
 · rw [List.getElem?_append_left (by omega),List.getElem?_take,if_pos hj] at hy hz
   exact hc j y z hy hz
 · rw [List.getElem?_append_right (by omega)] at hy hz
   rw [l1] at hy
   rw [l2] at hz
   have gs:j - n < b.length:=(List.getElem?_eq_some_iff.1 hz).1
   rw [List.getElem?_append_left (by omega)] at hy
   exact hu.at hy hz
theorem Ep {P:Program} {t ty e:TypeId} {i:TypeInfo} (ht:P.underlying t=some (.slice e)) (hi:P.info? e=some i) (ad:Option Addr) (n c c':Nat) (h:n<=c) :
 (Builtin.append_ #[t,t] ty #[.slice ad n c,.slice none 0 c']).run P w=.ok (.slice ad n c) w:=by
 cases ad with
 | none=>simp [Builtin.append_,run_underlying ht,sizeOf,typeInfo,hi,Builtin.lenOf,h,Builtin.firstCells]
 | some d=>simp [Builtin.append_,run_underlying ht,sizeOf,typeInfo,hi,Builtin.lenOf,h,Builtin.firstCells,storeCells]
theorem Core.drew {hp:List (Nat × A2)} {nx:Nat} (hC:Core E ι S hp nx w):Core E ι S hp nx w.drew :=
 ⟨⟨hC.frame.os,hC.frame.tape,hC.frame.output,hC.frame.size,hC.frame.block⟩,hC.sub,hC.lt,hC.dis,hC.own,hC.inj,hC.new,fun id o h =>
   let ⟨h1,h2,h3⟩:=hC.obj id o h
   ⟨h1,h2,Bp.mono (w:=w) (w':=w.drew) (S:=S) (ι:=ι) (S':=S) (ι':=ι) (K:=fun _=>True) ⟨fun b hb=>⟨hb,rfl⟩,fun _ _ _ h=>h⟩ trivial (by cases o <;> simp [A2.uses]) (fun _ _ _ _ h=>h) (fun _ _ _ _ _ _=>rfl) h3⟩,hC.stay,hC.fxs⟩
theorem a1X (op:BinOp) (t t':TypeId) {e:TypeId} (x y:Operand) (ht:E.P.underlying t=some (.slice e)):(Wn s op x y).Sound E s (fun ρ=>do pure (.value (<- (do eqGuard op t x y (ρ x) (ρ y); binOp op t (ρ x) (ρ y):Sem Value)))):=by
 unfold Wn
 cases hy:Au s.tm y with
 | none=>trivial
 | some q =>
   split
   · rename_i hq
     simp only [Option.some.injEq] at hq
     subst hq
     cases hx:Au s.tm x with
     | none=>trivial
     | some p =>
       simp only
       have run:∀ (a:Act) (w:World) (ι:Loc) (S:Nat->Prop) (ad:Option Addr) (n c:Nat),Cr ι S s.tm E.nt s.nx w a.tmps->a.eval x=.slice ad n c->∀ r,(binOp op t (.slice ad n c) (.slice none 0 0)).run E.P w=.ok r w ->
        (do pure (Next.value (<- (do eqGuard op t x y (a.eval x) (a.eval y); binOp op t (a.eval x) (a.eval y):Sem Value))):Sem Next).run E.P w=.ok (.value r) w:=by
        intro a w ι S ad n c ab ev r h1
        have e2:=(Ak ab hy).1.val_inv.1
        rw [ev,e2]
        simp only [Sem.run_bind,Ql op t x y (a:=.slice ad n c) (b:=.slice none 0 0) (fun _ _ h=>by cases h) (fun h=>by cases h),Result.andThen_ok,h1,Sem.run_pure]
       have eql:∀ (w:World) (ad:Option Addr) (n c:Nat),(binOp .eql t (.slice ad n c) (.slice none 0 0)).run E.P w=.ok (.bool ad.isNone) w:=fun w ad n c=>Lib.run_eql_slice_nil w t e ad n c 0 0 ht
       have neq:∀ (w:World) (ad:Option Addr) (n c:Nat),(binOp .neq t (.slice ad n c) (.slice none 0 0)).run E.P w=.ok (.bool (!ad.isNone)) w:=fun w ad n c=>by
        simp only [binOp]
        simp [Op.equal,Op.maxDepth,Lib.run_equalIn_slice_nil w 9999 t e ad n c 0 0 ht]
       unfold a1I
       split
       · rename_i rows
         have key:rows≠[]->∀ (a:Act) (w:World) (ι:Loc) (S:Nat->Prop),Cr ι S s.tm E.nt s.nx w a.tmps->∃ ad n c,a.eval x=.slice (some ad) n c:=by
          intro aj a w ι S ab
          have hr:=(Ak ab hx).1.lst_inv
          generalize a.eval x=v at hr
          cases hr with
          | nil=>exact absurd rfl aj
          | lst _ b off cap sz cells=>exact ⟨_,_,_,rfl⟩
         cases op <;> first | trivial | skip
         · intro aj a w ι S hC ab
           obtain ⟨ad,n,c,ev⟩:=key aj a w ι S ab
           exact Good.same hC (run a w ι S _ _ _ ab ev _ (eql w (some ad) n c)) (.one (.cell (.rd (.val _ rfl)))) trivial
         · intro aj a w ι S hC ab
           obtain ⟨ad,n,c,ev⟩:=key aj a w ι S ab
           exact Good.same hC (run a w ι S _ _ _ ab ev _ (neq w (some ad) n c)) (.one (.cell (.rd (.val _ rfl)))) trivial
       · rename_i ad n c
         cases op <;> first | trivial | skip
         · intro a w ι S hC ab
           exact Good.same hC (run a w ι S _ _ _ ab (Ak ab hx).1.val_inv.1 _ (eql w ad n c)) (.one (.cell (.rd (.val _ rfl)))) trivial
         · intro a w ι S hC ab
           exact Good.same hC (run a w ι S _ _ _ ab (Ak ab hx).1.val_inv.1 _ (neq w ad n c)) (.one (.cell (.rd (.val _ rfl)))) trivial
       · trivial
   · trivial
theorem a7i (hT:Bg E.P tt) {t:TypeId} (h:Tj tt t=true):E.P.underlying t=some .string:=by
 unfold Tj at h
 cases hl:look tt t with
 | none=>simp [hl] at h
 | some ti =>
   obtain ⟨i,d,hk⟩:=hT t ti hl
   simp only [hl] at h
   cases bf:ti.kind with
   | str =>
     have:=hk.kind
     rw [bf] at this
     cases d <;> simp [Cw] at this
     exact hk.under
   | _=>simp [bf] at h
theorem a4Y (hT:Bg E.P tt) (src dst:TypeId) (x:Operand) (hd:Tj tt dst=true):(a1L tt s src x).Sound E s (fun ρ=>do pure (.value (<- convert src dst (ρ x)))):=by
 have c7:=a7i hT hd
 unfold a1L
 cases he:B2 tt src with
 | none=>trivial
 | some et =>
   obtain ⟨e,te⟩:=et
   obtain ⟨fI,ie,de,ed⟩:=Dx hT he
   simp only
   split
   · rename_i hi
     have lN:E.P.underlying e=some (.int .u8):=by
      have h1:=ed.int _ hi
      have h2:=ed.under
      rw [h1] at h2; exact h2
     cases hx:Au s.tm x with
     | none=>trivial
     | some q =>
       simp only
       cases hr:Gz s.hp q with
       | none=>trivial
       | some yp =>
         obtain ⟨ys,p⟩:=yp
         intro hp a w ι S hC ab
         obtain ⟨ad,cap,news,ev,hn,h0,hc⟩:=Oy hC ab hx hr hp.1 (sz:=1) (fun r hr=>by obtain ⟨n,rfl⟩:=hp.2 r hr; rfl) (by decide)
         have bh:∀ (zs:List (List AV)),a8X zs->zs.flatten=zs.map fun r=>AV.val (.int .u8 (numOf r)):=by
          intro zs
          induction zs with
          | nil=>intro _; rfl
          | cons r rs ih =>
            intro hz
            obtain ⟨n,rfl⟩:=hz _ (List.mem_cons_self ..)
            rw [List.flatten_cons,ih fun r hr=>hz r (List.mem_cons_of_mem _ hr)]; rfl
         have aF:news=(ys.map numOf).map (Value.int .u8):=by
          rw [bh ys hp.2] at hn
          refine List.ext_getElem? fun i=>?_
          by_cases aa:i < news.length
          · have aw:i < (ys.map fun r=>AV.val (.int .u8 (numOf r))).length:=by rw [<- hn.length]; exact aa
            have h1:=List.getElem?_eq_getElem aa
            have h2:=List.getElem?_eq_getElem aw
            have:=hn.at h1 h2
            have hv:news[i]=.int .u8 (numOf (ys[i]'(by simpa using aw))):=by
             simp only [List.getElem_map] at this
             generalize news[i]=v at this
             cases this with | val=>rfl
            rw [h1,hv]
            have mI:i < ys.length:=by simpa using aw
            simp [mI]
          · rw [List.getElem?_eq_none (by omega),List.getElem?_eq_none (by have:=hn.length; simp at this ⊢; omega)]
         refine Good.same hC (v:=.string (strOf ys)) ?_ (.one (.cell (.rd (.val _ rfl)))) trivial
         refine Ap ?_
         rw [ev]
         cases ad with
         | none =>
           have:=h0 rfl
           subst this
           exact run_convert_bytes_nil w src e fI lN _ _ dst c7
         | some d =>
           have hl:=run_loadCells_list (P:=E.P) w d news (hc d rfl)
           have gE:news.length=ys.length:=by rw [aF]; simp
           rw [gE,aF] at hl
           rw [run_convert_bytes_string w src dst e _ _ cap fI lN c7,run_bytesToString w _ _ cap (ys.map numOf) hl,foldl_push_bytes]
           simp [strOf,strOfNums,ByteArray.empty,ByteArray.emptyWithCapacity]
           rfl
   · trivial
theorem a4Z {P:Program} {t ty e:TypeId} {it:TypeInfo} {z:Value} {te:TI} {d0:TypeDesc} (hk:Qi P e te it d0) (hu:P.underlying t=some (.slice e)) (hz:it.zero=some z) (dm:z.cells.size=te.size) {g len cap n cap2:Nat} {vs news:List Value} {ad:Option Addr}
 (hw:w.heap[g]?=some (.cells vs.toArray e (0,0))) (gF:g < w.heap.size) (hn:vs.length=cap * te.size) (ae:len<=cap) (bZ:news.length=n * te.size) (aX:∀ v∈news,v.oneCell'=true) (aI:ad=none->n=0)
 (aA:∀ d,ad=some d->∀ (j:Nat) (v:Value),news[j]?=some v->w.cell? (d.add j)=some v) (bw:(len + n) * te.bytes<=140737488355328) (bJ:len + n<=maxLen) (bp:cap<=maxLen) :
 ∃ (g' cap':Nat) (w':World) (rest:List Value),(Builtin.append_ #[t,t] ty #[.slice (some ⟨g,0,none⟩) len cap,.slice ad n cap2]).run P w=.ok (.slice (some ⟨g',0,none⟩) (len + n) cap') w' /\
   w'.heap[g']?=some (.cells (vs.take (len * te.size)++news++rest).toArray e (0,0))/\(vs.take (len * te.size)++news++rest).length=cap' * te.size/\len + n<=cap'/\cap'<=maxLen/\g' < w'.heap.size/\(g'=g∨w.heap.size<=g') /\
   (∀ k,k < w.heap.size->k≠g->w'.heap[k]?=w.heap[k]?)/\w'.os=w.os/\w'.tape=w.tape/\w'.output=w.output/\w.heap.size<=w'.heap.size:=by
 have aV:len * te.size<=cap * te.size:=Nat.mul_le_mul_right _ ae
 by_cases bk:len + n<=cap
 · have eI:(len + n) * te.size<=cap * te.size:=Nat.mul_le_mul_right _ bk
   rw [Nat.add_mul] at eI
   cases ad with
   | none =>
     have:=aI rfl
     subst this
     have cZ:news=[]:=List.eq_nil_of_length_eq_zero (by simpa using bZ)
     subst cZ
     refine ⟨g,cap,w,vs.drop (len * te.size),?_,?_,by simp [hn],bk,bp,gF,.inl rfl,fun _ _ _=>rfl,rfl,rfl,rfl,Nat.le_refl _⟩
     · simpa using Ep (P:=P) (w:=w) (ty:=ty) hu hk.info (some ⟨g,0,none⟩) len cap cap2 (by simpa using bk)
     · simp only [List.append_nil,List.take_append_drop]; exact hw
   | some d =>
     have aD:=run_append_room (P:=P) w t ty e it hu hk.info g len cap vs.toArray hw d n cap2 news (by rw [hk.size]; exact bZ) (aA d rfl) aX bk (by rw [hk.size]; simp [hn,bZ]; omega)
     rw [hk.size] at aD
     refine ⟨g,cap,_,vs.drop (len * te.size + news.length),aD,setRow_heap w g _ _ e _ hw,by simp only [List.length_append,List.length_take,List.length_drop,hn,bZ]; omega,bk,bp,by simpa using gF,.inl rfl,fun k _ aW=>setRow_other w g k _ aW,rfl,rfl,rfl,by simp⟩
 · have ir:0 < n:=by omega
   obtain ⟨d,rfl⟩:∃ d,ad=some d:=by
    cases ad with
    | none=>have:=aI rfl; omega
    | some d=>exact ⟨d,rfl⟩
   have aD:=run_append_grow (P:=P) w t ty e it z hu hk.info hz ⟨g,0,none⟩ len cap (vs.take (len * te.size)) (by rw [hk.size,List.length_take,hn]; omega) (fun j v hj=>by
    rw [Addr.add_none,Nat.zero_add]
    rw [List.getElem?_take] at hj
    split at hj
    · exact cells_of_block hw j v hj
    · cases hj) d n cap2 news (by rw [hk.size]; exact bZ) (aA d rfl) (by omega) (by simp only [maxLen] at bJ; omega) (growslice_fits (by omega) (by rw [hk.bytes]; exact bw))
   have c8:=grownCap_ge w (len + n) cap e
   have bo:=grownCap_le_maxLen w (len + n) cap e bJ
   have aG:(vs.take (len * te.size)).toArray++news.toArray++Builtin.zeroCells z.cells (grownCap w (len + n) cap e - (len + n))=(vs.take (len * te.size)++news++(Builtin.zeroCells z.cells (grownCap w (len + n) cap e - (len + n))).toList).toArray:=by
    exact Array.ext' (by simp)
   rw [aG] at aD
   refine ⟨w.heap.size,_,_,_,aD,heap_alloc_new w.drew _,?_,c8,bo,by simp,.inr (Nat.le_refl _),fun k aW _=>Below.heap_alloc w.drew _ k aW,rfl,rfl,rfl,by simp⟩
   simp only [List.length_append,List.length_take,hn,bZ,Array.length_toList,size_zeroCells,dm,Nat.min_eq_left aV,<- Nat.add_mul]
   congr 1; omega
theorem a3c {P:Program} {t ty e:TypeId} {it:TypeInfo} {z:Value} {te:TI} {d0:TypeDesc} (hk:Qi P e te it d0) (hu:P.underlying t=some (.slice e)) (hz:it.zero=some z) (dm:z.cells.size=te.size) {n cap2:Nat} {news:List Value} {d:Addr}
 (bZ:news.length=n * te.size) (cZ:0 < n) (aA:∀ (j:Nat) (v:Value),news[j]?=some v->w.cell? (d.add j)=some v) (bw:n * te.bytes<=140737488355328) (bJ:n<=maxLen) :
 ∃ (cap':Nat) (w':World) (rest:List Value),(Builtin.append_ #[t,t] ty #[.slice none 0 0,.slice (some d) n cap2]).run P w=.ok (.slice (some ⟨w.heap.size,0,none⟩) n cap') w' /\
   w'.heap[w.heap.size]?=some (.cells (news++rest).toArray e (0,0))/\(news++rest).length=cap' * te.size/\n<=cap'/\cap'<=maxLen/\w.heap.size < w'.heap.size /\
   (∀ k,k < w.heap.size->w'.heap[k]?=w.heap[k]?)/\w'.os=w.os/\w'.tape=w.tape/\w'.output=w.output:=by
 have aD:=run_append_nil (P:=P) w t ty e it z hu hk.info hz d n cap2 news (by rw [hk.size]; exact bZ) aA cZ (by simp only [maxLen] at bJ; omega) (by rw [hk.bytes]; omega)
 have c8:=grownCap_ge w n 0 e
 have bo:=grownCap_le_maxLen w n 0 e bJ
 have aG:news.toArray++Builtin.zeroCells z.cells (grownCap w n 0 e - n)=(news++(Builtin.zeroCells z.cells (grownCap w n 0 e - n)).toList).toArray:=Array.ext' (by simp)
 rw [aG] at aD
 refine ⟨_,_,_,aD,heap_alloc_new w.drew _,?_,c8,bo,by simp,fun k aW=>Below.heap_alloc w.drew _ k aW,rfl,rfl,rfl⟩
 simp only [List.length_append,bZ,Array.length_toList,size_zeroCells,dm,<- Nat.add_mul]
 congr 1; omega
theorem b0A {α β:Type} {R:Nat->α->β->Prop} {vs u rest:List α} {fl b:List β} {n:Nat} (hc:∀ (i:Nat) (v:α) (a:β),vs[i]?=some v->fl[i]?=some a->R i v a) (hu:∀ (i:Nat) (v:α) (a:β),u[i]?=some v->b[i]?=some a->R (n + i) v a) (hl:u.length=b.length) (h1:n<=vs.length) (h2:n<=fl.length) :
 ∀ (j:Nat) (y:α) (z:β),(vs.take n++u++rest)[j]?=some y->(fl.take n++b)[j]?=some z->R j y z:=by
 intro j y z hy hz
 have l1:(vs.take n).length=n:=by simp; omega
 have l2:(fl.take n).length=n:=by simp; omega
 rw [List.append_assoc] at hy
 by_cases hj:j < n
 · rw [List.getElem?_append_left (by omega),List.getElem?_take,if_pos hj] at hy hz
   exact hc j y z hy hz
 · rw [List.getElem?_append_right (by omega)] at hy hz
   rw [l1] at hy
   rw [l2] at hz
   have gs:j - n < b.length:=(List.getElem?_eq_some_iff.1 hz).1
   rw [List.getElem?_append_left (by omega)] at hy
   have:=hu (j - n) y z hy hz
   rwa [show n + (j - n)=j by omega] at this
theorem Oz {nx i:Nat} {b:Bool} {e sz:Nat} {rows:List (List AV)} (hu:(@A2.nest b e sz rows).uses (· < nx)) (an:Bp w S ι i (@A2.nest b e sz rows)):∀ c∈rows.flatten,∀ j,c.idOf=some j->j < nx:=by
 cases b with
 | false=>exact hu rfl
 | true =>
   intro c bp j hj
   cases an with
   | nest0=>simp at bp
   | nest g cap _ _ _ vs h hs hr ax hm hw hn hc =>
     obtain ⟨k,ck⟩:=List.mem_iff_getElem?.1 bp
     have aw:k < rows.flatten.length:=(List.getElem?_eq_some_iff.1 ck).1
     rw [Ay _ hr] at aw
     have aV:rows.length * sz<=cap * sz:=Nat.mul_le_mul_right _ ax
     rcases hc k _ c (List.getElem?_eq_getElem (show k < vs.length by rw [hn]; omega)) ck with ⟨h0,_⟩ | hx
     · cases h0
     · rw [hx.noId] at hj; cases hj
theorem W6 (hT:Bg E.P tt) {t ty e:TypeId} {te:TI} (he:B2 tt t=some (e,te)) (x y:Operand) (q b:AV) (hx:Au s.tm x=some q) (hy:Au s.tm y=some b) :
 (Nh s e te b q).Sound E s (fun ρ=>do pure (.value (<- Builtin.append_ #[t,t] ty #[ρ x,ρ y]))):=by
 obtain ⟨hu,it,dt,hk⟩:=Dx hT he
 obtain ⟨z,hz,dA⟩:=hk.zero
 have dm:z.cells.size=te.size:=by rw [<- hk.zlen,<- dA]; simp
 unfold Nh
 split
 · rename_i j n id len
   cases ho:look s.hp id with
   | none=>trivial
   | some o =>
     cases o with
     | box cs=>trivial
     | list e' sz rows=>trivial
     | map=>trivial
     | ranged=>trivial
     | clo=>trivial
     | @nest b0 e' sz rows =>
       simp only
       cases mJ:look s.hp j with
       | none=>trivial
       | some oj =>
         cases oj with
         | box cs=>trivial
         | map=>trivial
         | ranged=>trivial
         | clo=>trivial
         | list e2 sz2 ys=>trivial
         | @nest b1 e2 sz2 ys =>
           simp only
           cases hb:(Nat.beq e e'&&Nat.beq sz te.size&&Nat.beq sz2 te.size&&(ys.all fun r=>r.all Pz)) with
           | false=>trivial
           | true =>
             simp only [cond_true]
             simp only [Bool.and_eq_true] at hb
             have iq:=Nat.eq_of_beq_eq_true hb.1.1.1
             have ke:=Nat.eq_of_beq_eq_true hb.1.1.2
             have kf:=Nat.eq_of_beq_eq_true hb.1.2
             have aM:∀ c∈ys.flatten,Pz c=true:=fun c hc=>by
              obtain ⟨r,hr,aR⟩:=List.mem_flatten.1 hc
              exact List.all_eq_true.1 (List.all_eq_true.1 hb.2 r hr) c aR
             subst iq ke kf
             rintro ⟨ae,jN,bw,bJ,kg,iU⟩ bQ a w ι S hC ab
             obtain ⟨hid,eJ,an⟩:=hC.obj id _ ho
             obtain ⟨_,iV,cd⟩:=hC.obj j _ mJ
             have aE:0 < te.size:=by cases an <;> assumption
             have fK:∀ r∈rows,r.length=te.size:=by
              cases an with
              | nest0=>intro r hr; cases hr
              | nest g cap _ _ _ vs h hs hr ax hm hw hn hc=>exact hr
             have fL:∀ r∈ys,r.length=te.size:=by
              cases cd with
              | nest0=>intro r hr; cases hr
              | nest g cap _ _ _ vs h hs hr ax hm hw hn hc=>exact hr
             have eK:∀ r∈rows.take len++ys.take n,r.length=te.size:=by
              intro r hr
              rcases List.mem_append.1 hr with hr | hr
              · exact fK r (List.mem_of_mem_take hr)
              · exact fL r (List.mem_of_mem_take hr)
             have gb:(rows.take len++ys.take n).length=len + n:=by simp; omega
             have bh:(rows.take len++ys.take n).flatten=rows.flatten.take (len * te.size)++(ys.take n).flatten:=by rw [List.flatten_append,By _ _ fK]
             have iW:(ys.take n).flatten=ys.flatten.take (n * te.size):=By _ _ fL
             have iX:∃ ad cap2 news,a.eval y=.slice ad n cap2/\Al (A9 w S ι) news (ys.take n).flatten/\(ad=none->n=0)/\∀ d,ad=some d->∀ (j:Nat) (v:Value),news[j]?=some v->w.cell? (d.add j)=some v:=by
              rcases (Ak ab hy).1.own_inv with ⟨g,cap,s2,hg,h1,h2,ev⟩ | ⟨hg,cZ,ev⟩
              · cases cd with
                | nest0 _ _ h' _=>rw [hg] at h'; cases h'
                | nest g' cap' _ _ _ vs h' hs hr ax hm hw hn hc =>
                  rw [hg] at h'; simp at h'; obtain ⟨rfl,rfl,rfl⟩:=h'
                  have aV:ys.length * te.size<=cap * te.size:=Nat.mul_le_mul_right _ ax
                  have bd:n * te.size<=ys.length * te.size:=Nat.mul_le_mul_right _ jN
                  refine ⟨_,cap,vs.take (n * te.size),ev,?_,fun e=>(by cases e),fun d e j v hj=>?_⟩
                  · rw [iW]
                    refine Al.of ?_ fun i v av aY ha=>?_
                    · simp only [List.length_take,Ay _ fL,hn]; omega
                    · rw [List.getElem?_take] at aY ha
                      split at aY
                      · rename_i aa
                        rw [if_pos aa] at ha
                        exact A9.ofN (hc i v av aY ha) (aM av (List.mem_of_getElem? ha))
                      · cases aY
                  · cases e
                    rw [Addr.add_none,Nat.zero_add]
                    rw [List.getElem?_take] at hj
                    split at hj
                    · exact cells_of_block hw j v hj
                    · cases hj
              · subst cZ
                exact ⟨none,0,[],by simpa using ev,by simp [Al],fun _=>rfl,fun d e=>by cases e⟩
             obtain ⟨ad,cap2,news,ey,aF,aI,aA⟩:=iX
             have bZ:news.length=n * te.size:=by rw [aF.length,iW,List.length_take,Ay _ fL]; have:=Nat.mul_le_mul_right te.size jN; omega
             have aX:∀ v∈news,v.oneCell'=true:=H9 aF
             have gd:∀ c∈(rows.take len++ys.take n).flatten,∀ i,c.idOf=some i->i < s.nx:=by
              intro c hc i hi
              rw [bh,iW] at hc
              rcases List.mem_append.1 hc with hc | hc
              · exact Oz eJ an c (List.mem_of_mem_take hc) i hi
              · exact Oz iV cd c (List.mem_of_mem_take hc) i hi
             have cells:∀ (w':World) (p:Pl) (g0:Nat),(∀ b,S b->w'.heap[b]?=w.heap[b]?)->(∀ k g c z,k≠(⟨id,[]⟩:Key)->ι k=some (.blk g c z)->w'.heap[g]?=w.heap[g]?)->∀ (j:Nat) (v:Value) (c:AV),((false=false/\A9 w S ι v c)∨Tr w S ι ⟨id,[j]⟩ v c)->c.idOf≠some id ->
              (false=false/\A9 w' S (put ι id (some p)) v c)∨Tr w' S (put ι id (some p)) ⟨id,[j]⟩ v c:=by
              intro w' p g0 lO hB j v c hx aj
              rcases hx with ⟨_,hx⟩ | hx
              · refine .inl ⟨rfl,?_⟩
                exact (hx.mono (K:=fun i=>i≠id) ⟨fun b hb=>⟨hb,lO b hb⟩,fun i q hi h=>by rw [Ci _ _ hi]; exact h⟩ fun i hi e'=>aj (by rw [hi,e']))
              · exact .inr (hx.monoC (fun k=>k.id=id/\k.path≠[]) (fun k x hk=>⟨hk.1,by simp⟩) (fun b hb=>⟨hb,lO b hb⟩) (fun k q hk h=>by rw [Dd _ _ (fun e'=>hk.2 (by rw [e']))]; exact h) (fun k g' c' s' hk dk=>hB k g' c' s' (fun e'=>hk.2 (by rw [e'])) dk) ⟨rfl,by simp⟩)
             rcases (Ak ab hx).1.own_inv with ⟨g,cap,s2,hg,h1,h2,ev⟩ | ⟨hg,rfl,ev⟩
             · cases an with
               | nest0 _ _ h' _=>rw [hg] at h'; cases h'
               | nest g' cap' _ _ _ vs h' hs hr ax hm hw hn hc =>
                 rw [hg] at h'; simp at h'; obtain ⟨rfl,rfl,rfl⟩:=h'
                 have aV:rows.length * te.size<=cap * te.size:=Nat.mul_le_mul_right _ ax
                 have bd:len * te.size<=rows.length * te.size:=Nat.mul_le_mul_right _ ae
                 have iY:rows.flatten.length=rows.length * te.size:=Ay _ fK
                 obtain ⟨g2,cap3,w',rest,ar,eL,bA,iZ,i5,fM,mK,be,q1,q2,q3,q4⟩:=a4Z (w:=w) (ty:=ty) (cap2:=cap2) hk hu hz dm hw (hC.own id g cap te.size hg).1 hn (by omega) bZ aX aI aA bw bJ hm
                 have hS:∀ b,S b->w'.heap[b]?=w.heap[b]?:=fun b hb=>be b (hC.lt b hb) fun e'=>hC.dis b hb ⟨id,_,_,e' ▸ hg⟩
                 have hB:∀ k g3 c z,k≠(⟨id,[]⟩:Key)->ι k=some (.blk g3 c z)->w'.heap[g3]?=w.heap[g3]?:=fun k g3 c z aW ck=>be g3 (hC.own k g3 c z ck).1 fun e'=>by
                  subst e'
                  exact aW (hC.inj k ⟨id,[]⟩ g3 _ _ _ _ ck hg)
                 have cz:Bp w' S (put ι id (some (.blk g2 cap3 te.size))) id (.nest (c:=false) e te.size (rows.take len++ys.take n)):=by
                  refine .nest g2 cap3 e te.size _ _ (As _ _ _) aE eK (by rw [gb]; exact iZ) i5 eL bA fun i v av hv ha=>?_
                  rw [bh] at ha
                  have cK:av.idOf≠some id:=by
                   have:=List.mem_of_getElem? ha
                   rw [iW] at this
                   rcases List.mem_append.1 this with aP | aP
                   · exact kg av (List.mem_of_mem_take aP)
                   · exact iU av (List.mem_of_mem_take aP)
                  exact cells w' _ g2 hS hB i v av (b0A (R:=fun i v av=>(false=false/\A9 w S ι v av)∨Tr w S ι ⟨id,[i]⟩ v av) (fun i v a h h'=>(hc i v a h h').imp (fun h=>⟨rfl,h.2⟩) fun h=>h) (fun i v a h h'=>.inl ⟨rfl,aF.at h h'⟩) aF.length (by rw [hn]; omega) (by omega) i v av hv ha) cK
                 have:=hC.kill ho (p:=.blk g2 cap3 te.size) (w':=w') q1 q2 q3 q4 (fun k aW ck=>be k aW fun e'=>ck cap te.size (e' ▸ hg)) (fun g' c' s' e'=>by
                  cases e'
                  refine ⟨fM,?_⟩
                  rcases mK with rfl | h
                  · exact .inl ⟨_,_,hg⟩
                  · exact .inr h) cz (fun _=>gd) bQ
                 refine ⟨_,_,_,S,?_,this.1,this.2,.one (.cell (.own id _ g2 cap3 te.size (As _ _ _) iZ i5)),hid⟩
                 dsimp only
                 rw [ev,ey]
                 exact Ap ar
             · have cA:rows=[]:=by
                cases an with
                | nest0=>rfl
                | nest g' cap' _ _ _ vs h' hs hr ax hm hw hn hc=>rw [hg] at h'; cases h'
               subst cA
               simp only [List.take_nil,List.nil_append,Nat.zero_add] at *
               cases ad with
               | none =>
                 have:=aI rfl
                 subst this
                 have cz:Bp w S (put ι id (some .nil)) id (.nest (c:=false) e te.size []):=.nest0 e te.size (As _ _ _) aE
                 have:=hC.kill ho (p:=.nil) (w':=w) rfl rfl rfl (Nat.le_refl _) (fun k _ _=>rfl) (fun g' c' s' e'=>by cases e') cz (fun _ c hc=>by simp at hc) bQ
                 refine ⟨.slice none 0 0,w,_,S,?_,by simpa using this.1,this.2,.one (.cell (.own0 id (As _ _ _))),hid⟩
                 rw [ev,ey]
                 exact Ap (Ep hu hk.info none 0 0 cap2 (Nat.le_refl _))
               | some d =>
                 by_cases fN:n=0
                 · subst fN
                   have cz:Bp w S (put ι id (some .nil)) id (.nest (c:=false) e te.size []):=.nest0 e te.size (As _ _ _) aE
                   have:=hC.kill ho (p:=.nil) (w':=w) rfl rfl rfl (Nat.le_refl _) (fun k _ _=>rfl) (fun g' c' s' e'=>by cases e') cz (fun _ c hc=>by simp at hc) bQ
                   refine ⟨.slice none 0 0,w,_,S,?_,by simpa using this.1,this.2,.one (.cell (.own0 id (As _ _ _))),hid⟩
                   rw [ev,ey]
                   exact Ap (by simp [Builtin.append_,run_underlying hu,sizeOf,typeInfo,hk.info,Builtin.lenOf,Builtin.firstCells,loadCells,loadCellsFrom])
                 · obtain ⟨cap3,w',rest,ar,eL,bA,iZ,i5,fM,be,q1,q2,q3⟩:=a3c (w:=w) (ty:=ty) (cap2:=cap2) hk hu hz dm bZ (by omega) (aA d rfl) bw bJ
                   have hS:∀ b,S b->w'.heap[b]?=w.heap[b]?:=fun b hb=>be b (hC.lt b hb)
                   have cz:Bp w' S (put ι id (some (.blk w.heap.size cap3 te.size))) id (.nest (c:=false) e te.size (ys.take n)):=by
                    refine .nest w.heap.size cap3 e te.size _ _ (As _ _ _) aE eK (by rw [gb]; exact iZ) i5 eL bA fun i v av hv ha=>?_
                    have cK:av.idOf≠some id:=by
                     have:=List.mem_of_getElem? ha
                     rw [iW] at this
                     exact iU av (List.mem_of_mem_take this)
                    refine Or.imp (fun h=>⟨rfl,h.2⟩) (fun h=>h) (cells w' (.blk w.heap.size cap3 te.size) w.heap.size hS (fun k g3 c z _ ck=>be g3 (hC.own k g3 c z ck).1) i v av (.inl ⟨by trivial,?_⟩) cK)
                    have aa:i < (ys.take n).flatten.length:=(List.getElem?_eq_some_iff.1 ha).1
                    rw [List.getElem?_append_left (by rw [aF.length]; exact aa)] at hv
                    exact aF.at hv ha
                   have:=hC.kill ho (p:=.blk w.heap.size cap3 te.size) (w':=w') q1 q2 q3 (Nat.le_of_lt fM) (fun k aW _=>be k aW) (fun g' c' s' e'=>by cases e'; exact ⟨fM,.inr (Nat.le_refl _)⟩) cz (fun _=>gd) bQ
                   refine ⟨_,_,_,S,?_,this.1,this.2,.one (.cell (.own id _ w.heap.size cap3 te.size (As _ _ _) iZ i5)),hid⟩
                   rw [ev,ey]
                   exact Ap ar
 · trivial
theorem W7 (hT:Bg E.P tt) {t ty e:TypeId} {te:TI} (he:B2 tt t=some (e,te)) (x y:Operand) (q b:AV) (hx:Au s.tm x=some q) (hy:Au s.tm y=some b) (ys:List (List AV)) (p:Prop) (bL:Gz s.hp b=some (ys,p)) :
 (K6 s e te ys p q).Sound E s (fun ρ=>do pure (.value (<- Builtin.append_ #[t,t] ty #[ρ x,ρ y]))):=by
 obtain ⟨hu,it,dt,hk⟩:=Dx hT he
 obtain ⟨z,hz,dA⟩:=hk.zero
 have dm:z.cells.size=te.size:=by rw [<- hk.zlen,<- dA]; simp
 cases q with
 | own id len =>
   simp only [K6]
   cases ho:look s.hp id with
   | none=>trivial
   | some o =>
     cases o with
     | box cs=>trivial
     | map=>trivial
     | ranged=>trivial
     | clo=>trivial
     | nest e' sz rows=>trivial
     | list e' sz rows =>
       simp only
       cases hb:(Nat.beq e e'&&Nat.beq sz te.size) with
       | false=>trivial
       | true =>
         simp only [cond_true]
         simp only [Bool.and_eq_true] at hb
         have iq:=Nat.eq_of_beq_eq_true hb.1
         have ke:=Nat.eq_of_beq_eq_true hb.2
         subst iq ke
         rintro ⟨ae,bw,bJ,hp,am⟩ bQ a w ι S hC ab
         obtain ⟨hid,_,an⟩:=hC.obj id _ ho
         have aE:0 < te.size:=by cases an <;> assumption
         have fK:∀ r∈rows,r.length=te.size:=by
          cases an with
          | nil=>intro r hr; cases hr
          | list g cap _ _ _ vs h hs hr ax hm hw hn hc=>exact hr
         have eK:∀ r∈rows.take len++ys,r.length=te.size:=by
          intro r hr
          rcases List.mem_append.1 hr with hr | hr
          · exact fK r (List.mem_of_mem_take hr)
          · exact am r hr
         have gb:(rows.take len++ys).length=len + ys.length:=by simp; omega
         obtain ⟨ad,cap2,news,ey,aF,aI,aA⟩:=Oy hC ab hy bL hp am aE
         have bZ:news.length=ys.length * te.size:=by rw [aF.length,Ay _ am]
         have bh:(rows.take len++ys).flatten=rows.flatten.take (len * te.size)++ys.flatten:=by rw [List.flatten_append,By _ _ fK]
         rcases (Ak ab hx).1.own_inv with ⟨g,cap,s2,hg,h1,h2,ev⟩ | ⟨hg,rfl,ev⟩
         · cases an with
           | nil _ _ h' _=>rw [hg] at h'; cases h'
           | list g' cap' _ _ _ vs h' hs hr ax hm hw hn hc =>
             rw [hg] at h'; simp at h'; obtain ⟨rfl,rfl,rfl⟩:=h'
             have aV:rows.length * te.size<=cap * te.size:=Nat.mul_le_mul_right _ ax
             have bd:len * te.size<=rows.length * te.size:=Nat.mul_le_mul_right _ ae
             have iY:rows.flatten.length=rows.length * te.size:=Ay _ fK
             by_cases bk:len + ys.length<=cap
             ·
              have eI:(len + ys.length) * te.size<=cap * te.size:=Nat.mul_le_mul_right _ bk
              rw [Nat.add_mul] at eI
              have ar:∃ rest:List Value,(Builtin.append_ #[t,t] ty #[a.eval x,a.eval y]).run E.P w=.ok (.slice (some ⟨g,0,none⟩) (len + ys.length) cap) (w.setRow g (vs.take (len * te.size)++news++rest).toArray)/\(vs.take (len * te.size)++news++rest).length=cap * te.size:=by
               cases ad with
               | none =>
                 have:=aI rfl
                 subst this
                 have cZ:news=[]:=List.eq_nil_of_length_eq_zero (by simpa using bZ)
                 subst cZ
                 refine ⟨vs.drop (len * te.size),?_,by simp [hn]⟩
                 rw [ev,ey]
                 have i6:w.setRow g vs.toArray=w:=setRow_self w g vs.toArray e (0,0) hw
                 simp only [List.append_nil,List.take_append_drop,i6]
                 simpa using Ep (P:=E.P) (w:=w) (ty:=ty) hu hk.info (some ⟨g,0,none⟩) len cap cap2 (by simpa using bk)
               | some d =>
                 have aD:=run_append_room (P:=E.P) w t ty e it hu hk.info g len cap vs.toArray hw d ys.length cap2 news (by rw [hk.size]; exact bZ) (aA d rfl) aF.oneRd bk (by rw [hk.size]; simp [hn,bZ]; omega)
                 rw [hk.size] at aD
                 refine ⟨vs.drop (len * te.size + news.length),?_,by simp only [List.length_append,List.length_take,List.length_drop,hn,bZ]; omega⟩
                 rw [ev,ey]
                 exact aD
              obtain ⟨rest,ar,bA⟩:=ar
              have aT:∀ k,k < w.heap.size->(∀ c s,ι id≠some (.blk k c s))->(w.setRow g (vs.take (len * te.size)++news++rest).toArray).heap[k]?=w.heap[k]?:=fun k _ aW=>setRow_other w g k _ fun e'=>aW cap te.size (e' ▸ hg)
              have hS:∀ b,S b->(w.setRow g (vs.take (len * te.size)++news++rest).toArray).heap[b]?=w.heap[b]?:=fun b hb=>aT b (hC.lt b hb) fun c s' e'=>hC.dis b hb ⟨id,c,s',e'⟩
              have cd:Bp (w.setRow g (vs.take (len * te.size)++news++rest).toArray) S (put ι id (some (.blk g cap te.size))) id (.list e te.size (rows.take len++ys)):=by
               refine .list g cap e te.size _ (vs.take (len * te.size)++news++rest) (As _ _ _) aE eK (by rw [gb]; exact bk) hm (setRow_heap w g _ _ e _ hw) bA fun i v av hv ha=>?_
               rw [bh] at ha
               exact (a1W hc aF (by rw [hn]; omega) (by omega) i v av hv ha).mono fun b hb=>⟨hb,hS b hb⟩
              have:=hC.kill ho (p:=.blk g cap te.size) (w':=w.setRow g (vs.take (len * te.size)++news++rest).toArray) rfl rfl rfl (by simp) aT (fun g' c' s' e'=>by cases e'; exact ⟨by have:=(hC.own id g cap te.size hg).1; simpa using this,.inl ⟨_,_,hg⟩⟩) cd trivial bQ
              exact ⟨_,_,_,S,Ap ar,this.1,this.2,.one (.cell (.own id _ g cap te.size (As _ _ _) bk hm)),hid⟩
             ·
              have ki:ys≠[]:=fun e'=>by subst e'; simp at bk; omega
              obtain ⟨d,rfl⟩:∃ d,ad=some d:=by
               cases ad with
               | none=>exact absurd (aI rfl) ki
               | some d=>exact ⟨d,rfl⟩
              have aD:=run_append_grow (P:=E.P) w t ty e it z hu hk.info hz ⟨g,0,none⟩ len cap (vs.take (len * te.size)) (by rw [hk.size,List.length_take,hn]; omega) (fun j v hj=>by
               rw [Addr.add_none,Nat.zero_add]
               rw [List.getElem?_take] at hj
               split at hj
               · exact cells_of_block hw j v hj
               · cases hj) d ys.length cap2 news (by rw [hk.size]; exact bZ) (aA d rfl) (by omega) (by simp only [maxLen] at bJ; omega) (growslice_fits (by omega) (by rw [hk.bytes]; exact bw))
              have c8:=grownCap_ge w (len + ys.length) cap e
              have bo:=grownCap_le_maxLen w (len + ys.length) cap e bJ
              have aG:(vs.take (len * te.size)).toArray++news.toArray++Builtin.zeroCells z.cells (grownCap w (len + ys.length) cap e - (len + ys.length))=(vs.take (len * te.size)++news++(Builtin.zeroCells z.cells (grownCap w (len + ys.length) cap e - (len + ys.length))).toList).toArray:=by
               exact Array.ext' (by simp)
              rw [aG] at aD
              have aT:∀ k,k < w.heap.size->(∀ c s,ι id≠some (.blk k c s))->(w.drew.alloc (.cells (vs.take (len * te.size)++news++(Builtin.zeroCells z.cells (grownCap w (len + ys.length) cap e - (len + ys.length))).toList).toArray e)).heap[k]?=w.heap[k]?:=fun k aW _=>Below.heap_alloc w.drew _ k aW
              have cd:Bp (w.drew.alloc (.cells (vs.take (len * te.size)++news++(Builtin.zeroCells z.cells (grownCap w (len + ys.length) cap e - (len + ys.length))).toList).toArray e)) S (put ι id (some (.blk w.heap.size (grownCap w (len + ys.length) cap e) te.size))) id (.list e te.size (rows.take len++ys)):=by
               refine .list w.heap.size _ e te.size _ _ (As _ _ _) aE eK (by rw [gb]; exact c8) bo (heap_alloc_new w.drew _) ?_ fun i v av hv ha=>?_
               · simp only [List.length_append,List.length_take,hn,bZ,Array.length_toList,size_zeroCells,dm,Nat.min_eq_left (Nat.le_trans bd aV),<- Nat.add_mul]
                 congr 1; omega
               · rw [bh] at ha
                 exact Rd.mono (w:=w) (S:=S) (fun b hb=>⟨hb,Below.heap_alloc w.drew _ b (hC.lt b hb)⟩) (a1W hc aF (by rw [hn]; omega) (by omega) i v av hv ha)
              have:=hC.kill ho (p:=.blk w.heap.size (grownCap w (len + ys.length) cap e) te.size) (w':=w.drew.alloc _) rfl rfl rfl (by simp) aT (fun g' c' s' e'=>by cases e'; exact ⟨by simp,.inr (Nat.le_refl _)⟩) cd trivial bQ
              refine ⟨_,_,_,S,?_,this.1,this.2,.one (.cell (.own id _ w.heap.size _ te.size (As _ _ _) c8 bo)),hid⟩
              dsimp only
              rw [ev,ey]
              exact Ap aD
         · have cA:rows=[]:=by
            cases an with
            | nil=>rfl
            | list g' cap' _ _ _ vs h' hs hr ax hm hw hn hc=>rw [hg] at h'; cases h'
           subst cA
           simp only [List.take_nil,List.nil_append,Nat.zero_add] at *
           by_cases fN:ys=[]
           · subst fN
             have cd:Bp w S (put ι id (some .nil)) id (.list e te.size []):=.nil e te.size (As _ _ _) aE
             have:=hC.kill ho (p:=.nil) (w':=w) rfl rfl rfl (Nat.le_refl _) (fun k _ _=>rfl) (fun g' c' s' e'=>by cases e') cd trivial bQ
             refine ⟨.slice none 0 0,w,_,S,?_,this.1,this.2,.one (.cell (.own0 id (As _ _ _))),hid⟩
             rw [ev,ey]
             refine Ap ?_
             cases ad with
             | none=>exact Ep hu hk.info none 0 0 cap2 (Nat.le_refl _)
             | some d=>simp [Builtin.append_,run_underlying hu,sizeOf,typeInfo,hk.info,Builtin.lenOf,Builtin.firstCells,loadCells,loadCellsFrom]
           · obtain ⟨d,rfl⟩:∃ d,ad=some d:=by
              cases ad with
              | none=>exact absurd (aI rfl) fN
              | some d=>exact ⟨d,rfl⟩
             have eM:0 < ys.length:=List.length_pos_iff.2 fN
             have aD:=run_append_nil (P:=E.P) w t ty e it z hu hk.info hz d ys.length cap2 news (by rw [hk.size]; exact bZ) (aA d rfl) eM (by simp only [maxLen] at bJ; omega) (by rw [hk.bytes]; omega)
             have c8:=grownCap_ge w ys.length 0 e
             have bo:=grownCap_le_maxLen w ys.length 0 e bJ
             have aG:news.toArray++Builtin.zeroCells z.cells (grownCap w ys.length 0 e - ys.length)=(news++(Builtin.zeroCells z.cells (grownCap w ys.length 0 e - ys.length)).toList).toArray:=Array.ext' (by simp)
             rw [aG] at aD
             have cd:Bp (w.drew.alloc (.cells (news++(Builtin.zeroCells z.cells (grownCap w ys.length 0 e - ys.length)).toList).toArray e)) S (put ι id (some (.blk w.heap.size (grownCap w ys.length 0 e) te.size))) id (.list e te.size ys):=by
              refine .list w.heap.size _ e te.size _ _ (As _ _ _) aE am c8 bo (heap_alloc_new w.drew _) ?_ fun i v av hv ha=>?_
              · simp only [List.length_append,bZ,Array.length_toList,size_zeroCells,dm,<- Nat.add_mul]
                congr 1; omega
              · have:=a1W (R:=Rd w S) (vs:=([]:List Value)) (fl:=[]) (n:=0) (rest:=(Builtin.zeroCells z.cells (grownCap w ys.length 0 e - ys.length)).toList) (fun i v a h _=>by simp at h) aF (Nat.zero_le _) (Nat.zero_le _) i v av (by simpa using hv) (by simpa using ha)
                exact Rd.mono (w:=w) (S:=S) (fun b hb=>⟨hb,Below.heap_alloc w.drew _ b (hC.lt b hb)⟩) this
             have:=hC.kill ho (p:=.blk w.heap.size (grownCap w ys.length 0 e) te.size) (w':=w.drew.alloc _) rfl rfl rfl (by simp) (fun k aW _=>Below.heap_alloc w.drew _ k aW) (fun g' c' s' e'=>by cases e'; exact ⟨by simp,.inr (Nat.le_refl _)⟩) cd trivial bQ
             refine ⟨_,_,_,S,?_,this.1,this.2,.one (.cell (.own id _ w.heap.size _ te.size (As _ _ _) c8 bo)),hid⟩
             rw [ev,ey]
             exact Ap aD
 | val u =>
   unfold K6
   split
   · rename_i iO; cases iO
   · rename_i iO
     cases iO
     cases hb:Nat.blt 0 te.size with
     | false=>trivial
     | true =>
       simp only [cond_true,L1]
       have aE:0 < te.size:=Nat.le_of_ble_eq_true hb
       rintro ⟨bw,bJ,hp,am⟩ a w ι S hC ab
       have ev:=(Ak ab hx).1.val_inv.1
       obtain ⟨ad,cap2,news,ey,aF,aI,aA⟩:=Oy hC ab hy bL hp am aE
       have bZ:news.length=ys.length * te.size:=by rw [aF.length,Ay _ am]
       by_cases fN:ys=[]
       · subst fN
         have hL:Later w w S S ι (put ι s.nx (some .nil)) (· < s.nx):=⟨fun b hb=>⟨hb,rfl⟩,fun i q hi h=>by rw [Ci _ _ (by first | omega | (dsimp only; omega) | (dsimp only at *; omega))]; exact h⟩
         have aS:∀ i g c s',put ι s.nx (some .nil) i=some (.blk g c s')->ι i=some (.blk g c s'):=by
          intro i g c s' h
          by_cases hi:i=s.nx
          · subst hi; rw [As] at h; cases h
          · rwa [Dd _ _ hi] at h
         refine ⟨.slice none 0 0,w,put ι s.nx (some .nil),S,?_,⟨hC.frame,hC.sub,hC.lt,fun b hb h=>?_,fun i g c s' h=>hC.own i g c s' (aS i g c s' h),fun i j g c d s1 s2 h1 h2=>hC.inj i j g c d s1 s2 (aS _ _ _ _ h1) (aS _ _ _ _ h2),fun i hi=>?_,fun i o h=>?_,fun i q h=>?_,hC.fxs⟩,Nat.le_succ _,hL,.one (.cell (.own0 s.nx (As _ _ _))),Nat.lt_succ_self _⟩
         · dsimp only
           rw [ev,ey]
           refine Ap ?_
           cases ad with
           | none=>exact Ep hu hk.info none 0 0 cap2 (Nat.le_refl _)
           | some d=>simp [Builtin.append_,run_underlying hu,sizeOf,typeInfo,hk.info,Builtin.lenOf,Builtin.firstCells,loadCells,loadCellsFrom]
         · obtain ⟨i,c,s',h⟩:=h
           exact hC.dis b hb ⟨i,c,s',aS _ _ _ _ h⟩
         · rw [Ci _ _ (by first | omega | (dsimp only; omega) | (dsimp only at *; omega))]; exact hC.new i (by omega)
         · rw [Aj] at h
           split at h
           · rename_i e'
             subst e'
             simp at h
             subst h
             exact ⟨Nat.lt_succ_self _,trivial,.nil e te.size (As _ _ _) aE⟩
           · have ⟨h1,h2,h3⟩:=hC.obj i o h
             refine ⟨Nat.lt_succ_of_lt h1,?_,h3.mono hL h1 h2 (fun _ k q hk hq=>by rw [Ci _ _ (by rw [hk]; exact Nat.ne_of_lt h1)]; exact hq) (fun _ _ _ _ _ _=>rfl)⟩
             cases o with
             | box cs=>exact fun c hc j hj=>Nat.lt_succ_of_lt (h2 c hc j hj)
             | list=>trivial
             | map=>trivial
             | ranged=>trivial
             | clo=>exact ⟨fun c hc j hj=>Nat.lt_succ_of_lt (h2.1 c hc j hj),fun c hc j hj=>Nat.lt_succ_of_lt (h2.2 c hc j hj)⟩
             | nest=>exact fun h0 c hc j hj=>Nat.lt_succ_of_lt (h2 h0 c hc j hj)
         · have h':=hC.stay i q h
           by_cases hi:i=s.nx
           · subst hi; rw [hC.new _ (Nat.le_refl _)] at h'; cases h'
           · rw [Ci _ _ hi]; exact h'
       · obtain ⟨d,rfl⟩:∃ d,ad=some d:=by
          cases ad with
          | none=>exact absurd (aI rfl) fN
          | some d=>exact ⟨d,rfl⟩
         have eM:0 < ys.length:=List.length_pos_iff.2 fN
         have aD:=run_append_nil (P:=E.P) w t ty e it z hu hk.info hz d ys.length cap2 news (by rw [hk.size]; exact bZ) (aA d rfl) eM (by simp only [maxLen] at bJ; omega) (by rw [hk.bytes]; omega)
         have c8:=grownCap_ge w ys.length 0 e
         have bo:=grownCap_le_maxLen w ys.length 0 e bJ
         have aG:news.toArray++Builtin.zeroCells z.cells (grownCap w ys.length 0 e - ys.length)=(news++(Builtin.zeroCells z.cells (grownCap w ys.length 0 e - ys.length)).toList).toArray:=Array.ext' (by simp)
         rw [aG] at aD
         have i7:Core E ι S s.hp s.nx w.drew:=hC.drew
         have cd:Bp (w.drew.alloc (.cells (news++(Builtin.zeroCells z.cells (grownCap w ys.length 0 e - ys.length)).toList).toArray e)) S (put ι s.nx (some (.blk w.drew.heap.size (grownCap w ys.length 0 e) te.size))) s.nx (.list e te.size ys):=by
          refine .list w.heap.size _ e te.size _ _ (As _ _ _) aE am c8 bo (heap_alloc_new w.drew _) ?_ fun i v av hv ha=>?_
          · simp only [List.length_append,bZ,Array.length_toList,size_zeroCells,dm,<- Nat.add_mul]
            congr 1; omega
          · have:=a1W (R:=Rd w S) (vs:=([]:List Value)) (fl:=[]) (n:=0) (rest:=(Builtin.zeroCells z.cells (grownCap w ys.length 0 e - ys.length)).toList) (fun i v a h _=>by simp at h) aF (Nat.zero_le _) (Nat.zero_le _) i v av (by simpa using hv) (by simpa using ha)
            exact Rd.mono (w:=w) (S:=S) (fun b hb=>⟨hb,Below.heap_alloc w.drew _ b (hC.lt b hb)⟩) this
         have:=i7.alloc cd trivial
         refine ⟨_,_,_,S,?_,this.1,Nat.le_succ _,⟨fun b hb=>⟨hb,Below.heap_alloc w.drew _ b (hC.lt b hb)⟩,this.2.at_⟩,.one (.cell (.own s.nx _ w.heap.size _ te.size (As _ _ _) c8 bo)),Nat.lt_succ_self _⟩
         dsimp only
         rw [ev,ey]
         exact Ap aD
   · trivial
 | _=>trivial
theorem a40 (x y:Operand) (ty:TypeId) (tys:Array TypeId):(a8Y s x y).Sound E s (fun ρ=>do pure (.value (<- Builtin.min_ tys ty #[ρ x,ρ y]))):=by
 unfold a8Y
 cases hx:Au s.tm x with
 | none=>trivial
 | some p =>
   cases p with
   | val u =>
     cases u with
     | int k n =>
       cases hy:Au s.tm y with
       | none=>trivial
       | some q =>
         cases q with
         | val u' =>
           cases u' with
           | int k' n' =>
             intro a w ι S hC ab
             have e1:=(Ak ab hx).1.val_inv.1
             have e2:=(Ak ab hy).1.val_inv.1
             refine Good.same hC (v:=.int k (a67 n n')) ?_ (.one (.cell (.rd (.val _ rfl)))) trivial
             dsimp only
             rw [e1,e2]
             refine Ap ?_
             simp [Builtin.min_,Builtin.min2,a67]
           | _=>trivial
         | _=>trivial
     | _=>trivial
   | _=>trivial
theorem a1Y (hT:Bg E.P tt) {t ty e:TypeId} {te:TI} (he:B2 tt t=some (e,te)) (x y:Operand) (q b:AV) (hx:Au s.tm x=some q) (hy:Au s.tm y=some b) (ys:List (List AV)) (p:Prop) (bL:Gz s.hp b=some (ys,p)) :
 (Wp s te ys p q).Sound E s (fun ρ=>do pure (.value (<- Builtin.copy_ #[t,t] ty #[ρ x,ρ y]))):=by
 obtain ⟨hu,it,dt,hk⟩:=Dx hT he
 cases q with
 | sb id row off len =>
   simp only [Wp]
   cases ho:look s.hp id with
   | none=>trivial
   | some o =>
     cases o with
     | list e sz rows=>trivial
     | map=>trivial
     | ranged=>trivial
     | clo=>trivial
     | nest e sz rows=>trivial
     | box cs =>
       simp only
       cases hb:(Nat.beq te.size 1&&Nat.blt 0 len) with
       | false=>trivial
       | true =>
         simp only [cond_true]
         simp only [Bool.and_eq_true] at hb
         have ew:=Nat.eq_of_beq_eq_true hb.1
         have kj:0 < len:=Nat.le_of_ble_eq_true hb.2
         rintro ⟨hp,am,ax⟩ a w ι S hC ab
         obtain ⟨hid,bG,an⟩:=hC.obj id _ ho
         have ga:=Ak ab hx
         obtain ⟨ad,cap2,news,ey,aF,aI,aA⟩:=Oy hC ab hy bL hp am (by decide)
         have bZ:news.length=ys.length:=by rw [aF.length,Ay _ am,Nat.mul_one]
         have bh:(ys.take len).flatten=ys.flatten.take len:=by
          have:=By (s:=1) ys len am
          rw [Nat.mul_one] at this; exact this
         cases an with
         | box g c sz T cs vs h h0 hw hc =>
           subst h0
           obtain ⟨capx,ev⟩:∃ capx,a.eval x=.slice (some ⟨g,off,none⟩) len capx:=by
            generalize a.eval x=v at ga
            cases ga.1 with
            | one h'=>cases h' with
              | cell h'=>cases h' with
                | rd h'=>cases h'
                | sb _ _ _ _ g' c' s' o' cap' h' h1 h2 ho =>
                  rw [h] at h'; simp at h'; obtain ⟨rfl,_,rfl⟩:=h'
                  obtain rfl:=ho kj
                  exact ⟨cap',by simp⟩
                | sb0=>omega
           have i8:(news.take len).length=((ys.take len).flatten).length:=by rw [bh,List.length_take,List.length_take,bZ,Ay _ am,Nat.mul_one]
           have aR:Al (A9 w S ι) (news.take len) ((ys.take len).flatten):=by
            rw [bh]
            exact Al.mono (fun _ _ h=>.rd h) (aF.take len)
           have bA:(news.take len).length<=len:=by rw [List.length_take]; omega
           have ak:=G2 (P:=E.P) (o:=off) hw (news:=news.take len) (by rw [hc.length]; omega) (H9 aR)
           have hS:∀ b,S b->b≠g:=fun b hb e=>hC.dis b hb ⟨id,c,0,e ▸ h⟩
           have hL:∀ K new,Later w (w.setRow g new) S S ι ι K:=fun K new=>⟨fun b hb=>⟨hb,setRow_other w g b _ (hS b hb)⟩,fun _ _ _ h=>h⟩
           have hrel:Al (A9 w S ι) (vs.take off++news.take len++vs.drop (off + (news.take len).length)) (cs.take off++(ys.take len).flatten++cs.drop (off + (ys.take len).flatten.length)):=by
            rw [i8]; exact ((hc.take off).append aR).append (hc.drop _)
           have kn:∀ y∈cs.take off++(ys.take len).flatten++cs.drop (off + (ys.take len).flatten.length),∀ id,y.idOf=some id->id < s.nx:=by
            intro y gg
            simp only [List.mem_append] at gg
            rcases gg with (gg | gg) | gg
            · exact bG y (List.mem_of_mem_take gg)
            · intro i hi
              obtain ⟨j,hj,ej⟩:=List.mem_iff_getElem.1 gg
              have aN:((ys.take len).flatten)[j]?=some y:=by rw [List.getElem?_eq_getElem hj,ej]
              rw [bh] at aN
              have aa:j < (news.take len).length:=by rw [i8]; exact hj
              have:=(aF.take len).at (List.getElem?_eq_getElem aa) aN
              rw [this.noid] at hi; cases hi
            · exact bG y (List.mem_of_mem_drop gg)
           have:=hC.set (new:=vs.take off++news.take len++vs.drop (off + (news.take len).length)) ho h hw (.box g c 0 T _ _ h rfl (setRow_heap w g _ _ T _ hw) (Al.of hrel.length fun i y z hy hz=>(hrel.at hy hz).mono (hL (fun _=>True) _) (fun _ _=>trivial))) kn
           refine ⟨.int .i64 ((Nat.min ys.length len:Nat):Int),_,ι,S,?_,this.1,Nat.le_refl _,this.2,.one (.cell (.rd (.val _ rfl))),trivial⟩
           refine Ap ?_
           rw [ev,ey]
           have gG:(Builtin.firstCells te.size (Nat.min ys.length len) (.slice ad ys.length cap2)).run E.P w=.ok (news.take len).toArray w:=by
            cases ad with
            | none =>
              have:=aI rfl
              subst this
              have:news=[]:=List.eq_nil_of_length_eq_zero (by simpa using bZ)
              subst this
              simp [Builtin.firstCells]
            | some d =>
              simp only [Builtin.firstCells]
              have hl:=run_loadCells_list (P:=E.P) w d (news.take len) (fun j v hj=>by
               rw [List.getElem?_take] at hj
               split at hj
               · exact aA d rfl j v hj
               · cases hj)
              have e1:(news.take len).length=Nat.min ys.length len * te.size:=by rw [ew,Nat.mul_one,List.length_take,bZ]; exact Nat.min_comm _ _
              rw [e1] at hl
              exact hl
           have ao:=hk.sizeOf w
           simp only [Builtin.copy_,Builtin.lenOf,Sem.run_bind,run_underlying hu,Result.andThen_ok,Sem.run_pure,ao,gG,List.getElem?_toArray,List.getElem?_cons_zero,List.getElem?_cons_succ]
           first | done | skip
           simp [ak,goInt]
 | _=>trivial
theorem a1Z (hT:Bg E.P tt) (t:TypeId) (x:Operand):(Tk tt s t x).Sound E s (fun ρ=>do pure (.value (<- Instr.range t (ρ x)))):=by
 unfold Tk
 cases hm:Ga tt t with
 | none=>trivial
 | some km =>
   obtain ⟨ks,te⟩:=km
   obtain ⟨kt,et,fields,h1,_⟩:=Lb hT hm
   simp only
   cases hx:Au s.tm x with
   | none=>trivial
   | some p =>
     cases p with
     | mp id =>
       simp only
       cases hl:look s.hp id with
       | none=>trivial
       | some o =>
         cases o with
         | map ks' rows =>
           intro _ bQ a w ι S hC ab
           obtain ⟨gm,em,ip⟩:=(Ak ab hx).1.mp_inv
           obtain ⟨hid,_,an⟩:=hC.obj id _ hl
           cases an with
           | map g' clock _ _ es h hw he hb =>
             rw [ip] at h
             simp only [Option.some.injEq,Pl.blk.injEq] at h
             obtain ⟨rfl,_⟩:=h
             have jQ:(⟨id,[]⟩:Key)≠⟨id,[0]⟩:=fun e=>by cases e
             let ι':Loc:=put (put ι ⟨id,[]⟩ (some (.blk w.heap.size 0 2))) ⟨id,[0]⟩ (some (.blk gm 0 1))
             have i1:ι' ⟨id,[]⟩=some (.blk w.heap.size 0 2):=(Dd _ _ jQ).trans (As _ _ _)
             have i2:ι' ⟨id,[0]⟩=some (.blk gm 0 1):=As _ _ _
             have i3:∀ k:Key,k.id≠id->ι' k=ι k:=fun k hk=>(Ci _ _ hk).trans (Ci _ _ hk)
             have hι:∀ (k:Key) g c z,ι' k=some (.blk g c z)->(k=⟨id,[0]⟩/\g=gm)∨(k=⟨id,[]⟩/\g=w.heap.size)∨(k≠⟨id,[]⟩/\ι k=some (.blk g c z)):=by
              intro k g c z hk
              by_cases e0:k=⟨id,[0]⟩
              · subst e0; rw [i2] at hk; simp only [Option.some.injEq,Pl.blk.injEq] at hk; exact .inl ⟨rfl,hk.1.symm⟩
              · by_cases e1:k=⟨id,[]⟩
                · subst e1; rw [i1] at hk; simp only [Option.some.injEq,Pl.blk.injEq] at hk; exact .inr (.inl ⟨rfl,hk.1.symm⟩)
                · exact .inr (.inr ⟨e1,by rw [<- hk]; exact ((Dd _ _ e0).trans (Dd _ _ e1)).symm⟩)
             have hold:∀ b,b < w.heap.size->(w.alloc (.mapIter (some gm) clock #[] clock)).heap[b]?=w.heap[b]?:=fun b hb=>Below.heap_alloc _ _ _ hb
             have gF:=(hC.own ⟨id,[]⟩ gm _ _ ip)
             have hL:Later w (w.alloc (.mapIter (some gm) clock #[] clock)) S S ι ι' (fun i=>i < s.nx/\Af i [id]=false):=by
              refine ⟨fun b hb=>⟨hb,hold b (hC.lt b hb)⟩,fun i q hi hq=>?_⟩
              have:i≠id:=fun e=>by subst e; simp [Af] at hi
              rw [i3 ⟨i,[]⟩ this]; exact hq
             have bg:Bp (w.alloc (.mapIter (some gm) clock #[] clock)) S ι' id (.ranged ks' none rows):=by
              refine .ranged w.heap.size gm clock ks' none rows #[] es i1 i2 (heap_alloc_new w _) ((hold gm gF.1).trans hw) hb ?_ (fun r hr=>by cases hr)
              have:(es.filter fun e=>!(#[]:Array Nat).contains e.born)=es:=List.filter_eq_self.2 fun e _=>by simp
              rw [this]
              exact he.mono fun _ _ h=>h.mono fun b hb=>⟨hb,hold b (hC.lt b hb)⟩
             refine ⟨_,_,ι',S,Ap ((congrArg (fun v=>(Instr.range t v).run E.P w) em).trans (run_range_map w t kt et gm es.toArray clock h1 hw)),⟨?_,hC.sub,fun b hb=>by have:=hC.lt b hb; simp; omega,?_,?_,?_,?_,?_,?_,hC.fxs⟩,hL,?_,hid⟩
             · exact hC.frame.trans (Frame.of_below (D:=E.D) ((Below.refl _ _).alloc (Nat.le_refl _) _)) (fun _ _ h=>h)
             · rintro b aT ⟨k,c,z,hk⟩
               rcases hι k b c z hk with ⟨_,rfl⟩ | ⟨_,rfl⟩ | ⟨_,hk⟩
               · exact hC.dis _ aT ⟨_,_,_,ip⟩
               · have:=hC.lt _ aT; omega
               · exact hC.dis b aT ⟨k,c,z,hk⟩
             · intro k g c z hk
               rcases hι k g c z hk with ⟨_,rfl⟩ | ⟨_,rfl⟩ | ⟨_,hk⟩
               · exact ⟨by simp; omega,gF.2⟩
               · exact ⟨by simp,.inl hC.frame.size⟩
               · have:=hC.own k g c z hk
                 exact ⟨by simp; omega,this.2⟩
             · intro i j g c d z r hi hj
               have other:∀ (k:Key) c z,k≠⟨id,[]⟩->ι k=some (.blk gm c z)->False:=fun k c z aj hk=>aj (hC.inj k ⟨id,[]⟩ gm _ _ _ _ hk ip)
               have fresh:∀ (k:Key) c z,ι k=some (.blk w.heap.size c z)->False:=fun k c z hk=>by have:=(hC.own k _ _ _ hk).1; omega
               rcases hι i g c z hi with ⟨e1,e2⟩ | ⟨e1,e2⟩ | ⟨n1,dh⟩ <;> rcases hι j g d r hj with ⟨e3,e4⟩ | ⟨e3,e4⟩ | ⟨n2,ko⟩
               · rw [e1,e3]
               · have:=gF.1; omega
               · subst e2; exact (other j _ _ n2 ko).elim
               · have:=gF.1; omega
               · rw [e1,e3]
               · subst e2; exact (fresh j _ _ ko).elim
               · subst e4; exact (other i _ _ n1 dh).elim
               · subst e4; exact (fresh i _ _ dh).elim
               · exact hC.inj i j g _ _ _ _ dh ko
             · intro k hk
               rw [i3 k (by omega)]
               exact hC.new k hk
             · intro i oi hi
               rw [Aj] at hi
               split at hi
               · rename_i e
                 subst e
                 simp only [Option.some.injEq] at hi
                 subst hi
                 exact ⟨hid,trivial,bg⟩
               · rename_i aj
                 rw [Jq] at hi
                 simp only [Option.map_eq_some_iff] at hi
                 obtain ⟨o0,h0,rfl⟩:=hi
                 obtain ⟨k1,k2,k3⟩:=hC.obj i o0 h0
                 have:=k3.kill (ks:=[id]) hL k1 (by simp only [Af]; have:Nat.beq i id=false:=(by rw [Bool.eq_false_iff]; intro e; exact aj (Nat.eq_of_beq_eq_true e).symm); rw [this]; rfl) k2 (fun _ k q hk hq=>by rw [i3 k (by rw [hk]; exact fun e=>aj e.symm)]; exact hq) (fun k g c z _ hg=>hold g (hC.own k g c z hg).1)
                 exact ⟨k1,this.1,this.2⟩
             · intro i q hq
               have:i≠id:=fun e=>by subst e; rw [bQ] at hq; cases hq
               rw [i3 ⟨i,[]⟩ this]; exact hC.stay i q hq
             · have:=A9.pt (w:=w.alloc (.mapIter (some gm) clock #[] clock)) (S:=S) (ι:=ι') id 0 0 w.heap.size 0 2 i1
               exact .one (.cell (by simpa using this))
         | _=>trivial
     | _=>trivial
theorem SR.Sound.congr {f g:(Operand->Value)->Sem Next} (h:∀ (a:Act) (w:World),(f a.eval).run E.P w=(g a.eval).run E.P w) {r:SR} (hf:r.Sound E s f):r.Sound E s g:=by
 cases r with
 | no=>trivial
 | ok av=>exact fun a w ι S hC ab=>by rw [<- h a w]; exact hf a w ι S hC ab
 | cond p av=>exact fun hp a w ι S hC ab=>by rw [<- h a w]; exact hf hp a w ι S hC ab
 | newP o=>exact fun a w ι S hC ab=>by rw [<- h a w]; exact hf a w ι S hC ab
 | newM o=>exact fun a w ι S hC ab=>by rw [<- h a w]; exact hf a w ι S hC ab
 | newC o=>exact fun a w ι S hC ab=>by rw [<- h a w]; exact hf a w ι S hC ab
 | each id ks left=>exact fun a w ι S hC ab=>by rw [<- h a w]; exact hf a w ι S hC ab
 | newL0 len o=>exact fun a w ι S hC ab=>by rw [<- h a w]; exact hf a w ι S hC ab
 | newL p len o=>exact fun hp a w ι S hC ab=>by rw [<- h a w]; exact hf hp a w ι S hC ab
 | kill p id av o=>exact fun hp hx a w ι S hC ab=>by rw [<- h a w]; exact hf hp hx a w ι S hC ab
 | setB id o=>exact fun a w ι S hC ab=>by rw [<- h a w]; exact hf a w ι S hC ab
 | set p id o=>exact fun hp a w ι S hC ab=>by rw [<- h a w]; exact hf hp a w ι S hC ab
 | setV p id av o=>exact fun hp a w ι S hC ab=>by rw [<- h a w]; exact hf hp a w ι S hC ab
 | call n args=>exact fun a w ι S hC ab=>by rw [<- h a w]; exact hf a w ι S hC ab
 | pick b x y=>exact fun a w ι S ab=>by rw [<- h a w]; exact hf a w ι S ab
theorem W8 (hT:Bg E.P tt) (b:Builtin) (c:Call) (hc:c.callee=.builtin b) (ty:TypeId):(D6 tt s b c.args.toList c.argTypes.toList).Sound E s (fun ρ=>do let d <- resolve ρ c ty; invoke d.target d.args):=by
 cases b with
 | len =>
   simp only [D6]
   split
   · rename_i x hx
     split
     · rename_i t ht
       refine (a28 hT t ty x).congr fun a w=>?_
       have e1:c.args=#[x]:=Array.ext' (by simpa using hx)
       have e2:c.argTypes=#[t]:=Array.ext' (by simpa using ht)
       simp [resolve,hc,e1,e2,invoke,builtin]
     · trivial
   · trivial
 | append =>
   simp only [D6]
   split
   · rename_i x y hx
     split
     · rename_i t t' ht
       cases hb:Nat.beq t t' with
       | false=>trivial
       | true =>
         have:=Nat.eq_of_beq_eq_true hb
         subst this
         simp only [cond_true]
         have e1:c.args=#[x,y]:=Array.ext' (by simpa using hx)
         have e2:c.argTypes=#[t,t]:=Array.ext' (by simpa using ht)
         have main:(On tt s t x y).Sound E s (fun ρ=>do pure (.value (<- Builtin.append_ #[t,t] ty #[ρ x,ρ y]))):=by
          unfold On
          cases he:B2 tt t with
          | none=>trivial
          | some et =>
            obtain ⟨e,te⟩:=et
            simp only
            cases hx:Au s.tm x with
            | none=>trivial
            | some q =>
              cases hy:Au s.tm y with
              | none=>trivial
              | some b =>
                simp only
                cases hr:Gz s.hp b with
                | none=>exact W6 hT he x y q b hx hy
                | some yp =>
                  obtain ⟨ys,p⟩:=yp
                  exact W7 hT he x y q b hx hy ys p hr
         refine main.congr fun a w=>?_
         simp [resolve,hc,e1,e2,invoke,builtin]
     · trivial
   · trivial
 | min =>
   simp only [D6]
   split
   · rename_i x y hx
     have e1:c.args=#[x,y]:=Array.ext' (by simpa using hx)
     refine (a40 x y ty c.argTypes).congr fun a w=>?_
     simp [resolve,hc,e1,invoke,builtin]
   · trivial
 | copy =>
   simp only [D6]
   split
   · rename_i x y hx
     split
     · rename_i t t' ht
       cases hb:Nat.beq t t' with
       | false=>trivial
       | true =>
         have:=Nat.eq_of_beq_eq_true hb
         subst this
         simp only [cond_true]
         have e1:c.args=#[x,y]:=Array.ext' (by simpa using hx)
         have e2:c.argTypes=#[t,t]:=Array.ext' (by simpa using ht)
         have main:(a0r tt s t x y).Sound E s (fun ρ=>do pure (.value (<- Builtin.copy_ #[t,t] ty #[ρ x,ρ y]))):=by
          unfold a0r
          cases he:B2 tt t with
          | none=>trivial
          | some et =>
            obtain ⟨e,te⟩:=et
            simp only
            cases hx:Au s.tm x with
            | none=>trivial
            | some q =>
              cases hy:Au s.tm y with
              | none=>trivial
              | some b =>
                simp only
                cases hr:Gz s.hp b with
                | none=>trivial
                | some yp =>
                  obtain ⟨ys,p⟩:=yp
                  exact a1Y hT he x y q b hx hy ys p hr
         refine main.congr fun a w=>?_
         simp [resolve,hc,e1,e2,invoke,builtin]
     · trivial
   · trivial
 | delete =>
   simp only [D6]
   split
   · rename_i x y hx
     split
     · rename_i t t' ht
       have e1:c.args=#[x,y]:=Array.ext' (by simpa using hx)
       have e2:c.argTypes=#[t,t']:=Array.ext' (by simpa using ht)
       refine (Zv hT t t' ty x y).congr fun a w=>?_
       simp [resolve,hc,e1,e2,invoke,builtin]
     · trivial
   · trivial
 | _=>trivial
theorem U2 (hT:Bg E.P tt) (o:Oper):(Av tt o.op s).Sound E s (fun ρ=>execOp ρ o):=by
 obtain ⟨dst,op,type,pos,after,guard⟩:=o
 cases op with
 | move x=>exact U0 x
 | assign x=>exact U0 x
 | alloc t=>exact a1N hT t
 | nilCheck x =>
   simp only [Av,a8T]
   cases hx:Au s.tm x with
   | none=>trivial
   | some v =>
     cases v with
     | pt id r o =>
       intro a w ι S hC ab
       have h:=Ak ab hx
       obtain ⟨g,c,s',hg,e⟩:=h.1.pt_inv
       exact Good.same hC (v:=a.eval x) (by simp only [execOp,e]; rfl) h.1 h.2
     | rp cs =>
       intro a w ι S hC ab
       have h:=Ak ab hx
       obtain ⟨b,off,vs,e,_⟩:=h.1.rp_inv
       exact Good.same hC (v:=a.eval x) (by simp only [execOp,e]; rfl) h.1 h.2
     | clo id =>
       simp only
       cases hl:look s.hp id with
       | none=>trivial
       | some o =>
         cases o with
         | clo n fs cs =>
           intro a w ι S hC ab
           have h:=Ak ab hx
           have h1:=h.1.clo_inv
           obtain ⟨_,_,an⟩:=hC.obj id _ hl
           cases an with
           | clo f fs cs us vs h' _ _ =>
             rw [h1] at h'
             simp only [Option.some.injEq,Pl.clo.injEq] at h'
             exact Good.same hC (v:=a.eval x) (by simp only [execOp,h']; rfl) h.1 h.2
         | _=>trivial
     | val u =>
       cases u with
       | func fn f1 c1 =>
         cases fn with
         | func n =>
           intro a w ι S hC ab
           have h:=Ak ab hx
           exact Good.same hC (v:=a.eval x) (by simp only [execOp,h.1.val_inv.1]; rfl) h.1 h.2
         | _=>trivial
       | _=>trivial
     | _=>trivial
 | pick c x y =>
   simp only [Av]
   cases hc:Au s.tm c with
   | none=>trivial
   | some v =>
     cases v with
     | val u =>
       cases u with
       | bool b =>
         intro a w ι S ab
         have hv:=(Ak ab hc).1.val_inv.1
         simp only [execOp,hv,asBool,Sem.run_bind,Sem.run_pure,Result.andThen_ok]
       | _=>trivial
     | _=>trivial
 | box t x=>exact a4O t x
 | build t ps=>exact a1O hT t ps
 | buildSlice t n ps=>exact Rp hT t n ps
 | load t x=>exact a1Q hT t x
 | store t x v=>exact a1R hT t x v
 | binOp op t x y t' =>
   simp only [Av]
   cases hb:V4 tt t with
   | true=>exact a26 op t t' x y (a4U hT hb)
   | false =>
     cases he:B2 tt t with
     | some et=>obtain ⟨e,te⟩:=et; exact a1X op t t' x y (Dx hT he).1
     | none =>
       cases hk:L3 tt t with
       | some ks=>exact a4V hT ks op t t' x y hk
       | none=>exact a4T op t t' x y
 | unOp op t x=>exact a7d op x
 | convert src dst x =>
   simp only [Av]
   cases hb:Tj tt dst with
   | true=>exact a4Y hT src dst x hb
   | false=>exact a27 hT src dst x
 | makeFunc fn f c =>
   have h0:=Ww (E:=E) (s:=s) fn f c
   simp only [Av]
   cases hb:(f.size==0&&c.size==0) with
   | true=>rw [hb] at h0; exact h0
   | false =>
     cases fn with
     | func n=>exact a4X n f c
     | _=>trivial
 | range t x=>exact a1Z hT t x
 | next x b=>cases b with
   | true=>trivial
   | false=>exact a3b x type
 | entry x=>exact a1V x
 | makeSlice t l c=>exact Tq hT t l c
 | makeMap t r=>exact Wy hT t r
 | mapUpdate t m k v=>exact Zt hT t m k v
 | lookup t x i b=>exact Zu hT t x i b
 | slice t x lo hi mx =>
   cases mx with
   | none=>exact Zr hT t x lo hi
   | some m=>trivial
 | fieldAddr t x f=>exact To hT t x f
 | field t x f=>exact a1T hT t x f
 | indexAddr t x i=>exact Tp hT t x i
 | index t x i=>exact Zq hT t x i
 | extract x i=>exact Wv x i
 | call c =>
   simp only [Av]
   cases hc:c.callee with
   | value f=>exact a29 c f hc type
   | builtin b=>exact W8 hT b c hc type
   | invoke r m=>trivial
 | _=>trivial
end Go.Am
