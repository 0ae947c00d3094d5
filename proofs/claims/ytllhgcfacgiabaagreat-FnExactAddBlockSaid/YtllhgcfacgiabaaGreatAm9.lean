import Derived.Test.YtllhgcfacgiabaaGreatAm8
namespace Go.Am
open Go.RowKit
set_option linter.unusedVariables false
set_option linter.unusedSimpArgs false
variable {E:Env} {s:St} {a:Act} {w:World} {ι:Loc} {S:Nat->Prop} {tt:Tab}
theorem Ja {s':St} {w':World} {ι':Loc} {S':Nat->Prop} (hs:a.tmps.size=E.nt) (hd:a.defers=[]) {tm:List (Nat × AV)} {hp:Hp} {nx:Nat} (hC:Core E ι' S' hp nx w') (ab:Cr ι' S' tm E.nt nx w' a.tmps) {d:Nat} (aa:d < E.nt) {v:Value} {av:AV} (hv:Bi w' S' ι' v av) (hu:av.uses (· < nx)) :
 Rel E ⟨(d,av)::tm,hp,nx⟩ (a.put (some d) v) w' :=
 ⟨by simp [Act.put,hs],hd,ι',S',hC,Cr.put ab hs aa hu hv⟩
theorem rel_keep {w':World} {ι':Loc} {S':Nat->Prop} (hs:a.tmps.size=E.nt) (hd:a.defers=[]) {tm:List (Nat × AV)} {hp:Hp} {nx:Nat} (hC:Core E ι' S' hp nx w') (ab:Cr ι' S' tm E.nt nx w' a.tmps) (v:Value):Rel E ⟨tm,hp,nx⟩ (a.put none v) w' :=
 ⟨hs,hd,ι',S',hC,ab⟩
theorem a7l {P:Program} {o:Oper} {next:Act->World->Prop} {Q:Exit->Act->World->Prop} {f:FuncId} {vs:List Value} {R:Ending->World->Prop}
 (h:Calls P f vs.toArray w R) (hR:∀ e w',R e w'->∃ v,e=.returned v/\next (a.put o.dst v) w'):o.upon P a next Q (.ok (.enter f vs.toArray) w):=by
 rw [Oper.upon_enter]
 refine Calls.mono h fun e w' he=>?_
 obtain ⟨v,rfl,hv⟩:=hR e w' he
 exact hv
theorem a47 {st:Bool} {hi:Hp} {id:Nat} (h:Af id (Bq st hi)=true):inH hi id:=by
 cases st with
 | true=>simp [Bq,Af] at h
 | false=>exact Me h
theorem Tw (c:AV):Eg [] c=c:=by cases c <;> rfl
theorem a7m (o:A2):Rh [] o=o:=by
 cases o with
 | box cs =>
   simp only [Rh]
   have:cs.map (Eg [])=cs.map id:=List.map_congr_left fun c _=>Tw c
   rw [this,List.map_id]
 | list=>rfl
 | map=>rfl
 | ranged=>rfl
 | clo f fs cs =>
   simp only [Rh]
   have e:∀ l:List AV,l.map (Eg [])=l:=fun l=>by
    have:l.map (Eg [])=l.map id:=List.map_congr_left fun c _=>Tw c
    rw [this,List.map_id]
   rw [e,e]
 | @nest b e s rows =>
   cases b with
   | true=>rfl
   | false =>
   simp only [Rh]
   have:(rows.map fun r=>r.map (Eg []))=rows.map id:=List.map_congr_left fun r _=>by
    have:r.map (Eg [])=r.map id:=List.map_congr_left fun c _=>Tw c
    rw [this,List.map_id]; rfl
   rw [this,List.map_id]
theorem a0G:∀ (hp:Hp),K5 [] hp=hp
 | []=>rfl
 | (i,o)::r=>by simp only [K5,a7m,a0G r]
theorem a7n (ks:List Nat) (hp:Hp):Mf ks hp=K5 ks hp:=by
 cases ks with
 | nil=>exact (a0G hp).symm
 | cons k r=>rfl
theorem Cr.killx {w':World} {S':Nat->Prop} {ι':Loc} {ks:List Nat} {nx nt:Nat} {tm:List (Nat × AV)} {tmps:Array Value} (h:Cr ι S tm nt nx w tmps) (h':Later w w' S S' ι ι' (fun i=>i < nx/\Af i ks=false)):Cr ι' S' (G3 ks tm) nt nx w' tmps:=by
 cases ks with
 | nil=>exact Core.tm h (Nat.le_refl _) ⟨h'.rd,fun id p hid hp=>h'.at_ id p ⟨hid,rfl⟩ hp⟩
 | cons k r=>exact h.kill h'
theorem U5 {o:Oper} {n:Nat} {args:List AV} {K:St->Prop} {Q:Exit->Act->World->Prop} (hs:a.tmps.size=E.nt) (hd:a.defers=[]) (hC:Core E ι S s.hp s.nx w) (ab:Cr ι S s.tm E.nt s.nx w a.tmps) {vs:List Value} (ar:(execOp a.eval o).run E.P w=(callFunc n vs.toArray).run E.P w) (di:Al (Bi w S ι) vs args)
 (c7:∀ d,o.dst=some d->d < E.nt) (h:a0A E.P E.fx n args s o.dst K):o.wp E.P a w (fun a' w'=>∃ s',Rel E s' a' w'/\K s') Q:=by
 obtain ⟨as,hi,st,share,QQ,cb,eg,aB,ce,hK⟩:=h
 let ιc:Loc:=fun id=>bif D7 hi id then ι id else none
 have cin0:∀ id:Key,D7 hi id=true->ιc id=ι id:=by
  intro id h
  show (bif D7 hi id then ι id else none)=ι id
  rw [h]; rfl
 have cin:∀ id:Nat,inH hi id->ιc ⟨id,[]⟩=ι ⟨id,[]⟩:=fun id h=>cin0 _ (U3 h)
 have cout:∀ id:Key,D7 hi id=false->ιc id=none:=by
  intro id h
  show (bif D7 hi id then ι id else none)=none
  rw [h]; rfl
 have csub:∀ (id:Key) p,ιc id=some p->ι id=some p/\inH hi id.id:=by
  intro id p h
  cases ap:D7 hi id with
  | true=>rw [cin0 id ap] at h; exact ⟨h,a0x ap⟩
  | false=>rw [cout id ap] at h; cases h
 have eP:∀ b,S b->Nn share S w ιc b:=fun b hb=>by
  cases share with
  | true=>exact hb
  | false=>exact ⟨hC.lt b hb,fun ⟨id,c,s,e⟩=>hC.dis b hb ⟨id,c,s,(csub id _ e).1⟩⟩
 have jc:Al (Bi w (Nn share S w ιc) ιc) vs as:=Al.of (di.length.trans cb.length) fun i v b hv hb=>by
  have aa:i < args.length:=by rw [cb.length]; exact (List.getElem?_eq_some_iff.1 hb).1
  have ha:=List.getElem?_eq_getElem aa
  exact (cb.at ha hb).rel hC cin csub (di.at hv ha)
 have jd:∀ x∈as,x.uses (inH hi):=by
  intro b hb
  obtain ⟨i,aQ,e⟩:=List.mem_iff_getElem.1 hb
  have aT:as[i]?=some b:=by rw [List.getElem?_eq_getElem aQ,e]
  have aa:i < args.length:=by rw [cb.length]; exact aQ
  exact (cb.at (List.getElem?_eq_getElem aa) aT).uses
 have mM:Core ⟨E.P,w,Mut ιc,Nn share S w ιc,0,fun _=>none,[0]⟩ ιc (Nn share S w ιc) hi s.nx w:=by
  refine ⟨Frame.refl _ _,fun b hb=>.inl hb,?_,?_,fun id g c s' h=>⟨(hC.own id g c s' (csub id _ h).1).1,.inr ⟨id,c,s',h⟩⟩,fun i j g c d s1 s2 h1 h2=>hC.inj i j g _ _ _ _ (csub _ _ h1).1 (csub _ _ h2).1,?_,?_,fun _ _ h=>(by cases h),⟨fun _ _=>rfl,fun e=>by cases e⟩⟩
  · intro b hb
    cases share with
    | true=>exact hC.lt b hb
    | false=>exact hb.1
  · rintro b hb hm
    cases share with
    | true=>obtain ⟨id,c,s',e⟩:=hm; exact hC.dis b hb ⟨id,c,s',(csub id _ e).1⟩
    | false=>exact hb.2 hm
  · intro id hid
    cases ap:D7 hi id with
    | true=>rw [cin0 id ap]; exact hC.new id hid
    | false=>exact cout id ap
  · intro id ob h
    obtain ⟨h1,h2⟩:=eg id ob h
    obtain ⟨g1,g2,g3⟩:=hC.obj id ob h1
    have ap:inH hi id:=by unfold inH; rw [h]; simp
    exact ⟨g1,g2,g3.mono (K:=inH hi) ⟨fun b hb=>⟨eP b hb,rfl⟩,fun i p aQ hp=>by rw [cin i aQ]; exact hp⟩ ap h2 (fun hn k q hk hq=>by rw [cin0 k (a3d (by rw [hk]; exact h) hn)]; exact hq) (fun _ _ _ _ _ _=>rfl)⟩
 have cB:=aB.calls w ιc _ vs mM cout jc jd (fun id ob h=>(eg id ob h).2)
 unfold Oper.wp
 rw [ar,aB.enter]
 refine a7l cB ?_
 rintro e w' ⟨v,r,ho,m,ι',S',rfl,hq,fu,ay,b8,hv,eC,nU,eh,eB,bl⟩
 obtain ⟨bh,hk⟩:=hK r ho m hq
 refine ⟨v,rfl,_,?_,hk⟩
 have gI:∀ (id:Nat) p,inH hi id->Af id (Bq st hi)=false->ιc ⟨id,[]⟩=some p->ι' ⟨id,[]⟩=some p:=by
  intro id p ap hm hp
  cases hl:look hi id with
  | none=>exact absurd hl ap
  | some ob =>
    refine bl id ob p hl ?_ hp
    cases st with
    | true=>exact .inl rfl
    | false =>
      cases ob with
      | box cs=>exact .inr ⟨cs,rfl⟩
      | list=>have:=a0y hl; simp [Bq,this] at hm
      | map=>have:=a3e hl; simp [Bq,this] at hm
      | ranged=>have:=U4 hl; simp [Bq,this] at hm
      | clo=>have:=a3f hl; simp [Bq,this] at hm
      | nest=>have:=a0z hl; simp [Bq,this] at hm
 have key:=hC.call (ιc:=ιc) (A:=Nn share S w ιc) (nt:=0) (ks:=Bq st hi) (fun id=>by
  cases ap:D7 hi id with
  | true=>exact .inl (cin0 id ap)
  | false=>exact .inr ⟨cout id ap,rfl⟩) cout ay fu b8 eh eB (fun id h=>a47 h) gI ce (by
  cases share with
  | true=>exact .inl fun b hb=>hb
  | false=>exact .inr (bh rfl).2)
 obtain ⟨k1,k2,k3,k4⟩:=key
 have en:Bi w' (fun b=>S b∨(w.heap.size<=b/\S' b)) (fun id=>match look ho id.id with | some _=>ι' id | none=>ι id) v r:=by
  cases share with
  | true=>exact hv.mono (K:=inH ho) ⟨fun b hb=>⟨k4 (fun b hb=>hb) b hb,rfl⟩,fun id p _ h=>k3 id p h⟩ eC
  | false=>exact hv.flat k3 (bh rfl).1
 have kq:r.uses (· < m):=AV.uses_mono (fun i aQ=>by
  cases hl:look ho i with
  | none=>exact absurd hl aQ
  | some ob=>exact (ay.obj i ob hl).1) eC
 have dr:=(ab.killx k2)
 rw [<- a7n] at k1
 have je:Cr _ _ (G3 (Bq st hi) s.tm) E.nt m w' a.tmps:=⟨fun t v h=>let ⟨h1,h2,h3⟩:=dr.tm t v h; ⟨h1,AV.uses_mono (fun i aQ=>by omega) h2,h3⟩⟩
 cases aO:o.dst with
 | some d=>exact Ja (s':=s) hs hd k1 je (c7 d aO) en kq
 | none=>exact rel_keep hs hd k1 je v
theorem Xh {o:Oper} {n:Nat} {args:List AV} {K:St->Prop} {Q:Exit->Act->World->Prop} (hR:Rel E s a w) (du:∀ ι S,Core E ι S s.hp s.nx w->Cr ι S s.tm E.nt s.nx w a.tmps->∃ vs:List Value,(execOp a.eval o).run E.P w=(callFunc n vs.toArray).run E.P w/\Al (Bi w S ι) vs args/\∀ x∈args,x.uses (· < s.nx))
 (c7:∀ d,o.dst=some d->d < E.nt) (h:Aa E.P E.fx n args s o.dst K):o.wp E.P a w (fun a' w'=>∃ s',Rel E s' a' w'/\K s') Q:=by
 obtain ⟨hs,hd,ι,S,hC,ab⟩:=hR
 obtain ⟨vs,ar,di,dC⟩:=du ι S hC ab
 obtain ⟨gv,avs1,hg,hw⟩:=h.call
 refine Oper.wp_mono (fun a' w' ⟨s1,jS,s2,h2,hk⟩=>⟨s2,h2.rel jS,hk⟩) (?_:o.wp E.P a w (fun a' w'=>∃ s',Rel E s' a' w'/\∃ s2,Dy s' s2/\K s2) Q)
 cases gv with
 | nil =>
   have dk:avs1=args:=hg
   subst dk
   exact U5 hs hd hC ab ar di c7 hw
 | cons k r =>
   obtain ⟨g1,g2,g3⟩:=hg
   obtain ⟨ι',S',ay,hL,jR,jf⟩:=hC.give g1 g2
   refine U5 (s:=give (k::r) s) hs hd ay (ab.kill hL) ar (Al.of (di.length.trans g3.length) fun i v b hv hb=>?_) c7 hw
   have aa:i < args.length:=by rw [g3.length]; exact (List.getElem?_eq_some_iff.1 hb).1
   have ha:=List.getElem?_eq_getElem aa
   have dZ:=g3.at ha hb
   have gJ:=di.at hv ha
   generalize args[i]=x at dZ gJ
   cases dZ with
   | refl _ h=>exact gJ.mono hL (h _)
   | own id len e z rows h h1 h2 =>
     cases gJ with
     | one gJ=>cases gJ with
       | cell gJ=>exact .one (.cell (.rd (b0B hC h h2 gJ jR fun g c z' e'=>jf id g c z' h1 e')))
theorem Gl (hT:Bg E.P tt) {o:Oper} {K:St->Prop} {Q:Exit->Act->World->Prop} (h:G4 tt E.P E.nt E.fx o s K) (hR:Rel E s a w):o.wp E.P a w (fun a' w'=>∃ s',Rel E s' a' w'/\K s') Q:=by
 have ak:=U2 (s:=s) hT o
 unfold G4 at h
 have cv:=hR
 obtain ⟨tm,hp,nx⟩:=s
 obtain ⟨hs,hd,ι,S,hC,ab⟩:=hR
 simp only at h
 have good:∀ {d:Nat} {v:AV} {hp':Hp} {nx':Nat},o.dst=some d->d < E.nt->Good E ⟨tm,hp,nx⟩ ((execOp a.eval o).run E.P w) w ι S v hp' nx'->K ⟨(d,v)::tm,hp',nx'⟩->o.wp E.P a w (fun a' w'=>∃ s',Rel E s' a' w'/\K s') Q:=by
  intro d v hp' nx' aO aa hg hk
  obtain ⟨u,w',ι',S',hr,ay,hn,hL,hv,hu⟩:=hg
  unfold Oper.wp
  rw [hr,Oper.upon_value,aO]
  exact ⟨_,Ja (s':=⟨tm,hp,nx⟩) hs hd ay (Core.tm ab hn hL) aa hv hu,hk⟩
 cases aO:o.dst with
 | some d =>
   simp only [aO] at h
   cases hb:Nat.blt d E.nt with
   | false=>simp [hb] at h
   | true =>
     have aa:d < E.nt:=Nat.le_of_ble_eq_true hb
     rw [hb] at h
     simp only [cond_true] at h
     cases al:Av tt o.op ⟨tm,hp,nx⟩ with
     | no=>simp [al] at h
     | setB id ob=>simp [al] at h
     | set p id ob=>simp [al] at h
     | setV p id v ob=>simp only [al] at h; rw [al] at ak; exact good aO aa (ak h.1 a w ι S hC ab) h.2
     | pick b x y =>
       simp only [al] at h
       rw [al] at ak
       have hr:=ak a w ι S ab
       unfold Oper.wp
       rw [hr,Oper.upon_value,aO]
       cases b with
       | true =>
         have h':=h.t rfl
         cases hx:Au tm x with
         | none=>simp [hx] at h'
         | some v =>
           simp only [hx] at h'
           have hv:=Ak ab hx
           exact ⟨_,Ja (s':=⟨tm,hp,nx⟩) hs hd hC ab aa hv.1 hv.2,h'⟩
       | false =>
         have h':=h.f rfl
         cases hx:Au tm y with
         | none=>simp [hx] at h'
         | some v =>
           simp only [hx] at h'
           have hv:=Ak ab hx
           exact ⟨_,Ja (s':=⟨tm,hp,nx⟩) hs hd hC ab aa hv.1 hv.2,h'⟩
     | ok v=>simp only [al] at h; rw [al] at ak; exact good aO aa (ak a w ι S hC ab) h
     | cond p v=>simp only [al] at h; rw [al] at ak; exact good aO aa (ak h.1 a w ι S hC ab) h.2
     | newP ob=>simp only [al] at h; rw [al] at ak; exact good aO aa (ak a w ι S hC ab) h
     | newM ob=>simp only [al] at h; rw [al] at ak; exact good aO aa (ak a w ι S hC ab) h
     | newC ob=>simp only [al] at h; rw [al] at ak; exact good aO aa (ak a w ι S hC ab) h
     | each id ks left =>
       simp only [al] at h
       rw [al] at ak
       rcases ak a w ι S hC ab with ⟨h0,hg⟩ | ⟨j,hj,hg⟩
       · exact good aO aa hg (h.1 h0)
       · exact good aO aa hg (h.2 j hj)
     | newL0 len ob =>
       simp only [al] at h; rw [al] at ak
       obtain ⟨u,w',ι',S',hr,ay,hL,hv,_⟩:=ak a w ι S hC ab
       exact good aO aa ⟨u,w',ι',S',hr,ay,Nat.le_succ _,hL,hv,Nat.lt_succ_self _⟩ h
     | newL p len ob=>simp only [al] at h; rw [al] at ak; exact good aO aa (ak h.1 a w ι S hC ab) h.2
     | kill p id v ob =>
       simp only [al] at h
       rw [al] at ak
       cases ce:Af id E.fx with
       | true=>simp [ce] at h
       | false =>
       rw [ce] at h
       simp only [cond_false] at h
       obtain ⟨u,w',ι',S',hr,ay,hL,hv,hu⟩:=ak h.1 (hC.fxs.1 id ce) a w ι S hC ab
       unfold Oper.wp
       rw [hr,Oper.upon_value,aO]
       exact ⟨_,Ja (s':=⟨tm,hp,nx⟩) hs hd ay (ab.kill hL) aa hv hu,h.2⟩
     | call n args =>
       simp only [al] at h
       rw [al] at ak
       refine Xh cv (fun ι S hC ab=>ak a w ι S hC ab) (fun d' a6=>?_) (by rw [aO]; exact h)
       rw [aO] at a6; cases a6; exact aa
 | none =>
   simp only [aO] at h
   cases al:Av tt o.op ⟨tm,hp,nx⟩ with
   | ok v =>
     simp only [al] at h
     rw [al] at ak
     obtain ⟨u,w',ι',S',hr,ay,hn,hL,hv,hu⟩:=ak a w ι S hC ab
     unfold Oper.wp
     rw [hr,Oper.upon_value,aO]
     exact ⟨_,rel_keep hs hd ay (Core.tm ab hn hL) _,h⟩
   | setB id ob =>
     simp only [al] at h
     rw [al] at ak
     obtain ⟨w',ι',S',hr,ay,hn,hL⟩:=ak a w ι S hC ab
     unfold Oper.wp
     rw [hr,Oper.upon_skip,aO]
     exact ⟨_,rel_keep hs hd ay (Core.tm ab hn hL) _,h⟩
   | set p id ob =>
     simp only [al] at h
     rw [al] at ak
     obtain ⟨w',ι',S',hr,ay,hn,hL⟩:=ak h.1 a w ι S hC ab
     unfold Oper.wp
     rw [hr,Oper.upon_skip,aO]
     exact ⟨_,rel_keep hs hd ay (Core.tm ab hn hL) _,h.2⟩
   | setV p id v ob =>
     simp only [al] at h
     rw [al] at ak
     obtain ⟨u,w',ι',S',hr,ay,hn,hL,hv,hu⟩:=ak h.1 a w ι S hC ab
     unfold Oper.wp
     rw [hr,Oper.upon_value,aO]
     exact ⟨_,rel_keep hs hd ay (Core.tm ab hn hL) _,h.2⟩
   | call n args =>
     simp only [al] at h
     rw [al] at ak
     refine Xh cv (fun ι S hC ab=>ak a w ι S hC ab) (fun d' a6=>?_) (by rw [aO]; exact h)
     rw [aO] at a6; cases a6
   | _=>simp [al] at h
theorem Le {ops:Array Oper} {j:Nat} {b:Option Bool} (hR:Rel E s a w) (h:C7 ops s.tm j=some b):yielded ops a.tmps j=b:=by
 obtain ⟨hs,hd,ι,S,hC,ab⟩:=hR
 unfold C7 at h
 cases ho:ops[j]? with
 | none=>simp [ho] at h
 | some o =>
   cases aO:o.dst with
   | none=>simp [ho,aO] at h
   | some d =>
     simp only [ho,aO] at h
     cases hl:look s.tm d with
     | none=>simp [hl] at h
     | some v =>
       obtain ⟨h1,_,h3⟩:=ab.tm d _ hl
       have aa:d < a.tmps.size:=by rw [hs]; exact h1
       rw [Array.getD,dif_pos aa] at h3
       have dI:=Array.getElem?_eq_getElem aa
       unfold yielded
       simp only [ho,aO,Option.bind_some,dI]
       simp only [hl] at h
       split at h
       · rename_i b' e
         simp only [Option.some.injEq] at h e
         subst h e
         have:a.tmps[d]=.bool b':=h3.val_inv.1
         rw [this]
       · rename_i e
         simp only [Option.some.injEq] at h e
         subst h e
         obtain ⟨vs,e1,e2⟩:=h3.tup_inv
         have:a.tmps[d]=.tuple vs.toArray:=e1
         rw [this]
       · cases h
theorem Ic {o:Oper} {K:St->Prop} (h:No E.nt o s K) (hR:Rel E s a w):∃ s',Rel E s' (a.put o.dst undef) w/\K s':=by
 unfold No at h
 obtain ⟨tm,hp,nx⟩:=s
 obtain ⟨hs,hd,ι,S,hC,ab⟩:=hR
 cases aO:o.dst with
 | some d =>
   simp only [aO] at h
   cases hb:Nat.blt d E.nt with
   | false=>simp [hb] at h
   | true =>
     rw [hb] at h
     exact ⟨_,Ja (s':=⟨tm,hp,nx⟩) hs hd hC ab (Nat.le_of_ble_eq_true hb) (.tup [] [] trivial) (fun v hv=>by cases hv),h⟩
 | none =>
   simp only [aO] at h
   exact ⟨_,rel_keep hs hd hC ab _,h⟩
theorem F3 {ops:Array Oper} {o:Oper} {X Y:Prop} (h:Dk ops o s X Y) (hR:Rel E s a w) :
 (Region.wanted o (yielded ops a.tmps)=true/\X)∨(Region.wanted o (yielded ops a.tmps)=false/\Y):=by
 unfold Dk at h
 cases hg:o.guard with
 | none=>simp only [hg] at h; exact .inl ⟨by simp [Region.wanted,hg],h⟩
 | some jw =>
   obtain ⟨j,want⟩:=jw
   simp only [hg] at h
   cases cN:C7 ops s.tm j with
   | none=>simp [cN] at h
   | some b =>
     have hy:=Le hR cN
     have hw:Region.wanted o (yielded ops a.tmps)=(b==some want):=by simp only [Region.wanted,hg,hy]
     simp only [cN] at h
     rw [hw]
     cases b with
     | none=>exact .inr ⟨by cases want <;> rfl,h⟩
     | some b =>
       simp only at h
       cases want with
       | true=>cases b with
         | true=>exact .inl ⟨rfl,h.t rfl⟩
         | false=>exact .inr ⟨rfl,h.f rfl⟩
       | false=>cases b with
         | true=>exact .inr ⟨rfl,h.t rfl⟩
         | false=>exact .inl ⟨rfl,h.f rfl⟩
theorem a3j (hT:Bg E.P tt) {ops:Array Oper} {Q:Exit->Act->World->Prop} {K:St->Prop} {o:Oper} {r:List Oper} (h:Hk tt E.P E.nt E.fx ops (o::r) s K) (hR:Rel E s a w) :
 if Region.wanted o (yielded ops a.tmps) then o.wp E.P a w (fun a' w'=>∃ s',Rel E s' a' w'/\Hk tt E.P E.nt E.fx ops r s' K) Q else ∃ s',Rel E s' (a.put o.dst undef) w/\Hk tt E.P E.nt E.fx ops r s' K:=by
 simp only [Hk] at h
 rcases F3 h hR with ⟨hw,h⟩ | ⟨hw,h⟩
 · rw [if_pos hw]; exact Gl hT h hR
 · rw [hw]; simp only [Bool.false_eq_true,if_false]; exact Ic h hR
theorem Rs (hT:Bg E.P tt) {ops:Array Oper} {Q:Exit->Act->World->Prop} {K:St->Prop} (hQ:∀ s a w,Rel E s a w->K s->Q .normal a w):∀ (l:List Oper) (s:St) (a:Act) (w:World),Hk tt E.P E.nt E.fx ops l s K->Rel E s a w->wpList E.P ops Q l a w
 | [],s,a,w,h,hR=>hQ s a w hR h
 | o::r,s,a,w,h,hR=>by
   have ih:=Rs (ops:=ops) hT hQ r
   refine wpList_step fun K' fE=>?_
   have:=a3j (Q:=Q) hT h hR
   split
   · rename_i hw
     rw [if_pos hw] at this
     exact Oper.wp_mono (fun a' w' ⟨s'',kr,c9⟩=>fE a' w' (ih s'' a' w' c9 kr)) this
   · rename_i hw
     rw [if_neg hw] at this
     obtain ⟨s',cv,h'⟩:=this
     exact fE _ _ (ih s' _ w h' cv)
end Go.Am
