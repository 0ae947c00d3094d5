import Derived.Test.YtllhgcfacgiabaaGreatAmQ
namespace Go.Am
open Go.RowKit
set_option linter.unusedVariables false
set_option linter.unusedSimpArgs false
variable {E:Env} {s:St} {a:Act} {w:World} {ι:Loc} {S:Nat->Prop} {tt:Tab}
theorem a5b {hp:Hp} {nx len e sz:Nat} {rows:List (List AV)} {w':World} {ι':Loc} {S':Nat->Prop} {v:Value} (hC:Core E ι S hp nx w) (ay:Core E ι' S' ((nx,.list e sz rows)::hp) (nx + 1) w') (hL:Later w w' S S' ι ι' (· < nx))
 (hv:Bi w' S' ι' v (.own nx len)) (hg:∀ g c z,ι' nx=some (.blk g c z)->w.heap.size<=g) (hl:len<=rows.length) :
 ∃ ι'' S'',Core E ι'' S'' hp nx w'/\Later w w' S S'' ι ι'' (· < nx)/\Bi w' S'' ι'' v (.lst (rows.take len)):=by
 let ι'':Loc:=fun i=>if i.id < nx then ι' i else none
 let S'':Nat->Prop:=fun b=>S' b∨∃ c z,ι' nx=some (.blk b c z)
 have up:∀ (i:Key) p,ι'' i=some p->ι' i=some p/\i.id < nx:=by
  intro i p h
  have h':(if i.id < nx then ι' i else none)=some p:=h
  split at h'
  · exact ⟨h',by assumption⟩
  · cases h'
 have dn:∀ (i:Key) p,i.id < nx->ι' i=some p->ι'' i=some p:=by
  intro i p h h'
  show (if i.id < nx then ι' i else none)=some p
  rw [if_pos h]; exact h'
 have ca:Later w' w' S' S'' ι' ι'' (· < nx):=⟨fun b hb=>⟨.inl hb,rfl⟩,fun i p=>dn ⟨i,[]⟩ p⟩
 refine ⟨ι'',S'',⟨ay.frame,?_,?_,?_,fun id g c s h=>ay.own id g c s (up id _ h).1,fun i j g c d s r h1 h2=>ay.inj i j g _ _ _ _ (up i _ h1).1 (up j _ h2).1,?_,?_,?_,ay.fxs⟩,⟨fun b hb=>⟨.inl (hL.rd b hb).1,(hL.rd b hb).2⟩,fun id p hid h=>dn ⟨id,[]⟩ p hid (hL.at_ id p hid h)⟩,?_⟩
 · rintro b (hb | ⟨c,z,h⟩)
   · exact ay.sub b hb
   · exact .inr (Nat.le_trans hC.frame.size (hg b c z h))
 · rintro b (hb | ⟨c,z,h⟩)
   · exact ay.lt b hb
   · exact (ay.own _ _ _ _ h).1
 · rintro b (hb | ⟨c,z,h⟩) ⟨id,c',s',h'⟩
   · exact ay.dis b hb ⟨id,c',s',(up id _ h').1⟩
   · have:=ay.inj _ _ _ _ _ _ _ (up id _ h').1 h
     have h8:=(up id _ h').2
     rw [this] at h8
     exact absurd h8 (Nat.lt_irrefl _)
 · intro id hid
   show (if id.id < nx then ι' id else none)=none
   rw [if_neg (by omega)]
 · intro id o h
   obtain ⟨h1,h2,h3⟩:=hC.obj id o h
   have:look ((nx,.list e sz rows)::hp) id=some o:=by rw [An _ _ (by omega)]; exact h
   obtain ⟨_,_,g3⟩:=ay.obj id o this
   exact ⟨h1,h2,g3.mono ca h1 h2 (fun _ k q hk hq=>dn k q (by rw [hk]; exact h1) hq) (fun _ _ _ _ _ _=>rfl)⟩
 · intro id p h
   have h0:=hC.stay id p h
   have aa:id < nx:=by
    rcases Nat.lt_or_ge id nx with h' | h'
    · exact h'
    · rw [hC.new ⟨id,[]⟩ h'] at h0; cases h0
   exact dn ⟨id,[]⟩ p aa (ay.stay id p h)
 · obtain ⟨_,_,an⟩:=ay.obj nx _ (Ae _ _ _)
   have ae:(rows.take len).length=len:=by simp; omega
   rcases hv.own_inv with ⟨g,cap,s2,h1,h2,h3,ev⟩ | ⟨h1,rfl,ev⟩
   · subst ev
     cases an with
     | nil _ _ h' _=>rw [h1] at h'; cases h'
     | list g' cap' _ _ _ vs h' hs hr ax hm hw hn hc =>
       rw [h1] at h'; simp at h'; obtain ⟨rfl,rfl,rfl⟩:=h'
       by_cases h0:len=0
       · subst h0; exact .one (.cell (.rd (.nil _ _ h3)))
       · have aV:rows.length * s2<=cap * s2:=Nat.mul_le_mul_right _ ax
         have bd:len * s2<=rows.length * s2:=Nat.mul_le_mul_right _ hl
         have:=Rd.lst (w:=w') (S:=S'') (rows.take len) g 0 cap s2 (vs.take (len * s2)) (fun e'=>by rw [e'] at ae; simp at ae; omega) (by omega) hm (.inr ⟨_,_,h1⟩) (fun r aD=>hr r (List.mem_of_mem_take aD)) (by rw [ae,List.length_take,hn]; omega)
          (fun i v hi=>by
            rw [Nat.zero_add]
            rw [List.getElem?_take] at hi
            split at hi
            · exact cells_of_block hw i v hi
            · cases hi)
          (fun i v av hi ha=>by
            rw [By _ _ hr] at ha
            rw [List.getElem?_take] at hi ha
            split at hi
            · rename_i aa
              rw [if_pos aa] at ha
              exact (hc i v av hi ha).mono fun b hb=>⟨.inl hb,rfl⟩
            · cases hi)
         rw [ae] at this
         exact .one (.cell (.rd this))
   · subst ev
     simp only [List.take_zero]
     exact .one (.cell (.rd (.nil _ _ (Nat.zero_le _))))
theorem Mj {tm tm':List (Nat × AV)} {hp:Hp} {nx:Nat} (hR:Rel E ⟨tm,hp,nx⟩ a w) (h:∀ t v,look tm' t=some v->look tm t=some v):Rel E ⟨tm',hp,nx⟩ a w:=by
 obtain ⟨hs,hd,ι,S,hC,ab⟩:=hR
 exact ⟨hs,hd,ι,S,hC,⟨fun t v hv=>ab.tm t v (h t v hv)⟩⟩
theorem Nr (hR:Rel E s a w):Rel E s a { w with drawn:=w.drawn + 1 }:=by
 obtain ⟨hs,hd,ι,S,hC,ab⟩:=hR
 exact ⟨hs,hd,ι,S,hC.drew,Core.tm ab (Nat.le_refl _) ⟨fun b hb=>⟨hb,rfl⟩,fun id p _ h=>h⟩⟩
theorem Ju {o:Oper} {s':St} {Q:Exit->Act->World->Prop} (hT:Bg E.P tt) (h:G4 tt E.P E.nt E.fx o s (fun x=>x=s')) (hR:Rel E s a w):o.wp E.P a w (fun a' w'=>Rel E s' a' w') Q :=
 Oper.wp_mono (fun a' w' ⟨x,hx,e⟩=>by subst e; exact hx) (Gl hT h hR)
theorem Mk (hT:Bg E.P tt) {o:Oper} {tm:List (Nat × AV)} {hq hp:Hp} {nx d:Nat} {v:AV} {Q:Exit->Act->World->Prop} (hd:o.dst=some d) (aa:d < E.nt) (aU:∀ id ob,look hq id=some ob->look hp id=some ob) (h:Ka tt hq o tm v)
 (hR:Rel E ⟨tm,hp,nx⟩ a w):o.wp E.P a w (fun a' w'=>Rel E ⟨(d,v)::tm,hp,nx⟩ a' w') Q:=by
 have hb:Nat.blt d E.nt=true:=Nat.ble_eq_true_of_le aa
 cases h with
 | ok h =>
   have e:=Hm (n':=nx) o.op aU (by rw [h]; trivial)
   rw [h] at e
   exact Ju hT (by simp only [G4,hd,hb,e,cond_true]) hR
 | cond h hp' =>
   have e:=Hm (n':=nx) o.op aU (by rw [h]; trivial)
   rw [h] at e
   exact Ju hT (by simp only [G4,hd,hb,e,cond_true]; exact ⟨hp',trivial⟩) hR
 | pick _ h hx =>
   rename_i b c x y
   have e:=Hm (n':=nx) o.op aU (by rw [h]; trivial)
   rw [h] at e
   refine Ju hT ?_ hR
   simp only [G4,hd,hb,e,cond_true]
   refine ⟨fun hb=>?_,fun hb=>?_⟩
   · subst hb; simp only [if_true] at hx; rw [hx]
   · subst hb; simp only [Bool.false_eq_true,if_false] at hx; rw [hx]
 | lst h =>
   rename_i len e sz rows
   have e:=Hm (n':=nx) o.op aU (by rw [h]; trivial)
   rw [h] at e
   have ak:=U2 (s:=⟨tm,hp,nx⟩) hT o
   rw [e] at ak
   obtain ⟨hs,jj,ι,S,hC,ab⟩:=hR
   obtain ⟨u,w',ι',S',hr,ay,hL,hv,hg,hl⟩:=ak a w ι S hC ab
   obtain ⟨ι'',S'',k1,k2,k3⟩:=a5b hC ay hL hv hg (hl _ _ _ rfl)
   unfold Oper.wp
   rw [hr,Oper.upon_value,hd]
   exact Ja (s':=⟨tm,hp,nx⟩) hs jj k1 (Core.tm ab (Nat.le_refl _) k2) aa k3 trivial
theorem Ns (hT:Bg E.P tt) {o:Oper} {tm:List (Nat × AV)} {hq hp ho:Hp} {nx m d f:Nat} {v:AV} {avs args:List AV} {share:Bool} {Q:Exit->Act->World->Prop} (hd:o.dst=some d) (aa:d < E.nt)
 (aU:∀ id ob,look hq id=some ob->look hp id=some ob) (h:Av tt o.op ⟨tm,hq,0⟩=.call f avs) (cb:Al (Cv hp [] share) avs args) (aB:Ret E.P f args [] nx true (Is v ho m)) (jU:share=false->Ld v=true/\Kg ho)
 (hR:Rel E ⟨tm,hp,nx⟩ a w):o.wp E.P a w (fun a' w'=>Rel E ⟨(d,v)::tm,ho++hp,m⟩ a' w') Q:=by
 have hb:Nat.blt d E.nt=true:=Nat.ble_eq_true_of_le aa
 have e:=Hm (n':=nx) o.op aU (by rw [h]; trivial)
 rw [h] at e
 refine Ju hT ?_ hR
 simp only [G4,hd,hb,e,cond_true]
 refine Aa.plain ⟨args,[],true,share,Is v ho m,cb,fun id o h=>by simp [look] at h,aB,fun id h=>by simp [Bq,Af] at h,?_⟩
 rintro r bY m' ⟨rfl,rfl,rfl⟩
 refine ⟨fun e=>?_,rfl⟩
 have hf:∀ {h:Hp},Kg h->∀ id o,look h id=some o->Xa o:=by
  intro h
  induction h with
  | nil=>intro _ id o e; simp [look] at e
  | cons x r ih =>
    obtain ⟨k,ob⟩:=x
    intro hf id o e
    rw [Aj] at e
    split at e
    · simp at e; subst e; exact hf.1
    · exact ih hf.2 id o e
 exact ⟨(jU e).1,hf (jU e).2⟩
structure F9 (md:Bool) (ops:Array Oper) (n:Nat) (f:Nat->St) (listed:Array Bool) (tm:List (Nat × AV)) (k:Nat):Prop where
 le:k<=n
 i1:∀ j o t,j < n->listed.getD j false=true->ops[j]?=some o->o.dst=some t->look tm t=look (f n).tm t
 i2:∀ t,(∀ j o,j < n->listed.getD j false=true->ops[j]?=some o->o.dst≠some t)->look tm t=look (f 0).tm t
 i3:∀ j o,j < n->ops[j]?=some o->Er md o=true->(listed.getD j false=true↔j < k)
variable {P:Program} {nt n:Nat} {hq:Hp} {md:Bool} {ops:Array Oper} {f:Nat->St}
theorem F9.at {listed:Array Bool} {tm:List (Nat × AV)} {k i:Nat} (h:Jt P tt nt hq md ops n f) (hI:F9 md ops n f listed tm k) (hi:i<=n) {t:Nat}
 (gL:∀ j q,j < n->ops[j]?=some q->q.dst=some t->j < i/\listed.getD j false=true):look tm t=look (f i).tm t:=by
 by_cases hex:∃ j q,j < n/\ops[j]?=some q/\q.dst=some t
 · obtain ⟨j,q,hj,ac,hd⟩:=hex
   obtain ⟨h1,h2⟩:=gL j q hj ac hd
   rw [hI.i1 j q t hj h2 ac hd,h.stay hj ac hd n hj (Nat.le_refl _),h.stay hj ac hd i h1 hi]
 · have aJ:∀ j q,j < n->ops[j]?=some q->q.dst≠some t:=fun j q hj ac hd=>hex ⟨j,q,hj,ac,hd⟩
   rw [hI.i2 t fun j q hj _ ac=>aJ j q hj ac,h.old i hi t fun j q hj ac=>aJ j q (by omega) ac]
theorem If {o:Oper} {j:Nat} {listed:Array Bool} (h:waits o j=true) (az:∀ e∈o.after,Region.binds .any e=true->listed.getD e.on false=true):listed.getD j false=true:=by
 unfold waits at h
 obtain ⟨e,he,hb⟩:=List.any_eq_true.1 h
 simp only [Bool.and_eq_true] at hb
 have:=az e (by simpa using he) hb.2
 rw [Nat.eq_of_beq_eq_true hb.1] at this
 exact this
theorem Xl {i j:Nat} {o q:Oper} {t:Nat} (h:Xb i o j q=true) (hd:q.dst=some t) (hm:Af t (De o.op.operands.toList)=true):j < i/\waits o j=true:=by
 unfold Xb at h
 simp only [hd] at h
 cases hb:Nat.beq i j with
 | true=>simp [hb,hm] at h
 | false =>
   simp only [hb,cond_false,hm,Bool.not_true,Bool.false_or,Bool.and_eq_true] at h
   exact ⟨Nat.le_of_ble_eq_true h.2.1,h.2.2⟩
theorem T0 {o:Oper} {tm tm':List (Nat × AV)} {g:Nat} (h:∀ q t,ops[g]?=some q->q.dst=some t->look tm t=look tm' t):C7 ops tm g=C7 ops tm' g:=by
 unfold C7
 cases hg:ops[g]? with
 | none=>rfl
 | some q =>
   cases hd:q.dst with
   | none=>simp only [hd]
   | some t=>simp only [hd,h q t hg hd]
theorem a7q (hT:Bg E.P tt) (h:Jt E.P tt E.nt (f 0).hp md ops n f) {listed:Array Bool} {tm:List (Nat × AV)} {k i:Nat} {o:Oper} {Q:Exit->Act->World->Prop} (ao:listed.size=ops.size) (hD:a5a ops listed) (hI:F9 md ops n f listed tm k) (cO:∀ id ob,look (f 0).hp id=some ob->id < (f 0).nx)
 (hi:i < n) (ho:ops[i]?=some o) (dj:listed.getD i false=false) (az:∀ e∈o.after,Region.binds .any e=true->listed.getD e.on false=true) (hR:Rel E ⟨tm,(f k).hp,(f k).nx⟩ a w) :
 wpOp E.P ops Q i (fun a' w'=>∃ tm' k',F9 md ops n f (listed.setIfInBounds i true) tm' k'/\Rel E ⟨tm',(f k').hp,(f k').nx⟩ a' w') a w:=by
 have ap:i < listed.size:=by rw [ao]; exact Nat.lt_of_lt_of_le hi h.le
 obtain ⟨d,v,hd,cr,dK,bC⟩:=h.step i o hi ho
 have eR:Agree o.op.operands.toList (f i).tm tm:=by
  intro x hx
  refine Rt fun t e=>?_
  subst e
  refine (F9.at h hI (Nat.le_of_lt hi) fun j q hj ac a6=>?_).symm
  have hp:=Xl (h.pair i j o q hi hj ho ac) a6 (Hl hx)
  exact ⟨hp.1,If hp.2 az⟩
 have ak:Av tt o.op ⟨tm,(f 0).hp,0⟩=Av tt o.op ⟨(f i).tm,(f 0).hp,0⟩:=(Ie o.op _ _ eR).symm
 have dH:∀ j want,o.guard=some (j,want)->C7 ops tm j=C7 ops (f i).tm j:=by
  intro j want hg
  have gM:=h.guard i o hi ho
  simp only [Xc,hg,Bool.and_eq_true] at gM
  have ct:j < i:=Nat.le_of_ble_eq_true gM.1
  refine T0 (o:=o) fun q t ac a6=>F9.at h hI (Nat.le_of_lt hi) fun j' q' aN gN gO=>?_
  by_cases e:j'=j
  · subst e; exact ⟨ct,If gM.2 az⟩
  · exact absurd (gO.trans a6.symm) (h.ne aN (by omega) e gN ac)
 have cW:∀ k',k'<=n->(∀ j q,j < n->ops[j]?=some q->Er md q=true->((listed.setIfInBounds i true).getD j false=true↔j < k'))->F9 md ops n f (listed.setIfInBounds i true) ((d,v)::tm) k':=by
  intro k' aW h3
  refine ⟨aW,?_,?_,h3⟩
  · intro j q t hj hl ac a6
    by_cases e:j=i
    · subst e
      rw [ho] at ac; cases ac
      rw [hd] at a6; cases a6
      rw [Ae,h.stay hj ho hd n hj (Nat.le_refl _),dK,Ae]
    · have aj:d≠t:=fun e'=>h.ne hj hi e ac ho (by rw [a6,hd,e'])
      rw [Bb e] at hl
      rw [An _ _ aj]
      exact hI.i1 j q t hj hl ac a6
  · intro t ht
    have aj:d≠t:=fun e=>ht i o hi (Dz ap) ho (by rw [hd,e])
    rw [An _ _ aj]
    refine hI.i2 t fun j q hj hl ac=>ht j q hj ?_ ac
    have ct:j≠i:=fun e=>by subst e; rw [dj] at hl; cases hl
    rw [Bb ct]; exact hl
 have ba:Er md o=true->k<=i/\(f i).hp=(f k).hp/\(f i).nx=(f k).nx/\F9 md ops n f (listed.setIfInBounds i true) ((d,v)::tm) (i + 1):=by
  intro au
  have d5:k<=i:=Nat.le_of_not_lt fun aa=>by
   have:=(hI.i3 i o hi ho au).2 aa
   rw [dj] at this; cases this
  have aJ:∀ j q,k<=j->j < i->ops[j]?=some q->Er md q=false:=by
   intro j q hj aN ac
   cases hc:Er md q with
   | false=>rfl
   | true =>
     have hw:=Nq hD i _ (Nat.le_of_lt (Nat.lt_of_lt_of_le hi h.le)) (fun k hk=>by
      obtain ⟨e,h1,h2,h3⟩:=Js hk
      have:=az e h1 h2
      rw [h3] at this; exact this) j (h.call i o hi ho au j q aN ac hc)
     have:=(hI.i3 j q (by omega) ac hc).1 hw
     omega
  have hs:=h.hpStay i d5 (Nat.le_of_lt hi) aJ
  refine ⟨d5,hs.1,hs.2,cW (i + 1) hi fun j q hj ac hc=>?_⟩
  by_cases e:j=i
  · subst e; exact ⟨fun _=>Nat.lt_succ_self _,fun _=>Dz ap⟩
  · rw [Bb e,hI.i3 j q hj ac hc]
    constructor
    · intro h'; omega
    · intro h'
      rcases Nat.lt_or_ge j k with c9 | c9
      · exact c9
      · have:=aJ j q c9 (by omega) ac
        rw [hc] at this; cases this
 have bT:Er md o=false->F9 md ops n f (listed.setIfInBounds i true) ((d,v)::tm) k:=by
  intro au
  refine cW k hI.le fun j q hj ac hc=>?_
  have ct:j≠i:=fun e=>by subst e; rw [ho] at ac; cases ac; rw [au] at hc; cases hc
  rw [Bb ct]; exact hI.i3 j q hj ac hc
 have aU:∀ id ob,look (f 0).hp id=some ob->look (f k).hp id=some ob:=fun id ob hl=>by
  rw [(h.sub k hI.le).2 id (cO id ob hl)]; exact hl
 unfold wpOp
 simp only [ho]
 rcases bC with ⟨⟨j,want,ob,hg,cN,aj⟩,hv,e1,e2⟩ | ⟨hg,bC⟩
 ·
  subst hv
  have hy:=Le (ops:=ops) (s:=⟨tm,(f k).hp,(f k).nx⟩) hR ((dH j want hg).trans cN)
  have hw:Region.wanted o (yielded ops a.tmps)=false:=by
   simp only [Region.wanted,hg,hy]
   cases ob with
   | none=>cases want <;> rfl
   | some b=>cases b <;> cases want <;> first | rfl | exact absurd rfl aj
  rw [hw]
  simp only [Bool.false_eq_true,if_false]
  have aS:Rel E ⟨(d,.tup [])::tm,(f k).hp,(f k).nx⟩ (a.put o.dst undef) w:=by
   rw [hd]
   obtain ⟨hs,jj,ι,S,hC,ab⟩:=hR
   exact Ja (s':=⟨tm,(f k).hp,(f k).nx⟩) hs jj hC ab cr (.tup [] [] trivial) (fun v hv=>by cases hv)
  cases au:Er md o with
  | false=>exact ⟨_,k,bT au,aS⟩
  | true =>
    obtain ⟨d5,g1,g2,g3⟩:=ba au
    refine ⟨_,i + 1,g3,?_⟩
    rw [e1,e2,g1,g2]; exact aS
 · have hw:Region.wanted o (yielded ops a.tmps)=true:=by
    cases dL:o.guard with
    | none=>simp [Region.wanted,dL]
    | some jw =>
      obtain ⟨j,want⟩:=jw
      have hy:=Le (ops:=ops) (s:=⟨tm,(f k).hp,(f k).nx⟩) hR ((dH j want dL).trans (hg j want dL))
      simp [Region.wanted,dL,hy]
   rw [hw]
   simp only [if_true]
   refine .inl ?_
   rcases bC with ⟨bP | ⟨fn,avs,hs,cb,aB⟩,e1,e2⟩ | ⟨rfl,fn,avs,args,share,fw,hs,au,cb,aB,ax,bg,jU,e1⟩ | ⟨rfl,ob,hs,au,rfl,e1,e2⟩
   · have eS:Ka tt (f 0).hp o tm v:=by
      cases bP with
      | ok h=>exact .ok (ak.trans h)
      | cond h hp=>exact .cond (ak.trans h) hp
      | lst h=>exact .lst (ak.trans h)
      | pick a9 h hx =>
        rename_i b c x y
        refine .pick a9 (ak.trans h) ?_
        have df:∀ z,z∈o.op.operands.toList->Au tm z=Au (f i).tm z:=fun z hz=>(eR z hz).symm
        have bc:x∈o.op.operands.toList/\y∈o.op.operands.toList:=by rw [a9]; simp [Op.operands]
        cases b with
        | true=>simp only [if_true] at *; rw [df x bc.1]; exact hx
        | false=>simp only [Bool.false_eq_true,if_false] at *; rw [df y bc.2]; exact hx
     have dM:=Mk (Q:=Q) hT hd cr aU eS hR
     cases au:Er md o with
     | false=>exact Oper.wp_mono (fun a' w' hr=>⟨_,k,bT au,hr⟩) dM
     | true =>
       obtain ⟨d5,g1,g2,g3⟩:=ba au
       exact Oper.wp_mono (fun a' w' hr=>⟨_,i + 1,g3,by rw [e1,e2,g1,g2]; exact hr⟩) dM
   · have dM:=Ns (Q:=Q) hT hd cr aU (ak.trans hs) (cb _) (aB _) (fun e=>by cases e) hR
     cases au:Er md o with
     | false=>exact Oper.wp_mono (fun a' w' hr=>⟨_,k,bT au,hr⟩) dM
     | true =>
       obtain ⟨d5,g1,g2,g3⟩:=ba au
       exact Oper.wp_mono (fun a' w' hr=>⟨_,i + 1,g3,by rw [e1,e2,g1,g2]; exact hr⟩) dM
   · obtain ⟨d5,g1,g2,g3⟩:=ba au
     rw [g1] at cb
     rw [g2] at aB
     have dM:=Ns (Q:=Q) hT hd cr aU (ak.trans hs) cb aB jU hR
     exact Oper.wp_mono (fun a' w' hr=>⟨_,i + 1,g3,by rw [e1,g1]; exact hr⟩) dM
   · obtain ⟨d5,g1,g2,g3⟩:=ba au
     have hb:Nat.blt d E.nt=true:=Nat.ble_eq_true_of_le cr
     have gP:Av tt o.op ⟨tm,(f k).hp,(f k).nx⟩=.newP ob:=by
      rw [<- ak.trans hs]
      cases a9:o.op with
      | alloc t=>rfl
      | _=>simp [Eq,a9] at au
     refine Oper.wp_mono (fun a' w' hr=>⟨_,i + 1,g3,?_⟩) (Ju (s':=⟨(d,.pt (f k).nx 0 0)::tm,((f k).nx,ob)::(f k).hp,(f k).nx + 1⟩) hT (by simp only [G4,hd,hb,gP,cond_true]) hR)
     rw [e1,e2,g1,g2]; exact hr
theorem H1 {p:Nat->Oper->Bool}:∀ {l:List Oper} {i:Nat},a42 p i l=true->∀ j o,l[j]?=some o->p (i + j) o=true
 | [],i,_,j,o,h=>by simp at h
 | x::r,i,ha,0,o,h=>by simp only [a42,Bool.and_eq_true] at ha; simp at h; subst h; exact ha.1
 | x::r,i,ha,j + 1,o,h=>by
   simp only [a42,Bool.and_eq_true] at ha
   have:=H1 ha.2 j o (by simpa using h)
   rw [show i + (j + 1)=i + 1 + j by omega]; exact this
theorem Xm {o:Oper} {i:Nat} (h:a9b o i=true):∀ e∈o.after,Region.binds .any e=true->e.on < i:=by
 intro e he hb
 have:=List.all_eq_true.1 h e (by simpa using he)
 simp only [hb,Bool.not_true,Bool.false_or] at this
 exact Nat.le_of_ble_eq_true this
theorem Rw {p:Nat->Prop}:∀ {l:List Nat},allR l p->∀ i∈l,p i
 | [],_,i,hi=>by cases hi
 | [k],h,i,hi=>by rcases List.mem_cons.1 hi with rfl | hi; exact h; cases hi
 | k::k'::r,h,i,hi=>by
   rcases List.mem_cons.1 hi with rfl | hi
   · exact h.l
   · exact Rw (l:=k'::r) h.r i hi
theorem Hn (all:List Bool):∀ (l:List Oper) (bs:List Bool) (i j:Nat),j∈Ct all i l bs↔i<=j/\bs[j - i]?=some false/\∃ o,l[j - i]?=some o/\I6 o all=true
 | [],bs,i,j=>by simp [Ct]
 | o::r,[],i,j=>by simp [Ct]
 | o::r,b::bs,i,j=>by
   have ih:=Hn all r bs (i + 1) j
   have key:(i<=j/\(b::bs)[j - i]?=some false/\∃ q,(o::r)[j - i]?=some q/\I6 q all=true)↔(j=i/\b=false/\I6 o all=true)∨(i + 1<=j/\bs[j - (i + 1)]?=some false/\∃ q,r[j - (i + 1)]?=some q/\I6 q all=true):=by
    by_cases e:j=i
    · subst e
      simp only [Nat.le_refl,Nat.sub_self,List.getElem?_cons_zero,Option.some.injEq,true_and,exists_eq_left']
      constructor
      · intro h; exact .inl h
      · rintro (h | ⟨h,_⟩)
        · exact h
        · omega
    · by_cases aa:i<=j
      · have e':j - i=(j - (i + 1)) + 1:=by omega
        rw [e',List.getElem?_cons_succ,List.getElem?_cons_succ]
        constructor
        · rintro ⟨_,h⟩; exact .inr ⟨by omega,h⟩
        · rintro (⟨h,_⟩ | ⟨_,h⟩)
          · exact absurd h e
          · exact ⟨aa,h⟩
      · constructor
        · rintro ⟨h,_⟩; exact absurd h aa
        · rintro (⟨h,_⟩ | ⟨h,_⟩) <;> omega
   rw [key]
   simp only [Ct]
   cases hb:(!b&&I6 o all) with
   | true =>
     simp only [Bool.and_eq_true,Bool.not_eq_true'] at hb
     rw [List.mem_cons,ih]
     simp only [hb.1,hb.2,and_self,and_true]
   | false =>
     rw [ih]
     constructor
     · intro h; exact .inr h
     · rintro (⟨_,h1,h2⟩ | h)
       · rw [h1,h2] at hb; cases hb
       · exact h
theorem Ho {ops:Array Oper} {l:List Bool} (hl:l.length=ops.size) (i:Nat):i∈Region.ready .any ops l.toArray↔i∈Ct l 0 ops.toList l:=by
 rw [mem_ready,Hn]
 simp only [Nat.zero_le,Nat.sub_zero,true_and,Array.getElem?_toList]
 have hd:∀ j,l.toArray.getD j false=l.getD j false:=fun j=>by simp [Array.getD_eq_getD_getElem?,List.getD_eq_getElem?_getD]
 have h1:l.toArray.getD i true=false↔l[i]?=some false:=by
  rw [Array.getD_eq_getD_getElem?]
  simp only [List.getElem?_toArray]
  cases l[i]? <;> simp
 have h2:∀ o:Oper,(∀ e∈o.after,Region.binds .any e=true->l.toArray.getD e.on false=true)↔I6 o l=true:=by
  intro o
  unfold I6
  rw [List.all_eq_true]
  constructor
  · intro h e he
    have:=h e (by simpa using he)
    cases hb:Region.binds .any e with
    | false=>rfl
    | true=>rw [hd] at this; simpa [hb] using this hb
  · intro h e he hb
    have:=h e (by simpa using he)
    rw [hb] at this
    rw [hd]; simpa using this
 rw [h1]
 constructor
 · rintro ⟨a,o,b,c⟩; exact ⟨a,o,b,(h2 o).1 c⟩
 · rintro ⟨a,o,b,c⟩; exact ⟨a,o,b,(h2 o).2 c⟩
theorem Nt (hT:Bg E.P tt) {ops:Array Oper} {Q:Exit->Act->World->Prop} {K:St->Prop} (hQ:∀ s a w,Rel E s a w->K s->Q .normal a w):∀ (f:Nat) (listed:List Bool) (s:St) (a:Act) (w:World),listed.length=ops.size->Co tt E.P E.nt E.fx ops f listed s K->Rel E s a w->wpAny E.P .any ops Q f listed.toArray a w
 | 0,listed,s,a,w,hl,h,hR=>by
   simp only [Co] at h
   cases hr:Ct listed 0 ops.toList listed with
   | nil =>
     simp only [hr] at h
     have:Region.ready .any ops listed.toArray=[]:=List.eq_nil_iff_forall_not_mem.2 fun i hi=>by rw [Ho hl,hr] at hi; cases hi
     exact ⟨this,hQ s a w hR h⟩
   | cons i r=>simp [hr] at h
 | f + 1,listed,s,a,w,hl,h,hR=>by
   simp only [Co] at h
   cases hr:Ct listed 0 ops.toList listed with
   | nil =>
     simp only [hr] at h
     have:Region.ready .any ops listed.toArray=[]:=List.eq_nil_iff_forall_not_mem.2 fun i hi=>by rw [Ho hl,hr] at hi; cases hi
     exact ⟨fun _=>hQ s a w hR h,fun i hi=>(by rw [this] at hi; cases hi)⟩
   | cons i0 r =>
     simp only [hr] at h
     refine ⟨fun h0=>?_,fun i hi=>?_⟩
     · have:i0∈Region.ready .any ops listed.toArray:=by rw [Ho hl,hr]; exact List.mem_cons_self ..
       rw [h0] at this; cases this
     rw [Ho hl,hr] at hi
     have h:=Rw h i hi
     unfold wpOp
     have gQ:ops.toList[i]?=ops[i]?:=by simp
     rw [gQ] at h
     cases ho:ops[i]? with
     | none=>simp [ho] at h
     | some o =>
       simp only [ho] at h ⊢
       have bI:listed.toArray.setIfInBounds i true=(listed.set i true).toArray:=by simp
       rw [bI]
       rcases F3 h hR with ⟨hw,h⟩ | ⟨hw,h⟩
       · rw [if_pos hw]
         exact .inl (Oper.wp_mono (fun a' w' ⟨s',h1,h2⟩=>Nt hT hQ f _ s' a' w' (by simp [hl]) h2 h1) (Gl hT h hR))
       · rw [hw]
         simp only [Bool.false_eq_true,if_false]
         obtain ⟨s',h1,h2⟩:=Ic h hR
         exact Nt hT hQ f _ s' _ w (by simp [hl]) h2 h1
theorem Lf:∀ (l:List Oper),Fb l=l.length
 | []=>rfl
 | _::r=>by simp [Fb,Lf r]
theorem Lg:∀ (l:List Oper),Mg l=List.replicate l.length false
 | []=>rfl
 | _::r=>by simp [Mg,Lg r,List.replicate_succ]
theorem T1:∀ {l m:List Nat},Xe l m=true->∀ k,k∈l->Af k m=true
 | [],_,_,k,hk=>by cases hk
 | x::r,m,h,k,hk=>by
   simp only [Xe,Bool.and_eq_true] at h
   rcases List.mem_cons.1 hk with rfl | hk
   · exact h.1
   · exact T1 h.2 k hk
theorem a0J (md:Bool) (full:List Oper) (h0:Tu md [] 0 [] full=true):∀ i o,full[i]?=some o->Er md o=true->∀ j q,j < i->full[j]?=some q->Er md q=true->Af j (Ei (full.take i).reverse i (It o.after.toList))=true:=by
 have key:∀ (m b:Nat) (calls:List Nat),m=full.length - b->Tu md (full.take b).reverse b calls (full.drop b)=true->(∀ j q,j < b->full[j]?=some q->Er md q=true->j∈calls) ->
  ∀ i o,b<=i->full[i]?=some o->Er md o=true->∀ j q,j < i->full[j]?=some q->Er md q=true->Af j (Ei (full.take i).reverse i (It o.after.toList))=true:=by
  intro m
  induction m with
  | zero =>
    intro b calls hm _ _ i o hi ho
    have:=(List.getElem?_eq_some_iff.1 ho).1
    omega
  | succ m ih =>
    intro b calls hm hb hc i o hi ho au j q hj hq gR
    have aa:b < full.length:=by omega
    have d6:=List.getElem?_eq_getElem aa
    rw [List.drop_eq_getElem_cons aa] at hb
    have eT:(full.take (b + 1)).reverse=full[b]::(full.take b).reverse:=by
     rw [List.take_succ_eq_append_getElem aa,List.reverse_append]; rfl
    simp only [Tu] at hb
    cases cL:Er md full[b] with
    | true =>
      simp only [cL,Bool.and_eq_true] at hb
      by_cases e:i=b
      · subst e
        rw [d6] at ho; cases ho
        have bc:=hc j q hj hq gR
        cases calls with
        | nil=>cases bc
        | cons k ks=>exact T1 hb.1 j bc
      · refine ih (b + 1) (b::calls) (by omega) (by rw [eT]; exact hb.2) ?_ i o (by omega) ho au j q hj hq gR
        intro j' q' aN ac aP
        by_cases e':j'=b
        · subst e'; exact List.mem_cons_self ..
        · exact List.mem_cons_of_mem _ (hc j' q' (by omega) ac aP)
    | false =>
      simp only [cL] at hb
      by_cases e:i=b
      · subst e
        rw [d6] at ho; cases ho
        rw [cL] at au; cases au
      · refine ih (b + 1) calls (by omega) (by rw [eT]; exact hb) ?_ i o (by omega) ho au j q hj hq gR
        intro j' q' aN ac aP
        by_cases e':j'=b
        · subst e'; rw [d6] at ac; cases ac; rw [cL] at aP; cases aP
        · exact hc j' q' (by omega) ac aP
 exact fun i o=>key _ 0 [] rfl (by simpa using h0) (fun j q hj=>by omega) i o (Nat.zero_le _)
theorem a7r (tt:Tab) (full:List Oper) (h0:Tv tt [] 0 [] full=true):∀ i o,full[i]?=some o->Be tt o=true->∀ j q,j < i->full[j]?=some q->Be tt q=true->Af j (Ei (full.take i).reverse i (It o.after.toList))=true:=by
 have key:∀ (m b:Nat) (calls:List Nat),m=full.length - b->Tv tt (full.take b).reverse b calls (full.drop b)=true->(∀ j q,j < b->full[j]?=some q->Be tt q=true->j∈calls) ->
  ∀ i o,b<=i->full[i]?=some o->Be tt o=true->∀ j q,j < i->full[j]?=some q->Be tt q=true->Af j (Ei (full.take i).reverse i (It o.after.toList))=true:=by
  intro m
  induction m with
  | zero =>
    intro b calls hm _ _ i o hi ho
    have:=(List.getElem?_eq_some_iff.1 ho).1
    omega
  | succ m ih =>
    intro b calls hm hb hc i o hi ho au j q hj hq gR
    have aa:b < full.length:=by omega
    have d6:=List.getElem?_eq_getElem aa
    rw [List.drop_eq_getElem_cons aa] at hb
    have eT:(full.take (b + 1)).reverse=full[b]::(full.take b).reverse:=by
     rw [List.take_succ_eq_append_getElem aa,List.reverse_append]; rfl
    simp only [Tv] at hb
    cases cL:Be tt full[b] with
    | true =>
      simp only [cL,Bool.and_eq_true] at hb
      by_cases e:i=b
      · subst e
        rw [d6] at ho; cases ho
        have bc:=hc j q hj hq gR
        cases calls with
        | nil=>cases bc
        | cons k ks=>exact T1 hb.1 j bc
      · refine ih (b + 1) (b::calls) (by omega) (by rw [eT]; exact hb.2) ?_ i o (by omega) ho au j q hj hq gR
        intro j' q' aN ac aP
        by_cases e':j'=b
        · subst e'; exact List.mem_cons_self ..
        · exact List.mem_cons_of_mem _ (hc j' q' (by omega) ac aP)
    | false =>
      simp only [cL] at hb
      by_cases e:i=b
      · subst e
        rw [d6] at ho; cases ho
        rw [cL] at au; cases au
      · refine ih (b + 1) calls (by omega) (by rw [eT]; exact hb) ?_ i o (by omega) ho au j q hj hq gR
        intro j' q' aN ac aP
        by_cases e':j'=b
        · subst e'; rw [d6] at ac; cases ac; rw [cL] at aP; cases aP
        · exact hc j' q' (by omega) ac aP
 exact fun i o=>key _ 0 [] rfl (by simpa using h0) (fun j q hj=>by omega) i o (Nat.zero_le _)
theorem Xn:∀ (n:Nat),a0E n=List.replicate n true
 | 0=>rfl
 | n + 1=>by simp [a0E,Xn n,List.replicate_succ]
theorem Lh (i:Nat):∀ (l:List Nat),Af i l=true↔i∈l
 | []=>by simp [Af]
 | k::r=>by
   rw [Ag,List.mem_cons]
   split
   · rename_i h; simp [h]
   · rename_i h; rw [Lh i r]; simp [h]
theorem Zw {ops:Array Oper} {o:Oper} {s:St} {X Y X' Y':Prop} (hx:X->X') (hy:Y->Y') (h:Dk ops o s X Y):Dk ops o s X' Y':=by
 have hc:∀ {b:Bool} {A B A' B':Prop},(A->A')->(B->B')->Bt b A B->Bt b A' B':=fun f g k=>⟨fun e=>f (k.t e),fun e=>g (k.f e)⟩
 unfold Dk at *
 cases hg:o.guard with
 | none=>simp only [hg] at *; exact hx h
 | some jw =>
   obtain ⟨j,want⟩:=jw
   simp only [hg] at *
   cases cN:C7 ops s.tm j with
   | none=>simp [cN] at h
   | some ob =>
     simp only [cN] at *
     cases ob with
     | none=>exact hy h
     | some b =>
       cases want with
       | true=>exact hc hx hy h
       | false=>exact hc hy hx h
def Ea (ks:List Nat):List (Nat × AV)->List (Nat × AV)
 | []=>[]
 | (t,a)::r=>match Af t ks with
   | true=>Ea ks r
   | false=>(t,a)::Ea ks r
theorem Ek (ks:List Nat) (t:Nat):∀ (tm:List (Nat × AV)),look (Ea ks tm) t=if Af t ks=true then none else look tm t
 | []=>by simp [Ea,look]
 | (k,a)::r=>by
   have ih:=Ek ks t r
   simp only [Ea]
   cases hk:Af k ks with
   | true =>
     simp only []
     rw [ih]
     by_cases e:k=t
     · subst e; simp [hk]
     · rw [An _ _ e]
   | false =>
     simp only []
     by_cases e:k=t
     · subst e; rw [Ae,Ae]; simp [hk]
     · rw [An _ _ e,An _ _ e,ih]
theorem Ce {ks:List Nat} {d:Nat} (v:AV) (tm:List (Nat × AV)) (h:Af d ks=false):Ea ks ((d,v)::tm)=(d,v)::Ea ks tm:=by simp only [Ea,h]
theorem Ig (ks is:List Nat):∀ (tm:List (Nat × AV)),Ea ks (Nf is tm)=Nf is (Ea ks tm)
 | []=>rfl
 | (k,a)::r=>by
   simp only [Nf,Ea]
   cases hk:Af k ks with
   | true=>simp only []; exact Ig ks is r
   | false=>simp only [Nf]; rw [Ig ks is r]
theorem a17 (ks is:List Nat) (tm:List (Nat × AV)):Ea ks (G3 is tm)=G3 is (Ea ks tm):=by
 cases is with
 | nil=>rfl
 | cons k r=>exact Ig ks (k::r) tm
theorem a5c {ks:List Nat} {dst:Option Nat} (v:AV) (tm:List (Nat × AV)) (h:∀ d,dst=some d->Af d ks=false):Ea ks (Na dst v tm)=Na dst v (Ea ks tm):=by
 cases dst with
 | none=>rfl
 | some d=>exact Ce v tm (h d rfl)
abbrev Cu (ks:List Nat) (s:St):St:=⟨Ea ks s.tm,s.hp,s.nx⟩
theorem a0K {ks:List Nat} {tm:List (Nat × AV)} {x:Operand} (h:∀ t,x=.tmp t->Af t ks=false):Au (Ea ks tm) x=Au tm x :=
 Rt fun t e=>by rw [Ek,if_neg (by rw [h t e]; simp)]
theorem Dy.drop {ks:List Nat} {s s':St} (h:Dy s s'):Dy (Cu ks s) (Cu ks s'):=by
 refine ⟨fun t v e=>?_,h.hp,h.nx⟩
 simp only [Cu,Ek] at e ⊢
 split at e
 · cases e
 · rename_i hn; rw [if_neg hn]; exact h.tm t v e
theorem Aa.drop {P:Program} {fx:List Nat} {f:FuncId} {avs:List AV} {s:St} {dst:Option Nat} {K:St->Prop} {ks:List Nat} (hd:∀ d,dst=some d->Af d ks=false) (h:Aa P fx f avs s dst K):Aa P fx f avs (Cu ks s) dst fun s'=>∃ s1,K s1/\s'=Cu ks s1:=by
 obtain ⟨gv,avs1,hg,args,hi,st,share,Q,h1,h2,h3,h4,h5⟩:=h.call
 have e:give gv (Cu ks s)=Cu ks (give gv s):=by
  cases gv with
  | nil=>rfl
  | cons k r=>simp only [give,Cu,Ig]
 refine ⟨gv,avs1,hg,?_⟩
 rw [e]
 refine ⟨args,hi,st,share,Q,h1,h2,h3,h4,fun r ho m hq=>?_⟩
 obtain ⟨k1,s2,k2,k3⟩:=h5 r ho m hq
 refine ⟨k1,Cu ks s2,?_,s2,k3,rfl⟩
 have e2:(⟨Na dst r (G3 (Bq st hi) (Ea ks (give gv s).tm)),ho++Mf (Bq st hi) (give gv s).hp,m⟩:St)=Cu ks ⟨Na dst r (G3 (Bq st hi) (give gv s).tm),ho++Mf (Bq st hi) (give gv s).hp,m⟩:=by
  show (⟨Na dst r (G3 _ (Ea ks (give gv s).tm)),_,m⟩:St)=⟨Ea ks (Na dst r (G3 _ (give gv s).tm)),_,m⟩
  rw [a5c _ _ hd,a17]
 show Dy (⟨Na dst r (G3 (Bq st hi) (Ea ks (give gv s).tm)),ho++Mf (Bq st hi) (give gv s).hp,m⟩:St) (Cu ks s2)
 rw [e2]
 exact k2.drop
theorem a5d {P:Program} {nt:Nat} {fx:List Nat} {o:Oper} {s:St} {K:St->Prop} {ks:List Nat} (a9:∀ t,.tmp t∈o.op.operands.toList->Af t ks=false) (hd:∀ d,o.dst=some d->Af d ks=false) (h:G4 tt P nt fx o s K) :
 G4 tt P nt fx o (Cu ks s) fun s'=>∃ s1,K s1/\s'=Cu ks s1:=by
 have br:Agree o.op.operands.toList (Ea ks s.tm) s.tm:=fun x hx=>a0K fun t e=>a9 t (e ▸ hx)
 obtain ⟨tm,hp,nx⟩:=s
 have ak:Av tt o.op ⟨Ea ks tm,hp,nx⟩=Av tt o.op ⟨tm,hp,nx⟩:=Ie o.op hp nx br
 unfold G4 at *
 simp only [Cu] at *
 cases aO:o.dst with
 | some d =>
   have d7:=hd d aO
   simp only [aO] at h ⊢
   cases hb:Nat.blt d nt with
   | false=>simp [hb] at h
   | true =>
     simp only [hb,cond_true,ak] at h ⊢
     cases hs:Av tt o.op ⟨tm,hp,nx⟩ with
     | ok v=>simp only [hs] at *; exact ⟨_,h,by simp only [Cu,Ce _ _ d7]⟩
     | cond p v=>simp only [hs] at *; exact ⟨h.1,_,h.2,by simp only [Cu,Ce _ _ d7]⟩
     | newP ob=>simp only [hs] at *; exact ⟨_,h,by simp only [Cu,Ce _ _ d7]⟩
     | newM ob=>simp only [hs] at *; exact ⟨_,h,by simp only [Cu,Ce _ _ d7]⟩
     | newC ob=>simp only [hs] at *; exact ⟨_,h,by simp only [Cu,Ce _ _ d7]⟩
     | each id kk left=>simp only [hs] at h ⊢; exact ⟨fun h0=>⟨_,h.1 h0,by simp only [Cu,Ce _ _ d7]⟩,fun j hj=>⟨_,h.2 j hj,by simp only [Cu,Ce _ _ d7]⟩⟩
     | setV p id v ob=>simp only [hs] at *; exact ⟨h.1,_,h.2,by simp only [Cu,Ce _ _ d7]⟩
     | newL0 l ob=>simp only [hs] at *; exact ⟨_,h,by simp only [Cu,Ce _ _ d7]⟩
     | newL p l ob=>simp only [hs] at *; exact ⟨h.1,_,h.2,by simp only [Cu,Ce _ _ d7]⟩
     | kill p id v ob =>
       simp only [hs] at *
       cases hf:Af id fx with
       | true=>simp [hf] at h
       | false =>
         simp only [hf,cond_false] at *
         exact ⟨h.1,_,h.2,by simp only [Cu,Ce _ _ d7,Ig]⟩
     | call n args=>simp only [hs] at *; exact Aa.drop (s:=⟨tm,hp,nx⟩) (fun d' e=>by cases e; exact d7) h
     | pick b x y =>
       simp only [hs] at h ⊢
       have cV:x∈o.op.operands.toList/\y∈o.op.operands.toList:=by
        obtain ⟨c,e⟩:=a49 hs
        rw [e]; simp [Op.operands]
       rw [br x cV.1,br y cV.2]
       refine ⟨fun e=>?_,fun e=>?_⟩
       · have:=h.t e
         cases hx:Au tm x with
         | none=>simp [hx] at this
         | some v=>simp only [hx] at this ⊢; exact ⟨_,this,by simp only [Cu,Ce _ _ d7]⟩
       · have:=h.f e
         cases hx:Au tm y with
         | none=>simp [hx] at this
         | some v=>simp only [hx] at this ⊢; exact ⟨_,this,by simp only [Cu,Ce _ _ d7]⟩
     | _=>simp [hs] at h
 | none =>
   simp only [aO,ak] at h ⊢
   cases hs:Av tt o.op ⟨tm,hp,nx⟩ with
   | ok v=>simp only [hs] at *; exact ⟨_,h,rfl⟩
   | setB id ob=>simp only [hs] at *; exact ⟨_,h,rfl⟩
   | set p id ob=>simp only [hs] at *; exact ⟨h.1,_,h.2,rfl⟩
   | setV p id v ob=>simp only [hs] at *; exact ⟨h.1,_,h.2,rfl⟩
   | call n args=>simp only [hs] at *; exact Aa.drop (s:=⟨tm,hp,nx⟩) (fun d' e=>by cases e) h
   | _=>simp [hs] at h
theorem a18 {P:Program} {nt:Nat} {fx:List Nat} {ops:Array Oper} {o:Oper} {s:St} {K:St->Prop} {ks:List Nat} (a9:∀ t,.tmp t∈o.op.operands.toList->Af t ks=false) (hd:∀ d,o.dst=some d->Af d ks=false) (h:I7 tt P nt fx ops o s K) :
 I7 tt P nt fx ops o (Cu ks s) fun s'=>∃ s1,K s1/\s'=Cu ks s1:=by
 unfold I7 at *
 cases hl:b0C ops.toList o with
 | false=>rw [hl] at h; exact a5d a9 hd h
 | true =>
   rw [hl] at h
   simp only [cond_true] at h ⊢
   have br:Agree o.op.operands.toList (Ea ks s.tm) s.tm:=fun x hx=>a0K fun t e=>a9 t (e ▸ hx)
   obtain ⟨tm,hp,nx⟩:=s
   have ak:Av tt o.op ⟨Ea ks tm,hp,0⟩=Av tt o.op ⟨tm,hp,0⟩:=Ie o.op hp 0 br
   unfold a6z at *
   simp only [Cu] at h ⊢
   cases aO:o.dst with
   | none=>simp [aO] at h
   | some d =>
     simp only [aO] at h ⊢
     cases hb:Nat.blt d nt with
     | false=>simp [hb] at h
     | true =>
       simp only [hb,cond_true,ak] at h ⊢
       cases hs:Av tt o.op ⟨tm,hp,0⟩ with
       | newL0 len ob =>
         cases ob with
         | box cs=>simp [hs] at h
         | map=>simp [hs] at h
         | ranged=>simp [hs] at h
         | clo=>simp [hs] at h
         | nest=>simp [hs] at h
         | list e sz rows=>simp only [hs] at h ⊢; exact ⟨_,h,by simp only [Cu,Ce _ _ (hd d aO)]⟩
       | _=>simp [hs] at h
theorem Zx (hT:Bg E.P tt) {ops:Array Oper} {o:Oper} {K:St->Prop} {Q:Exit->Act->World->Prop} (h:I7 tt E.P E.nt E.fx ops o s K) (hR:Rel E s a w):o.wp E.P a w (fun a' w'=>∃ s',Rel E s' a' w'/\K s') Q:=by
 unfold I7 at h
 cases hl:b0C ops.toList o with
 | false=>rw [hl] at h; exact Gl hT h hR
 | true =>
   rw [hl] at h
   simp only [cond_true] at h
   obtain ⟨tm,hp,nx⟩:=s
   unfold a6z at h
   simp only at h
   cases hd:o.dst with
   | none=>simp [hd] at h
   | some d =>
     simp only [hd] at h
     cases hb:Nat.blt d E.nt with
     | false=>simp [hb] at h
     | true =>
       simp only [hb,cond_true] at h
       cases hs:Av tt o.op ⟨tm,hp,0⟩ with
       | newL0 len ob =>
         cases ob with
         | box cs=>simp [hs] at h
         | map=>simp [hs] at h
         | ranged=>simp [hs] at h
         | clo=>simp [hs] at h
         | nest=>simp [hs] at h
         | list e sz rows =>
           simp only [hs] at h
           exact Oper.wp_mono (fun a' w' hr=>⟨_,hr,h⟩) (Mk (hq:=hp) hT hd (Nat.le_of_ble_eq_true hb) (fun _ _ h=>h) (.lst hs) hR)
       | _=>simp [hs] at h
theorem a5e {nt:Nat} {o:Oper} {s:St} {K:St->Prop} {ks:List Nat} (hd:∀ d,o.dst=some d->Af d ks=false) (h:No nt o s K):No nt o (Cu ks s) fun s'=>∃ s1,K s1/\s'=Cu ks s1:=by
 obtain ⟨tm,hp,nx⟩:=s
 unfold No at *
 simp only [Cu] at h ⊢
 cases aO:o.dst with
 | none=>simp only [aO] at h ⊢; exact ⟨_,h,rfl⟩
 | some d =>
   simp only [aO] at h ⊢
   cases hb:Nat.blt d nt with
   | false=>simp [hb] at h
   | true=>simp only [hb,cond_true] at h ⊢; exact ⟨_,h,by simp only [Cu,Ce _ _ (hd d aO)]⟩
theorem a19 {p:Nat->Oper->Bool->Bool}:∀ {l:List Oper} {bs:List Bool} {i:Nat},a3i p i l bs=true->bs.length=l.length/\∀ j o b,l[j]?=some o->bs[j]?=some b->p (i + j) o b=true
 | [],[],i,_=>⟨rfl,fun j o b h=>by simp at h⟩
 | x::r,c::cs,i,ha=>by
   simp only [a3i,Bool.and_eq_true] at ha
   obtain ⟨h1,h2⟩:=a19 ha.2
   refine ⟨by simp [h1],fun j o b ho hb=>?_⟩
   cases j with
   | zero=>simp at ho hb; subst ho hb; exact ha.1
   | succ j =>
     have:=h2 j o b (by simpa using ho) (by simpa using hb)
     rw [show i + (j + 1)=i + 1 + j by omega]; exact this
 | [],_::_,_,h=>by simp [a3i] at h
 | _::_,[],_,h=>by simp [a3i] at h
theorem Ka.agree {hq:Hp} {o:Oper} {tm tm':List (Nat × AV)} {v:AV} (h:Agree o.op.operands.toList tm tm') (hv:Ka tt hq o tm v):Ka tt hq o tm' v:=by
 have ak:Av tt o.op ⟨tm',hq,0⟩=Av tt o.op ⟨tm,hq,0⟩:=(Ie o.op _ _ h).symm
 cases hv with
 | ok h=>exact .ok (ak.trans h)
 | cond h hp=>exact .cond (ak.trans h) hp
 | lst h=>exact .lst (ak.trans h)
 | pick a9 h' hx =>
   rename_i b c x y
   refine .pick a9 (ak.trans h') ?_
   have bc:x∈o.op.operands.toList/\y∈o.op.operands.toList:=by rw [a9]; simp [Op.operands]
   cases b with
   | true=>simp only [if_true] at *; rw [<- h x bc.1]; exact hx
   | false=>simp only [Bool.false_eq_true,if_false] at *; rw [<- h y bc.2]; exact hx
theorem Ml {tt:Tab} {nt:Nat} {hq:Hp} {K:List (Nat × AV)->Prop}:∀ (l:List Oper) (bs:List Bool) (tm:List (Nat × AV)),bs.length=l.length ->
 (∀ (j:Nat) o,l[j]?=some o->bs[j]?=some true->∀ (k:Nat) q e,j<=k->l[k]?=some q->bs[k]?=some true->q.dst=some e->Af e (De o.op.operands.toList)=false) ->
 (∀ (j:Nat) o,l[j]?=some o->bs[j]?=some true->∀ (k:Nat) q,j < k->l[k]?=some q->bs[k]?=some true->q.dst≠o.dst) ->
 D8 tt nt hq l bs tm K->∃ tm1,K tm1/\(∀ t,(∀ (j:Nat) o,l[j]?=some o->bs[j]?=some true->o.dst≠some t)->look tm1 t=look tm t) /\
  ∀ (j:Nat) o,l[j]?=some o->bs[j]?=some true->∃ d v,o.dst=some d/\d < nt/\look tm1 d=some v/\Ka tt (eQ o hq) o tm1 v
 | [],[],tm,_,_,_,h=>⟨tm,by simpa only [D8] using h,fun t _=>rfl,fun j o ho=>by simp at ho⟩
 | o::r,b::bs,tm,hl,hu,hd,h=>by
   have cj:bs.length=r.length:=by simpa using hl
   have gw:=fun (j:Nat) (q:Oper) (ac:r[j]?=some q) (aT:bs[j]?=some true) (k:Nat) (x:Oper) (e:Nat) (ku:j<=k) (hx:r[k]?=some x) (a8:bs[k]?=some true) (he:x.dst=some e)=>hu (j + 1) q (by simpa using ac) (by simpa using aT) (k + 1) x e (by omega) (by simpa using hx) (by simpa using a8) he
   have a6:=fun (j:Nat) (q:Oper) (ac:r[j]?=some q) (aT:bs[j]?=some true) (k:Nat) (x:Oper) (ku:j < k) (hx:r[k]?=some x) (a8:bs[k]?=some true)=>hd (j + 1) q (by simpa using ac) (by simpa using aT) (k + 1) x (by omega) (by simpa using hx) (by simpa using a8)
   cases b with
   | false =>
     simp only [D8] at h
     obtain ⟨tm1,h1,h2,h3⟩:=Ml r bs tm cj gw a6 h
     refine ⟨tm1,h1,fun t ht=>h2 t fun j q ac aT=>ht (j + 1) q (by simpa using ac) (by simpa using aT),fun j q ac aT=>?_⟩
     cases j with
     | zero=>simp at aT
     | succ j=>exact h3 j q (by simpa using ac) (by simpa using aT)
   | true =>
     simp only [D8] at h
     cases aO:o.dst with
     | none=>simp [aO] at h
     | some d =>
       simp only [aO] at h
       cases hb:Nat.blt d nt with
       | false=>simp [hb] at h
       | true =>
         have aa:d < nt:=Nat.le_of_ble_eq_true hb
         simp only [hb,cond_true] at h
         have key:∀ v,Ka tt (eQ o hq) o tm v->D8 tt nt hq r bs ((d,v)::tm) K->∃ tm1,K tm1/\(∀ t,(∀ (j:Nat) q,(o::r)[j]?=some q->(true::bs)[j]?=some true->q.dst≠some t)->look tm1 t=look tm t) /\
          ∀ (j:Nat) q,(o::r)[j]?=some q->(true::bs)[j]?=some true->∃ d v,q.dst=some d/\d < nt/\look tm1 d=some v/\Ka tt (eQ q hq) q tm1 v:=by
          intro v hv hp
          obtain ⟨tm1,h1,h2,h3⟩:=Ml r bs ((d,v)::tm) cj gw a6 hp
          refine ⟨tm1,h1,fun t ht=>?_,fun j q ac aT=>?_⟩
          · rw [h2 t fun j q ac aT=>ht (j + 1) q (by simpa using ac) (by simpa using aT)]
            exact An _ _ fun e=>ht 0 o rfl rfl (by rw [aO,e])
          · cases j with
            | zero =>
              simp at ac; subst ac
              refine ⟨d,v,aO,aa,?_,hv.agree fun x hx=>Rt fun t e=>?_⟩
              · rw [h2 d fun j q ac aT e=>hd 0 o rfl rfl (j + 1) q (by omega) (by simpa using ac) (by simpa using aT) (by rw [e,aO])]
                exact Ae _ _ _
              · subst e
                have hm:=Hl hx
                have aj:d≠t:=fun e=>by
                 have:=hu 0 o rfl rfl 0 o d (Nat.le_refl _) rfl rfl aO
                 rw [e,hm] at this; cases this
                have h4:=h2 t fun j q ac aT e=>(by
                 have:=hu 0 o rfl rfl (j + 1) q t (by omega) (by simpa using ac) (by simpa using aT) e
                 rw [hm] at this; cases this)
                rw [h4,An _ _ aj]
            | succ j=>exact h3 j q (by simpa using ac) (by simpa using aT)
         cases hs:Av tt o.op ⟨tm,eQ o hq,0⟩ with
         | ok v=>simp only [hs] at h; exact key v (.ok hs) h
         | cond p v=>simp only [hs] at h; exact key v (.cond hs h.1) h.2
         | _=>simp [hs] at h
 | [],_::_,_,hl,_,_,_=>by simp at hl
 | _::_,[],_,hl,_,_,_=>by simp at hl
def Fc:List Oper->List Bool->List Bool->List Nat
 | o::r,b::bs,l::ls=>match b&&!l with
   | true=>(match o.dst with | some d=>d::Fc r bs ls | none=>Fc r bs ls)
   | false=>Fc r bs ls
 | _,_,_=>[]
theorem a0L {t:Nat}:∀ {l:List Oper} {bs ls:List Bool},Af t (Fc l bs ls)=true↔∃ (j:Nat) (o:Oper),l[j]?=some o/\bs[j]?=some true/\ls[j]?=some false/\o.dst=some t
 | [],_,_=>by simp [Fc,Af]
 | _::_,[],_=>by simp [Fc,Af]
 | _::_,_::_,[]=>by simp [Fc,Af]
 | o::r,b::bs,l::ls=>by
   have ih:=a0L (t:=t) (l:=r) (bs:=bs) (ls:=ls)
   have split:(∃ (j:Nat) (q:Oper),(o::r)[j]?=some q/\(b::bs)[j]?=some true/\(l::ls)[j]?=some false/\q.dst=some t)↔(b=true/\l=false/\o.dst=some t)∨∃ (j:Nat) (q:Oper),r[j]?=some q/\bs[j]?=some true/\ls[j]?=some false/\q.dst=some t:=by
    constructor
    · rintro ⟨j,q,h1,h2,h3,h4⟩
      cases j with
      | zero=>simp at h1 h2 h3; subst h1; exact .inl ⟨h2,h3,h4⟩
      | succ j=>exact .inr ⟨j,q,by simpa using h1,by simpa using h2,by simpa using h3,h4⟩
    · rintro (⟨h1,h2,h3⟩ | ⟨j,q,h1,h2,h3,h4⟩)
      · exact ⟨0,o,rfl,by simp [h1],by simp [h2],h3⟩
      · exact ⟨j + 1,q,by simpa using h1,by simpa using h2,by simpa using h3,h4⟩
   rw [split,<- ih]
   simp only [Fc]
   cases ee:(b&&!l) with
   | false =>
     simp only []
     constructor
     · exact .inr
     · rintro (⟨h1,h2,_⟩ | h)
       · rw [h1,h2] at ee; cases ee
       · exact h
   | true =>
     simp only [Bool.and_eq_true,Bool.not_eq_true'] at ee
     cases hd:o.dst with
     | none=>simp only []; simp
     | some d =>
       simp only [Ag,ee.1,ee.2,true_and,Option.some.injEq]
       by_cases e:t=d
       · subst e; simp
       · rw [if_neg e]
         constructor
         · exact .inr
         · rintro (h | h)
           · exact absurd h.symm e
           · exact h
def orL:List Bool->List Bool->List Bool
 | a::r,b::s=>(a||b)::orL r s
 | _,_=>[]
theorem a2a:∀ {a b:List Bool},a.length=b.length->(orL a b).length=a.length
 | [],[],_=>rfl
 | _::_,_::_,h=>by simp [orL,a2a (show _=_ by simpa using h)]
 | [],_::_,h=>by simp at h
 | _::_,[],h=>by simp at h
theorem Kw:∀ {a b:List Bool} (j:Nat),a.length=b.length->(orL a b)[j]?=(a[j]?).bind fun x=>(b[j]?).map fun y=>x||y
 | [],[],j,_=>by simp [orL]
 | x::a,y::b,0,h=>by simp [orL]
 | x::a,y::b,j + 1,h=>by simpa [orL] using Kw j (show a.length=b.length by simpa using h)
 | [],_::_,_,h=>by simp at h
 | _::_,[],_,h=>by simp at h
theorem T2 {tm0 tm:List (Nat × AV)}:∀ {l:List Nat},a12 tm0 tm l->∀ t,Af t l=true->look tm t=look tm0 t
 | [],_,t,h=>by simp [Af] at h
 | k::r,hk,t,h=>by
   rw [Ag] at h
   split at h
   · rename_i e; subst e; exact hk.1
   · exact T2 hk.2 t h
theorem U7 (tm:List (Nat × AV)):∀ (l:List Nat),a12 tm tm l
 | []=>trivial
 | _::r=>⟨rfl,U7 tm r⟩
theorem a0M {hp:Hp}:∀ {hq:Hp},a13 hp hq->∀ id o,look hq id=some o->look hp id=some o
 | [],_,id,o,h=>by simp [look] at h
 | (k,ob)::r,hk,id,o,h=>by
   rw [Aj] at h
   split at h
   · rename_i e; simp at h; subst e h; exact hk.1
   · exact a0M hk.2 id o h
theorem a3n:∀ {l:List Oper} {bs ls:List Bool} {b0:Nat},bs.length=l.length->ls.length=l.length->(Kv b0 l bs ls).length=l.length
 | [],[],[],_,_,_=>rfl
 | _::r,_::bs,_::ls,b0,h1,h2=>by simp only [Kv,List.length_cons]; rw [a3n (show bs.length=r.length by simpa using h1) (show ls.length=r.length by simpa using h2)]
 | [],_::_,_,_,h,_=>by simp at h
 | [],[],_::_,_,_,h=>by simp at h
 | _::_,[],_,_,h,_=>by simp at h
 | _::_,_::_,[],_,_,h=>by simp at h
theorem a6B {D:Nat->Prop}:∀ {l:List Oper} {bs ls:List Bool} {b0:Nat},(∀ (j:Nat),bs[j]?=some false->ls[j]?=some true->D (b0 + j))->(∀ (j k:Nat) (o:Oper),l[k]?=some o->D (b0 + k)->waits o j=true->D j) ->
 ∀ (j:Nat) (o:Oper),(Kv b0 l bs ls)[j]?=some (o,true)->l[j]?=some o/\D (b0 + j)
 | [],_,_,_,_,_,j,o,h=>by simp [Kv] at h
 | _::_,[],_,_,_,_,j,o,h=>by simp [Kv] at h
 | _::_,_::_,[],_,_,_,j,o,h=>by simp [Kv] at h
 | q::r,b::bs,l::ls,b0,h1,h2,j,o,h=>by
   have ih:=a6B (D:=D) (l:=r) (bs:=bs) (ls:=ls) (b0:=b0 + 1) (fun j hb hl=>by
    have:=h1 (j + 1) (by simpa using hb) (by simpa using hl)
    rwa [show b0 + 1 + j=b0 + (j + 1) by omega]) (fun j k o ho hD hw=>h2 j (k + 1) o (by simpa using ho) (by rwa [show b0 + (k + 1)=b0 + 1 + k by omega]) hw)
   simp only [Kv] at h
   cases j with
   | zero =>
     simp only [List.getElem?_cons_zero,Option.some.injEq,Prod.mk.injEq] at h
     obtain ⟨rfl,h⟩:=h
     refine ⟨rfl,?_⟩
     cases b with
     | false=>simp only [] at h; exact h1 0 rfl (by simp [h])
     | true =>
       simp only [] at h
       obtain ⟨⟨q',f⟩,hp,hw⟩:=List.any_eq_true.1 h
       simp only [Bool.and_eq_true] at hw
       obtain ⟨m,hm⟩:=List.mem_iff_getElem?.1 hp
       rw [hw.1] at hm
       obtain ⟨k1,k2⟩:=ih m q' hm
       exact h2 b0 (m + 1) q' (by simpa using k1) (by rwa [show b0 + (m + 1)=b0 + 1 + m by omega]) hw.2
   | succ j =>
     have:=ih j o (by simpa using h)
     exact ⟨by simpa using this.1,by rw [show b0 + (j + 1)=b0 + 1 + j by omega]; exact this.2⟩
theorem a3o:∀ {l:List Oper} {bs ls:List Bool} {b0 j:Nat} {p:Oper × Bool},(Kv b0 l bs ls)[j]?=some p->l[j]?=some p.1
 | [],_,_,_,_,_,h=>by simp [Kv] at h
 | _::_,[],_,_,_,_,h=>by simp [Kv] at h
 | _::_,_::_,[],_,_,_,h=>by simp [Kv] at h
 | q::r,b::bs,l::ls,b0,j,p,h=>by
   simp only [Kv] at h
   cases j with
   | zero=>simp at h; rw [<- h]; rfl
   | succ j=>simpa using a3o (show (Kv (b0 + 1) r bs ls)[j]?=some p by simpa using h)
theorem Xo:∀ {fl:List (Oper × Bool)} {bs:List Bool} (j:Nat) (o:Oper),Xg o=false->fl[j]?=some (o,false)->bs[j]?=some true->Rq fl bs=true
 | [],_,j,o,_,h,_=>by simp at h
 | _::_,[],j,o,_,_,h=>by simp at h
 | (q,f)::r,b::bs,j,o,hn,h,hb=>by
   cases j with
   | zero=>simp at h hb; simp [Rq,h.1,h.2,hb,hn]
   | succ j=>simp only [Rq]; rw [Xo j o hn (by simpa using h) (by simpa using hb),Bool.or_true]
theorem Ka.noHp {tt:Tab} {hq:Hp} {o:Oper} {tm:List (Nat × AV)} {v:AV} (hn:Xg o=true) (h:Ka tt (eQ o hq) o tm v):Ka tt [] o tm v:=by
 obtain ⟨ds,op,ty,ps,af,g⟩:=o
 unfold Xg at hn
 cases op <;> simp only [Bool.false_eq_true] at hn
 all_goals
  cases h with
  | ok h=>exact .ok h
  | cond h hp=>exact .cond h hp
  | lst h=>exact .lst h
  | pick ho h hx=>cases ho
theorem b1u {o:Oper} {hq:Hp} (h:Xg o=false):eQ o hq=hq:=by
 obtain ⟨ds,op,ty,ps,af,g⟩:=o
 unfold Xg at h
 cases op <;> first | rfl | cases h
theorem Xp:∀ {fl:List (Oper × Bool)} {bs:List Bool} (j:Nat) (o:Oper) (d:Nat),fl[j]?=some (o,false)->bs[j]?=some true->o.dst=some d->Af d (Jr fl bs)=true/\∀ t,Af t (De o.op.operands.toList)=true->Af t (Jr fl bs)=true
 | [],_,j,o,d,h,_,_=>by simp at h
 | _::_,[],j,o,d,_,h,_=>by simp at h
 | (q,f)::r,b::bs,j,o,d,ho,hb,hd=>by
   cases j with
   | zero =>
     simp at ho hb
     obtain ⟨rfl,rfl⟩:=ho
     subst hb
     simp only [Jr,Bool.not_false,Bool.and_self,hd]
     refine ⟨by rw [Ag,if_pos rfl],fun t ht=>?_⟩
     rw [Ag]
     split
     · rfl
     · rw [Lh] at ht ⊢; exact List.mem_append_left _ ht
   | succ j =>
     obtain ⟨h1,h2⟩:=Xp (fl:=r) (bs:=bs) j o d (by simpa using ho) (by simpa using hb) hd
     simp only [Jr]
     cases b&&!f with
     | false=>exact ⟨h1,h2⟩
     | true =>
       have up:∀ t,Af t (Jr r bs)=true->Af t (match q.dst with | some d=>d::(De q.op.operands.toList++Jr r bs) | none=>Jr r bs)=true:=by
        intro t ht
        cases q.dst with
        | none=>exact ht
        | some e =>
          simp only []
          rw [Ag]
          split
          · rfl
          · rw [Lh] at ht ⊢; exact List.mem_append_right _ ht
       exact ⟨up d h1,fun t ht=>up t (h2 t ht)⟩
theorem Dt (hp0:Hp):∀ (hp:Hp) (seen:List Nat),(∀ id,Af id seen=false->look hp0 id=look hp id)->a13 hp0 (C8 seen hp)
 | [],_,_=>trivial
 | (k,.box cs)::r,seen,h=>by
   simp only [C8]
   cases hk:Af k seen with
   | true =>
     refine Dt hp0 r seen fun id hid=>?_
     rw [h id hid,An _ _ fun e=>by subst e; rw [hk] at hid; cases hid]
   | false =>
     refine ⟨by rw [h k hk,Ae],Dt hp0 r (k::seen) fun id hid=>?_⟩
     rw [Ag] at hid
     have aj:k≠id:=fun e=>by subst e; simp at hid
     rw [if_neg (fun e=>aj e.symm)] at hid
     rw [h id hid,An _ _ aj]
 | (k,.nest e s rows)::r,seen,h=>by
   simp only [C8]
   refine Dt hp0 r (k::seen) fun id hid=>?_
   rw [Ag] at hid
   have aj:k≠id:=fun e=>by subst e; simp at hid
   rw [if_neg (fun e=>aj e.symm)] at hid
   rw [h id hid,An _ _ aj]
 | (k,.map e s)::r,seen,h=>by
   simp only [C8]
   refine Dt hp0 r (k::seen) fun id hid=>?_
   rw [Ag] at hid
   have aj:k≠id:=fun e=>by subst e; simp at hid
   rw [if_neg (fun e=>aj e.symm)] at hid
   rw [h id hid,An _ _ aj]
 | (k,.ranged e s u)::r,seen,h=>by
   simp only [C8]
   refine Dt hp0 r (k::seen) fun id hid=>?_
   rw [Ag] at hid
   have aj:k≠id:=fun e=>by subst e; simp at hid
   rw [if_neg (fun e=>aj e.symm)] at hid
   rw [h id hid,An _ _ aj]
 | (k,.clo e s u)::r,seen,h=>by
   simp only [C8]
   refine Dt hp0 r (k::seen) fun id hid=>?_
   rw [Ag] at hid
   have aj:k≠id:=fun e=>by subst e; simp at hid
   rw [if_neg (fun e=>aj e.symm)] at hid
   rw [h id hid,An _ _ aj]
 | (k,.list e s rows)::r,seen,h=>by
   simp only [C8]
   refine Dt hp0 r (k::seen) fun id hid=>?_
   rw [Ag] at hid
   have aj:k≠id:=fun e=>by subst e; simp at hid
   rw [if_neg (fun e=>aj e.symm)] at hid
   rw [h id hid,An _ _ aj]
theorem a7s (hT:Bg E.P tt) {ops:Array Oper} {Q:Exit->Act->World->Prop} {K:St->Prop} (hQ:∀ s a w,Rel E s a w->K s->Q .normal a w) {sel:List Bool} (jk:preB ops.toList sel=true) (h:a9j tt E.P E.nt E.fx ops sel s K) (hR:Rel E s a w) :
 wpAny E.P .any ops Q ops.size (Array.replicate ops.size false) a w:=by
 simp only [preB,Bool.and_eq_true] at jk
 obtain ⟨cC,hS⟩:=jk
 obtain ⟨ae,ai⟩:=a19 hS
 have d8:sel.length=ops.size:=by simpa using ae
 have eV:∀ i,i < ops.size->∃ b,sel[i]?=some b:=fun i hi=>⟨sel[i]'(by omega),List.getElem?_eq_getElem _⟩
 have gS:∀ (i:Nat) o b,ops[i]?=some o->sel[i]?=some b->a45 sel o=true/\(!b||O1 o)=true/\a3i (a0F i o) 0 ops.toList sel=true:=by
  intro i o b ho hb
  have:=ai i o b (by simpa using ho) hb
  simp only [Bool.and_eq_true,Nat.zero_add] at this
  exact ⟨this.1.1,this.1.2,this.2⟩
 have eW:∀ (i:Nat) o (j:Nat) q,ops[i]?=some o->ops[j]?=some q->sel[j]?=some true->a0F i o j q true=true:=by
  intro i o j q ho ac hj
  obtain ⟨b,hb⟩:=eV i (Array.getElem?_eq_some_iff.1 ho).1
  have:=(a19 (gS i o b ho hb).2.2).2 j q true (by simpa using ac) hj
  simpa using this
 have c7:∀ (j:Nat) q,ops[j]?=some q->sel[j]?=some true->∃ e,q.dst=some e:=by
  intro j q ac hj
  have:=eW j q j q ac ac hj
  unfold a0F at this
  cases hd:q.dst with
  | none=>simp [hd] at this
  | some e=>exact ⟨e,rfl⟩
 have hA:∀ (i:Nat) o (j:Nat) q e,ops[i]?=some o->ops[j]?=some q->sel[j]?=some true->q.dst=some e->i≠j->o.dst≠some e/\(Af e (De o.op.operands.toList)=true->j < i/\waits o j=true):=by
  intro i o j q e ho ac hj hd ah
  have:=eW i o j q ho ac hj
  unfold a0F at this
  have hb:Nat.beq i j=false:=by
   cases hb:Nat.beq i j with
   | true=>exact absurd (Nat.eq_of_beq_eq_true hb) ah
   | false=>rfl
  simp only [hd,hb,Bool.and_eq_true] at this
  refine ⟨fun h'=>?_,fun hm=>?_⟩
  · rw [h'] at this; simp at this
  · have h2:=this.2
    rw [hm] at h2
    simp only [Bool.not_true,Bool.false_or,Bool.and_eq_true] at h2
    exact ⟨Nat.le_of_ble_eq_true h2.1,h2.2⟩
 have hB:∀ (j:Nat) q e,ops[j]?=some q->sel[j]?=some true->q.dst=some e->Af e (De q.op.operands.toList)=false:=by
  intro j q e ac hj hd
  have:=eW j q j q ac ac hj
  unfold a0F at this
  have hb:Nat.beq j j=true:=Nat.beq_refl j
  simp only [hd,hb] at this
  simpa using this
 unfold a9j at h
 generalize mO:C8 (Mh s.tm ops.toList ops.toList) s.hp=kw at h
 obtain ⟨tm1,hK,hold,bP⟩:=Ml ops.toList sel s.tm (by simpa using d8)
  (fun j o ho hj k q e ku ac hk hd=>by
    have bY:ops[j]?=some o:=by simpa using ho
    have dD:ops[k]?=some q:=by simpa using ac
    by_cases ejk:k=j
    · subst ejk
      rw [bY] at dD; cases dD
      exact hB _ _ _ bY hj hd
    · cases hm:Af e (De o.op.operands.toList) with
      | false=>rfl
      | true=>have:=((hA j o k q e bY dD hk hd (fun e'=>ejk e'.symm)).2 hm).1; omega)
  (fun j o ho hj k q ku ac hk e=>by
    have bY:ops[j]?=some o:=by simpa using ho
    have dD:ops[k]?=some q:=by simpa using ac
    obtain ⟨e1,hd⟩:=c7 k q dD hk
    exact (hA j o k q e1 bY dD hk hd (by omega)).1 (by rw [<- e,hd])) h
 have jl:∀ t,(∀ (j:Nat) o,ops[j]?=some o->sel[j]?=some true->o.dst≠some t)->look tm1 t=look s.tm t:=fun t ht=>hold t fun j o ho hj=>ht j o (by simpa using ho) hj
 have pend:∀ {listed:Array Bool} {t:Nat},listed.size=ops.size->(Af t (Fc ops.toList sel listed.toList)=true↔∃ (j:Nat) (q:Oper),ops[j]?=some q/\sel[j]?=some true/\listed.getD j false=false/\q.dst=some t):=by
  intro listed t ao
  rw [a0L]
  constructor
  · rintro ⟨j,q,h1,h2,h3,h4⟩
    refine ⟨j,q,by simpa using h1,h2,?_,h4⟩
    rw [Array.getElem?_toList] at h3
    rw [Array.getD_eq_getD_getElem?,h3]; rfl
  · rintro ⟨j,q,h1,h2,h3,h4⟩
    refine ⟨j,q,by simpa using h1,h2,?_,h4⟩
    have aa:j < listed.size:=by rw [ao]; exact (Array.getElem?_eq_some_iff.1 h1).1
    rw [Array.getD_eq_getD_getElem?,Array.getElem?_eq_getElem aa] at h3
    rw [Array.getElem?_toList,Array.getElem?_eq_getElem aa]
    exact congrArg some h3
 have notP:∀ {listed:Array Bool} {t:Nat},listed.size=ops.size->(∀ (j:Nat) (q:Oper),ops[j]?=some q->sel[j]?=some true->q.dst=some t->listed.getD j false=true)->Af t (Fc ops.toList sel listed.toList)=false:=by
  intro listed t ao hh
  cases hm:Af t (Fc ops.toList sel listed.toList) with
  | false=>rfl
  | true =>
    obtain ⟨j,q,h1,h2,h3,h4⟩:=(pend ao).1 hm
    rw [hh j q h1 h2 h4] at h3; cases h3
 refine Tz (P:=E.P) (fun listed a w=>∃ g s',D9 tt E.P E.nt E.fx ops tm1 sel kw g (orL listed.toList sel) s' K/\a9i tm1 kw sel (Kv 0 ops.toList sel (orL listed.toList sel)) s'/\Rel E (Cu (Fc ops.toList sel listed.toList) s') a w) ?_ ?_ ?_ ops.size _ a w (by simp) ?_ ?_ ?_
 · intro i o ho
   have:=H1 cC i o (by simpa using ho)
   exact Xm (by simpa using this)
 · intro listed a w i o ao hD hI ho dj az
   obtain ⟨g,s',bq,hk,a7⟩:=hI
   have eo:=(Array.getElem?_eq_some_iff.1 ho).1
   have ap:i < listed.size:=by omega
   have da:listed.toList.length=sel.length:=by simp; omega
   obtain ⟨b,hb⟩:=eV i eo
   have kx:(listed.setIfInBounds i true).size=ops.size:=by simp [ao]
   cases b with
   | true =>
     obtain ⟨d,v,hd,cr,fP,ky⟩:=bP i o (by simpa using ho) hb
     have hg:o.guard=none:=by
      have:=(gS i o true ho hb).2.1
      simp only [Bool.not_true,Bool.false_or,O1,Bool.and_eq_true] at this
      cases dH:o.guard with
      | none=>rfl
      | some x=>rw [dH] at this; simp at this
     have jm:(orL listed.toList sel).length=ops.toList.length:=by rw [a2a da]; simp; omega
     have cD:i < (Kv 0 ops.toList sel (orL listed.toList sel)).length:=by rw [a3n (by simpa using d8) jm]; simpa using eo
     have bh:(Kv 0 ops.toList sel (orL listed.toList sel))[i]?=some (o,false):=by
      have h0:=List.getElem?_eq_getElem cD
      have h1:=a3o h0
      generalize (Kv 0 ops.toList sel (orL listed.toList sel))[i]=p at h0 h1
      obtain ⟨q,f⟩:=p
      have ac:q=o:=by
       have h2:ops.toList[i]?=some o:=by simpa using ho
       rw [h2] at h1; exact (Option.some.inj h1).symm
      subst ac
      cases f with
      | false=>exact h0
      | true =>
        have:=(a6B (D:=fun j=>listed.getD j false=true) (b0:=0) (fun j aT cj=>by
         rw [Nat.zero_add]
         rw [Kw j da,Array.getElem?_toList (xs:=listed),aT] at cj
         cases cU:listed[j]? with
         | none=>rw [cU] at cj; simp at cj
         | some c=>rw [cU] at cj; simp at cj; rw [Array.getD_eq_getD_getElem?,cU,cj]; rfl) (fun j k q ac mP hw=>If hw (hD k q (by simpa using ac) (by simpa using mP))) i q h0).2
        rw [Nat.zero_add,dj] at this; cases this
     have eX:=Xp (fl:=Kv 0 ops.toList sel (orL listed.toList sel)) (bs:=sel) i o d bh hb hd
     have jQ:=hk.1
     have br:Agree o.op.operands.toList tm1 (Ea (Fc ops.toList sel listed.toList) s'.tm):=by
      intro x hx
      refine Rt fun t e=>?_
      subst e
      have hm:=Hl hx
      have ir:Af t (Fc ops.toList sel listed.toList)=false:=notP ao fun j q ac hj fy=>by
       by_cases ah:i=j
       · subst ah
         rw [ho] at ac; cases ac
         rw [hB i o t ho hb fy] at hm; cases hm
       · exact If ((hA i o j q t ho ac hj fy ah).2 hm).2 az
      rw [Ek,if_neg (by rw [ir]; simp),T2 jQ t (eX.2 t hm)]
     have mQ:∃ gh:Hp,(∀ id ob,look gh id=some ob->look s'.hp id=some ob)/\Ka tt gh o tm1 v:=by
      cases hn:Xg o with
      | true=>exact ⟨[],fun id ob h=>(by simp [look] at h),Ka.noHp hn ky⟩
      | false =>
        have:=hk.2
        rw [Xo i o hn bh hb] at this
        exact ⟨kw,a0M this,by rw [b1u hn] at ky; exact ky⟩
     obtain ⟨gh,jn,kz⟩:=mQ
     have dM:=Mk (Q:=Q) hT hd cr jn (kz.agree br) a7
     unfold wpOp
     simp only [ho]
     have hw:Region.wanted o (yielded ops a.tmps)=true:=by simp [Region.wanted,hg]
     rw [hw]
     simp only [if_true]
     have jo:orL (listed.setIfInBounds i true).toList sel=orL listed.toList sel:=by
      refine List.ext_getElem? fun j=>?_
      rw [Kw j (by simp; omega),Kw j da,Array.getElem?_toList (xs:=listed.setIfInBounds i true),Array.getElem?_toList (xs:=listed)]
      by_cases e:j=i
      · subst e
        rw [hb,Array.getElem?_setIfInBounds_self_of_lt ap,Array.getElem?_eq_getElem ap]; simp
      · rw [Array.getElem?_setIfInBounds_ne (fun e'=>e e'.symm)]
     refine .inl (Oper.wp_mono (fun a' w' hr=>⟨g,s',by rw [jo]; exact bq,by rw [jo]; exact hk,Mj hr fun t v' aY=>?_⟩) dM)
     · rw [Ek] at aY
       split at aY
       · cases aY
       rename_i ir
       by_cases e:d=t
       · subst e
         rw [Ae,<- fP,<- T2 jQ d eX.1]; exact aY
       · rw [An _ _ e,Ek,if_neg fun hm=>?_]
         · exact aY
         · obtain ⟨j,q,h1,h2,h3,h4⟩:=(pend ao).1 hm
           have ah:j≠i:=fun e'=>by
            subst e'
            rw [ho] at h1; cases h1
            rw [hd] at h4; cases h4; exact e rfl
           exact ir ((pend kx).2 ⟨j,q,h1,h2,by rw [Bb ah]; exact h3,h4⟩)
   | false =>
     have aj:∀ j,sel[j]?=some true->i≠j:=fun j hj e=>by subst e; rw [hb] at hj; cases hj
     have a9:∀ t,.tmp t∈o.op.operands.toList->Af t (Fc ops.toList sel listed.toList)=false:=fun t ht=>notP ao fun j q ac hj fy=>If ((hA i o j q t ho ac hj fy (aj j hj)).2 (Hl ht)).2 az
     have aO:∀ d,o.dst=some d->Af d (Fc ops.toList sel listed.toList)=false:=fun d hd=>notP ao fun j q ac hj fy=>absurd hd (hA i o j q d ho ac hj fy (aj j hj)).1
     have kA:∀ j,listed.getD j false=true->(orL listed.toList sel).getD j false=true:=by
      intro j hj
      have aa:j < listed.size:=by
       rcases Nat.lt_or_ge j listed.size with h' | h'
       · exact h'
       · rw [Array.getD_eq_getD_getElem?,Array.getElem?_eq_none (by omega)] at hj; cases hj
      obtain ⟨c,hc⟩:=eV j (by omega)
      rw [List.getD_eq_getElem?_getD,Kw j da,Array.getElem?_toList (xs:=listed),Array.getElem?_eq_getElem aa,hc]
      rw [Array.getD_eq_getD_getElem?,Array.getElem?_eq_getElem aa] at hj
      have aN:listed[j]=true:=hj
      simp [aN]
     have aC:i∈Ct (orL listed.toList sel) 0 ops.toList (orL listed.toList sel):=by
      rw [Hn]
      refine ⟨Nat.zero_le _,?_,o,by simpa using ho,?_⟩
      · rw [Nat.sub_zero,Kw i da,Array.getElem?_toList (xs:=listed),Array.getElem?_eq_getElem ap,hb]
        rw [Array.getD_eq_getD_getElem?,Array.getElem?_eq_getElem ap] at dj
        have kB:listed[i]=false:=dj
        simp [kB]
      · unfold I6
        rw [List.all_eq_true]
        intro e he
        cases kC:Region.binds .any e with
        | false=>rfl
        | true=>simp only [Bool.not_true,Bool.false_or]; exact kA _ (az e (by simpa using he) kC)
     cases g with
     | zero =>
       simp only [D9] at bq
       cases hr:Ct (orL listed.toList sel) 0 ops.toList (orL listed.toList sel) with
       | nil=>rw [hr] at aC; cases aC
       | cons x r=>simp [hr] at bq
     | succ g =>
       simp only [D9] at bq
       cases hr:Ct (orL listed.toList sel) 0 ops.toList (orL listed.toList sel) with
       | nil=>rw [hr] at aC; cases aC
       | cons x r =>
         simp only [hr] at bq
         rw [hr] at aC
         have h:=Rw bq i aC
         have gQ:ops.toList[i]?=some o:=by simpa using ho
         simp only [gQ] at h
         have dH:∀ j want,o.guard=some (j,want)->C7 ops (Ea (Fc ops.toList sel listed.toList) s'.tm) j=C7 ops s'.tm j:=by
          intro j want hg
          refine T0 (o:=o) fun q t ac fy=>?_
          rw [Ek,if_neg fun hm=>?_]
          obtain ⟨j',q',h1,h2,h3,h4⟩:=(pend ao).1 hm
          by_cases e:j=j'
          · subst e
            have lP:=(gS i o false ho hb).1
            have gT:sel.getD j false=true:=by rw [List.getD_eq_getElem?_getD,h2]; rfl
            simp only [a45,hg,gT,Bool.not_true,Bool.false_or] at lP
            rw [If lP az] at h3; cases h3
          · exact (hA j q j' q' t ac h1 h2 h4 e).1 fy
         have mR:∀ X Y:Prop,Dk ops o s' X Y->Dk ops o (Cu (Fc ops.toList sel listed.toList) s') X Y:=by
          intro X Y hh
          unfold Dk at hh ⊢
          cases hg:o.guard with
          | none=>simp only [hg] at hh ⊢; exact hh
          | some jw =>
            obtain ⟨j,want⟩:=jw
            simp only [hg] at hh ⊢
            rw [dH j want hg]; exact hh
         have h2:=mR _ _ (Zw (a18 a9 aO) (a5e aO) h)
         have bI:orL (listed.setIfInBounds i true).toList sel=(orL listed.toList sel).set i true:=by
          refine List.ext_getElem? fun j=>?_
          rw [Kw j (by simp; omega),Array.getElem?_toList (xs:=listed.setIfInBounds i true)]
          by_cases e:j=i
          · subst e
            rw [hb,Array.getElem?_setIfInBounds_self_of_lt ap,List.getElem?_set_self (by rw [a2a da]; simpa using ap)]; simp
          · rw [Array.getElem?_setIfInBounds_ne (fun e'=>e e'.symm),List.getElem?_set_ne (fun e'=>e e'.symm),Kw j da,Array.getElem?_toList (xs:=listed)]
         have lQ:Fc ops.toList sel (listed.setIfInBounds i true).toList=Fc ops.toList sel listed.toList:=by
          have key:∀ (l:List Oper) (bs ls:List Bool) (k:Nat),bs[k]?=some false->Fc l bs (ls.set k true)=Fc l bs ls:=by
           intro l
           induction l with
           | nil=>intro bs ls k _; rfl
           | cons x r ih =>
             intro bs ls k hk
             cases bs with
             | nil=>simp at hk
             | cons c cs =>
               cases ls with
               | nil=>rfl
               | cons y ys =>
                 cases k with
                 | zero=>simp at hk; subst hk; rfl
                 | succ k =>
                   simp only [List.set_cons_succ,Fc]
                   rw [ih cs ys k (by simpa using hk)]
          rw [Array.toList_setIfInBounds]
          exact key _ _ _ i hb
         unfold wpOp
         simp only [ho]
         rcases F3 h2 a7 with ⟨hw,h3⟩ | ⟨hw,h3⟩
         · rw [if_pos hw]
           refine .inl (Oper.wp_mono (fun a' w' ⟨s'',r1,s1,r2,r3⟩=>⟨g,s1,by rw [bI]; exact r2.r,by rw [bI]; exact r2.l,by rw [lQ,<- r3]; exact r1⟩) (Zx hT h3 a7))
         · rw [hw]
           simp only [Bool.false_eq_true,if_false]
           obtain ⟨s'',r1,s1,r2,r3⟩:=Ic h3 a7
           exact ⟨g,s1,by rw [bI]; exact r2.r,by rw [bI]; exact r2.l,by rw [lQ,<- r3]; exact r1⟩
 · intro listed a w ao hI az
   obtain ⟨g,s',bq,hk,a7⟩:=hI
   have da:listed.toList.length=sel.length:=by simp; omega
   have aI:Ct (orL listed.toList sel) 0 ops.toList (orL listed.toList sel)=[]:=by
    refine List.eq_nil_iff_forall_not_mem.2 fun i hi=>?_
    rw [Hn] at hi
    obtain ⟨_,h1,o,h2,_⟩:=hi
    rw [Nat.sub_zero] at h1 h2
    rw [Array.getElem?_toList] at h2
    have aa:=(Array.getElem?_eq_some_iff.1 h2).1
    have hl:=az i aa
    obtain ⟨c,hc⟩:=eV i aa
    rw [Kw i da,Array.getElem?_toList (xs:=listed),Array.getElem?_eq_getElem (show i < listed.size by omega),hc] at h1
    rw [Array.getD_eq_getD_getElem?,Array.getElem?_eq_getElem (show i < listed.size by omega)] at hl
    have cj:listed[i]=true:=hl
    simp [cj] at h1
   have fz:Rel E s' a w:=Mj a7 fun t v hv=>by
    rw [Ek,if_neg (by rw [notP ao fun j q ac _ _=>az j (Array.getElem?_eq_some_iff.1 ac).1]; simp)]; exact hv
   cases g with
   | zero=>simp only [D9,aI] at bq; exact hQ _ _ _ fz bq
   | succ g=>simp only [D9,aI] at bq; exact hQ _ _ _ fz bq
 · intro k o _ hk; simp [Array.getD_eq_getD_getElem?] at hk
   by_cases h':k < ops.size <;> simp [h'] at hk
 · exact Nat.le_trans List.count_le_length (by rw [Array.toList_replicate,List.length_replicate]; exact Nat.le_refl _)
 · refine ⟨Fb ops.toList,⟨tm1,s.hp,s.nx⟩,?_,⟨U7 _ _,?_⟩,Mj hR fun t v hv=>?_⟩
   · have:orL (Array.replicate ops.size false).toList sel=sel:=by
      refine List.ext_getElem? fun j=>?_
      rw [Kw j (by simp; omega)]
      by_cases hj:j < ops.size
      · obtain ⟨c,hc⟩:=eV j hj
        rw [hc]; simp [hj]
      · rw [List.getElem?_eq_none (show sel.length<=j by omega)]; simp
     rw [this]; exact hK
   · split
     · rw [<- mO]; exact Dt s.hp s.hp _ (fun _ _=>rfl)
     · trivial
   · rw [Ek] at hv
     split at hv
     · cases hv
     rename_i ir
     rw [<- jl t fun j q ac hj fy=>ir ((pend (by simp)).2 ⟨j,q,ac,hj,by
      have:=(Array.getElem?_eq_some_iff.1 ac).1
      simp [Array.getD_eq_getD_getElem?,this],fy⟩)]
     exact hv
theorem a6C {o:Oper} (h:Be tt o=true):Er true o=false:=by
 unfold Be at h
 show Eq o=false
 unfold Eq
 cases ho:o.op with
 | alloc t=>rw [ho] at h; cases h
 | _=>rfl
structure T3 (tt:Tab) (ops:Array Oper) (n:Nat) (f:Nat->St) (listed:Array Bool) (tm:List (Nat × AV)) (k kh:Nat):Prop where
 le:k<=n
 leh:kh<=n
 i1:∀ j o t,j < n->listed.getD j false=true->ops[j]?=some o->o.dst=some t->look tm t=look (f n).tm t
 i2:∀ t,(∀ j o,j < n->listed.getD j false=true->ops[j]?=some o->o.dst≠some t)->look tm t=look (f 0).tm t
 i3:∀ j o,j < n->ops[j]?=some o->Er true o=true->(listed.getD j false=true↔j < k)
 i4:∀ j o,j < n->ops[j]?=some o->Be tt o=true->(listed.getD j false=true↔j < kh)
section
variable {fx:List Nat} {g:Nat->Hp}
theorem T3.at {listed:Array Bool} {tm:List (Nat × AV)} {k kh i:Nat} (h:Ej P tt nt fx ops n f g) (hI:T3 tt ops n f listed tm k kh) (hi:i<=n) {t:Nat}
 (gL:∀ j q,j < n->ops[j]?=some q->q.dst=some t->j < i/\listed.getD j false=true):look tm t=look (f i).tm t:=by
 by_cases hex:∃ j q,j < n/\ops[j]?=some q/\q.dst=some t
 · obtain ⟨j,q,hj,ac,hd⟩:=hex
   obtain ⟨h1,h2⟩:=gL j q hj ac hd
   rw [hI.i1 j q t hj h2 ac hd,h.stay hj ac hd n hj (Nat.le_refl _),h.stay hj ac hd i h1 hi]
 · have aJ:∀ j q,j < n->ops[j]?=some q->q.dst≠some t:=fun j q hj ac hd=>hex ⟨j,q,hj,ac,hd⟩
   rw [hI.i2 t fun j q hj _ ac=>aJ j q hj ac,h.old i hi t fun j q hj ac=>aJ j q (by omega) ac]
theorem a5f (hT:Bg E.P tt) (h:Ej E.P tt E.nt E.fx ops n f g) {listed:Array Bool} {tm:List (Nat × AV)} {k kh i:Nat} {o:Oper} {Q:Exit->Act->World->Prop} (ao:listed.size=ops.size) (hD:a5a ops listed) (hI:T3 tt ops n f listed tm k kh) (cO:∀ id ob,look (f 0).hp id=some ob->id < (f 0).nx)
 (hi:i < n) (ho:ops[i]?=some o) (dj:listed.getD i false=false) (az:∀ e∈o.after,Region.binds .any e=true->listed.getD e.on false=true) (hR:Rel E ⟨tm,g kh++(f k).hp,(f k).nx⟩ a w) :
 wpOp E.P ops Q i (fun a' w'=>∃ tm' k' kh',T3 tt ops n f (listed.setIfInBounds i true) tm' k' kh'/\Rel E ⟨tm',g kh'++(f k').hp,(f k').nx⟩ a' w') a w:=by
 have ap:i < listed.size:=by rw [ao]; exact Nat.lt_of_lt_of_le hi h.le
 obtain ⟨d,v,hd,cr,dK,bC⟩:=h.step i o hi ho
 have eR:Agree o.op.operands.toList (f i).tm tm:=by
  intro x hx
  refine Rt fun t e=>?_
  subst e
  refine (T3.at h hI (Nat.le_of_lt hi) fun j q hj ac a6=>?_).symm
  have hp:=Xl (h.pair i j o q hi hj ho ac) a6 (Hl hx)
  exact ⟨hp.1,If hp.2 az⟩
 have ak:Av tt o.op ⟨tm,[],0⟩=Av tt o.op ⟨(f i).tm,[],0⟩:=(Ie o.op _ _ eR).symm
 have dH:∀ j want,o.guard=some (j,want)->C7 ops tm j=C7 ops (f i).tm j:=by
  intro j want hg
  have gM:=h.guard i o hi ho
  simp only [Xc,hg,Bool.and_eq_true] at gM
  have ct:j < i:=Nat.le_of_ble_eq_true gM.1
  refine T0 (o:=o) fun q t ac a6=>T3.at h hI (Nat.le_of_lt hi) fun j' q' aN gN gO=>?_
  by_cases e:j'=j
  · subst e; exact ⟨ct,If gM.2 az⟩
  · exact absurd (gO.trans a6.symm) (h.ne aN (by omega) e gN ac)
 have cW:∀ k' kh',k'<=n->kh'<=n->(∀ j q,j < n->ops[j]?=some q->Er true q=true->((listed.setIfInBounds i true).getD j false=true↔j < k')) ->
  (∀ j q,j < n->ops[j]?=some q->Be tt q=true->((listed.setIfInBounds i true).getD j false=true↔j < kh'))->T3 tt ops n f (listed.setIfInBounds i true) ((d,v)::tm) k' kh':=by
  intro k' kh' aW kD h3 h4
  refine ⟨aW,kD,?_,?_,h3,h4⟩
  · intro j q t hj hl ac a6
    by_cases e:j=i
    · subst e
      rw [ho] at ac; cases ac
      rw [hd] at a6; cases a6
      rw [Ae,h.stay hj ho hd n hj (Nat.le_refl _),dK,Ae]
    · have aj:d≠t:=fun e'=>h.ne hj hi e ac ho (by rw [a6,hd,e'])
      rw [Bb e] at hl
      rw [An _ _ aj]
      exact hI.i1 j q t hj hl ac a6
  · intro t ht
    have aj:d≠t:=fun e=>ht i o hi (Dz ap) ho (by rw [hd,e])
    rw [An _ _ aj]
    refine hI.i2 t fun j q hj hl ac=>ht j q hj ?_ ac
    have ct:j≠i:=fun e=>by subst e; rw [dj] at hl; cases hl
    rw [Bb ct]; exact hl
 have keep3:Er true o=false->∀ j q,j < n->ops[j]?=some q->Er true q=true->((listed.setIfInBounds i true).getD j false=true↔j < k):=fun au j q hj ac hc=>by
  have ct:j≠i:=fun e=>by subst e; rw [ho] at ac; cases ac; rw [au] at hc; cases hc
  rw [Bb ct]; exact hI.i3 j q hj ac hc
 have keep4:Be tt o=false->∀ j q,j < n->ops[j]?=some q->Be tt q=true->((listed.setIfInBounds i true).getD j false=true↔j < kh):=fun au j q hj ac hc=>by
  have ct:j≠i:=fun e=>by subst e; rw [ho] at ac; cases ac; rw [au] at hc; cases hc
  rw [Bb ct]; exact hI.i4 j q hj ac hc
 have ba:Er true o=true->(f i).hp=(f k).hp/\(f i).nx=(f k).nx/\T3 tt ops n f (listed.setIfInBounds i true) ((d,v)::tm) (i + 1) kh:=by
  intro au
  have mS:Be tt o=false:=by
   cases hp:Be tt o with
   | false=>rfl
   | true=>rw [a6C hp] at au; cases au
  have d5:k<=i:=Nat.le_of_not_lt fun aa=>by
   have:=(hI.i3 i o hi ho au).2 aa
   rw [dj] at this; cases this
  have aJ:∀ j q,k<=j->j < i->ops[j]?=some q->Er true q=false:=by
   intro j q hj aN ac
   cases hc:Er true q with
   | false=>rfl
   | true =>
     have hw:=Nq hD i _ (Nat.le_of_lt (Nat.lt_of_lt_of_le hi h.le)) (fun k hk=>by
      obtain ⟨e,h1,h2,h3⟩:=Js hk
      have:=az e h1 h2
      rw [h3] at this; exact this) j (h.call i o hi ho au j q aN ac hc)
     have:=(hI.i3 j q (by omega) ac hc).1 hw
     omega
  have hs:=h.hpStay i d5 (Nat.le_of_lt hi) aJ
  refine ⟨hs.1,hs.2,cW (i + 1) kh hi hI.leh (fun j q hj ac hc=>?_) (keep4 mS)⟩
  by_cases e:j=i
  · subst e; exact ⟨fun _=>Nat.lt_succ_self _,fun _=>Dz ap⟩
  · rw [Bb e,hI.i3 j q hj ac hc]
    constructor
    · intro h'; omega
    · intro h'
      rcases Nat.lt_or_ge j k with c9 | c9
      · exact c9
      · have:=aJ j q c9 (by omega) ac
        rw [hc] at this; cases this
 have jp:Be tt o=true->g i=g kh/\T3 tt ops n f (listed.setIfInBounds i true) ((d,v)::tm) k (i + 1):=by
  intro au
  have d5:kh<=i:=Nat.le_of_not_lt fun aa=>by
   have:=(hI.i4 i o hi ho au).2 aa
   rw [dj] at this; cases this
  have aJ:∀ j q,kh<=j->j < i->ops[j]?=some q->Be tt q=false:=by
   intro j q hj aN ac
   cases hc:Be tt q with
   | false=>rfl
   | true =>
     have hw:=Nq hD i _ (Nat.le_of_lt (Nat.lt_of_lt_of_le hi h.le)) (fun k hk=>by
      obtain ⟨e,h1,h2,h3⟩:=Js hk
      have:=az e h1 h2
      rw [h3] at this; exact this) j (h.ptr i o hi ho au j q aN ac hc)
     have:=(hI.i4 j q (by omega) ac hc).1 hw
     omega
  refine ⟨h.ovStay i d5 (Nat.le_of_lt hi) aJ,cW k (i + 1) hI.le hi (keep3 (a6C au)) fun j q hj ac hc=>?_⟩
  by_cases e:j=i
  · subst e; exact ⟨fun _=>Nat.lt_succ_self _,fun _=>Dz ap⟩
  · rw [Bb e,hI.i4 j q hj ac hc]
    constructor
    · intro h'; omega
    · intro h'
      rcases Nat.lt_or_ge j kh with c9 | c9
      · exact c9
      · have:=aJ j q c9 (by omega) ac
        rw [hc] at this; cases this
 have bT:Er true o=false->Be tt o=false->T3 tt ops n f (listed.setIfInBounds i true) ((d,v)::tm) k kh:=fun h3 h4=>cW k kh hI.le hI.leh (keep3 h3) (keep4 h4)
 have aU:∀ id ob,look ([]:Hp) id=some ob->look (g kh++(f k).hp) id=some ob:=fun id ob hl=>by simp [look] at hl
 unfold wpOp
 simp only [ho]
 rcases bC with ⟨⟨j,want,ob,hg,cN,aj⟩,hv,e1,e2,e3⟩ | ⟨hg,bC⟩
 · subst hv
   have hy:=Le (ops:=ops) (s:=⟨tm,g kh++(f k).hp,(f k).nx⟩) hR ((dH j want hg).trans cN)
   have hw:Region.wanted o (yielded ops a.tmps)=false:=by
    simp only [Region.wanted,hg,hy]
    cases ob with
    | none=>cases want <;> rfl
    | some b=>cases b <;> cases want <;> first | rfl | exact absurd rfl aj
   rw [hw]
   simp only [Bool.false_eq_true,if_false]
   have aS:Rel E ⟨(d,.tup [])::tm,g kh++(f k).hp,(f k).nx⟩ (a.put o.dst undef) w:=by
    rw [hd]
    obtain ⟨hs,jj,ι,S,hC,ab⟩:=hR
    exact Ja (s':=⟨tm,g kh++(f k).hp,(f k).nx⟩) hs jj hC ab cr (.tup [] [] trivial) (fun v hv=>by cases hv)
   cases eD:Be tt o with
   | true =>
     obtain ⟨g1,g2⟩:=jp eD
     refine ⟨_,k,i + 1,g2,?_⟩
     rw [e3,g1]; exact aS
   | false =>
     cases au:Er true o with
     | false=>exact ⟨_,k,kh,bT au eD,aS⟩
     | true =>
       obtain ⟨g1,g2,g3⟩:=ba au
       refine ⟨_,i + 1,kh,g3,?_⟩
       rw [e1,e2,g1,g2]; exact aS
 · have hw:Region.wanted o (yielded ops a.tmps)=true:=by
    cases dL:o.guard with
    | none=>simp [Region.wanted,dL]
    | some jw =>
      obtain ⟨j,want⟩:=jw
      have hy:=Le (ops:=ops) (s:=⟨tm,g kh++(f k).hp,(f k).nx⟩) hR ((dH j want dL).trans (hg j want dL))
      simp [Region.wanted,dL,hy]
   rw [hw]
   simp only [if_true]
   refine .inl ?_
   have hb:Nat.blt d E.nt=true:=Nat.ble_eq_true_of_le cr
   rcases bC with ⟨eD,bP | ⟨fn,avs,hs,cb,aB⟩,e1,e2,_⟩ | ⟨⟨ob,hs,au,rfl,e1,e2⟩,_⟩ | ⟨⟨eD,fn,avs,aQ,fw,hs,k1,k2,k3,e3⟩,e1,e2⟩
   · have eS:Ka tt [] o tm v:=by
      cases bP with
      | ok h=>exact .ok (ak.trans h)
      | cond h hp=>exact .cond (ak.trans h) hp
      | lst h=>exact .lst (ak.trans h)
      | pick a9 h hx =>
        rename_i b c x y
        refine .pick a9 (ak.trans h) ?_
        have df:∀ z,z∈o.op.operands.toList->Au tm z=Au (f i).tm z:=fun z hz=>(eR z hz).symm
        have bc:x∈o.op.operands.toList/\y∈o.op.operands.toList:=by rw [a9]; simp [Op.operands]
        cases b with
        | true=>simp only [if_true] at *; rw [df x bc.1]; exact hx
        | false=>simp only [Bool.false_eq_true,if_false] at *; rw [df y bc.2]; exact hx
     have dM:=Mk (Q:=Q) hT hd cr aU eS hR
     cases au:Er true o with
     | false=>exact Oper.wp_mono (fun a' w' hr=>⟨_,k,kh,bT au eD,hr⟩) dM
     | true =>
       obtain ⟨g1,g2,g3⟩:=ba au
       exact Oper.wp_mono (fun a' w' hr=>⟨_,i + 1,kh,g3,by rw [e1,e2,g1,g2]; exact hr⟩) dM
   · have dM:=Ns (Q:=Q) hT hd cr aU (ak.trans hs) (cb _) (aB _) (fun e=>by cases e) hR
     cases au:Er true o with
     | false=>exact Oper.wp_mono (fun a' w' hr=>⟨_,k,kh,bT au eD,hr⟩) dM
     | true =>
       obtain ⟨g1,g2,g3⟩:=ba au
       exact Oper.wp_mono (fun a' w' hr=>⟨_,i + 1,kh,g3,by rw [e1,e2,g1,g2]; exact hr⟩) dM
   · obtain ⟨g1,g2,g3⟩:=ba au
     have gP:Av tt o.op ⟨tm,g kh++(f k).hp,(f k).nx⟩=.newP ob:=by
      rw [<- ak.trans hs]
      cases a9:o.op with
      | alloc t=>rfl
      | _=>simp [Eq,a9] at au
     refine Oper.wp_mono (fun a' w' hr=>⟨_,i + 1,kh,g3,?_⟩) (Ju (s':=⟨(d,.pt (f k).nx 0 0)::tm,((f k).nx,ob)::(g kh++(f k).hp),(f k).nx + 1⟩) hT (by simp only [G4,hd,hb,gP,cond_true]) hR)
     rw [e1,e2,g1,g2]
     refine Dy.rel (s:=⟨(d,.pt (f k).nx 0 0)::tm,((f k).nx,ob)::(g kh++(f k).hp),(f k).nx + 1⟩) (s':=⟨(d,.pt (f k).nx 0 0)::tm,g kh++(((f k).nx,ob)::(f k).hp),(f k).nx + 1⟩) ⟨fun t v h=>h,fun id oo e=>?_,Nat.le_refl _⟩ hr
     show look (((f k).nx,ob)::(g kh++(f k).hp)) id=some oo
     replace e:look (g kh++(((f k).nx,ob)::(f k).hp)) id=some oo:=e
     rw [Fa] at e
     by_cases hid:(f k).nx=id
     · subst hid
       rw [Ae]
       cases hl:look (g kh) (f k).nx with
       | some x =>
         obtain ⟨y,hy⟩:=h.ovKeys kh hI.leh _ _ hl
         have h1:=cO _ _ hy
         have h2:=(h.sub k hI.le).1
         omega
       | none=>rw [hl,Ae] at e; exact e
     · rw [An _ _ hid,Fa]
       rw [An _ _ hid] at e
       exact e
   · obtain ⟨g1,g3⟩:=jp eD
     have e:=Hm (n':=(f k).nx) o.op aU (by rw [ak.trans hs]; trivial)
     rw [ak.trans hs] at e
     refine Oper.wp_mono (fun a' w' hr=>⟨_,k,i + 1,g3,?_⟩) (Ju (s':=⟨(d,v)::tm,fw++(g kh++(f k).hp),(f k).nx⟩) hT (by
      simp only [G4,hd,hb,e,cond_true]
      refine k3 _ _ _ fun id ob hl=>?_
      obtain ⟨h1,o',h2⟩:=k1 id ob hl
      rw [Fa] at h1 ⊢
      rw [g1] at h1
      have aa:=cO _ _ h2
      rw [(h.sub i (Nat.le_of_lt hi)).2 id aa] at h1
      rw [(h.sub k hI.le).2 id aa]
      exact h1) hR)
     rw [e3,g1,List.append_assoc]; exact hr
end
theorem a3p (hT:Bg E.P tt) {ops:Array Oper} {id t:Nat} {Q:Exit->Act->World->Prop} {K:St->Prop} (hQ:∀ s a w,Rel E s a w->K s->Q .normal a w) (hb:a3h tt ops.toList t=true)
 (h:P2 tt E.P E.nt E.fx s.hp ops (ops.toList.take t) [] s (fun s'=>Co tt E.P E.nt E.fx ops (Fb (ops.toList.drop t)) (a0E (Fb (ops.toList.take t))++Mg (ops.toList.drop t)) s' K)) (hR:Rel E s a w):(Code.region id ops true).wp E.P Q a w:=by
 unfold a3h at hb
 obtain ⟨_,hb⟩:=Bool.and_eq_true_iff.1 hb
 obtain ⟨hb,jq⟩:=Bool.and_eq_true_iff.1 hb
 simp only [a44,Bool.and_eq_true] at hb
 obtain ⟨⟨⟨⟨dv,cB⟩,cC⟩,hcut⟩,_⟩:=hb
 obtain ⟨f,g,f0,g0,fs,fk⟩:=U6 (ops.toList.take t) [] s h
 subst f0
 obtain ⟨n,hn⟩:∃ n,n=(ops.toList.take t).length:=⟨_,rfl⟩
 have gU:n<=ops.size:=by rw [hn]; simp; omega
 have bM:n=t∨(n=ops.size/\ops.size<=t):=by rw [hn]; simp; omega
 rw [Lf,Lf,Lg,Xn,<- hn] at fk
 have ai:∀ i o,i < n->ops[i]?=some o->(ops.toList.take t)[i]?=some o:=by
  intro i o hi ho
  have hit:i < t:=by rcases bM with e | ⟨e,h'⟩ <;> omega
  rw [List.getElem?_take,if_pos hit]; simpa using ho
 have ep:Ej E.P tt E.nt E.fx ops n f g:=by
  refine ⟨gU,g0,fun i o hi ho=>fs i o (ai i o hi ho),?_,?_,?_,?_⟩
  · intro i j o q hi hj ho ac
    have:=H1 dv i o (ai i o hi ho)
    simp only [Bool.and_eq_true,Nat.zero_add] at this
    have:=H1 this.2 j q (ai j q hj ac)
    simpa using this
  · intro i o hi ho
    have:=H1 dv i o (ai i o hi ho)
    simp only [Bool.and_eq_true,Nat.zero_add] at this
    exact this.1.2
  · intro i o hi ho au j q hj ac hc
    have:=a0J true (ops.toList.take t) cB i o (ai i o hi ho) au j q hj (ai j q (by omega) ac) hc
    rw [List.take_take,Nat.min_eq_left (by rcases bM with e | ⟨e,h'⟩ <;> omega)] at this
    exact this
  · intro i o hi ho au j q hj ac hc
    have:=a7r tt (ops.toList.take t) jq i o (ai i o hi ho) au j q hj (ai j q (by omega) ac) hc
    rw [List.take_take,Nat.min_eq_left (by rcases bM with e | ⟨e,h'⟩ <;> omega)] at this
    exact this
 have cO:∀ id ob,look (f 0).hp id=some ob->id < (f 0).nx:=by
  obtain ⟨_,_,ι,S,hC,_⟩:=hR
  exact fun id ob h=>(hC.obj id ob h).1
 have dw:∀ o,ops[n]?=some o->O0 (ops.toList.take n).reverse n (It o.after.toList)=true/\∀ i q,n < i->ops[i]?=some q->∃ k,n<=k/\Af k (It q.after.toList)=true:=by
  intro o ho
  have aa:=(Array.getElem?_eq_some_iff.1 ho).1
  have dN:n=t:=by rcases bM with e | ⟨e,h'⟩ <;> omega
  subst dN
  have bB:n < ops.toList.length:=by simpa using aa
  have bY:ops.toList[n]=o:=by
   have:=(Array.getElem?_eq_some_iff.1 ho).2
   simpa using this
  rw [List.drop_eq_getElem_cons bB,bY] at hcut
  simp only [b1r,a6x,Bool.and_eq_true] at hcut
  refine ⟨hcut.1,fun i q hi hq=>?_⟩
  have hm:q∈ops.toList.drop (n + 1):=by
   refine List.mem_of_getElem? (i:=i - (n + 1)) ?_
   rw [List.getElem?_drop,show n + 1 + (i - (n + 1))=i by omega]; simpa using hq
  obtain ⟨k,hk,hb⟩:=List.any_eq_true.1 (List.all_eq_true.1 hcut.2 q hm)
  exact ⟨k,Nat.le_of_ble_eq_true hb,(Lh k _).2 hk⟩
 refine wp_region_any hT.mixed ?_
 have dO:(Array.replicate ops.size false).toList.count false<=ops.size:=Nat.le_trans List.count_le_length (by rw [Array.toList_replicate,List.length_replicate]; exact Nat.le_refl _)
 refine Tz (P:=E.P) (fun listed a w=>(∃ tm k kh,T3 tt ops n f listed tm k kh/\(∀ j,n<=j->j < ops.size->listed.getD j false=false)/\Rel E ⟨tm,g kh++(f k).hp,(f k).nx⟩ a w) ∨
  (∃ g s,Rel E s a w/\Co tt E.P E.nt E.fx ops g listed.toList s K)) ?_ ?_ ?_ ops.size _ a _ (by simp) ?_ ?_ ?_
 · intro i o ho
   have:=H1 cC i o (by simpa using ho)
   exact Xm (by simpa using this)
 · intro listed a w i o ao hD hI ho dj az
   have eo:=(Array.getElem?_eq_some_iff.1 ho).1
   have b9:∀ k,Af k (It o.after.toList)=true->listed.getD k false=true:=fun k hk=>by
    obtain ⟨e,h1,h2,h3⟩:=Js hk
    have:=az e h1 h2
    rw [h3] at this; exact this
   have bruteStep:∀ g s,Rel E s a w->Co tt E.P E.nt E.fx ops g listed.toList s K ->
    wpOp E.P ops Q i (fun a' w'=>∃ g s,Rel E s a' w'/\Co tt E.P E.nt E.fx ops g (listed.setIfInBounds i true).toList s K) a w:=by
    intro g s a7 bq
    have aC:i∈Ct listed.toList 0 ops.toList listed.toList:=by
     rw [<- Ho (by simpa using ao)]
     refine mem_ready.2 ⟨?_,o,ho,?_⟩
     · show listed.toList.toArray.getD i true=false
       simp only [Array.toArray_toList]
       rw [F4 (by omega)]; exact dj
     · simp only [Array.toArray_toList]; exact az
    cases g with
    | zero =>
      simp only [Co] at bq
      cases hr:Ct listed.toList 0 ops.toList listed.toList with
      | nil=>rw [hr] at aC; cases aC
      | cons x r=>simp [hr] at bq
    | succ g =>
      simp only [Co] at bq
      cases hr:Ct listed.toList 0 ops.toList listed.toList with
      | nil=>rw [hr] at aC; cases aC
      | cons x r =>
        simp only [hr] at bq
        rw [hr] at aC
        have h:=Rw bq i aC
        have gQ:ops.toList[i]?=some o:=by simpa using ho
        simp only [gQ] at h
        have bI:(listed.setIfInBounds i true).toList=listed.toList.set i true:=by simp
        rw [bI]
        unfold wpOp
        simp only [ho]
        rcases F3 h a7 with ⟨hw,h⟩ | ⟨hw,h⟩
        · rw [if_pos hw]
          exact .inl (Oper.wp_mono (fun a' w' ⟨s',h1,h2⟩=>⟨g,s',h1,h2⟩) (Gl hT h a7))
        · rw [hw]
          simp only [Bool.false_eq_true,if_false]
          obtain ⟨s',h1,h2⟩:=Ic h a7
          exact ⟨g,s',h1,h2⟩
   rcases hI with ⟨tm,k,kh,hB,aJ,cP⟩ | ⟨g,s,a7,ar⟩
   · rcases Nat.lt_or_ge i n with hi | hi
     · refine wpOp_mono (fun a' w' ⟨tm',k',kh',h1,h2⟩=>.inl ⟨tm',k',kh',h1,fun j hj aN=>?_,h2⟩) (a5f hT ep ao hD hB cO hi ho dj az cP)
       rw [Bb (by omega)]; exact aJ j hj aN
     · have ap:i=n:=by
        rcases Nat.lt_or_ge n i with h' | h'
        · obtain ⟨k',aW,hm⟩:=(dw _ (Array.getElem?_eq_getElem (show n < ops.size by omega))).2 i o h' ho
          have hl:=b9 k' hm
          have bB:k' < ops.size:=by
           rcases Nat.lt_or_ge k' ops.size with c9 | c9
           · exact c9
           · rw [Array.getD_eq_getD_getElem?,Array.getElem?_eq_none (by omega)] at hl; cases hl
          rw [aJ k' aW bB] at hl; cases hl
        · omega
       subst ap
       have hw:=Xj hD i _ (Nat.le_of_lt eo) (dw o ho).1 b9
       have fz:Rel E ⟨(f i).tm,g i++(f i).hp,(f i).nx⟩ a w:=by
        have eY:=ep.hpStay (k:=k) i hB.le (Nat.le_refl _) (fun j q hj aN ac=>by
         cases hc:Er true q with
         | false=>rfl
         | true=>have:=(hB.i3 j q aN ac hc).1 (hw j aN); omega)
        have dL:=ep.ovStay (k:=kh) i hB.leh (Nat.le_refl _) (fun j q hj aN ac=>by
         cases hc:Be tt q with
         | false=>rfl
         | true=>have:=(hB.i4 j q aN ac hc).1 (hw j aN); omega)
        rw [<- eY.1,<- eY.2,<- dL] at cP
        refine Mj cP fun t v hv=>?_
        rw [T3.at ep hB (Nat.le_refl _) fun j q hj ac hd=>⟨hj,hw j hj⟩]; exact hv
       have cE:listed.toList=List.replicate i true++List.replicate (ops.toList.drop t).length false:=by
        have kE:(ops.toList.drop t).length=ops.size - i:=by
         have dN:i=t:=by rcases bM with e | ⟨e,h'⟩ <;> omega
         subst dN; simp
        refine List.ext_getElem? fun j=>?_
        rw [Array.getElem?_toList,kE]
        by_cases hj:j < ops.size
        · have hg:listed[j]?=some (listed.getD j false):=by
           rw [Array.getD_eq_getD_getElem?,Array.getElem?_eq_getElem (show j < listed.size by omega)]; rfl
          rw [hg]
          by_cases ct:j < i
          · rw [hw j ct,List.getElem?_append_left (by simpa using ct)]; simp [ct]
          · rw [aJ j (by omega) hj,List.getElem?_append_right (by rw [List.length_replicate]; omega),List.length_replicate,List.getElem?_replicate,if_pos (by omega)]
        · rw [Array.getElem?_eq_none (by omega),List.getElem?_eq_none (by simp; omega)]
       rw [<- cE] at fk
       exact wpOp_mono (fun a' w' h=>.inr h) (bruteStep _ _ fz fk)
   · exact wpOp_mono (fun a' w' h=>.inr h) (bruteStep g s a7 ar)
 · intro listed a w ao hI az
   have aI:Ct listed.toList 0 ops.toList listed.toList=[]:=by
    refine List.eq_nil_iff_forall_not_mem.2 fun i hi=>?_
    rw [Hn] at hi
    obtain ⟨_,h1,o,h2,_⟩:=hi
    rw [Nat.sub_zero,Array.getElem?_toList] at h1 h2
    have aa:=(Array.getElem?_eq_some_iff.1 h2).1
    have:=az i aa
    rw [Array.getD_eq_getD_getElem?,h1] at this; cases this
   have fin:∀ g s,Rel E s a w->Co tt E.P E.nt E.fx ops g listed.toList s K->Q .normal a w:=by
    intro g s a7 bq
    cases g with
    | zero=>simp only [Co,aI] at bq; exact hQ _ _ _ a7 bq
    | succ g=>simp only [Co,aI] at bq; exact hQ _ _ _ a7 bq
   rcases hI with ⟨tm,k,kh,hB,aJ,cP⟩ | ⟨g,s,a7,ar⟩
   · have aj:n=ops.size:=by
      rcases Nat.lt_or_ge n ops.size with h' | h'
      · have:=az n h'; rw [aJ n (Nat.le_refl _) h'] at this; cases this
      · omega
     have eY:=ep.hpStay (k:=k) n hB.le (Nat.le_refl _) (fun j q hj aN ac=>by
      cases hc:Er true q with
      | false=>rfl
      | true=>have:=(hB.i3 j q aN ac hc).1 (az j (by omega)); omega)
     have dL:=ep.ovStay (k:=kh) n hB.leh (Nat.le_refl _) (fun j q hj aN ac=>by
      cases hc:Be tt q with
      | false=>rfl
      | true=>have:=(hB.i4 j q aN ac hc).1 (az j (by omega)); omega)
     rw [<- eY.1,<- eY.2,<- dL] at cP
     have fz:Rel E ⟨(f n).tm,g n++(f n).hp,(f n).nx⟩ a w:=Mj cP fun t v hv=>by
      rw [T3.at ep hB (Nat.le_refl _) fun j q hj ac hd=>⟨hj,az j (by omega)⟩]; exact hv
     have cE:listed.toList=List.replicate n true++List.replicate (ops.toList.drop t).length false:=by
      have kF:(ops.toList.drop t).length=0:=by
       rcases bM with e | ⟨e,h'⟩
       · simp; omega
       · simp; omega
      rw [kF,List.replicate_zero,List.append_nil]
      refine List.ext_getElem? fun j=>?_
      rw [Array.getElem?_toList]
      by_cases hj:j < ops.size
      · have hg:listed[j]?=some (listed.getD j false):=by
         rw [Array.getD_eq_getD_getElem?,Array.getElem?_eq_getElem (show j < listed.size by omega)]; rfl
        rw [hg,az j hj,List.getElem?_replicate,if_pos (by omega)]
      · rw [Array.getElem?_eq_none (by omega),List.getElem?_eq_none (by rw [List.length_replicate]; omega)]
     rw [<- cE] at fk
     exact fin _ _ fz fk
   · exact fin g s a7 ar
 · intro k o _ hk; simp [Array.getD_eq_getD_getElem?] at hk
   by_cases h':k < ops.size <;> simp [h'] at hk
 · exact dO
 · refine .inl ⟨(f 0).tm,0,0,⟨Nat.zero_le _,Nat.zero_le _,?_,fun t _=>rfl,?_,?_⟩,?_,?_⟩
   · intro j o t hj hl; simp [Array.getD_eq_getD_getElem?] at hl
     by_cases h':j < ops.size <;> simp [h'] at hl
   · intro j o hj ho hc
     refine ⟨fun hl=>?_,fun h'=>by omega⟩
     simp [Array.getD_eq_getD_getElem?] at hl
     by_cases h':j < ops.size <;> simp [h'] at hl
   · intro j o hj ho hc
     refine ⟨fun hl=>?_,fun h'=>by omega⟩
     simp [Array.getD_eq_getD_getElem?] at hl
     by_cases h':j < ops.size <;> simp [h'] at hl
   · intro j hj aN; simp [Array.getD_eq_getD_getElem?,aN]
   · rw [g0]; exact Nr hR
theorem a5g (hT:Bg E.P tt) {ops:Array Oper} {id:Nat} {Q:Exit->Act->World->Prop} {K:St->Prop} (hQ:∀ s a w,Rel E s a w->K s->Q .normal a w) (h:O3 tt E.P E.nt E.fx ops s K) (hR:Rel E s a w):(Code.region id ops true).wp E.P Q a w:=by
 unfold O3 at h
 simp only at h
 generalize a46 tt ops.toList=t at h
 generalize nV:a0C (ops.toList.take t)=md at h
 cases hb:((a44 md ops.toList t&&(a0D tt (ops.toList.take t)||guB ops.toList))&&!b0D ops.toList) with
 | false =>
   rw [hb] at h
   simp only [cond_false] at h
   cases iu:a3h tt ops.toList t with
   | true=>rw [iu] at h; simp only [cond_true] at h; exact a3p hT hQ iu h hR
   | false =>
   rw [iu] at h
   simp only [cond_false] at h
   unfold a14 at h
   refine wp_region_any hT.mixed ?_
   have bq:∀ {a' w'},Rel E s a' w'->Co tt E.P E.nt E.fx ops (Fb ops.toList) (Mg ops.toList) s K->wpAny E.P .any ops Q ops.size (Array.replicate ops.size false) a' w':=fun {a' w'} cv h=>by
    have:=Nt hT hQ _ _ s a' _ (by rw [Lg]; simp) h cv
    rw [Lf,Lg] at this
    simpa using this
   cases a8:b1t tt ops.toList with
   | true =>
     rw [a8] at h
     simp only [cond_true] at h
     obtain ⟨sel,h⟩:=O2 h
     cases fA:preB ops.toList sel with
     | true=>rw [fA] at h; exact a7s hT hQ fA h (Nr hR)
     | false=>rw [fA] at h; exact bq (Nr hR) (I9 h)
   | false=>rw [a8] at h; exact bq (Nr hR) h
 | true =>
   rw [hb] at h
   simp only [cond_true] at h
   replace hb:=(Bool.and_eq_true_iff.1 hb).1
   simp only [a44,Bool.and_eq_true] at hb
   obtain ⟨⟨⟨⟨⟨dv,cB⟩,cC⟩,hcut⟩,_⟩,_⟩:=hb
   obtain ⟨f,f0,fs,fk⟩:=Xk (ops.toList.take t) s h
   subst f0
   obtain ⟨n,hn⟩:∃ n,n=(ops.toList.take t).length:=⟨_,rfl⟩
   have gU:n<=ops.size:=by rw [hn]; simp; omega
   have bM:n=t∨(n=ops.size/\ops.size<=t):=by rw [hn]; simp; omega
   rw [Lf,Lf,Lg,Xn,<- hn] at fk
   have ai:∀ i o,i < n->ops[i]?=some o->(ops.toList.take t)[i]?=some o:=by
    intro i o hi ho
    have hit:i < t:=by rcases bM with e | ⟨e,h'⟩ <;> omega
    rw [List.getElem?_take,if_pos hit]; simpa using ho
   have ep:Jt E.P tt E.nt (f 0).hp md ops n f:=by
    refine ⟨gU,fun i o hi ho=>fs i o (ai i o hi ho),?_,?_,?_⟩
    · intro i j o q hi hj ho ac
      have:=H1 dv i o (ai i o hi ho)
      simp only [Bool.and_eq_true,Nat.zero_add] at this
      have:=H1 this.2 j q (ai j q hj ac)
      simpa using this
    · intro i o hi ho
      have:=H1 dv i o (ai i o hi ho)
      simp only [Bool.and_eq_true,Nat.zero_add] at this
      exact this.1.2
    · intro i o hi ho au j q hj ac hc
      have:=a0J md (ops.toList.take t) cB i o (ai i o hi ho) au j q hj (ai j q (by omega) ac) hc
      rw [List.take_take,Nat.min_eq_left (by rcases bM with e | ⟨e,h'⟩ <;> omega)] at this
      exact this
   have cO:∀ id ob,look (f 0).hp id=some ob->id < (f 0).nx:=by
    obtain ⟨_,_,ι,S,hC,_⟩:=hR
    exact fun id ob h=>(hC.obj id ob h).1
   have dw:∀ o,ops[n]?=some o->O0 (ops.toList.take n).reverse n (It o.after.toList)=true/\∀ i q,n < i->ops[i]?=some q->∃ k,n<=k/\Af k (It q.after.toList)=true:=by
    intro o ho
    have aa:=(Array.getElem?_eq_some_iff.1 ho).1
    have dN:n=t:=by rcases bM with e | ⟨e,h'⟩ <;> omega
    subst dN
    have bB:n < ops.toList.length:=by simpa using aa
    have bY:ops.toList[n]=o:=by
     have:=(Array.getElem?_eq_some_iff.1 ho).2
     simpa using this
    rw [List.drop_eq_getElem_cons bB,bY] at hcut
    simp only [b1r,a6x,Bool.and_eq_true] at hcut
    refine ⟨hcut.1,fun i q hi hq=>?_⟩
    have hm:q∈ops.toList.drop (n + 1):=by
     refine List.mem_of_getElem? (i:=i - (n + 1)) ?_
     rw [List.getElem?_drop,show n + 1 + (i - (n + 1))=i by omega]; simpa using hq
    obtain ⟨k,hk,hb⟩:=List.any_eq_true.1 (List.all_eq_true.1 hcut.2 q hm)
    exact ⟨k,Nat.le_of_ble_eq_true hb,(Lh k _).2 hk⟩
   refine wp_region_any hT.mixed ?_
   have dO:(Array.replicate ops.size false).toList.count false<=ops.size:=Nat.le_trans List.count_le_length (by rw [Array.toList_replicate,List.length_replicate]; exact Nat.le_refl _)
   refine Tz (P:=E.P) (fun listed a w=>(∃ tm k,F9 md ops n f listed tm k/\(∀ j,n<=j->j < ops.size->listed.getD j false=false)/\Rel E ⟨tm,(f k).hp,(f k).nx⟩ a w) ∨
    (∃ g s,Rel E s a w/\Co tt E.P E.nt E.fx ops g listed.toList s K)) ?_ ?_ ?_ ops.size _ a _ (by simp) ?_ ?_ ?_
   · intro i o ho
     have:=H1 cC i o (by simpa using ho)
     exact Xm (by simpa using this)
   · intro listed a w i o ao hD hI ho dj az
     have eo:=(Array.getElem?_eq_some_iff.1 ho).1
     have b9:∀ k,Af k (It o.after.toList)=true->listed.getD k false=true:=fun k hk=>by
      obtain ⟨e,h1,h2,h3⟩:=Js hk
      have:=az e h1 h2
      rw [h3] at this; exact this
     have bruteStep:∀ g s,Rel E s a w->Co tt E.P E.nt E.fx ops g listed.toList s K ->
      wpOp E.P ops Q i (fun a' w'=>∃ g s,Rel E s a' w'/\Co tt E.P E.nt E.fx ops g (listed.setIfInBounds i true).toList s K) a w:=by
      intro g s a7 bq
      have aC:i∈Ct listed.toList 0 ops.toList listed.toList:=by
       rw [<- Ho (by simpa using ao)]
       refine mem_ready.2 ⟨?_,o,ho,?_⟩
       · show listed.toList.toArray.getD i true=false
         simp only [Array.toArray_toList]
         rw [F4 (by omega)]; exact dj
       · simp only [Array.toArray_toList]; exact az
      cases g with
      | zero =>
        simp only [Co] at bq
        cases hr:Ct listed.toList 0 ops.toList listed.toList with
        | nil=>rw [hr] at aC; cases aC
        | cons x r=>simp [hr] at bq
      | succ g =>
        simp only [Co] at bq
        cases hr:Ct listed.toList 0 ops.toList listed.toList with
        | nil=>rw [hr] at aC; cases aC
        | cons x r =>
          simp only [hr] at bq
          rw [hr] at aC
          have h:=Rw bq i aC
          have gQ:ops.toList[i]?=some o:=by simpa using ho
          simp only [gQ] at h
          have bI:(listed.setIfInBounds i true).toList=listed.toList.set i true:=by simp
          rw [bI]
          unfold wpOp
          simp only [ho]
          rcases F3 h a7 with ⟨hw,h⟩ | ⟨hw,h⟩
          · rw [if_pos hw]
            exact .inl (Oper.wp_mono (fun a' w' ⟨s',h1,h2⟩=>⟨g,s',h1,h2⟩) (Gl hT h a7))
          · rw [hw]
            simp only [Bool.false_eq_true,if_false]
            obtain ⟨s',h1,h2⟩:=Ic h a7
            exact ⟨g,s',h1,h2⟩
     rcases hI with ⟨tm,k,hB,aJ,cP⟩ | ⟨g,s,a7,ar⟩
     · rcases Nat.lt_or_ge i n with hi | hi
       · refine wpOp_mono (fun a' w' ⟨tm',k',h1,h2⟩=>.inl ⟨tm',k',h1,fun j hj aN=>?_,h2⟩) (a7q hT ep ao hD hB cO hi ho dj az cP)
         rw [Bb (by omega)]; exact aJ j hj aN
       · have ap:i=n:=by
          rcases Nat.lt_or_ge n i with h' | h'
          · obtain ⟨k',aW,hm⟩:=(dw _ (Array.getElem?_eq_getElem (show n < ops.size by omega))).2 i o h' ho
            have hl:=b9 k' hm
            have bB:k' < ops.size:=by
             rcases Nat.lt_or_ge k' ops.size with c9 | c9
             · exact c9
             · rw [Array.getD_eq_getD_getElem?,Array.getElem?_eq_none (by omega)] at hl; cases hl
            rw [aJ k' aW bB] at hl; cases hl
          · omega
         subst ap
         have hw:=Xj hD i _ (Nat.le_of_lt eo) (dw o ho).1 b9
         have fz:Rel E (f i) a w:=by
          have eY:=ep.hpStay (k:=k) i hB.le (Nat.le_refl _) (fun j q hj aN ac=>by
           cases hc:Er md q with
           | false=>rfl
           | true=>have:=(hB.i3 j q aN ac hc).1 (hw j aN); omega)
          rw [<- eY.1,<- eY.2] at cP
          refine Mj cP fun t v hv=>?_
          rw [F9.at ep hB (Nat.le_refl _) fun j q hj ac hd=>⟨hj,hw j hj⟩]; exact hv
         have cE:listed.toList=List.replicate i true++List.replicate (ops.toList.drop t).length false:=by
          have kE:(ops.toList.drop t).length=ops.size - i:=by
           have dN:i=t:=by rcases bM with e | ⟨e,h'⟩ <;> omega
           subst dN; simp
          refine List.ext_getElem? fun j=>?_
          rw [Array.getElem?_toList,kE]
          by_cases hj:j < ops.size
          · have hg:listed[j]?=some (listed.getD j false):=by
             rw [Array.getD_eq_getD_getElem?,Array.getElem?_eq_getElem (show j < listed.size by omega)]; rfl
            rw [hg]
            by_cases ct:j < i
            · rw [hw j ct,List.getElem?_append_left (by simpa using ct)]; simp [ct]
            · rw [aJ j (by omega) hj,List.getElem?_append_right (by rw [List.length_replicate]; omega),List.length_replicate,List.getElem?_replicate,if_pos (by omega)]
          · rw [Array.getElem?_eq_none (by omega),List.getElem?_eq_none (by simp; omega)]
         rw [<- cE] at fk
         exact wpOp_mono (fun a' w' h=>.inr h) (bruteStep _ _ fz fk)
     · exact wpOp_mono (fun a' w' h=>.inr h) (bruteStep g s a7 ar)
   · intro listed a w ao hI az
     have aI:Ct listed.toList 0 ops.toList listed.toList=[]:=by
      refine List.eq_nil_iff_forall_not_mem.2 fun i hi=>?_
      rw [Hn] at hi
      obtain ⟨_,h1,o,h2,_⟩:=hi
      rw [Nat.sub_zero,Array.getElem?_toList] at h1 h2
      have aa:=(Array.getElem?_eq_some_iff.1 h2).1
      have:=az i aa
      rw [Array.getD_eq_getD_getElem?,h1] at this; cases this
     have fin:∀ g s,Rel E s a w->Co tt E.P E.nt E.fx ops g listed.toList s K->Q .normal a w:=by
      intro g s a7 bq
      cases g with
      | zero=>simp only [Co,aI] at bq; exact hQ _ _ _ a7 bq
      | succ g=>simp only [Co,aI] at bq; exact hQ _ _ _ a7 bq
     rcases hI with ⟨tm,k,hB,aJ,cP⟩ | ⟨g,s,a7,ar⟩
     · have aj:n=ops.size:=by
        rcases Nat.lt_or_ge n ops.size with h' | h'
        · have:=az n h'; rw [aJ n (Nat.le_refl _) h'] at this; cases this
        · omega
       have eY:=ep.hpStay (k:=k) n hB.le (Nat.le_refl _) (fun j q hj aN ac=>by
        cases hc:Er md q with
        | false=>rfl
        | true=>have:=(hB.i3 j q aN ac hc).1 (az j (by omega)); omega)
       rw [<- eY.1,<- eY.2] at cP
       have fz:Rel E (f n) a w:=Mj cP fun t v hv=>by
        rw [F9.at ep hB (Nat.le_refl _) fun j q hj ac hd=>⟨hj,az j (by omega)⟩]; exact hv
       have cE:listed.toList=List.replicate n true++List.replicate (ops.toList.drop t).length false:=by
        have kF:(ops.toList.drop t).length=0:=by
         rcases bM with e | ⟨e,h'⟩
         · simp; omega
         · simp; omega
        rw [kF,List.replicate_zero,List.append_nil]
        refine List.ext_getElem? fun j=>?_
        rw [Array.getElem?_toList]
        by_cases hj:j < ops.size
        · have hg:listed[j]?=some (listed.getD j false):=by
           rw [Array.getD_eq_getD_getElem?,Array.getElem?_eq_getElem (show j < listed.size by omega)]; rfl
          rw [hg,az j hj,List.getElem?_replicate,if_pos (by omega)]
        · rw [Array.getElem?_eq_none (by omega),List.getElem?_eq_none (by rw [List.length_replicate]; omega)]
       rw [<- cE] at fk
       exact fin _ _ fz fk
     · exact fin g s a7 ar
   · intro k o _ hk; simp [Array.getD_eq_getD_getElem?] at hk
     by_cases h':k < ops.size <;> simp [h'] at hk
   · exact dO
   · refine .inl ⟨(f 0).tm,0,⟨Nat.zero_le _,?_,fun t _=>rfl,?_⟩,?_,Nr hR⟩
     · intro j o t hj hl; simp [Array.getD_eq_getD_getElem?] at hl
       by_cases h':j < ops.size <;> simp [h'] at hl
     · intro j o hj ho hc
       refine ⟨fun hl=>?_,fun h'=>by omega⟩
       simp [Array.getD_eq_getD_getElem?] at hl
       by_cases h':j < ops.size <;> simp [h'] at hl
     · intro j hj aN; simp [Array.getD_eq_getD_getElem?,aN]
end Go.Am
namespace Go.Am
open Go.RowKit
set_option linter.unusedVariables false
set_option linter.unusedSimpArgs false
variable {E:Env} {s:St} {a:Act} {w:World} {ι:Loc} {S:Nat->Prop} {tt:Tab}
theorem exists_least (p:Nat->Prop) (h:∃ n,p n):∃ n,p n/\∀ m,p m->n<=m:=by
 obtain ⟨n,hn⟩:=h
 induction n using Nat.strongRecOn with
 | _ n ih =>
   by_cases aa:∃ m,m < n/\p m
   · obtain ⟨m,hm,iw⟩:=aa; exact ih m hm iw
   · exact ⟨n,hn,fun m hm=>Nat.le_of_not_lt fun h=>aa ⟨m,h,hm⟩⟩
theorem a7t (hT:Bg E.P tt) (c:Code):∀ (s:St) (Q:Exit->St->Prop),run tt E.P E.nt E.fx c s Q->∀ a w,Rel E s a w->c.wp E.P (fun e a' w'=>∃ s',Rel E s' a' w'/\Q e s') a w:=by
 induction c with
 | skip=>exact fun s Q h a w hR=>wp_skip ⟨s,hR,h⟩
 | label l=>exact fun s Q h a w hR=>wp_label ⟨s,hR,h⟩
 | exit id=>exact fun s Q h a w hR=>wp_exit ⟨s,hR,h⟩
 | goto l=>exact fun s Q h a w hR=>wp_goto ⟨s,hR,h⟩
 | ret=>exact fun s Q h a w hR=>wp_ret ⟨s,hR,h⟩
 | region id ops draw =>
   intro s Q h a w hR
   cases draw with
   | true=>exact a5g hT (fun s a w hR hK=>⟨s,hR,hK⟩) h hR
   | false=>exact wp_region_list (Rs hT (K:=Q .normal) (fun s a w hR hK=>⟨s,hR,hK⟩) ops.toList s a w h hR)
 | seq x y ihx ihy =>
   intro s Q h a w hR
   refine wp_seq (wp_mono (ihx s _ h a w hR) ?_)
   rintro e a' w' ⟨s',cv,h'⟩
   cases e with
   | normal=>exact ihy s' Q h' a' w' cv
   | _=>exact ⟨s',cv,h'⟩
 | cond c x y ihx ihy =>
   intro s Q h a w hR
   simp only [run] at h
   cases hc:Au s.tm c with
   | none=>simp [hc] at h
   | some v =>
     cases v with
     | val u =>
       cases u with
       | bool b =>
         simp only [hc] at h
         have cv:=hR
         obtain ⟨hs,hd,ι,S,hC,ab⟩:=hR
         have hv:=(Ak ab hc).1.val_inv.1
         exact wp_cond_split hv (fun hb=>ihx s Q (h.t hb) a w cv) (fun hb=>ihy s Q (h.f hb) a w cv)
       | _=>simp [hc] at h
     | _=>simp [hc] at h
 | block id c ih =>
   intro s Q h a w hR
   refine wp_block (wp_mono (ih s _ h a w hR) ?_)
   rintro e a' w' ⟨s',cv,h'⟩
   cases e with
   | exit i =>
     simp only [Exit.inBlock]
     by_cases hi:i=id
     · subst hi
       simp at h'
       rw [if_pos rfl]
       exact ⟨s',cv,h'⟩
     · have:Nat.beq i id=false:=by
        cases hb:Nat.beq i id with
        | true=>exact absurd (Nat.eq_of_beq_eq_true hb) hi
        | false=>rfl
       dsimp only at h'
       rw [this] at h'
       rw [if_neg hi]
       exact ⟨s',cv,h'⟩
   | _=>exact ⟨s',cv,h'⟩
 | loop c ih =>
   intro s Q h a w hR
   obtain ⟨α,T,μ,x0,fQ,gV⟩:=h.inv
   let p:Act->World->Nat->Prop:=fun a w n=>∃ x,μ x=n/\Rel E (T x) a w
   let I:Act->World->Prop:=fun a w=>∃ n,p a w n
   have hν:∀ a w,I a w->p a w (Classical.epsilon fun n=>p a w n/\∀ m,p a w m->n<=m)/\∀ m,p a w m->(Classical.epsilon fun n=>p a w n/\∀ m,p a w m->n<=m)<=m:=fun a w h=>Classical.epsilon_spec (exists_least (p a w) h)
   refine wp_loop I (fun a w=>Classical.epsilon fun n=>p a w n/\∀ m,p a w m->n<=m) ⟨μ x0,x0,rfl,fQ E a w rfl hR⟩ ?_
   intro a w hI
   obtain ⟨⟨x,hx,mT⟩,mU⟩:=hν a w hI
   refine wp_mono (ih (T x) _ (gV x) a w mT) ?_
   rintro e a' w' ⟨s',cv,h'⟩
   cases e with
   | normal =>
     obtain ⟨y,aa,mV⟩:=h'
     have hp:p a' w' (μ y):=⟨y,rfl,mV E a' w' rfl cv⟩
     have jT:I a' w':=⟨_,hp⟩
     exact ⟨jT,by have:=(hν a' w' jT).2 _ hp; omega⟩
   | _=>exact ⟨s',cv,h'⟩
 | _=>exact fun s Q h a w hR=>h.elim
end Go.Am
