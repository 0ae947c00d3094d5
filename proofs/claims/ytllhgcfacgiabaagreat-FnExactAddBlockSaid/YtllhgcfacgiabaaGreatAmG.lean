import Derived.Test.YtllhgcfacgiabaaGreatAmC
namespace Go.Am
open Go.RowKit
set_option linter.unusedVariables false
set_option linter.unusedSimpArgs false
inductive FrC (ho:Hp):AV->AV->Prop
 | refl (a:AV) (h:a.idOf=none) (hg:∀ cs,a≠.agg cs):FrC ho a a
 | own (id len e s:Nat) (rows:List (List AV)) (h:look ho id=some (.list e s rows)) (h2:len<=rows.length):FrC ho (.own id len) (.lst (rows.take len))
 | nil:FrC ho (.val (.slice none 0 0)) (.lst [])
 | sb (id row len e s:Nat) (rows:List (List AV)) (h:look ho id=some (.list e s rows)) (h2:row + len<=rows.length):FrC ho (.sb id row 0 len) (.lst ((rows.drop row).take len))
 | nest {b:Bool} (id len e s:Nat) (rows rows':List (List AV)) (h:look ho id=some (.nest (c:=b) e s rows)) (h2:len<=rows.length) (hz:FzR s rows rows'):FrC ho (.own id len) (.lst (rows'.take len))
inductive FrV (ho:Hp):AV->AV->Prop
 | agg (cs ds:List AV) (h:Al (FrC ho) cs ds):FrV ho (.agg cs) (.agg ds)
 | tup (cs ds:List AV) (h:Al (FrC ho) cs ds):FrV ho (.tup cs) (.tup ds)
 | cell {a b:AV} (hg:∀ cs,a≠.agg cs) (ht:∀ cs,a≠.tup cs) (h:FrC ho a b):FrV ho a b
theorem FrC.rel_sb {E:Env} {ι:Loc} {S:Nat->Prop} {ho:Hp} {nx:Nat} {w:World} (hC:Core E ι S ho nx w) {v:Value} {id row len e s:Nat} {rows:List (List AV)} (h:look ho id=some (.list e s rows)) (h2:row + len<=rows.length) (hv:A9 w S ι v (.sb id row 0 len)):A9 w (fun g=>S g∨Mut ι g) (fun _=>none) v (.lst ((rows.drop row).take len)):=by
 obtain ⟨_,_,an⟩:=hC.obj id _ h
 have hl:((rows.drop row).take len).length=len:=by simp; omega
 cases hv with
 | rd hv=>cases hv
 | sb0 _ _ _ hg =>
   rw [List.take_zero]
   exact .rd (.nil _ _ (Nat.zero_le _))
 | sb _ _ _ _ g c s2 o cap hg h1 h3 bY =>
   cases an with
   | nil _ _ h' _=>rw [hg] at h'; cases h'
   | list g' cap' _ _ _ vs h' hs hr ax hm hw hn hc =>
     rw [hg] at h'; simp at h'; obtain ⟨rfl,rfl,rfl⟩:=h'
     by_cases h0:len=0
     · subst h0; rw [List.take_zero]; exact .rd (.nil _ _ h3)
     · obtain rfl:=bY (by omega)
       have aV:rows.length * s2<=c * s2:=Nat.mul_le_mul_right _ ax
       have bd:(row + len) * s2<=rows.length * s2:=Nat.mul_le_mul_right _ h2
       rw [Nat.add_mul] at bd
       have bh:((rows.drop row).take len).flatten=(rows.flatten.drop (row * s2)).take (len * s2):=by
        rw [By _ _ fun r aD=>hr r (List.mem_of_mem_drop aD),I3 rows _ hr]
       have:=Rd.lst (w:=w) (S:=fun g=>S g∨Mut ι g) ((rows.drop row).take len) g (row * s2 + 0) cap s2 ((vs.drop (row * s2)).take (len * s2)) (fun e'=>by rw [e'] at hl; simp at hl; omega) (by omega) h3 (.inr ⟨_,_,_,hg⟩) (fun r aD=>hr r (List.mem_of_mem_drop (List.mem_of_mem_take aD))) (by rw [hl,List.length_take,List.length_drop,hn]; omega)
        (fun i v hi=>by
          rw [List.getElem?_take] at hi
          split at hi
          · rw [List.getElem?_drop] at hi
            exact cells_of_block hw _ v hi
          · cases hi)
        (fun i v av hi ha=>by
          rw [bh] at ha
          rw [List.getElem?_take] at hi ha
          split at hi
          · rename_i aa
            rw [if_pos aa] at ha
            rw [List.getElem?_drop] at hi ha
            exact (hc _ v av hi ha).mono fun b hb=>⟨.inl hb,rfl⟩
          · cases hi)
       rw [hl] at this
       exact .rd this
theorem FrC.rel {E:Env} {ι:Loc} {S:Nat->Prop} {ho:Hp} {nx:Nat} {w:World} (hC:Core E ι S ho nx w) {v:Value} {a b:AV} (h:FrC ho a b) (hv:A9 w S ι v a):A9 w (fun g=>S g∨Mut ι g) (fun _=>none) v b:=by
 have eP:∀ b,S b->(S b∨Mut ι b)/\w.heap[b]?=w.heap[b]?:=fun b hb=>⟨.inl hb,rfl⟩
 cases h with
 | refl _ h hg=>exact hv.mono (K:=fun _=>False) ⟨eP,fun id p hid _=>hid.elim⟩ (fun id hid=>by rw [h] at hid; cases hid)
 | nil=>cases hv with | rd hv=>cases hv; exact .rd (.nil _ _ (Nat.zero_le _))
 | own id len e s rows h h2 =>
   obtain ⟨_,_,an⟩:=hC.obj id _ h
   have hl:(rows.take len).length=len:=by simp; omega
   rcases (Bi.one (Eo.cell hv)).own_inv with ⟨g,cap,s2,hg,g1,g2,ev⟩ | ⟨hg,rfl,ev⟩
   · subst ev
     cases an with
     | nil _ _ h' _=>rw [hg] at h'; cases h'
     | list g' cap' _ _ _ vs h' hs hr ax hm hw hn hc =>
       rw [hg] at h'; simp at h'; obtain ⟨rfl,rfl,rfl⟩:=h'
       by_cases h0:len=0
       · subst h0; exact .rd (.nil _ _ g2)
       · have aV:rows.length * s2<=cap * s2:=Nat.mul_le_mul_right _ ax
         have bd:len * s2<=rows.length * s2:=Nat.mul_le_mul_right _ h2
         have:=Rd.lst (w:=w) (S:=fun g=>S g∨Mut ι g) (rows.take len) g 0 cap s2 (vs.take (len * s2)) (fun e'=>by rw [e'] at hl; simp at hl; omega) (by omega) hm (.inr ⟨_,_,_,hg⟩) (fun r aD=>hr r (List.mem_of_mem_take aD)) (by rw [hl,List.length_take,hn]; omega)
          (fun i v hi=>by
            rw [Nat.zero_add]
            rw [List.getElem?_take] at hi
            split at hi
            · exact cells_of_block hw i v hi
            · cases hi)
          (fun i v av hi ha=>by
            rw [By _ _ hr] at ha
            rw [List.getElem?_take] at hi ha
            split at hi
            · rename_i aa
              rw [if_pos aa] at ha
              exact (hc i v av hi ha).mono eP
            · cases hi)
         rw [hl] at this
         exact .rd this
   · subst ev
     simp only [List.take_zero]
     exact .rd (.nil _ _ (Nat.zero_le _))
 | sb id row len e s rows h h2=>exact FrC.rel_sb hC h h2 hv
 | nest id len e s rows rows' h h2 hz =>
   obtain ⟨_,_,an⟩:=hC.obj id _ h
   exact .rd (Tt an hv (fun b hb=>.inl hb) (fun k g c z _ hg=>.inr ⟨k,c,z,hg⟩) h2 hz)
theorem FrC.off {ho:Hp} {a b:AV} (h:FrC ho a b):b.idOf=none/\∀ cs,b≠.agg cs:=by
 cases h with
 | refl _ h hg=>exact ⟨h,hg⟩
 | own=>exact ⟨rfl,fun _ e=>by cases e⟩
 | nil=>exact ⟨rfl,fun _ e=>by cases e⟩
 | sb=>exact ⟨rfl,fun _ e=>by cases e⟩
 | nest=>exact ⟨rfl,fun _ e=>by cases e⟩
theorem FrV.off {ho:Hp} {a b:AV} (h:FrV ho a b):b.uses (inH []):=by
 cases h with
 | cell hg ht h =>
   have ho:=h.off
   refine Db ho.2 ?_ (fun id e=>by rw [ho.1] at e; cases e)
   cases h with
   | refl=>exact ht
   | own=>intro cs e; cases e
   | nil=>intro cs e; cases e
   | sb=>intro cs e; cases e
   | nest=>intro cs e; cases e
 | agg cs ds h =>
   intro d hd id e
   obtain ⟨i,hi⟩:=List.mem_iff_getElem?.1 hd
   have aa:i < cs.length:=by rw [h.length]; exact (List.getElem?_eq_some_iff.1 hi).1
   rw [(h.at (List.getElem?_eq_getElem aa) hi).off.1] at e
   cases e
 | tup cs ds h =>
   intro d hd
   obtain ⟨i,hi⟩:=List.mem_iff_getElem?.1 hd
   have aa:i < cs.length:=by rw [h.length]; exact (List.getElem?_eq_some_iff.1 hi).1
   obtain ⟨o1,o2⟩:=(h.at (List.getElem?_eq_getElem aa) hi).off
   exact ⟨fun id e=>(by rw [o1] at e; cases e),fun cs e=>absurd e (o2 cs)⟩
theorem FrV.rel {E:Env} {ι:Loc} {S:Nat->Prop} {ho:Hp} {nx:Nat} {w:World} (hC:Core E ι S ho nx w) {v:Value} {a b:AV} (h:FrV ho a b) (hv:Bi w S ι v a):Bi w (fun g=>S g∨Mut ι g) (fun _=>none) v b:=by
 cases h with
 | cell hg ht h =>
   cases hv with
   | one hv=>cases hv with
     | cell hv=>exact .one (.cell (h.rel hC hv))
     | agg=>exact absurd rfl (hg _)
   | tup=>exact absurd rfl (ht _)
   | any=>cases h with | refl=>exact .any v
 | agg cs ds h =>
   obtain ⟨vs,rfl,di⟩:=hv.agg_inv
   refine .one (.agg _ _ (Al.of (di.length.trans h.length) fun i v d gX hd=>?_))
   have aa:i < cs.length:=by rw [h.length]; exact (List.getElem?_eq_some_iff.1 hd).1
   have hc:=List.getElem?_eq_getElem aa
   exact (h.at hc hd).rel hC (di.at gX hc)
 | tup cs ds h =>
   cases hv with
   | one hv=>cases hv with | cell h=>exact absurd rfl (h.not_agg.2 _)
   | tup vs _ di =>
     refine .tup vs ds (Al.of (di.length.trans h.length) fun i v d gX hd=>?_)
     have aa:i < cs.length:=by rw [h.length]; exact (List.getElem?_eq_some_iff.1 hd).1
     have hc:=List.getElem?_eq_getElem aa
     have hf:=h.at hc hd
     have hx:=di.at gX hc
     generalize cs[i]=c at *
     cases hx with
     | cell hx=>exact .cell (hf.rel hC hx)
     | agg ws es hx=>cases hf with | refl _ _ hg=>exact absurd rfl (hg _)
theorem Ret.freeze {P:Program} {f:FuncId} {args:List AV} {n:Nat} {Q Q':AV->Hp->Nat->Prop} (hQ:∀ r ho m,Q r ho m->∃ r',FrV ho r r'/\Q' r' [] n) (h:Ret P f args [] n true Q):Ret P f args [] n true Q':=by
 refine ⟨h.enter,fun w ι A vs hC h1 h2 h3 h4=>Calls.mono (h.calls w ι A vs hC h1 h2 h3 h4) ?_⟩
 rintro e w' ⟨v,r,ho,m,ι',S',rfl,hq,fu,ay,b8,hv,hu,bG,eh,eB,bl⟩
 obtain ⟨r',fB,ac⟩:=hQ _ _ _ hq
 refine ⟨v,r',[],n,fun _=>none,fun g=>S' g∨Mut ι' g,rfl,ac,Nat.le_refl _,⟨ay.frame,?_,?_,(fun b _ ⟨id,c,s,e⟩=>by cases e),(fun id g c s e=>by cases e),(fun i j g c d s r e=>by cases e),fun id _=>rfl,(fun id o e=>by simp [look] at e),(fun id p e=>by cases e),⟨fun id _=>rfl,fun e=>by cases e⟩⟩,fun id _=>rfl,fB.rel ay hv,fB.off,(fun id o e=>by simp [look] at e),fun id h=>(h rfl).elim,?_,(fun k o p e=>by simp [look] at e)⟩
 · rintro b (hb | ⟨id,c,s,e⟩)
   · exact ay.sub b hb
   · rcases (ay.own id b c s e).2 with h | ⟨id',c',s',h⟩
     · exact .inr h
     · have:ι id'=none:=h1 id' rfl
       rw [this] at h; cases h
 · rintro b (hb | ⟨id,c,s,e⟩)
   · exact ay.lt b hb
   · exact (ay.own id b c s e).1
 · intro id h; exact absurd rfl h
theorem Vg {ho:Hp} {id e s len:Nat} {rows:List (List AV)} (h:look ho id=some (.list e s rows)) (hl:len=rows.length):FrC ho (.own id len) (.lst rows):=by
 have:=FrC.own id len e s rows h (by omega)
 rwa [List.take_of_length_le (by omega)] at this
theorem Ia.is {P:Program} {f:FuncId} {avs:List AV} {s:St} {d:Nat} {K:St->Prop} {v:AV} (hn:Nw avs=true) (aB:∀ n,Ret P f avs [] n true (Is v [] n)) (h:K ⟨(d,v)::s.tm,s.hp,s.nx⟩):Ia P f avs s d K :=
 ⟨⟨v,fun hp=>R0 hn,aB,h⟩⟩
theorem b1z {hp hi:Hp} {share:Bool} {a:AV} (h:(Df (keys hi) a&&Va a)=true):Cv hp hi share a a:=by
 simp only [Bool.and_eq_true] at h
 exact .cell (fun _ e=>by rw [e] at h; simp [Va] at h) (fun _ e=>by rw [e] at h; simp [Va] at h) (.refl a (fun id hid=>E0.1 (Cb h.1 id hid)) (.inr (.inr trivial)))
theorem b0P {hp hi:Hp} {id e s len:Nat} {rows:List (List AV)} (h:look hp id=some (.list e s rows)) (h1:look hi id=none) (hl:len=rows.length):CvC hp hi false (.own id len) (.lst rows):=by
 have:=CvC.own (hp:=hp) (hi:=hi) (share:=false) id len e s rows h h1 (by omega) rfl
 rwa [List.take_of_length_le (by omega)] at this
theorem b1A {hp hi:Hp} {id e s len:Nat} {rows:List (List AV)} (h:look hp id=some (.list e s rows)) (h1:look hi id=none) (hl:len=rows.length):Cv hp hi false (.own id len) (.lst rows) :=
 .cell (fun _ e=>by cases e) (fun _ e=>by cases e) (b0P h h1 hl)
theorem Aa.heapConv {P:Program} {fx:List Nat} {f:FuncId} {avs:List AV} {tm:List (Nat × AV)} {hp:Hp} {nx:Nat} {dst:Option Nat} {K:St->Prop} {hi:Hp} {st:Bool} {args:List AV} {Q:AV->Hp->Nat->Prop} (aB:Ret P f args hi nx st Q) (cb:Al (Cv hp hi false) avs args) (hp':a0V hp (keys hi) hi) (hx:Xt fx (Bq st hi)=true)
 (h:∀ r ho m,Q r ho m->(Ld r=true/\Kg ho)/\K ⟨Na dst r (G3 (Bq st hi) tm),ho++Mf (Bq st hi) hp,m⟩):Aa P fx f avs ⟨tm,hp,nx⟩ dst K :=
 Aa.plain ⟨args,hi,st,false,Q,cb,Qq (fun i aQ=>E0.1 aQ) hp',aB,Xu hx,fun r ho m hq=>⟨fun _=>⟨(h r ho m hq).1.1,Qp (h r ho m hq).1.2⟩,(h r ho m hq).2⟩⟩
theorem Aa.heapConvIs {P:Program} {fx:List Nat} {f:FuncId} {avs:List AV} {tm:List (Nat × AV)} {hp:Hp} {nx:Nat} {dst:Option Nat} {K:St->Prop} {hi:Hp} {st:Bool} {args:List AV} {r:AV} {ho:Hp} {m:Nat} (aB:Ret P f args hi nx st (Is r ho m)) (cb:Al (Cv hp hi false) avs args) (hp':a0V hp (keys hi) hi) (hx:Xt fx (Bq st hi)=true)
 (hf:Ld r=true) (fV:Kg ho) (h:K ⟨Na dst r (G3 (Bq st hi) tm),ho++Mf (Bq st hi) hp,m⟩):Aa P fx f avs ⟨tm,hp,nx⟩ dst K :=
 Aa.heapConv aB cb hp' hx (by rintro _ _ _ ⟨rfl,rfl,rfl⟩; exact ⟨⟨hf,fV⟩,h⟩)
inductive Yb (hi ho:Hp):AV->AV->Prop
 | refl (a:AV) (h:∀ id,a.idOf=some id->inH hi id) (hg:∀ cs,a≠.agg cs):Yb hi ho a a
 | own (id len e s:Nat) (rows:List (List AV)) (h0:look hi id=none) (h:look ho id=some (.list e s rows)) (h2:len<=rows.length):Yb hi ho (.own id len) (.lst (rows.take len))
 | nil:Yb hi ho (.val (.slice none 0 0)) (.lst [])
 | nest {b:Bool} (id len e s:Nat) (rows rows':List (List AV)) (h0:look hi id=none) (h:look ho id=some (.nest (c:=b) e s rows)) (h2:len<=rows.length) (hz:FzR s rows rows'):Yb hi ho (.own id len) (.lst (rows'.take len))
inductive a5q (hi ho:Hp):AV->AV->Prop
 | agg (cs ds:List AV) (h:Al (Yb hi ho) cs ds):a5q hi ho (.agg cs) (.agg ds)
 | tup (cs ds:List AV) (h:Al (Yb hi ho) cs ds):a5q hi ho (.tup cs) (.tup ds)
 | cell {a b:AV} (hg:∀ cs,a≠.agg cs) (ht:∀ cs,a≠.tup cs) (h:Yb hi ho a b):a5q hi ho a b
def a6L (hi:Hp) (ι:Loc):Loc:=fun k=>match look hi k.id with | some _=>ι k | none=>none
def a6M (hi:Hp) (ι:Loc) (S:Nat->Prop):Nat->Prop:=fun g=>S g∨∃ (k:Key) (c s:Nat),look hi k.id=none/\ι k=some (.blk g c s)
theorem a9z {hi:Hp} {ι:Loc} {id:Key} (h:inH hi id.id):a6L hi ι id=ι id:=by
 unfold a6L
 cases hl:look hi id.id with
 | none=>exact absurd hl h
 | some _=>rfl
theorem Yb.rel {E:Env} {ι:Loc} {S:Nat->Prop} {hi ho:Hp} {nx:Nat} {w:World} (hC:Core E ι S ho nx w) {v:Value} {a b:AV} (h:Yb hi ho a b) (hv:A9 w S ι v a):A9 w (a6M hi ι S) (a6L hi ι) v b:=by
 have eP:∀ b,S b->a6M hi ι S b/\w.heap[b]?=w.heap[b]?:=fun b hb=>⟨.inl hb,rfl⟩
 cases h with
 | refl _ h hg=>exact hv.mono (K:=inH hi) ⟨eP,fun id p hid hp=>by rw [a9z hid]; exact hp⟩ h
 | nil=>cases hv with | rd hv=>cases hv; exact .rd (.nil _ _ (Nat.zero_le _))
 | own id len e s rows h0 h h2 =>
   obtain ⟨_,_,an⟩:=hC.obj id _ h
   have hl:(rows.take len).length=len:=by simp; omega
   rcases (Bi.one (Eo.cell hv)).own_inv with ⟨g,cap,s2,hg,g1,g2,ev⟩ | ⟨hg,rfl,ev⟩
   · subst ev
     cases an with
     | nil _ _ h' _=>rw [hg] at h'; cases h'
     | list g' cap' _ _ _ vs h' hs hr ax hm hw hn hc =>
       rw [hg] at h'; simp at h'; obtain ⟨rfl,rfl,rfl⟩:=h'
       by_cases hz:len=0
       · subst hz; exact .rd (.nil _ _ g2)
       · have aV:rows.length * s2<=cap * s2:=Nat.mul_le_mul_right _ ax
         have bd:len * s2<=rows.length * s2:=Nat.mul_le_mul_right _ h2
         have:=Rd.lst (w:=w) (S:=a6M hi ι S) (rows.take len) g 0 cap s2 (vs.take (len * s2)) (fun e'=>by rw [e'] at hl; simp at hl; omega) (by omega) hm (.inr ⟨_,_,_,h0,hg⟩) (fun r aD=>hr r (List.mem_of_mem_take aD)) (by rw [hl,List.length_take,hn]; omega)
          (fun i v hi=>by
            rw [Nat.zero_add]
            rw [List.getElem?_take] at hi
            split at hi
            · exact cells_of_block hw i v hi
            · cases hi)
          (fun i v av hi ha=>by
            rw [By _ _ hr] at ha
            rw [List.getElem?_take] at hi ha
            split at hi
            · rename_i aa
              rw [if_pos aa] at ha
              exact (hc i v av hi ha).mono eP
            · cases hi)
         rw [hl] at this
         exact .rd this
   · subst ev
     simp only [List.take_zero]
     exact .rd (.nil _ _ (Nat.zero_le _))
 | nest id len e s rows rows' h0 h h2 hz =>
   obtain ⟨_,_,an⟩:=hC.obj id _ h
   exact .rd (Tt an hv (fun b hb=>.inl hb) (fun k g c z hk hg=>.inr ⟨k,c,z,by rw [hk]; exact h0,hg⟩) h2 hz)
theorem Yb.off {hi ho:Hp} {a b:AV} (h:Yb hi ho a b):(∀ id,b.idOf=some id->inH hi id)/\∀ cs,b≠.agg cs:=by
 cases h with
 | refl _ h hg=>exact ⟨h,hg⟩
 | own=>exact ⟨fun _ e=>(by cases e),fun _ e=>by cases e⟩
 | nil=>exact ⟨fun _ e=>(by cases e),fun _ e=>by cases e⟩
 | nest=>exact ⟨fun _ e=>(by cases e),fun _ e=>by cases e⟩
theorem a5q.off {hi ho:Hp} {a b:AV} (h:a5q hi ho a b):b.uses (inH hi):=by
 cases h with
 | cell hg ht h =>
   have ho:=h.off
   refine Db ho.2 ?_ ho.1
   cases h with
   | refl=>exact ht
   | own=>intro cs e; cases e
   | nil=>intro cs e; cases e
   | nest=>intro cs e; cases e
 | agg cs ds h =>
   intro d hd id e
   obtain ⟨i,hi⟩:=List.mem_iff_getElem?.1 hd
   have aa:i < cs.length:=by rw [h.length]; exact (List.getElem?_eq_some_iff.1 hi).1
   exact (h.at (List.getElem?_eq_getElem aa) hi).off.1 id e
 | tup cs ds h =>
   intro d hd
   obtain ⟨i,hi⟩:=List.mem_iff_getElem?.1 hd
   have aa:i < cs.length:=by rw [h.length]; exact (List.getElem?_eq_some_iff.1 hi).1
   obtain ⟨o1,o2⟩:=(h.at (List.getElem?_eq_getElem aa) hi).off
   exact ⟨o1,fun cs e=>absurd e (o2 cs)⟩
theorem a5q.rel {E:Env} {ι:Loc} {S:Nat->Prop} {hi ho:Hp} {nx:Nat} {w:World} (hC:Core E ι S ho nx w) {v:Value} {a b:AV} (h:a5q hi ho a b) (hv:Bi w S ι v a):Bi w (a6M hi ι S) (a6L hi ι) v b:=by
 cases h with
 | cell hg ht h =>
   cases hv with
   | one hv=>cases hv with
     | cell hv=>exact .one (.cell (h.rel hC hv))
     | agg=>exact absurd rfl (hg _)
   | tup=>exact absurd rfl (ht _)
   | any=>cases h with | refl=>exact .any v
 | agg cs ds h =>
   obtain ⟨vs,rfl,di⟩:=hv.agg_inv
   refine .one (.agg _ _ (Al.of (di.length.trans h.length) fun i v d gX hd=>?_))
   have aa:i < cs.length:=by rw [h.length]; exact (List.getElem?_eq_some_iff.1 hd).1
   have hc:=List.getElem?_eq_getElem aa
   exact (h.at hc hd).rel hC (di.at gX hc)
 | tup cs ds h =>
   cases hv with
   | one hv=>cases hv with | cell h=>exact absurd rfl (h.not_agg.2 _)
   | tup vs _ di =>
     refine .tup vs ds (Al.of (di.length.trans h.length) fun i v d gX hd=>?_)
     have aa:i < cs.length:=by rw [h.length]; exact (List.getElem?_eq_some_iff.1 hd).1
     have hc:=List.getElem?_eq_getElem aa
     have hf:=h.at hc hd
     have hx:=di.at gX hc
     generalize cs[i]=c at *
     cases hx with
     | cell hx=>exact .cell (hf.rel hC hx)
     | agg ws es hx=>cases hf with | refl _ _ hg=>exact absurd rfl (hg _)
theorem A2.uses_mono {K K':Nat->Prop} (h:∀ i,K i->K' i) {o:A2} (ho:o.uses K):o.uses K':=by
 cases o with
 | box cs=>exact fun c hc id hid=>h _ (ho c hc id hid)
 | list=>trivial
 | map=>trivial
 | ranged=>trivial
 | clo=>exact ⟨fun c hc id hid=>h _ (ho.1 c hc id hid),fun c hc id hid=>h _ (ho.2 c hc id hid)⟩
 | nest e s rows=>exact fun h0 c hc id hid=>h _ (ho h0 c hc id hid)
theorem Jz {ho:Hp} {id e s len:Nat} {rows:List (List AV)} (h:look ho id=some (.list e s rows)) (hl:len=rows.length):FrV ho (.own id len) (.lst rows):=.cell (fun _ e=>by cases e) (fun _ e=>by cases e) (Vg h hl)
theorem Ac.name {fx:List Nat} {tm:List (Nat × AV)} {hp:Hp} {nx:Nat} (id k e s:Nat) (cs:List AV) (hs:0 < s) (hl:look hp id=some (.box cs)) (hk:cs[k]?=some nl) :
 Ac fx ⟨tm,hp,nx⟩ ⟨tm,(id,.box (cs.set k (.own nx 0)))::(nx,.list e s [])::hp,nx + 1⟩:=by
 rintro E a w _ ⟨ao,hd,ι,S,hC,ab⟩
 obtain ⟨e7,e8,an⟩:=hC.obj id _ hl
 have hid:id < nx:=e7
 have eJ:∀ c∈cs,∀ j,c.idOf=some j->j < nx:=e8
 have aj:∀ i:Key,i.id < nx->put ι nx (some .nil) i=ι i:=fun i hi=>Ci _ _ (by first | omega | (dsimp only; omega) | (dsimp only at *; omega))
 have hL:Later w w S S ι (put ι nx (some .nil)) (· < nx):=⟨fun b hb=>⟨hb,rfl⟩,fun i p hi hp'=>by rw [aj i hi]; exact hp'⟩
 have blk:∀ (i:Key) g c z,put ι nx (some .nil) i=some (.blk g c z)->ι i=some (.blk g c z):=by
  intro i g c z h
  by_cases e:i=(nx:Key)
  · subst e; rw [As] at h; cases h
  · rwa [Dd _ _ e] at h
 refine ⟨ao,hd,put ι nx (some .nil),S,⟨hC.frame,hC.sub,hC.lt,?_,?_,?_,?_,?_,?_,hC.fxs⟩,Core.tm ab (Nat.le_succ _) hL⟩
 · rintro b hb ⟨i,c,z,h⟩; exact hC.dis b hb ⟨i,c,z,blk i _ _ _ h⟩
 · intro i g c z h; exact hC.own i g c z (blk i _ _ _ h)
 · intro i j g c d z r h1 h2; exact hC.inj i j g _ _ _ _ (blk i _ _ _ h1) (blk j _ _ _ h2)
 · intro i hi
   have aQ:nx + 1<=i.id:=hi
   rw [Ci _ _ (by first | omega | (dsimp only; omega) | (dsimp only at *; omega))]; exact hC.new i (by show nx<=i.id; omega)
 · intro i o h
   by_cases e9:id=i
   · subst e9
     rw [Ae] at h
     simp only [Option.some.injEq] at h
     subst h
     refine ⟨by show id < nx + 1; omega,?_,?_⟩
     · intro c hc j hj
       rcases List.mem_or_eq_of_mem_set hc with h' | rfl
       · have:=eJ c h' j hj; show j < nx + 1; omega
       · simp [AV.idOf] at hj; show j < nx + 1; omega
     · cases an with
       | box g c z T cs vs h h0 hw bK =>
         refine .box g c z T _ vs ((aj _ hid).trans h) h0 hw (Al.of (by rw [List.length_set]; exact bK.length) fun j v x hv hx=>?_)
         by_cases ejk:j=k
         · subst ejk
           have aa:j < cs.length:=(List.getElem?_eq_some_iff.1 hk).1
           rw [List.getElem?_set_self aa] at hx
           simp only [Option.some.injEq] at hx
           subst hx
           have hc:=bK.at hv hk
           have aY:=(Bi.one (Eo.cell hc)).val_inv.1
           subst aY
           exact .own0 nx (As _ _ _)
         · rw [List.getElem?_set_ne (fun e=>ejk e.symm)] at hx
           exact (bK.at hv hx).mono hL fun j' aN=>eJ x (List.mem_of_getElem? hx) j' aN
   · rw [An _ _ e9] at h
     by_cases e2:nx=i
     · subst e2
       rw [Ae] at h
       simp only [Option.some.injEq] at h
       subst h
       exact ⟨Nat.lt_succ_self _,trivial,.nil e s (As _ _ _) hs⟩
     · rw [An _ _ e2] at h
       obtain ⟨h1,h2,h3⟩:=hC.obj i o h
       have dh:i < nx:=h1
       exact ⟨Nat.lt_succ_of_lt dh,A2.uses_mono (fun j (hj:j < nx)=>Nat.lt_succ_of_lt hj) h2,h3.mono hL h1 h2 (fun _ k q hk hq=>by rw [Ci _ _ (by rw [hk]; exact Nat.ne_of_lt h1)]; exact hq) (fun _ _ _ _ _ _=>rfl)⟩
 · intro i p h
   have h':=hC.stay i p h
   have aa:i < nx:=by
    rcases Nat.lt_or_ge i nx with h2 | h2
    · exact h2
    · rw [hC.new ⟨i,[]⟩ (show nx<=i from h2)] at h'; cases h'
   rw [aj ⟨i,[]⟩ aa]; exact h'
theorem fr0 {ho:Hp} {a:AV} (h:(Df [] a&&Va a)=true):FrC ho a a:=by
 simp only [Bool.and_eq_true] at h
 refine .refl a ?_ (fun _ e=>by rw [e] at h; simp [Va] at h)
 cases hid:a.idOf with
 | none=>rfl
 | some id=>have:=Cb h.1 id hid; simp [Af] at this
theorem Ret.emp {P:Program} {f:FuncId} {hi:Hp} {n:Nat} {st:Bool} {Q:AV->Hp->Nat->Prop} (h:∀ (a:Option Addr) (cap:Nat),Ret P f [.val (.slice a 0 cap)] hi n st Q):Ret P f [.lst []] hi n st Q:=by
 refine ⟨(h none 0).enter,fun w ι A vs hC h1 h2 h3 h4=>?_⟩
 match vs,h2 with
 | [v],h2 =>
   have hr:=h2.1.lst_inv
   cases hr with
   | nil a cap iI =>
     have hu:∀ x∈[AV.val (.slice a 0 cap)],x.uses (inH hi):=by
      intro x hx
      rcases List.mem_singleton.1 hx with rfl
      trivial
     exact (h a cap).calls w ι A [.slice a 0 cap] hC h1 ⟨.one (.cell (.rd (.val _ rfl))),trivial⟩ hu h4
   | lst _ _ _ _ _ _ h0=>exact absurd rfl h0
def a06 (a b:AV):Prop:=a=b∨(a=nl/\b=.lst [])
theorem Ret.frList {P:Program} {f:FuncId} {args:List AV} {n e s len:Nat} {rows:List (List AV)} (hl:len=rows.length) (h:Ret P f args [] n true (Is (.own n len) [(n,.list e s rows)] (n + 1))):Ret P f args [] n true (Is (.lst rows) [] n):=by
 refine Ret.freeze (fun r ho k hq=>?_) h
 obtain ⟨rfl,rfl,rfl⟩:=hq
 exact ⟨_,.cell (fun _ e=>by cases e) (fun _ e=>by cases e) (Vg (Ae _ _ _) hl),rfl,rfl,rfl⟩
theorem Sf {p:Prop} (h:p:=by repeat' first | exact trivial | exact b1z rfl | exact Qt rfl | exact b1h | exact b1A rfl rfl (by (first | rfl | (simp only [List.length_map]; done) | (simp only [List.length_map]; first | rfl | assumption | omega))) | refine And.intro ?_ ?_):p:=h
end Go.Am
