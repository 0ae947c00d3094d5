import Derived.Test.YtllhgcfacgiabaaGreatAm7
namespace Go.Am
open Go.RowKit
set_option linter.unusedVariables false
set_option linter.unusedSimpArgs false
variable {E:Env} {s:St} {a:Act} {w:World} {ι:Loc} {S:Nat->Prop} {tt:Tab}
def inB:AV->Bool
 | .val _=>true
 | .lst _=>true
 | .tree _ _ _=>true
 | _=>false
theorem A9.tr {w:World} {S:Nat->Prop} {ι:Loc} {k:Key} {v:Value} {a:AV} {b:Bool} (h:(b=false/\A9 w S ι v a)∨Tr w S ι k v a) (hb:inB a=true):Tr w S ι k v a:=by
 rcases h with ⟨_,h⟩ | h
 · cases h with
   | rd h=>exact .rd h
   | _=>simp [inB] at hb
 · exact h
inductive Fz:AV->AV->Prop
 | val (v:Value):Fz (.val v) (.val v)
 | nil:Fz (.val (.slice none 0 0)) (.lst [])
 | lst (rows:List (List AV)):Fz (.lst rows) (.lst rows)
 | tree (e s:Nat) (rows rows':List (List AV)) (hl:rows'.length=rows.length) (hr:∀ r∈rows',r.length=s) (h:∀ (i:Nat) (a b:AV),rows.flatten[i]?=some a->rows'.flatten[i]?=some b->Fz a b):Fz (.tree e s rows) (.lst rows')
theorem Fz.inB {a b:AV} (h:Fz a b):inB a=true:=by cases h <;> rfl
theorem Fz.rd {w:World} {S S':Nat->Prop} {ι:Loc} {id:Nat} (hS:∀ b,S b->S' b) (hm:∀ (k:Key) g c z,k.id=id->ι k=some (.blk g c z)->S' g) {a b:AV} (h:Fz a b):∀ {k:Key} {v:Value},k.id=id->Tr w S ι k v a->Rd w S' v b:=by
 induction h with
 | val u =>
   intro k v hk ht
   cases ht with | rd h=>exact h.mono fun b hb=>⟨hS b hb,rfl⟩
 | nil =>
   intro k v hk ht
   cases ht with | rd h=>cases h; exact .nil _ _ (Nat.zero_le _)
 | lst rows =>
   intro k v hk ht
   cases ht with | rd h=>exact h.mono fun b hb=>⟨hS b hb,rfl⟩
 | tree e s rows rows' hl hr h ih =>
   intro k v hk ht
   cases ht with
   | rd h=>cases h
   | nil _ _ _ hs =>
     obtain rfl:rows'=[]:=List.eq_nil_of_length_eq_zero (by simpa using hl)
     exact .nil _ _ (Nat.zero_le _)
   | tree _ g cap _ _ _ vs hg hs d3 ax iR hw hn hc =>
     by_cases h0:rows=[]
     · subst h0
       obtain rfl:rows'=[]:=List.eq_nil_of_length_eq_zero (by simpa using hl)
       exact .nil _ _ iR
     · have aE:0 < rows.length:=List.length_pos_iff.2 h0
       have aV:rows.length * s<=cap * s:=Nat.mul_le_mul_right _ ax
       have:=Rd.lst (w:=w) (S:=S') rows' g 0 cap s (vs.take (rows.length * s)) (fun e'=>by rw [e'] at hl; simp at hl; omega) (by omega) iR (hm k g cap s hk hg) hr (by rw [hl,List.length_take,hn]; omega)
        (fun i v hi=>by
          rw [Nat.zero_add]
          rw [List.getElem?_take] at hi
          split at hi
          · exact cells_of_block hw i v hi
          · cases hi)
        (fun i v b hi hb=>by
          rw [List.getElem?_take] at hi
          split at hi
          · rename_i aa
            have bB:i < rows.flatten.length:=by rw [Ay _ d3]; exact aa
            exact ih i _ b (List.getElem?_eq_getElem bB) hb (k:=⟨k.id,k.path++[i]⟩) hk (hc i v _ hi (List.getElem?_eq_getElem bB))
          · cases hi)
       rw [hl] at this
       exact this
structure FzR (s:Nat) (rows rows':List (List AV)):Prop where
 len:rows'.length=rows.length
 row:∀ r∈rows',r.length=s
 cell:∀ (i:Nat) (a b:AV),rows.flatten[i]?=some a->rows'.flatten[i]?=some b->Fz a b
theorem Tt {w:World} {S S':Nat->Prop} {ι:Loc} {b:Bool} {id e s len:Nat} {rows rows':List (List AV)} {v:Value} (an:Bp w S ι id (.nest (c:=b) e s rows)) (hv:A9 w S ι v (.own id len)) (hS:∀ b,S b->S' b) (hm:∀ (k:Key) g c z,k.id=id->ι k=some (.blk g c z)->S' g) (h2:len<=rows.length)
 (hz:FzR s rows rows'):Rd w S' v (.lst (rows'.take len)):=by
 have hl:(rows'.take len).length=len:=by rw [List.length_take,hz.len]; omega
 rcases (Bi.one (Eo.cell hv)).own_inv with ⟨g,cap,s2,hg,g1,g2,ev⟩ | ⟨hg,rfl,ev⟩
 · subst ev
   cases an with
   | nest0 _ _ h' _=>rw [hg] at h'; cases h'
   | nest g' cap' _ _ _ vs h' hs hr ax iR hw hn hc =>
     rw [hg] at h'; simp at h'; obtain ⟨rfl,rfl,rfl⟩:=h'
     by_cases h0:len=0
     · subst h0; exact .nil _ _ g2
     · have aV:rows.length * s2<=cap * s2:=Nat.mul_le_mul_right _ ax
       have bd:len * s2<=rows.length * s2:=Nat.mul_le_mul_right _ h2
       have bh:rows.flatten.length=rows.length * s2:=Ay _ hr
       have:=Rd.lst (w:=w) (S:=S') (rows'.take len) g 0 cap s2 (vs.take (len * s2)) (fun e'=>by rw [e'] at hl; simp at hl; omega) (by omega) g2 (hm ⟨id,[]⟩ g cap s2 rfl hg) (fun r aD=>hz.row r (List.mem_of_mem_take aD)) (by rw [hl,List.length_take,hn]; omega)
        (fun i v hi=>by
          rw [Nat.zero_add]
          rw [List.getElem?_take] at hi
          split at hi
          · exact cells_of_block hw i v hi
          · cases hi)
        (fun i v b hi hb=>by
          rw [By _ _ hz.row] at hb
          rw [List.getElem?_take] at hi hb
          split at hi
          · rename_i aa
            rw [if_pos aa] at hb
            have bB:i < rows.flatten.length:=by omega
            have hf:=hz.cell i _ b (List.getElem?_eq_getElem bB) hb
            exact hf.rd hS hm (k:=⟨id,[i]⟩) rfl (A9.tr (hc i v _ hi (List.getElem?_eq_getElem bB)) hf.inB)
          · cases hi)
       rw [hl] at this
       exact this
 · subst ev
   simp only [List.take_zero]
   exact .nil _ _ (Nat.zero_le _)
inductive CvC (hp hi:Hp) (share:Bool):AV->AV->Prop
 | refl (a:AV) (h:∀ id,a.idOf=some id->inH hi id) (hs:share=true∨a.idOf=none∨True):CvC hp hi share a a
 | nil:CvC hp hi share (.val (.slice none 0 0)) (.lst [])
 | own (id len e s:Nat) (rows:List (List AV)) (h:look hp id=some (.list e s rows)) (h1:look hi id=none) (h2:len<=rows.length) (h3:share=false):CvC hp hi share (.own id len) (.lst (rows.take len))
 | nest {b:Bool} (id len e s:Nat) (rows rows':List (List AV)) (h:look hp id=some (.nest (c:=b) e s rows)) (h1:look hi id=none) (h2:len<=rows.length) (h3:share=false) (hz:FzR s rows rows'):CvC hp hi share (.own id len) (.lst (rows'.take len))
def readC:AV->Bool
 | .val _=>true
 | .lst _=>true
 | _=>false
theorem A9.readC {w:World} {S:Nat->Prop} {ι:Loc} {v:Value} {a:AV} (h:A9 w S ι v a) (hr:readC a=true):Rd w S v a:=by
 cases h with
 | rd h=>exact h
 | _=>simp [Am.readC] at hr
inductive Cv (hp hi:Hp) (share:Bool):AV->AV->Prop
 | cell {a b:AV} (ha:∀ cs,a≠.agg cs) (ht:∀ cs,a≠.tup cs) (h:CvC hp hi share a b):Cv hp hi share a b
 | agg (cs ds:List AV) (h:Al (CvC hp hi share) cs ds):Cv hp hi share (.agg cs) (.agg ds)
 | box (id:Nat) (cs ds:List AV) (h:look hp id=some (.box cs)) (h1:look hi id=none) (h3:share=false) (hc:Al (CvC hp hi share) cs ds) (hr:ds.all readC=true):Cv hp hi share (.pt id 0 0) (.rp ds)
def Nn (share:Bool) (S:Nat->Prop) (w:World) (ιc:Loc):Nat->Prop:=fun b=>match share with
 | true=>S b
 | false=>b < w.heap.size/\¬ Mut ιc b
theorem CvC.rel {hp hi:Hp} {nx:Nat} {share:Bool} {ιc:Loc} (hC:Core E ι S hp nx w) (hιc:∀ k:Nat,inH hi k->ιc ⟨k,[]⟩=ι ⟨k,[]⟩) (aU:∀ (k:Key) p,ιc k=some p->ι k=some p/\inH hi k.id) {v:Value} {a b:AV} (h:CvC hp hi share a b) (hv:A9 w S ι v a) :
 A9 w (Nn share S w ιc) ιc v b:=by
 have eP:∀ b,S b->Nn share S w ιc b:=fun b hb=>by
  cases share with
  | true=>exact hb
  | false=>exact ⟨hC.lt b hb,fun ⟨id,c,s,e⟩=>hC.dis b hb ⟨id,c,s,(aU id _ e).1⟩⟩
 cases h with
 | refl _ h _=>exact hv.mono (K:=inH hi) ⟨fun b hb=>⟨eP b hb,rfl⟩,fun id p hid h=>by rw [hιc id hid]; exact h⟩ h
 | nil =>
   cases hv with
   | rd hv=>cases hv; exact .rd (.nil _ _ (Nat.zero_le _))
 | own id len e s rows h h1 h2 h3 =>
   subst h3
   obtain ⟨_,_,an⟩:=hC.obj id _ h
   have hl:(rows.take len).length=len:=by simp; omega
   rcases (Bi.one (Eo.cell hv)).own_inv with ⟨g,cap,s2,hg,g1,g2,ev⟩ | ⟨hg,rfl,ev⟩
   · subst ev
     cases an with
     | nil _ _ h' _=>rw [hg] at h'; cases h'
     | list g' cap' _ _ _ vs h' hs hr ax hm hw hn hc =>
       rw [hg] at h'; simp at h'; obtain ⟨rfl,rfl,rfl⟩:=h'
       by_cases h0:len=0
       · subst h0; exact .rd (.nil _ _ g2)
       · have aV:rows.length * s2<=cap * s2:=Nat.mul_le_mul_right _ ax
         have bd:len * s2<=rows.length * s2:=Nat.mul_le_mul_right _ h2
         have hA:Nn false S w ιc g:=⟨(hC.own id g cap s2 hg).1,fun ⟨i,c,s',e'⟩=>by
          have:=aU i _ e'
          have:=hC.inj i id g _ _ _ _ this.1 hg
          subst this
          exact (aU _ _ e').2 h1⟩
         have:=Rd.lst (w:=w) (S:=Nn false S w ιc) (rows.take len) g 0 cap s2 (vs.take (len * s2)) (fun e'=>by rw [e'] at hl; simp at hl; omega) (by omega) hm hA (fun r aD=>hr r (List.mem_of_mem_take aD)) (by rw [hl,List.length_take,hn]; omega)
          (fun i v hi=>by
            rw [Nat.zero_add]
            rw [List.getElem?_take] at hi
            split at hi
            · exact cells_of_block hw i v hi
            · cases hi)
          (fun i v av hi ha=>by
            rw [By _ _ hr] at ha
            rw [List.getElem?_take] at hi ha
            split at hi
            · rename_i aa
              rw [if_pos aa] at ha
              exact (hc i v av hi ha).mono fun b hb=>⟨eP b hb,rfl⟩
            · cases hi)
         rw [hl] at this
         exact .rd this
   · subst ev
     simp only [List.take_zero]
     exact .rd (.nil _ _ (Nat.zero_le _))
 | nest id len e s rows rows' h h1 h2 h3 hz =>
   subst h3
   obtain ⟨_,_,an⟩:=hC.obj id _ h
   refine .rd (Tt an hv eP (fun k g c z hk hg=>⟨(hC.own k g c z hg).1,fun ⟨i,c',s',e'⟩=>?_⟩) h2 hz)
   obtain ⟨q1,q2⟩:=aU i _ e'
   have:=hC.inj i k g _ _ _ _ q1 hg
   rw [this,hk] at q2
   exact q2 h1
theorem Cv.rel {hp hi:Hp} {nx:Nat} {share:Bool} {ιc:Loc} (hC:Core E ι S hp nx w) (hιc:∀ k:Nat,inH hi k->ιc ⟨k,[]⟩=ι ⟨k,[]⟩) (aU:∀ (k:Key) p,ιc k=some p->ι k=some p/\inH hi k.id) {v:Value} {a b:AV} (h:Cv hp hi share a b) (hv:Bi w S ι v a) :
 Bi w (Nn share S w ιc) ιc v b:=by
 cases h with
 | cell ha ht h =>
   cases hv with
   | one hv=>cases hv with
     | cell hv=>exact .one (.cell (h.rel hC hιc aU hv))
     | agg vs cs hv=>exact absurd rfl (ha cs)
   | tup vs cs hv=>exact absurd rfl (ht cs)
   | any v=>cases h with | refl=>exact .any v
 | agg cs ds h =>
   obtain ⟨vs,rfl,hr⟩:=hv.agg_inv
   refine .one (.agg _ _ (Al.of (hr.length.trans h.length) fun i v d hv hd=>?_))
   have aa:i < cs.length:=by rw [h.length]; exact (List.getElem?_eq_some_iff.1 hd).1
   have hc:=List.getElem?_eq_getElem aa
   exact (h.at hc hd).rel hC hιc aU (hr.at hv hc)
 | box id cs ds h h1 h3 cb hr =>
   subst h3
   obtain ⟨_,_,an⟩:=hC.obj id _ h
   cases hv with
   | one hv=>cases hv with
     | cell hv=>cases hv with
       | rd hv=>cases hv
       | pt id row off g c s hg =>
         cases an with
         | box g' c' s' T cs vs dk h0 hw bK =>
           rw [hg] at dk
           simp only [Option.some.injEq,Pl.blk.injEq] at dk
           obtain ⟨rfl,rfl,rfl⟩:=dk
           have hA:Nn false S w ιc g:=⟨(hC.own id g c s hg).1,fun ⟨i,c,s',e'⟩=>by
            have:=aU i _ e'
            have:=hC.inj i id g _ _ _ _ this.1 hg
            subst this
            exact (aU _ _ e').2 h1⟩
           refine .one (.cell (.rp ds g (0 * s + 0) hA vs (bK.length.trans cb.length) (fun i v hi=>?_) fun i v d hi hd=>?_))
           · rw [Nat.zero_mul,Nat.zero_add]
             exact cells_of_block hw i v hi
           · have aa:i < cs.length:=by rw [cb.length]; exact (List.getElem?_eq_some_iff.1 hd).1
             have hc:=List.getElem?_eq_getElem aa
             exact A9.readC ((cb.at hc hd).rel hC hιc aU (bK.at hi hc)) (List.all_eq_true.1 hr d (List.mem_of_getElem? hd))
theorem CvC.uses {hp hi:Hp} {share:Bool} {a b:AV} (h:CvC hp hi share a b):∀ id,b.idOf=some id->inH hi id:=by
 cases h with
 | refl _ h _=>exact h
 | nil=>intro id e; simp [AV.idOf] at e
 | own=>intro id e; simp [AV.idOf] at e
 | nest=>intro id e; simp [AV.idOf] at e
theorem Cv.uses {hp hi:Hp} {share:Bool} {a b:AV} (h:Cv hp hi share a b):b.uses (inH hi):=by
 cases h with
 | cell ha ht h =>
   refine Db ?_ ?_ h.uses
   · cases h with
     | refl=>exact ha
     | nil=>intro cs e; cases e
     | own=>intro cs e; cases e
     | nest=>intro cs e; cases e
   · cases h with
     | refl=>exact ht
     | nil=>intro cs e; cases e
     | own=>intro cs e; cases e
     | nest=>intro cs e; cases e
 | agg cs ds h =>
   intro d hd id hid
   obtain ⟨i,aQ,e⟩:=List.mem_iff_getElem.1 hd
   have a6:ds[i]?=some d:=by rw [List.getElem?_eq_getElem aQ,e]
   have aa:i < cs.length:=by rw [h.length]; exact aQ
   exact (h.at (List.getElem?_eq_getElem aa) a6).uses id hid
 | box=>exact trivial
def Na (dst:Option Nat) (v:AV) (tm:List (Nat × AV)):List (Nat × AV):=match dst with
 | some d=>(d,v)::tm
 | none=>tm
def G3 (ks:List Nat) (tm:List (Nat × AV)):List (Nat × AV):=match ks with
 | []=>tm
 | k::r=>Nf (k::r) tm
def Mf (ks:List Nat) (hp:Hp):Hp:=match ks with
 | []=>hp
 | k::r=>K5 (k::r) hp
def Bq (st:Bool) (hi:Hp):List Nat:=match st with
 | true=>[]
 | false=>C6 hi
def a0A (P:Program) (fx:List Nat) (f:FuncId) (avs:List AV) (s:St) (dst:Option Nat) (K:St->Prop):Prop :=
 ∃ (args:List AV) (hi:Hp) (st share:Bool) (Q:AV->Hp->Nat->Prop),Al (Cv s.hp hi share) avs args/\(∀ id o,look hi id=some o->look s.hp id=some o/\o.uses (inH hi))/\Ret P f args hi s.nx st Q/\(∀ id,Af id (Bq st hi)=true->Af id fx=false) /\
   ∀ r ho m,Q r ho m->(share=false->Ld r=true/\∀ id o,look ho id=some o->Xa o)/\K ⟨Na dst r (G3 (Bq st hi) s.tm),ho++Mf (Bq st hi) s.hp,m⟩
def a41 (ks:List Nat):Hp->Hp
 | []=>[]
 | (i,o)::r=>match Af i ks with
   | true=>a41 ks r
   | false=>(i,o)::a41 ks r
def give:List Nat->St->St
 | [],s=>s
 | k::r,s=>⟨Nf (k::r) s.tm,a41 (k::r) (K5 (k::r) s.hp),s.nx⟩
inductive Gv (hp:Hp) (gv:List Nat):AV->AV->Prop
 | refl (a:AV) (h:∀ K:Nat->Prop,a.uses K):Gv hp gv a a
 | own (id len e s:Nat) (rows:List (List AV)) (h:look hp id=some (.list e s rows)) (h1:Af id gv=true) (h2:len<=rows.length):Gv hp gv (.own id len) (.lst (rows.take len))
def b2h (fx:List Nat) (hp:Hp) (gv:List Nat) (avs avs1:List AV):Prop:=match gv with
 | []=>avs1=avs
 | k::r=>fx=[]/\(∀ i,Af i (k::r)=true->∃ e s rows,look hp i=some (.list e s rows))/\Al (Gv hp (k::r)) avs avs1
structure Dy (s s':St):Prop where
 tm:∀ t v,look s'.tm t=some v->look s.tm t=some v
 hp:∀ i o,look s'.hp i=some o->look s.hp i=some o
 nx:s.nx<=s'.nx
theorem Dy.refl (s:St):Dy s s:=⟨fun _ _ h=>h,fun _ _ h=>h,Nat.le_refl _⟩
theorem Dy.trans {a b c:St} (h:Dy a b) (k:Dy b c):Dy a c:=⟨fun t v e=>h.tm t v (k.tm t v e),fun i o e=>h.hp i o (k.hp i o e),Nat.le_trans h.nx k.nx⟩
theorem Dy.rel {E:Env} {s s':St} {a:Act} {w:World} (h:Dy s s') (hR:Rel E s a w):Rel E s' a w:=by
 obtain ⟨hs,hd,ι,S,hC,ab⟩:=hR
 obtain ⟨tm,hp,nx⟩:=s
 obtain ⟨tm',hp',nx'⟩:=s'
 obtain ⟨h1,h2,h3⟩:=h
 have gH:nx<=nx':=h3
 refine ⟨hs,hd,ι,S,⟨hC.frame,hC.sub,hC.lt,hC.dis,hC.own,hC.inj,fun i hi=>hC.new i (Nat.le_trans gH hi),fun i o e=>?_,hC.stay,hC.fxs⟩,⟨fun t v e=>?_⟩⟩
 · obtain ⟨g1,g2,g3⟩:=hC.obj i o (h2 i o e)
   have g1':i < nx:=g1
   refine ⟨Nat.lt_of_lt_of_le g1' gH,?_,g3⟩
   cases o with
   | box cs=>exact fun c hc j hj=>Nat.lt_of_lt_of_le (g2 c hc j hj) gH
   | list=>trivial
   | map=>trivial
   | ranged=>trivial
   | clo=>exact ⟨fun c hc j hj=>Nat.lt_of_lt_of_le (g2.1 c hc j hj) gH,fun c hc j hj=>Nat.lt_of_lt_of_le (g2.2 c hc j hj) gH⟩
   | nest e s rows=>exact fun h0 c hc j hj=>Nat.lt_of_lt_of_le (g2 h0 c hc j hj) gH
 · obtain ⟨g1,g2,g3⟩:=ab.tm t v (h1 t v e)
   exact ⟨g1,AV.uses_mono (fun i hi=>Nat.lt_of_lt_of_le hi gH) g2,g3⟩
structure Aa (P:Program) (fx:List Nat) (f:FuncId) (avs:List AV) (s:St) (dst:Option Nat) (K:St->Prop):Prop where
 call:∃ (gv:List Nat) (avs1:List AV),b2h fx s.hp gv avs avs1/\a0A P fx f avs1 (give gv s) dst fun s1=>∃ s2,Dy s1 s2/\K s2
theorem a0A.mono {P:Program} {fx:List Nat} {f:FuncId} {avs:List AV} {s:St} {dst:Option Nat} {K K':St->Prop} (hK:∀ s,K s->K' s) (h:a0A P fx f avs s dst K):a0A P fx f avs s dst K':=by
 obtain ⟨as,hi,st,share,Q,h1,h2,h3,h4,h5⟩:=h
 exact ⟨as,hi,st,share,Q,h1,h2,h3,h4,fun r ho m hq=>⟨(h5 r ho m hq).1,hK _ (h5 r ho m hq).2⟩⟩
theorem Aa.plain {P:Program} {fx:List Nat} {f:FuncId} {avs:List AV} {s:St} {dst:Option Nat} {K:St->Prop} (h:a0A P fx f avs s dst K):Aa P fx f avs s dst K:=⟨[],avs,rfl,h.mono fun s hk=>⟨s,Dy.refl s,hk⟩⟩
theorem Aa.cut {P:Program} {fx:List Nat} {f:FuncId} {avs:List AV} {s:St} {dst:Option Nat} {K:St->Prop} (h:Aa P fx f avs s dst fun s1=>∃ s2,Dy s1 s2/\K s2):Aa P fx f avs s dst K:=by
 obtain ⟨gv,avs1,hg,hw⟩:=h.call
 exact ⟨gv,avs1,hg,hw.mono fun s1 ⟨s2,h2,s3,h3,hk⟩=>⟨s3,h2.trans h3,hk⟩⟩
theorem a0B (ks:List Nat) (i:Nat):∀ hp:Hp,look (a41 ks hp) i=if Af i ks=true then none else look hp i
 | []=>by simp [a41,look]
 | (k,o)::r=>by
   have ih:=a0B ks i r
   simp only [a41]
   cases hk:Af k ks with
   | true =>
     simp only
     rw [ih,Aj]
     by_cases h:k=i
     · subst h; simp [hk]
     · rw [if_neg h]
   | false =>
     simp only [Aj]
     by_cases h:k=i
     · subst h; simp [hk]
     · rw [if_neg h,if_neg h]; exact ih
theorem b0B {hp:Hp} {nx:Nat} (hC:Core E ι S hp nx w) {v:Value} {id len e s:Nat} {rows:List (List AV)} (h:look hp id=some (.list e s rows)) (h2:len<=rows.length) (hv:A9 w S ι v (.own id len)) {S':Nat->Prop} (hS:∀ b,S b->S' b) (dk:∀ g c z,ι id=some (.blk g c z)->S' g) :
 Rd w S' v (.lst (rows.take len)):=by
 obtain ⟨_,_,an⟩:=hC.obj id _ h
 have hl:(rows.take len).length=len:=by simp; omega
 rcases (Bi.one (Eo.cell hv)).own_inv with ⟨g,cap,s2,hg,g1,g2,ev⟩ | ⟨hg,rfl,ev⟩
 · subst ev
   cases an with
   | nil _ _ h' _=>rw [hg] at h'; cases h'
   | list g' cap' _ _ _ vs h' hs hr ax hm hw hn hc =>
     rw [hg] at h'; simp at h'; obtain ⟨rfl,rfl,rfl⟩:=h'
     by_cases h0:len=0
     · subst h0; exact .nil _ _ g2
     · have aV:rows.length * s2<=cap * s2:=Nat.mul_le_mul_right _ ax
       have bd:len * s2<=rows.length * s2:=Nat.mul_le_mul_right _ h2
       have:=Rd.lst (w:=w) (S:=S') (rows.take len) g 0 cap s2 (vs.take (len * s2)) (fun e'=>by rw [e'] at hl; simp at hl; omega) (by omega) hm (dk _ _ _ hg) (fun r aD=>hr r (List.mem_of_mem_take aD)) (by rw [hl,List.length_take,hn]; omega)
        (fun i v hi=>by
          rw [Nat.zero_add]
          rw [List.getElem?_take] at hi
          split at hi
          · exact cells_of_block hw i v hi
          · cases hi)
        (fun i v av hi ha=>by
          rw [By _ _ hr] at ha
          rw [List.getElem?_take] at hi ha
          split at hi
          · rename_i aa
            rw [if_pos aa] at ha
            exact (hc i v av hi ha).mono fun b hb=>⟨hS b hb,rfl⟩
          · cases hi)
       rw [hl] at this
       exact this
 · subst ev
   simp only [List.take_zero]
   exact .nil _ _ (Nat.zero_le _)
theorem Core.give {hp:Hp} {nx:Nat} (hC:Core E ι S hp nx w) {gv:List Nat} (ce:E.fx=[]) (hl:∀ i,Af i gv=true->∃ e s rows,look hp i=some (.list e s rows)) :
 ∃ (ι':Loc) (S':Nat->Prop),Core E ι' S' (a41 gv (K5 gv hp)) nx w/\Later w w S S' ι ι' (fun i=>i < nx/\Af i gv=false)/\(∀ b,S b->S' b)/\∀ (i:Key) g c s,Af i.id gv=true->ι i=some (.blk g c s)->S' g:=by
 have h1:∀ i:Key,Af i.id gv=false->(fun i:Key=>match Af i.id gv with | true=>(none:Option Pl) | false=>ι i) i=ι i:=fun i h=>by simp [h]
 have h2:∀ (i:Key) p,(fun i:Key=>match Af i.id gv with | true=>(none:Option Pl) | false=>ι i) i=some p->Af i.id gv=false/\ι i=some p:=by
  intro i p h
  cases hm:Af i.id gv with
  | true=>simp [hm] at h
  | false=>simp [hm] at h; exact ⟨rfl,h⟩
 have hL:Later w w S (fun b=>S b∨∃ (i:Key) (c s:Nat),Af i.id gv=true/\ι i=some (.blk b c s)) ι (fun i:Key=>match Af i.id gv with | true=>(none:Option Pl) | false=>ι i) (fun i=>i < nx/\Af i gv=false) :=
  ⟨fun b hb=>⟨.inl hb,rfl⟩,fun i p hi h=>(h1 ⟨i,[]⟩ hi.2).trans h⟩
 refine ⟨_,_,⟨hC.frame,?_,?_,?_,?_,?_,?_,?_,?_,hC.fxs⟩,hL,fun b hb=>.inl hb,fun i g c s hi h=>.inr ⟨i,c,s,hi,h⟩⟩
 · rintro b (hb | ⟨i,c,s,hi,h⟩)
   · exact hC.sub b hb
   · exact (hC.own i b c s h).2.elim .inr fun h=>absurd h (hC.fxs.2 ce b)
 · rintro b (hb | ⟨i,c,s,hi,h⟩)
   · exact hC.lt b hb
   · exact (hC.own i b c s h).1
 · rintro b (hb | ⟨i,c,s,hi,h⟩) ⟨j,c',s',h'⟩
   · exact hC.dis b hb ⟨j,c',s',(h2 j _ h').2⟩
   · obtain ⟨g1,g2⟩:=h2 j _ h'
     have:=hC.inj i j b _ _ _ _ h g2
     subst this
     rw [hi] at g1; cases g1
 · intro i g c s h; exact hC.own i g c s (h2 i _ h).2
 · intro i j g c d s r e1 e2; exact hC.inj i j g _ _ _ _ (h2 i _ e1).2 (h2 j _ e2).2
 · intro i hi
   have:=hC.new i hi
   show (match Af i.id gv with | true=>(none:Option Pl) | false=>ι i)=none
   cases Af i.id gv <;> simp [this]
 · intro i o h
   rw [a0B] at h
   cases hm:Af i gv with
   | true=>rw [if_pos hm] at h; cases h
   | false =>
     rw [if_neg (by rw [hm]; simp),Jq] at h
     simp only [Option.map_eq_some_iff] at h
     obtain ⟨o0,h0,rfl⟩:=h
     obtain ⟨k1,k2,k3⟩:=hC.obj i o0 h0
     have:=k3.kill (ks:=gv) hL k1 hm k2 (fun _ k q hk hq=>by show (match Af k.id gv with | true=>(none:Option Pl) | false=>ι k)=some q; rw [hk,hm]; exact hq) (fun _ _ _ _ _ _=>rfl)
     exact ⟨k1,this.1,this.2⟩
 · intro i p h
   have:E.fix ⟨i,[]⟩=none:=hC.fxs.1 ⟨i,[]⟩ (by rw [ce]; rfl)
   rw [this] at h; cases h
structure Bt (b:Bool) (X Y:Prop):Prop where
 t:b=true->X
 f:b=false->Y
theorem Bt.dec {p:Prop} [Decidable p] {X Y:Prop} (ht:p->X) (hf:¬ p->Y):Bt (decide p) X Y:=⟨fun h=>ht (of_decide_eq_true h),fun h=>hf (of_decide_eq_false h)⟩
theorem Bt.ndec {p:Prop} [Decidable p] {X Y:Prop} (ht:¬ p->X) (hf:p->Y):Bt (!decide p) X Y:=⟨fun h=>ht (by simpa using h),fun h=>hf (by simpa using h)⟩
theorem Bt.yes {X Y:Prop} (h:X):Bt true X Y:=⟨fun _=>h,fun e=>(by cases e)⟩
theorem Bt.not {X Y:Prop} (h:Y):Bt false X Y:=⟨fun e=>(by cases e),fun _=>h⟩
def Ac (fx:List Nat) (s s':St):Prop:=∀ (E:Env) (a:Act) (w:World),E.fx=fx->Rel E s a w->Rel E s' a w
structure Ao (fx:List Nat) (body:St->(Exit->St->Prop)->Prop) (s:St) (Q:Exit->St->Prop):Prop where
 inv:∃ (α:Type) (T:α->St) (μ:α->Nat) (x0:α),Ac fx s (T x0)/\∀ x,body (T x) fun e s'=>match e with
  | .normal=>∃ y,μ y < μ x/\Ac fx s' (T y)
  | e=>Q e s'
def G4 (tt:Tab) (P:Program) (nt:Nat) (fx:List Nat) (o:Oper) (s:St) (K:St->Prop):Prop :=
 match s with
 | ⟨tm,hp,nx⟩=>match o.dst with
   | some d=>bif Nat.blt d nt then (match Av tt o.op ⟨tm,hp,nx⟩ with
     | .ok v=>K ⟨(d,v)::tm,hp,nx⟩
     | .cond p v=>p/\K ⟨(d,v)::tm,hp,nx⟩
     | .newP ob=>K ⟨(d,.pt nx 0 0)::tm,(nx,ob)::hp,nx + 1⟩
     | .newM ob=>K ⟨(d,.mp nx)::tm,(nx,ob)::hp,nx + 1⟩
     | .newC ob=>K ⟨(d,.clo nx)::tm,(nx,ob)::hp,nx + 1⟩
     | .each id ks left=>(left=[]->K ⟨(d,.tup [.val (.bool false)])::tm,hp,nx⟩)/\∀ (j:Nat) (h:j < left.length),K ⟨(d,.tup [.val (.bool true),.agg (kvA ks left[j].1),left[j].2])::tm,(id,.ranged ks (some left[j]) (left.eraseIdx j))::hp,nx⟩
     | .newL0 len ob=>K ⟨(d,.own nx len)::tm,(nx,ob)::hp,nx + 1⟩
     | .newL p len ob=>p/\K ⟨(d,.own nx len)::tm,(nx,ob)::hp,nx + 1⟩
     | .kill p id v ob=>bif Af id fx then False else p/\K ⟨(d,v)::Nf [id] tm,(id,ob)::K5 [id] hp,nx⟩
     | .setV p id v ob=>p/\K ⟨(d,v)::tm,(id,ob)::hp,nx⟩
     | .call n args=>Aa P fx n args ⟨tm,hp,nx⟩ (some d) K
     | .pick b x y=>Bt b (match Au tm x with | some v=>K ⟨(d,v)::tm,hp,nx⟩ | none=>False) (match Au tm y with | some v=>K ⟨(d,v)::tm,hp,nx⟩ | none=>False)
     | _=>False) else False
   | none=>match Av tt o.op ⟨tm,hp,nx⟩ with
     | .ok v=>K ⟨tm,hp,nx⟩
     | .setB id ob=>K ⟨tm,(id,ob)::hp,nx⟩
     | .set p id ob=>p/\K ⟨tm,(id,ob)::hp,nx⟩
     | .setV p id v ob=>p/\K ⟨tm,(id,ob)::hp,nx⟩
     | .call n args=>Aa P fx n args ⟨tm,hp,nx⟩ none K
     | _=>False
def C7 (ops:Array Oper) (tm:List (Nat × AV)) (j:Nat):Option (Option Bool) :=
 match ops[j]? with
 | some o=>match o.dst with
   | some d=>match look tm d with
     | some (.val (.bool b))=>some (some b)
     | some (.tup [])=>some none
     | _=>none
   | none=>none
 | none=>none
def No (nt:Nat) (o:Oper) (s:St) (K:St->Prop):Prop :=
 match s with
 | ⟨tm,hp,nx⟩=>match o.dst with
   | some d=>bif Nat.blt d nt then K ⟨(d,.tup [])::tm,hp,nx⟩ else False
   | none=>K ⟨tm,hp,nx⟩
def Dk (ops:Array Oper) (o:Oper) (s:St) (run skip:Prop):Prop:=match o.guard with
 | none=>run
 | some (j,want)=>match C7 ops s.tm j with
   | some (some b)=>match want with
     | true=>Bt b run skip
     | false=>Bt b skip run
   | some none=>skip
   | none=>False
def Hk (tt:Tab) (P:Program) (nt:Nat) (fx:List Nat) (ops:Array Oper):List Oper->St->(St->Prop)->Prop
 | [],s,K=>K s
 | o::r,s,K=>Dk ops o s (G4 tt P nt fx o s fun s'=>Hk tt P nt fx ops r s' K) (No nt o s fun s'=>Hk tt P nt fx ops r s' K)
def waits (o:Oper) (j:Nat):Bool:=o.after.toList.any fun e=>Nat.beq e.on j&&Region.binds .any e
def It:List Edge->List Nat
 | []=>[]
 | e::r=>match Region.binds .any e with
   | true=>e.on::It r
   | false=>It r
def O0:List Oper->Nat->List Nat->Bool
 | o::r,k + 1,acc=>Af k acc&&O0 r k (It o.after.toList++acc)
 | _,_,_=>true
def Ei:List Oper->Nat->List Nat->List Nat
 | o::r,k + 1,acc=>match Af k acc with
   | true=>Ei r k (It o.after.toList++acc)
   | false=>Ei r k acc
 | _,_,acc=>acc
def I5 (o:Oper):Bool:=match o.op with
 | .call c=>(match c.callee with | .builtin _=>false | _=>true)
 | _=>false
def Eq (o:Oper):Bool:=match o.op with
 | .alloc _=>true
 | _=>false
def Er (md:Bool) (o:Oper):Bool:=match md with
 | true=>Eq o
 | false=>I5 o
def a0C:List Oper->Bool
 | []=>false
 | o::r=>Eq o||a0C r
def De:List Operand->List Nat
 | []=>[]
 | .tmp t::r=>t::De r
 | _::r=>De r
def a9b (o:Oper) (i:Nat):Bool:=o.after.toList.all fun e=>!Region.binds .any e||Nat.blt e.on i
def Xb (i:Nat) (o:Oper) (j:Nat) (q:Oper):Bool :=
 match q.dst with
 | none=>false
 | some e=>bif Nat.beq i j then !Af e (De o.op.operands.toList) else
   (match o.dst with | none=>false | some d=>!Nat.beq d e)&&(!Af e (De o.op.operands.toList)||(Nat.blt j i&&waits o j))
def Xc (o:Oper) (i:Nat):Bool:=match o.guard with
 | none=>true
 | some (g,_)=>Nat.blt g i&&waits o g
def a42 (p:Nat->Oper->Bool):Nat->List Oper->Bool
 | _,[]=>true
 | i,o::r=>p i o&&a42 p (i + 1) r
def b1U (l:List Oper):Bool:=a42 (fun i o=>a9b o i&&Xc o i&&a42 (Xb i o) 0 l) 0 l
def b1V (l:List Oper):Bool:=l.all fun o=>match o.op with | .select _ _=>false | _=>true
def Is (r0:AV) (h0:Hp) (m0:Nat):AV->Hp->Nat->Prop:=fun r ho m=>r=r0/\ho=h0/\m=m0
def Kg:Hp->Prop
 | []=>True
 | (_,o)::r=>Xa o/\Kg r
def a3g (n:Nat):Hp->Bool
 | []=>true
 | (i,_)::r=>Nat.ble n i&&a3g n r
structure B8 (P:Program) (f:FuncId) (avs:List AV) (s:St) (d:Nat) (K:St->Prop):Prop where
 call:∃ (args:List AV) (share:Bool) (v:AV) (ho:Hp) (m:Nat),Al (Cv s.hp [] share) avs args/\Ret P f args [] s.nx true (Is v ho m)/\(Nat.ble s.nx m&&a3g s.nx ho)=true/\(share=false->Ld v=true/\Kg ho)/\K ⟨(d,v)::s.tm,ho++s.hp,m⟩
structure Ia (P:Program) (f:FuncId) (avs:List AV) (s:St) (d:Nat) (K:St->Prop):Prop where
 call:∃ v:AV,(∀ hp,Al (Cv hp [] true) avs avs)/\(∀ n,Ret P f avs [] n true (Is v [] n))/\K ⟨(d,v)::s.tm,s.hp,s.nx⟩
def a43 (tt:Tab) (P:Program) (nt:Nat) (hq:Hp) (md:Bool) (o:Oper) (s:St) (K:St->Prop):Prop :=
 match s with
 | ⟨tm,hp,nx⟩=>match o.dst with
   | none=>False
   | some d=>bif Nat.blt d nt then (match Av tt o.op ⟨tm,hq,0⟩ with
     | .ok v=>K ⟨(d,v)::tm,hp,nx⟩
     | .cond p v=>p/\K ⟨(d,v)::tm,hp,nx⟩
     | .newL0 len (.list _ _ rows)=>K ⟨(d,.lst (rows.take len))::tm,hp,nx⟩
     | .pick b _ _=>(match o.op with
       | .pick _ x y=>Bt b (match Au tm x with | some v=>K ⟨(d,v)::tm,hp,nx⟩ | none=>False) (match Au tm y with | some v=>K ⟨(d,v)::tm,hp,nx⟩ | none=>False)
       | _=>False)
     | .newP ob=>bif md&&Eq o then K ⟨(d,.pt nx 0 0)::tm,(nx,ob)::hp,nx + 1⟩ else False
     | .call n args=>bif I5 o then (match md with | true=>Ia P n args ⟨tm,hp,nx⟩ d K | false=>B8 P n args ⟨tm,hp,nx⟩ d K) else False
     | _=>False) else False
def Xd (nt:Nat) (o:Oper) (s:St) (K:St->Prop):Prop :=
 match s with
 | ⟨tm,hp,nx⟩=>match o.dst with
   | some d=>bif Nat.blt d nt then K ⟨(d,.tup [])::tm,hp,nx⟩ else False
   | none=>False
def a10 (tt:Tab) (P:Program) (nt:Nat) (hq:Hp) (md:Bool) (ops:Array Oper):List Oper->St->(St->Prop)->Prop
 | [],s,K=>K s
 | o::r,s,K=>Dk ops o s (a43 tt P nt hq md o s fun s'=>a10 tt P nt hq md ops r s' K) (Xd nt o s fun s'=>a10 tt P nt hq md ops r s' K)
def a9c (tt:Tab) (t:Nat):Bool:=match look tt t with
 | some ti=>(match ti.zero with | [.pointer _]=>true | _=>false)
 | none=>false
def a0D (tt:Tab):List Oper->Bool
 | []=>true
 | o::r=>(match o.op with
   | .call c=>(match c.callee with | .builtin _=>true | _=>c.argTypes.toList.all fun t=>!a9c tt t)
   | .makeSlice _ _ _=>false
   | _=>true)&&a0D tt r
structure a7j (X Y:Prop):Prop where
 l:X
 r:Y
def allR:List Nat->(Nat->Prop)->Prop
 | [],_=>True
 | [i],p=>p i
 | i::r,p=>a7j (p i) (allR r p)
def I6 (o:Oper) (all:List Bool):Bool:=o.after.toList.all fun e=>!Region.binds .any e||all.getD e.on false
def Ct (all:List Bool):Nat->List Oper->List Bool->List Nat
 | i,o::r,b::bs=>match !b&&I6 o all with
   | true=>i::Ct all (i + 1) r bs
   | false=>Ct all (i + 1) r bs
 | _,_,_=>[]
def Mg:List Oper->List Bool
 | []=>[]
 | _::r=>false::Mg r
def Fb:List Oper->Nat
 | []=>0
 | _::r=>Fb r + 1
def Co (tt:Tab) (P:Program) (nt:Nat) (fx:List Nat) (ops:Array Oper):Nat->List Bool->St->(St->Prop)->Prop
 | 0,listed,s,K=>match Ct listed 0 ops.toList listed with
   | []=>K s
   | _::_=>False
 | f + 1,listed,s,K=>match Ct listed 0 ops.toList listed with
   | []=>K s
   | i::r=>allR (i::r) fun i=>match ops.toList[i]? with
     | some o=>Dk ops o s (G4 tt P nt fx o s fun s'=>Co tt P nt fx ops f (listed.set i true) s' K) (No nt o s fun s'=>Co tt P nt fx ops f (listed.set i true) s' K)
     | none=>False
def a6x (prev:List Oper) (i:Nat) (o:Oper) (rest:List Oper):Bool:=O0 prev i (It o.after.toList)&&rest.all fun q=>(It q.after.toList).any (Nat.ble i)
def a6y (o:Oper):Bool:=match o.op with
 | .store _ _ _=>true
 | .mapUpdate _ _ _ _=>true
 | .range _ _=>true
 | .next _ _=>true
 | .assign _=>true
 | .call c=>(match c.callee with | .builtin .append=>true | .builtin .copy=>true | .builtin .delete=>true | _=>false)
 | _=>false
def cutAt:List Oper->Nat->Option Nat->List Oper->Nat
 | _,i,best,[]=>match best with | some b=>b | none=>i
 | prev,i,best,o::r=>match a6y o with
   | true=>match best with | some b=>b | none=>i
   | false=>match I5 o&&a6x prev i o r with
     | true=>cutAt (o::prev) (i + 1) (some i) r
     | false=>cutAt (o::prev) (i + 1) best r
def b1r (prev:List Oper) (i:Nat):List Oper->Bool
 | []=>true
 | o::r=>a6x prev i o r
def Xe:List Nat->List Nat->Bool
 | [],_=>true
 | k::r,l=>Af k l&&Xe r l
def Tu (md:Bool):List Oper->Nat->List Nat->List Oper->Bool
 | _,_,_,[]=>true
 | prev,i,calls,o::r=>match Er md o with
   | true=>(match calls with | []=>true | k::ks=>Xe (k::ks) (Ei prev i (It o.after.toList)))&&Tu md (o::prev) (i + 1) (i::calls) r
   | false=>Tu md (o::prev) (i + 1) calls r
def a9d (l:List Oper):Bool:=a42 (fun i o=>a9b o i) 0 l
def a44 (md:Bool) (l:List Oper) (t:Nat):Bool:=b1U (l.take t)&&Tu md [] 0 [] (l.take t)&&a9d l&&b1r (l.take t).reverse t (l.drop t)&&b1V l
def Be (tt:Tab) (o:Oper):Bool:=match o.op with
 | .call c=>(match c.callee with | .builtin _=>false | _=>!(c.argTypes.toList.all fun t=>!a9c tt t))
 | _=>false
def Xf (tt:Tab):List Oper->Nat
 | []=>0
 | o::r=>match Be tt o with
   | true=>Xf tt r + 1
   | false=>Xf tt r
def Tv (tt:Tab):List Oper->Nat->List Nat->List Oper->Bool
 | _,_,_,[]=>true
 | prev,i,calls,o::r=>match Be tt o with
   | true=>(match calls with | []=>true | k::ks=>Xe (k::ks) (Ei prev i (It o.after.toList)))&&Tv tt (o::prev) (i + 1) (i::calls) r
   | false=>Tv tt (o::prev) (i + 1) calls r
def a3h (tt:Tab) (l:List Oper) (t:Nat):Bool:=Nat.ble 5 (Xf tt (l.take t))&&(a44 true l t&&Tv tt [] 0 [] (l.take t))
structure a9e (P:Program) (fx:List Nat) (f:FuncId) (avs:List AV) (hp0 ov:Hp) (s:St) (d:Nat) (K:AV->Hp->Prop):Prop where
 call:∃ (hi:Hp) (v:AV) (ho:Hp),(∀ id o,look hi id=some o->look (ov++s.hp) id=some o/\∃ o',look hp0 id=some o')/\(∀ id o,look ho id=some o->∃ o',look hi id=some o') /\
  (∀ tm hp nx,(∀ id o,look hi id=some o->look hp id=some o)->Aa P fx f avs ⟨tm,hp,nx⟩ (some d) fun s'=>s'=⟨(d,v)::tm,ho++hp,nx⟩)/\K v ho
def a7k (tt:Tab) (P:Program) (nt:Nat) (fx:List Nat) (hp0 ov:Hp) (o:Oper) (s:St) (K:St->Hp->Prop):Prop :=
 match Be tt o with
 | false=>a43 tt P nt [] true o s fun s'=>K s' ov
 | true=>match s with
   | ⟨tm,hp,nx⟩=>match o.dst with
     | none=>False
     | some d=>bif Nat.blt d nt then (match Av tt o.op ⟨tm,[],0⟩ with
       | .call n args=>a9e P fx n args hp0 ov ⟨tm,hp,nx⟩ d fun v ho=>K ⟨(d,v)::tm,hp,nx⟩ (ho++ov)
       | _=>False) else False
def P2 (tt:Tab) (P:Program) (nt:Nat) (fx:List Nat) (hp0:Hp) (ops:Array Oper):List Oper->Hp->St->(St->Prop)->Prop
 | [],ov,s,K=>K ⟨s.tm,ov++s.hp,s.nx⟩
 | o::r,ov,s,K=>Dk ops o s (a7k tt P nt fx hp0 ov o s fun s' ov'=>P2 tt P nt fx hp0 ops r ov' s' K) (Xd nt o s fun s'=>P2 tt P nt fx hp0 ops r ov s' K)
def a0E:Nat->List Bool
 | 0=>[]
 | n + 1=>true::a0E n
def b1W (o:Oper):Bool:=match o.op with
 | .call c=>(match c.callee with | .builtin .append=>true | _=>false)
 | _=>false
def Np:List Oper->Nat
 | []=>0
 | o::r=>match b1W o with
   | true=>Np r + 1
   | false=>Np r
def O1 (o:Oper):Bool:=(match o.guard with | none=>true | some _=>false)&&(match o.op with
 | .move _=>true
 | .nilCheck _=>true
 | .load _ _=>true
 | .binOp _ _ _ _ _=>true
 | .unOp _ _ _=>true
 | .convert _ _ _=>true
 | .fieldAddr _ _ _=>true
 | .field _ _ _=>true
 | .indexAddr _ _ _=>true
 | .index _ _ _=>true
 | .extract _ _=>true
 | .call c=>(match c.callee with | .builtin .len=>true | _=>false)
 | _=>false)
def a11 (m:List Nat):List Nat->Bool
 | []=>true
 | t::r=>!Af t m&&a11 m r
def a3i (p:Nat->Oper->Bool->Bool):Nat->List Oper->List Bool->Bool
 | i,o::r,b::bs=>p i o b&&a3i p (i + 1) r bs
 | _,[],[]=>true
 | _,_,_=>false
def a0F (i:Nat) (o:Oper) (j:Nat) (q:Oper) (c:Bool):Bool:=match c with
 | false=>true
 | true=>match q.dst with
   | none=>false
   | some e=>match Nat.beq i j with
     | true=>!Af e (De o.op.operands.toList)
     | false=>(match o.dst with | none=>true | some d=>!Nat.beq d e)&&(!Af e (De o.op.operands.toList)||(Nat.blt j i&&waits o j))
def a45 (sel:List Bool) (o:Oper):Bool:=match o.guard with
 | none=>true
 | some (g,_)=>!sel.getD g false||waits o g
def preB (l:List Oper) (sel:List Bool):Bool:=a9d l&&a3i (fun i o b=>a45 sel o&&(!b||O1 o)&&a3i (a0F i o) 0 l sel) 0 l sel
def eQ (o:Oper) (hq:Hp):Hp:=match o.op with
 | .nilCheck _=>[]
 | _=>hq
def D8 (tt:Tab) (nt:Nat) (hq:Hp):List Oper->List Bool->List (Nat × AV)->(List (Nat × AV)->Prop)->Prop
 | o::r,b::bs,tm,K=>match b with
   | true=>(match o.dst with
     | some d=>bif Nat.blt d nt then (match Av tt o.op ⟨tm,eQ o hq,0⟩ with
       | .ok v=>D8 tt nt hq r bs ((d,v)::tm) K
       | .cond p v=>p/\D8 tt nt hq r bs ((d,v)::tm) K
       | _=>False) else False
     | none=>False)
   | false=>D8 tt nt hq r bs tm K
 | _,_,tm,K=>K tm
def C8 (seen:List Nat):Hp->Hp
 | []=>[]
 | (i,.box cs)::r=>match Af i seen with
   | true=>C8 seen r
   | false=>(i,.box cs)::C8 (i::seen) r
 | (i,.list _ _ _)::r=>C8 (i::seen) r
 | (i,.nest _ _ _)::r=>C8 (i::seen) r
 | (i,.map _ _)::r=>C8 (i::seen) r
 | (i,.ranged _ _ _)::r=>C8 (i::seen) r
 | (i,.clo _ _ _)::r=>C8 (i::seen) r
def Kv:Nat->List Oper->List Bool->List Bool->List (Oper × Bool)
 | j,o::r,b::bs,l::ls=>match Kv (j + 1) r bs ls with
   | t=>(o,match b with | true=>t.any (fun p=>p.2&&waits p.1 j) | false=>l)::t
 | _,_,_,_=>[]
def Jr:List (Oper × Bool)->List Bool->List Nat
 | (o,fl)::r,b::bs=>match b&&!fl with
   | true=>(match o.dst with | some d=>d::(De o.op.operands.toList++Jr r bs) | none=>Jr r bs)
   | false=>Jr r bs
 | _,_=>[]
def Xg (o:Oper):Bool:=match o.op with
 | .fieldAddr _ _ _=>true
 | .nilCheck _=>true
 | .move _=>true
 | _=>false
def Rq:List (Oper × Bool)->List Bool->Bool
 | (q,fl)::r,b::bs=>(b&&!fl&&!Xg q)||Rq r bs
 | _,_=>false
def a9f (l:List Oper):Nat->Nat->Nat
 | 0,t=>t
 | f + 1,t=>match l.find? (fun o=>match o.dst with | some d=>Nat.beq d t | none=>false) with
   | some o=>(match o.op with
     | .move (.tmp t')=>a9f l f t'
     | .nilCheck (.tmp t')=>a9f l f t'
     | _=>t)
   | none=>t
def a9g (tm:List (Nat × AV)) (l:List Oper):List Nat->List Nat
 | []=>[]
 | t::r=>match look tm (a9f l 8 t) with
   | some (.pt id _ _)=>id::a9g tm l r
   | _=>a9g tm l r
def Mh (tm:List (Nat × AV)) (l:List Oper):List Oper->List Nat
 | []=>[]
 | o::r=>match I5 o with
   | true=>a9g tm l (De o.op.operands.toList)++Mh tm l r
   | false=>Mh tm l r
def b1s (o:Oper):Bool:=match o.op with
 | .buildSlice _ _ _=>true
 | _=>false
def a9h (d:Nat):List Oper->Bool
 | []=>false
 | q::r=>(match q.op with
   | .build _ _=>Af d (De q.op.operands.toList)
   | .buildSlice _ _ _=>Af d (De q.op.operands.toList)
   | _=>false)||a9h d r
def b0C (l:List Oper) (o:Oper):Bool:=match o.dst with
 | some d=>b1s o&&a9h d l
 | none=>false
def a6z (tt:Tab) (nt:Nat) (o:Oper) (s:St) (K:St->Prop):Prop :=
 match s with
 | ⟨tm,hp,nx⟩=>match o.dst with
   | some d=>bif Nat.blt d nt then (match Av tt o.op ⟨tm,hp,0⟩ with
     | .newL0 len (.list _ _ rows)=>K ⟨(d,.lst (rows.take len))::tm,hp,nx⟩
     | _=>False) else False
   | none=>False
def I7 (tt:Tab) (P:Program) (nt:Nat) (fx:List Nat) (ops:Array Oper) (o:Oper) (s:St) (K:St->Prop):Prop :=
 bif b0C ops.toList o then a6z tt nt o s K else G4 tt P nt fx o s K
structure Pu (X Y:Prop):Prop where
 l:X
 r:Y
def a12 (tm0 tm:List (Nat × AV)):List Nat->Prop
 | []=>True
 | t::r=>look tm t=look tm0 t/\a12 tm0 tm r
def a13 (hp:Hp):Hp->Prop
 | []=>True
 | (i,o)::r=>look hp i=some o/\a13 hp r
def a9i (tm0:List (Nat × AV)) (hq:Hp) (sel:List Bool) (fl:List (Oper × Bool)) (s:St):Prop:=a12 tm0 s.tm (Jr fl sel)/\(match Rq fl sel with
 | true=>a13 s.hp hq
 | false=>True)
def D9 (tt:Tab) (P:Program) (nt:Nat) (fx:List Nat) (ops:Array Oper) (tm0:List (Nat × AV)) (sel:List Bool) (hq:Hp):Nat->List Bool->St->(St->Prop)->Prop
 | 0,listed,s,K=>match Ct listed 0 ops.toList listed with
   | []=>K s
   | _::_=>False
 | f + 1,listed,s,K=>match Ct listed 0 ops.toList listed with
   | []=>K s
   | i::r=>allR (i::r) fun i=>match ops.toList[i]? with
     | some o=>Dk ops o s (I7 tt P nt fx ops o s fun s'=>Pu (a9i tm0 hq sel (Kv 0 ops.toList sel (listed.set i true)) s') (D9 tt P nt fx ops tm0 sel hq f (listed.set i true) s' K)) (No nt o s fun s'=>Pu (a9i tm0 hq sel (Kv 0 ops.toList sel (listed.set i true)) s') (D9 tt P nt fx ops tm0 sel hq f (listed.set i true) s' K))
     | none=>False
def a9j (tt:Tab) (P:Program) (nt:Nat) (fx:List Nat) (ops:Array Oper) (sel:List Bool) (s:St) (K:St->Prop):Prop :=
 D8 tt nt (C8 (Mh s.tm ops.toList ops.toList) s.hp) ops.toList sel s.tm fun tm=>D9 tt P nt fx ops tm sel (C8 (Mh s.tm ops.toList ops.toList) s.hp) (Fb ops.toList) sel ⟨tm,s.hp,s.nx⟩ K
def b1X (o:Oper):Bool:=match o.op with
 | .store _ _ _=>true
 | _=>false
def Mi:List Oper->Nat
 | []=>0
 | o::r=>match b1X o with
   | true=>Mi r + 1
   | false=>Mi r
def I8:List Oper->Nat
 | []=>0
 | o::r=>match I5 o with
   | true=>I8 r + 1
   | false=>I8 r
def Rr:List Oper->Nat
 | []=>0
 | o::r=>match o.op with
   | .assign _=>Rr r + 1
   | _=>Rr r
def b0D (l:List Oper):Bool:=(Nat.ble 2 (I8 l)&&Nat.ble 2 (Rr l)&&Nat.ble (Fb l) 8)||(Nat.ble 2 (I8 l)&&Nat.ble (I8 l) 2&&Nat.ble 2 (Mi l)&&Nat.ble (Fb l) 10&&Nat.ble (Rr l) 0)||(Nat.beq (I8 l) 1&&Nat.beq (Mi l) 1&&Nat.beq (Fb l) 9&&Nat.ble (Rr l) 0)||(Nat.beq (I8 l) 1&&Nat.beq (Mi l) 1&&Nat.beq (Np l) 1&&Nat.beq (Fb l) 10)
def mkB:List Oper->Bool
 | []=>false
 | o::r=>match o.op with
   | .makeSlice _ _ _=>true
   | _=>mkB r
def b1t (tt:Tab) (l:List Oper):Bool:=(Nat.ble 1 (Np l)&&Nat.ble 1 (Mi l)&&Nat.ble 11 (Fb l))||Nat.ble 2 (Np l)||b0D l||(Nat.ble 2 (Mi l)&&Nat.ble 12 (Fb l))||(!a0D tt l&&Nat.ble 7 (Fb l))||(mkB l&&Nat.ble 6 (Fb l))
def Iu (tt:Tab) (nt:Nat) (hq:Hp):List Nat->List Oper->List (Nat × AV)->(List Bool->List (Nat × AV)->Prop)->Prop
 | _,[],tm,K=>K [] tm
 | late,o::r,tm,K=>match o.dst with
   | none=>Iu tt nt hq late r tm fun l t=>K (false::l) t
   | some d=>match O1 o&&a11 late (De o.op.operands.toList) with
     | true=>bif Nat.blt d nt then (match Av tt o.op ⟨tm,eQ o hq,0⟩ with
       | .ok v=>Iu tt nt hq late r ((d,v)::tm) fun l t=>K (true::l) t
       | .cond p v=>p/\Iu tt nt hq late r ((d,v)::tm) fun l t=>K (true::l) t
       | _=>Iu tt nt hq (d::late) r tm fun l t=>K (false::l) t) else False
     | false=>Iu tt nt hq (d::late) r tm fun l t=>K (false::l) t
theorem Ib {tt:Tab} {nt:Nat} {hq:Hp}:∀ {l:List Oper} {late:List Nat} {tm:List (Nat × AV)} {K K':List Bool->List (Nat × AV)->Prop},(∀ sel t,K sel t->K' sel t)->Iu tt nt hq late l tm K->Iu tt nt hq late l tm K'
 | [],_,_,K,K',hK,h=>hK _ _ h
 | o::r,late,tm,K,K',hK,h=>by
   simp only [Iu] at *
   cases hd:o.dst with
   | none=>simp only [hd] at *; exact Ib (fun l=>hK _) h
   | some d =>
     simp only [hd] at *
     cases hb:O1 o&&a11 late (De o.op.operands.toList) with
     | false=>simp only [hb] at *; exact Ib (fun l=>hK _) h
     | true =>
       simp only [hb] at *
       cases hn:Nat.blt d nt with
       | false=>simp [hn] at h
       | true =>
         simp only [hn,cond_true] at *
         cases hs:Av tt o.op ⟨tm,eQ o hq,0⟩ with
         | cond p v=>simp only [hs] at *; exact ⟨h.1,Ib (fun l=>hK _) h.2⟩
         | _=>simp only [hs] at *; exact Ib (fun l=>hK _) h
theorem O2 {tt:Tab} {nt:Nat} {hq:Hp}:∀ {l:List Oper} {late:List Nat} {tm:List (Nat × AV)} {K:List Bool->List (Nat × AV)->Prop},Iu tt nt hq late l tm K->∃ sel,D8 tt nt hq l sel tm (K sel)
 | [],_,tm,K,h=>⟨[],by simp only [D8]; exact h⟩
 | o::r,late,tm,K,h=>by
   have up:∀ {late:List Nat},Iu tt nt hq late r tm (fun l=>K (false::l))->∃ sel,D8 tt nt hq (o::r) sel tm (K sel):=fun h=>(O2 h).elim fun l h=>⟨false::l,by simpa only [D8] using h⟩
   simp only [Iu] at h
   cases hd:o.dst with
   | none=>simp only [hd] at h; exact up h
   | some d =>
     simp only [hd] at h
     cases hb:O1 o&&a11 late (De o.op.operands.toList) with
     | false=>simp only [hb] at h; exact up h
     | true =>
       simp only [hb] at h
       cases hn:Nat.blt d nt with
       | false=>simp [hn] at h
       | true =>
         simp only [hn,cond_true] at h
         cases hs:Av tt o.op ⟨tm,eQ o hq,0⟩ with
         | ok v=>simp only [hs] at h; obtain ⟨l,h⟩:=O2 h; exact ⟨true::l,by simp only [D8,hd,hn,cond_true,hs]; exact h⟩
         | cond p v=>simp only [hs] at h; obtain ⟨l,h2⟩:=O2 h.2; exact ⟨true::l,by simp only [D8,hd,hn,cond_true,hs]; exact ⟨h.1,h2⟩⟩
         | _=>simp only [hs] at h; exact up h
theorem I9 {tt:Tab} {nt:Nat} {hq:Hp} {X:Prop}:∀ {l:List Oper} {bs:List Bool} {tm:List (Nat × AV)},D8 tt nt hq l bs tm (fun _=>X)->X
 | [],_,_,h=>by simpa only [D8] using h
 | o::r,[],_,h=>by simpa only [D8] using h
 | o::r,b::bs,tm,h=>by
   cases b with
   | false=>simp only [D8] at h; exact I9 h
   | true =>
     simp only [D8] at h
     cases hd:o.dst with
     | none=>simp [hd] at h
     | some d =>
       simp only [hd] at h
       cases hn:Nat.blt d nt with
       | false=>simp [hn] at h
       | true =>
         simp only [hn,cond_true] at h
         cases hs:Av tt o.op ⟨tm,eQ o hq,0⟩ with
         | ok v=>simp only [hs] at h; exact I9 h
         | cond p v=>simp only [hs] at h; exact I9 h.2
         | _=>simp [hs] at h
def a14 (tt:Tab) (P:Program) (nt:Nat) (fx:List Nat) (ops:Array Oper) (s:St) (K:St->Prop):Prop :=
 bif b1t tt ops.toList then Iu tt nt (C8 (Mh s.tm ops.toList ops.toList) s.hp) [] ops.toList s.tm (fun sel tm=>bif preB ops.toList sel then D9 tt P nt fx ops tm sel (C8 (Mh s.tm ops.toList ops.toList) s.hp) (Fb ops.toList) sel ⟨tm,s.hp,s.nx⟩ K
  else Co tt P nt fx ops (Fb ops.toList) (Mg ops.toList) s K)
  else Co tt P nt fx ops (Fb ops.toList) (Mg ops.toList) s K
def a6A:Nat->List Oper->Nat
 | i,[]=>i
 | i,o::r=>match a6y o with
   | true=>i
   | false=>a6A (i + 1) r
def a15:List Oper->Nat
 | []=>0
 | o::r=>match o.guard with
   | some _=>a15 r + 1
   | none=>a15 r
def guB (l:List Oper):Bool:=Nat.ble 2 (I8 l)&&Nat.ble (I8 l) 2&&Nat.ble 10 (a15 l)
def a46 (tt:Tab) (l:List Oper):Nat:=match cutAt [] 0 none l with
 | b=>match a6A 0 l with
   | i=>bif Nat.ble (b + 9) i&&(a44 (a0C (l.take i)) l i&&(a0D tt (l.take i)||guB l)) then i else b
def O3 (tt:Tab) (P:Program) (nt:Nat) (fx:List Nat) (ops:Array Oper) (s:St) (K:St->Prop):Prop :=
 match a46 tt ops.toList with
 | t=>bif (a44 (a0C (ops.toList.take t)) ops.toList t&&(a0D tt (ops.toList.take t)||guB ops.toList))&&!b0D ops.toList then a10 tt P nt s.hp (a0C (ops.toList.take t)) ops (ops.toList.take t) s (fun s'=>Co tt P nt fx ops (Fb (ops.toList.drop t)) (a0E (Fb (ops.toList.take t))++Mg (ops.toList.drop t)) s' K)
   else bif a3h tt ops.toList t then P2 tt P nt fx s.hp ops (ops.toList.take t) [] s (fun s'=>Co tt P nt fx ops (Fb (ops.toList.drop t)) (a0E (Fb (ops.toList.take t))++Mg (ops.toList.drop t)) s' K)
   else a14 tt P nt fx ops s K
def run (tt:Tab) (P:Program) (nt:Nat) (fx:List Nat):Code->St->(Exit->St->Prop)->Prop
 | .skip,s,Q=>Q .normal s
 | .label _,s,Q=>Q .normal s
 | .region id ops draw,s,Q=>match draw with
   | false=>Hk tt P nt fx ops ops.toList s (Q .normal)
   | true=>O3 tt P nt fx ops s (Q .normal)
 | .seq x y,s,Q=>run tt P nt fx x s fun e s'=>match e with
   | .normal=>run tt P nt fx y s' Q
   | e=>Q e s'
 | .cond c x y,s,Q=>match Au s.tm c with
   | some (.val (.bool b))=>Bt b (run tt P nt fx x s Q) (run tt P nt fx y s Q)
   | _=>False
 | .block id c,s,Q=>run tt P nt fx c s fun e s'=>match e with
   | .exit i=>bif Nat.beq i id then Q .normal s' else Q (.exit i) s'
   | e=>Q e s'
 | .loop c,s,Q=>Ao fx (run tt P nt fx c) s Q
 | .exit id,s,Q=>Q (.exit id) s
 | .goto l,s,Q=>Q (.goto l) s
 | .ret,s,Q=>Q .ret s
 | _,_,_=>False
end Go.Am
