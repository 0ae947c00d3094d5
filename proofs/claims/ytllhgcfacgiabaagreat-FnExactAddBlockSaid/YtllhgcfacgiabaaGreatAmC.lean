import Derived.Test.YtllhgcfacgiabaaGreatAmB
namespace Go.Am
open Go.RowKit
set_option linter.unusedVariables false
set_option linter.unusedSimpArgs false
abbrev iv (n:Int):AV:=.val (.int .i64 n)
abbrev bv (b:Bool):AV:=.val (.bool b)
abbrev nl:AV:=.val (.slice none 0 0)
def Nw:List AV->Bool
 | []=>true
 | a::r=>Fx [] a&&!a.isTup&&Nw r
theorem R0 {hp hi:Hp} {share:Bool}:∀ {avs:List AV},Nw avs=true->Al (Cv hp hi share) avs avs
 | [],_=>trivial
 | a::r,h=>by
   simp only [Nw,Bool.and_eq_true,Bool.not_eq_true'] at h
   refine ⟨?_,R0 h.2⟩
   have ht:∀ vs,a≠.tup vs:=by rintro vs rfl; simp [AV.isTup] at h
   cases a with
   | agg cs =>
     refine .agg cs cs (Al.of rfl fun i x y hx hy=>?_)
     rw [hx] at hy; cases hy
     exact .refl x (fun id hid=>by have:=Cb (List.all_eq_true.1 h.1.1 x (List.mem_of_getElem? hx)) id hid; simp [Af] at this) (.inr (.inr trivial))
   | tup vs=>exact absurd rfl (ht vs)
   | own i len=>simp [Fx,Df,Af] at h
   | pt i r o=>simp [Fx,Df,Af] at h
   | sb i r o l=>simp [Fx,Df,Af] at h
   | mp i=>simp [Fx,Df,Af] at h
   | clo i=>simp [Fx,Df,Af] at h
   | _=>exact .cell (fun _ e=>by cases e) (fun _ e=>by cases e) (.refl _ (fun id hid=>by simp [AV.idOf] at hid) (.inr (.inr trivial)))
theorem Aa.pure {P:Program} {fx:List Nat} {f:FuncId} {avs:List AV} {tm:List (Nat × AV)} {hp:Hp} {nx:Nat} {dst:Option Nat} {K:St->Prop} {Q:AV->Hp->Nat->Prop} (aB:Ret P f avs [] nx true Q) (hn:Nw avs=true)
 (h:∀ r ho m,Q r ho m->K ⟨Na dst r tm,ho++hp,m⟩):Aa P fx f avs ⟨tm,hp,nx⟩ dst K :=
 Aa.plain ⟨avs,[],true,true,Q,R0 hn,fun id o h=>by simp [look] at h,aB,fun id h=>by simp [Bq,Af] at h,fun r ho m hq=>⟨fun e=>(by cases e),h r ho m hq⟩⟩
theorem Aa.is {P:Program} {fx:List Nat} {f:FuncId} {avs:List AV} {tm:List (Nat × AV)} {hp:Hp} {nx:Nat} {dst:Option Nat} {K:St->Prop} {r:AV} {ho:Hp} {m:Nat} (aB:Ret P f avs [] nx true (Is r ho m)) (hn:Nw avs=true)
 (h:K ⟨Na dst r tm,ho++hp,m⟩):Aa P fx f avs ⟨tm,hp,nx⟩ dst K :=
 Aa.pure aB hn (by rintro _ _ _ ⟨rfl,rfl,rfl⟩; exact h)
def cvC (hp:Hp):AV->AV
 | .own id len=>match look hp id with
   | some (.list _ _ rows)=>.lst (rows.take len)
   | _=>.own id len
 | .val (.slice none 0 0)=>.lst []
 | a=>a
def cvA (hp:Hp):AV->AV
 | .agg cs=>.agg (cs.map (cvC hp))
 | a=>cvC hp a
def a6D (hp:Hp):AV->Prop
 | .own id len=>match look hp id with
   | some (.list _ _ rows)=>len<=rows.length
   | _=>False
 | .pt _ _ _=>False
 | .sb _ _ _ _=>False
 | .mp _=>False
 | .clo _=>False
 | _=>True
def a9l (hp:Hp):List AV->Prop
 | []=>True
 | c::r=>a6D hp c/\a9l hp r
def a0U (hp:Hp):List AV->Prop
 | []=>True
 | .agg cs::r=>a9l hp cs/\a0U hp r
 | .tup _::_=>False
 | a::r=>a6D hp a/\a0U hp r
theorem b0I {hp:Hp} {v:Value} (h:v≠.slice none 0 0):cvC hp (.val v)=.val v:=by
 unfold cvC
 split
 · rename_i e; cases e
 · rename_i e; cases e; exact absurd rfl h
 · rfl
theorem a3r {hp:Hp} {a:AV} (h:a6D hp a):CvC hp [] false a (cvC hp a):=by
 cases a with
 | own id len =>
   simp only [a6D] at h
   cases hl:look hp id with
   | none=>simp [hl] at h
   | some o =>
     cases o with
     | box cs=>simp [hl] at h
     | map=>simp [hl] at h
     | ranged=>simp [hl] at h
     | clo=>simp [hl] at h
     | nest e s rows=>simp [hl] at h
     | list e s rows =>
       simp only [hl] at h
       simp only [cvC,hl]
       exact .own id len e s rows hl rfl h rfl
 | pt=>exact h.elim
 | sb=>exact h.elim
 | mp=>exact h.elim
 | clo=>exact h.elim
 | val v =>
   by_cases e:v=.slice none 0 0
   · subst e; exact .nil
   · rw [b0I e]; exact .refl _ (fun id hid=>by simp [AV.idOf] at hid) (.inr (.inr trivial))
 | _=>exact .refl _ (fun id hid=>by simp [AV.idOf] at hid) (.inr (.inr trivial))
theorem a3s {hp:Hp}:∀ {cs:List AV},a9l hp cs->Al (CvC hp [] false) cs (cs.map (cvC hp))
 | [],_=>trivial
 | c::r,h=>⟨a3r h.1,a3s h.2⟩
theorem R1 {hp:Hp}:∀ {avs:List AV},a0U hp avs->Al (Cv hp [] false) avs (avs.map (cvA hp))
 | [],_=>trivial
 | a::r,h=>by
   cases a with
   | agg cs=>exact ⟨.agg _ _ (a3s h.1),R1 h.2⟩
   | tup vs=>exact h.elim
   | _=>exact ⟨.cell (fun _ e=>by cases e) (fun _ e=>by cases e) (a3r h.1),R1 h.2⟩
theorem Qp {h:Hp} (hf:Kg h):∀ id o,look h id=some o->Xa o:=by
 induction h with
 | nil=>intro id o e; simp [look] at e
 | cons x r ih =>
   obtain ⟨k,ob⟩:=x
   intro id o e
   rw [Aj] at e
   split at e
   · simp at e; subst e; exact hf.1
   · exact ih hf.2 id o e
theorem Aa.conv {P:Program} {fx:List Nat} {f:FuncId} {avs:List AV} {tm:List (Nat × AV)} {hp:Hp} {nx:Nat} {dst:Option Nat} {K:St->Prop} {Q:AV->Hp->Nat->Prop} {args:List AV} (aB:Ret P f args [] nx true Q) (ha:avs.map (cvA hp)=args) (hs:a0U hp avs)
 (h:∀ r ho m,Q r ho m->(Ld r=true/\Kg ho)/\K ⟨Na dst r tm,ho++hp,m⟩):Aa P fx f avs ⟨tm,hp,nx⟩ dst K :=
 Aa.plain ⟨args,[],true,false,Q,by rw [<- ha]; exact R1 hs,fun id o h=>by simp [look] at h,aB,fun id h=>by simp [Bq,Af] at h,fun r ho m hq=>⟨fun _=>⟨(h r ho m hq).1.1,Qp (h r ho m hq).1.2⟩,(h r ho m hq).2⟩⟩
theorem Aa.convIs {P:Program} {fx:List Nat} {f:FuncId} {avs:List AV} {tm:List (Nat × AV)} {hp:Hp} {nx:Nat} {dst:Option Nat} {K:St->Prop} {args:List AV} {r:AV} {ho:Hp} {m:Nat} (aB:Ret P f args [] nx true (Is r ho m)) (ha:avs.map (cvA hp)=args) (hs:a0U hp avs)
 (hf:Ld r=true) (fV:Kg ho) (h:K ⟨Na dst r tm,ho++hp,m⟩):Aa P fx f avs ⟨tm,hp,nx⟩ dst K :=
 Aa.conv aB ha hs (by rintro _ _ _ ⟨rfl,rfl,rfl⟩; exact ⟨⟨hf,fV⟩,h⟩)
theorem B8.is {P:Program} {f:FuncId} {avs:List AV} {tm:List (Nat × AV)} {hp:Hp} {nx d:Nat} {K:St->Prop} {v:AV} {ho:Hp} {m:Nat} (aB:Ret P f avs [] nx true (Is v ho m)) (hn:Nw avs=true) (hk:(Nat.ble nx m&&a3g nx ho)=true)
 (h:K ⟨(d,v)::tm,ho++hp,m⟩):B8 P f avs ⟨tm,hp,nx⟩ d K:=⟨⟨avs,true,v,ho,m,R0 hn,aB,hk,fun e=>(by cases e),h⟩⟩
theorem B8.convIs {P:Program} {f:FuncId} {avs:List AV} {tm:List (Nat × AV)} {hp:Hp} {nx d:Nat} {K:St->Prop} {args:List AV} {v:AV} {ho:Hp} {m:Nat} (aB:Ret P f args [] nx true (Is v ho m)) (ha:avs.map (cvA hp)=args) (hs:a0U hp avs)
 (hf:Ld v=true) (fV:Kg ho) (hk:(Nat.ble nx m&&a3g nx ho)=true) (h:K ⟨(d,v)::tm,ho++hp,m⟩):B8 P f avs ⟨tm,hp,nx⟩ d K:=⟨⟨args,false,v,ho,m,by rw [<- ha]; exact R1 hs,aB,hk,fun _=>⟨hf,fV⟩,h⟩⟩
def keys:Hp->List Nat
 | []=>[]
 | (i,_)::r=>i::keys r
theorem E0 {i:Nat}:∀ {h:Hp},Af i (keys h)=true↔inH h i
 | []=>by simp [keys,Af,inH,look]
 | (k,o)::r=>by
   unfold inH
   simp only [keys,Ag,Aj]
   by_cases hk:i=k
   · subst hk; simp
   · rw [if_neg hk,if_neg (fun e=>hk e.symm)]; exact E0
def a0V (hp:Hp) (ks:List Nat):Hp->Prop
 | []=>True
 | (i,o)::r=>look hp i=some o/\Pv ks o=true/\a0V hp ks r
theorem Qq {hp:Hp} {ks:List Nat} {K:Nat->Prop} (hK:∀ i,Af i ks=true->K i):∀ {hi:Hp},a0V hp ks hi->∀ id o,look hi id=some o->look hp id=some o/\o.uses K
 | [],_,id,o,e=>by simp [look] at e
 | (k,ob)::r,h,id,o,e=>by
   rw [Aj] at e
   split at e
   · rename_i hk; simp at e; subst hk e; exact ⟨h.1,T7 hK h.2.1⟩
   · exact Qq hK h.2.2 id o e
def a7v (ks:List Nat):List AV->Bool
 | []=>true
 | a::r=>Fx ks a&&!a.isTup&&a7v ks r
theorem a6E {hp hi:Hp}:∀ {avs:List AV},a7v (keys hi) avs=true->Al (Cv hp hi true) avs avs
 | [],_=>trivial
 | a::r,h=>by
   simp only [a7v,Bool.and_eq_true,Bool.not_eq_true'] at h
   refine ⟨?_,a6E h.2⟩
   have ht:∀ vs,a≠.tup vs:=by rintro vs rfl; simp [AV.isTup] at h
   cases a with
   | agg cs =>
     refine .agg cs cs (Al.of rfl fun i x y hx hy=>?_)
     rw [hx] at hy; cases hy
     exact .refl x (fun id hid=>E0.1 (Cb (List.all_eq_true.1 h.1.1 x (List.mem_of_getElem? hx)) id hid)) (.inr (.inr trivial))
   | tup vs=>exact absurd rfl (ht vs)
   | own i len=>exact .cell (fun _ e=>by cases e) (fun _ e=>by cases e) (.refl _ (fun id hid=>E0.1 (Cb (a:=.own i len) h.1.1 id hid)) (.inr (.inr trivial)))
   | pt i r o=>exact .cell (fun _ e=>by cases e) (fun _ e=>by cases e) (.refl _ (fun id hid=>E0.1 (Cb (a:=.pt i r o) h.1.1 id hid)) (.inr (.inr trivial)))
   | sb i r o l=>exact .cell (fun _ e=>by cases e) (fun _ e=>by cases e) (.refl _ (fun id hid=>E0.1 (Cb (a:=.sb i r o l) h.1.1 id hid)) (.inr (.inr trivial)))
   | mp i=>exact .cell (fun _ e=>by cases e) (fun _ e=>by cases e) (.refl _ (fun id hid=>E0.1 (Cb (a:=.mp i) h.1.1 id hid)) (.inr (.inr trivial)))
   | clo i=>exact .cell (fun _ e=>by cases e) (fun _ e=>by cases e) (.refl _ (fun id hid=>E0.1 (Cb (a:=.clo i) h.1.1 id hid)) (.inr (.inr trivial)))
   | _=>exact .cell (fun _ e=>by cases e) (fun _ e=>by cases e) (.refl _ (fun id hid=>by simp [AV.idOf] at hid) (.inr (.inr trivial)))
def Xt (fx:List Nat):List Nat->Bool
 | []=>true
 | k::r=>!Af k fx&&Xt fx r
theorem Xu {fx:List Nat}:∀ {ks:List Nat},Xt fx ks=true->∀ id,Af id ks=true->Af id fx=false
 | [],_,id,h=>by simp [Af] at h
 | k::r,ho,id,h=>by
   simp only [Xt,Bool.and_eq_true,Bool.not_eq_true'] at ho
   rw [Ag] at h
   split at h
   · rename_i e; subst e; exact ho.1
   · exact Xu ho.2 id h
theorem Aa.heap {P:Program} {fx:List Nat} {f:FuncId} {avs:List AV} {tm:List (Nat × AV)} {hp:Hp} {nx:Nat} {dst:Option Nat} {K:St->Prop} {Q:AV->Hp->Nat->Prop} {hi:Hp} {st:Bool} (aB:Ret P f avs hi nx st Q) (hn:a7v (keys hi) avs=true) (hp':a0V hp (keys hi) hi) (hx:Xt fx (Bq st hi)=true)
 (h:∀ r ho m,Q r ho m->K ⟨Na dst r (G3 (Bq st hi) tm),ho++Mf (Bq st hi) hp,m⟩):Aa P fx f avs ⟨tm,hp,nx⟩ dst K :=
 Aa.plain ⟨avs,hi,st,true,Q,a6E hn,Qq (fun i aQ=>E0.1 aQ) hp',aB,Xu hx,fun r ho m hq=>⟨fun e=>(by cases e),h r ho m hq⟩⟩
theorem Aa.heapIs {P:Program} {fx:List Nat} {f:FuncId} {avs:List AV} {tm:List (Nat × AV)} {hp:Hp} {nx:Nat} {dst:Option Nat} {K:St->Prop} {hi:Hp} {st:Bool} {r:AV} {ho:Hp} {m:Nat} (aB:Ret P f avs hi nx st (Is r ho m)) (hn:a7v (keys hi) avs=true) (hp':a0V hp (keys hi) hi) (hx:Xt fx (Bq st hi)=true)
 (h:K ⟨Na dst r (G3 (Bq st hi) tm),ho++Mf (Bq st hi) hp,m⟩):Aa P fx f avs ⟨tm,hp,nx⟩ dst K :=
 Aa.heap aB hn hp' hx (by rintro _ _ _ ⟨rfl,rfl,rfl⟩; exact h)
def ltC (n:Nat):AV->Bool
 | .own i _=>Nat.blt i n
 | .pt i _ _=>Nat.blt i n
 | .sb i _ _ _=>Nat.blt i n
 | .mp i=>Nat.blt i n
 | .clo i=>Nat.blt i n
 | _=>true
def ltV (n:Nat):AV->Bool
 | .agg cs=>cs.all (ltC n)
 | .tup _=>false
 | a=>ltC n a
def ltO (n:Nat):A2->Bool
 | .box cs=>cs.all (ltC n)
 | .list _ _ _=>true
 | .map _ _=>true
 | .ranged _ _ _=>true
 | .clo _ fs cs=>fs.all (ltC n)&&cs.all (ltC n)
 | @A2.nest b _ _ rows=>b||rows.all fun r=>r.all (ltC n)
theorem Xv {n:Nat} {a:AV} (h:ltC n a=true):∀ i,a.idOf=some i->i < n:=by
 intro i hi
 cases a <;> simp [AV.idOf] at hi <;> subst hi <;> exact Nat.le_of_ble_eq_true h
theorem Xw {n:Nat} {a:AV} (h:ltV n a=true):a.uses (· < n):=by
 cases a with
 | own i len=>exact Nat.le_of_ble_eq_true h
 | pt i r o=>exact Nat.le_of_ble_eq_true h
 | sb i r o l=>exact Nat.le_of_ble_eq_true h
 | mp i=>exact Nat.le_of_ble_eq_true h
 | clo i=>exact Nat.le_of_ble_eq_true h
 | agg cs=>exact fun c hc i hi=>Xv (List.all_eq_true.1 h c hc) i hi
 | tup vs=>simp [ltV] at h
 | _=>trivial
theorem a3t {n:Nat} {o:A2} (h:ltO n o=true):o.uses (· < n):=by
 cases o with
 | box cs=>exact fun c hc i hi=>Xv (List.all_eq_true.1 h c hc) i hi
 | list=>trivial
 | map=>trivial
 | ranged=>trivial
 | clo f fs cs =>
   have h:(fs.all (ltC n)&&cs.all (ltC n))=true:=h
   simp only [Bool.and_eq_true] at h
   exact ⟨fun c hc i hi=>Xv (List.all_eq_true.1 h.1 c hc) i hi,fun c hc i hi=>Xv (List.all_eq_true.1 h.2 c hc) i hi⟩
 | @nest b e s rows =>
   intro h0 c hc i hi
   subst h0
   have h:(rows.all fun r=>r.all (ltC n))=true:=h
   obtain ⟨r,hr,aR⟩:=List.mem_flatten.1 hc
   exact Xv (List.all_eq_true.1 (List.all_eq_true.1 h r hr) c aR) i hi
def a9m (tm:List (Nat × AV)) (n:Nat):List (Nat × AV)->Prop
 | []=>True
 | (t,v)::r=>(look tm t=some v/\ltV n v=true)/\a9m tm n r
def a3u (hp:Hp) (n:Nat):Hp->Prop
 | []=>True
 | (i,o)::r=>(look hp i=some o/\Nat.blt i n=true/\ltO n o=true)/\a3u hp n r
theorem Xx {tm:List (Nat × AV)} {n:Nat}:∀ {tm':List (Nat × AV)},a9m tm n tm'->∀ t v,look tm' t=some v->look tm t=some v/\v.uses (· < n)
 | [],_,t,v,e=>by simp [look] at e
 | (k,u)::r,h,t,v,e=>by
   rw [Aj] at e
   split at e
   · rename_i hk; simp at e; subst hk e; exact ⟨h.1.1,Xw h.1.2⟩
   · exact Xx h.2 t v e
theorem Xy {hp:Hp} {n:Nat}:∀ {hp':Hp},a3u hp n hp'->∀ i o,look hp' i=some o->look hp i=some o/\i < n/\o.uses (· < n)
 | [],_,t,v,e=>by simp [look] at e
 | (k,u)::r,h,t,v,e=>by
   rw [Aj] at e
   split at e
   · rename_i hk; simp at e; subst hk e; exact ⟨h.1.1,Nat.le_of_ble_eq_true h.1.2.1,a3t h.1.2.2⟩
   · exact Xy h.2 t v e
def U8 (n:Nat):List Nat->Bool
 | []=>true
 | k::r=>Nat.blt k n&&U8 n r
theorem T8 {n:Nat}:∀ {l:List Nat},U8 n l=true->∀ i,Af i l=true->i < n
 | [],_,i,h=>by simp [Af] at h
 | k::r,ha,i,h=>by
   simp only [U8,Bool.and_eq_true] at ha
   rw [Ag] at h
   split at h
   · rename_i e; subst e; exact Nat.le_of_ble_eq_true ha.1
   · exact T8 ha.2 i h
theorem Ac.of {fx:List Nat} {tm tm':List (Nat × AV)} {hp hp':Hp} {nx nx':Nat} (hn:Nat.ble nx' nx=true) (hf:U8 nx' fx=true) (ht:a9m tm nx' tm') (hh:a3u hp nx' hp'):Ac fx ⟨tm,hp,nx⟩ ⟨tm',hp',nx'⟩:=by
 rintro E a w rfl ⟨hs,hd,ι,S,hC,ab⟩
 let ι':Loc:=fun k=>if k.id < nx' then ι k else none
 have up:∀ (i:Key) p,ι' i=some p->ι i=some p/\i.id < nx':=by
  intro i p h
  have h':(if i.id < nx' then ι i else none)=some p:=h
  split at h'
  · exact ⟨h',by assumption⟩
  · cases h'
 have dn:∀ (i:Key) p,i.id < nx'->ι i=some p->ι' i=some p:=by
  intro i p h h'
  show (if i.id < nx' then ι i else none)=some p
  rw [if_pos h]; exact h'
 have hL:Later w w S S ι ι' (· < nx'):=⟨fun b hb=>⟨hb,rfl⟩,fun i p=>dn ⟨i,[]⟩ p⟩
 refine ⟨hs,hd,ι',S,⟨hC.frame,hC.sub,hC.lt,?_,?_,?_,?_,?_,?_,hC.fxs⟩,⟨fun t v h=>?_⟩⟩
 · rintro b hb ⟨i,c,s,e⟩; exact hC.dis b hb ⟨i,c,s,(up i _ e).1⟩
 · intro i g c s e; exact hC.own i g c s (up i _ e).1
 · intro i j g c d s r e1 e2; exact hC.inj i j g _ _ _ _ (up i _ e1).1 (up j _ e2).1
 · intro i hi; show (if i.id < nx' then ι i else none)=none; rw [if_neg (Nat.not_lt.2 hi)]
 · intro i o h
   obtain ⟨h1,h2,h3⟩:=Xy hh i o h
   obtain ⟨_,_,an⟩:=hC.obj i o h1
   exact ⟨h2,h3,an.mono hL h2 h3 (fun _ k q hk hq=>dn k q (by rw [hk]; exact h2) hq) (fun _ _ _ _ _ _=>rfl)⟩
 · intro i p h
   have h':=hC.stay i p h
   refine dn ⟨i,[]⟩ p ?_ h'
   refine T8 hf i ?_
   cases hm:Af i E.fx with
   | true=>rfl
   | false=>rw [hC.fxs.1 ⟨i,[]⟩ hm] at h; cases h
 · obtain ⟨h1,h2⟩:=Xx ht t v h
   obtain ⟨g1,g2,g3⟩:=ab.tm t v h1
   exact ⟨g1,h2,g3.mono hL h2⟩
def b1v (σ:List Nat) (tm:List (Nat × AV)):List (Nat × AV)->Prop
 | []=>True
 | (t,v)::r=>(look tm t=some (Mm (tau σ [] 0) v)/\(a2c (Fq 0 σ.length) v&&!v.isTup)=true)/\b1v σ tm r
def a9n (σ:List Nat) (hp:Hp):Hp->Prop
 | []=>True
 | (i,o)::r=>(look hp (tau σ [] 0 i)=some (Li (tau σ [] 0) o)/\Af i (Fq 0 σ.length)=true/\Pv (Fq 0 σ.length) o=true)/\a9n σ hp r
def b0J (σ:List Nat):List Nat->Bool
 | []=>true
 | i::r=>(match σ[i]? with | some c=>Nat.beq c i | none=>false)&&b0J σ r
theorem a0W {σ:List Nat} {tm:List (Nat × AV)}:∀ {tm':List (Nat × AV)},b1v σ tm tm'->∀ t v,look tm' t=some v->look tm t=some (Mm (tau σ [] 0) v)/\(a2c (Fq 0 σ.length) v&&!v.isTup)=true
 | [],_,t,v,e=>by simp [look] at e
 | (k,u)::r,h,t,v,e=>by
   rw [Aj] at e
   split at e
   · rename_i hk; simp at e; subst hk e; exact h.1
   · exact a0W h.2 t v e
theorem Xz {σ:List Nat} {hp:Hp}:∀ {hp':Hp},a9n σ hp hp'->∀ i o,look hp' i=some o->look hp (tau σ [] 0 i)=some (Li (tau σ [] 0) o)/\Af i (Fq 0 σ.length)=true/\Pv (Fq 0 σ.length) o=true
 | [],_,t,v,e=>by simp [look] at e
 | (k,u)::r,h,t,v,e=>by
   rw [Aj] at e
   split at e
   · rename_i hk; simp at e; subst hk e; exact h.1
   · exact Xz h.2 t v e
theorem a6F {σ:List Nat}:∀ {fx:List Nat},b0J σ fx=true->∀ i,Af i fx=true->σ[i]?=some i
 | [],_,i,h=>by simp [Af] at h
 | k::r,hf,i,h=>by
   simp only [b0J,Bool.and_eq_true] at hf
   rw [Ag] at h
   split at h
   · rename_i e
     subst e
     cases hs:σ[i]? with
     | none=>simp [hs] at hf
     | some c=>simp only [hs] at hf; rw [Nat.eq_of_beq_eq_true hf.1]
   · exact a6F hf.2 i h
theorem Ac.ren {fx:List Nat} {tm tm':List (Nat × AV)} {hp hp':Hp} {nx:Nat} (σ:List Nat) (cw:nodupB σ=true) (hf:b0J σ fx=true) (ht:b1v σ tm tm') (hh:a9n σ hp hp'):Ac fx ⟨tm,hp,nx⟩ ⟨tm',hp',σ.length⟩:=by
 rintro E a w rfl ⟨hs,hd,ι,S,hC,ab⟩
 let ι':Loc:=fun i=>match σ[i.id]? with | some c=>ι ⟨c,i.path⟩ | none=>none
 have up:∀ (i:Key) p,ι' i=some p->∃ c:Nat,σ[i.id]?=some c/\ι ⟨c,i.path⟩=some p:=by
  intro i p h
  have h':(match σ[i.id]? with | some c=>ι ⟨c,i.path⟩ | none=>none)=some p:=h
  cases hs:σ[i.id]? with
  | none=>rw [hs] at h'; cases h'
  | some c=>rw [hs] at h'; exact ⟨c,rfl,h'⟩
 have hτ:∀ (i:Nat) (p:List Nat),Af i (Fq 0 σ.length)=true->ι' ⟨i,p⟩=ι ⟨tau σ [] 0 i,p⟩:=by
  intro i p hi
  rw [Es] at hi
  have aa:i < σ.length:=by omega
  show (match σ[i]? with | some c=>ι ⟨c,p⟩ | none=>none)=ι ⟨(match σ[i]? with | some c=>c | none=>0 + idx i []),p⟩
  rw [List.getElem?_eq_getElem aa]
 have aa:∀ i,Af i (Fq 0 σ.length)=true->i < σ.length:=fun i hi=>by rw [Es] at hi; omega
 refine ⟨hs,hd,ι',S,⟨hC.frame,hC.sub,hC.lt,?_,?_,?_,?_,?_,?_,hC.fxs⟩,⟨fun t v h=>?_⟩⟩
 · rintro b hb ⟨i,c,s,e⟩
   obtain ⟨c',_,e'⟩:=up i _ e
   exact hC.dis b hb ⟨_,c,s,e'⟩
 · intro i g c s e
   obtain ⟨c',_,e'⟩:=up i _ e
   exact hC.own _ g c s e'
 · intro i j g c d s r e1 e2
   obtain ⟨c1,h1,e1'⟩:=up i _ e1
   obtain ⟨c2,h2,e2'⟩:=up j _ e2
   have:=hC.inj ⟨c1,i.path⟩ ⟨c2,j.path⟩ g _ _ _ _ e1' e2'
   simp only [Key.mk.injEq] at this
   obtain ⟨rfl,gK⟩:=this
   have e3:=(Mn σ i.id c1 cw h1).symm.trans (Mn σ j.id c1 cw h2)
   cases i; cases j; simp_all
 · intro i hi
   show (match σ[i.id]? with | some c=>ι ⟨c,i.path⟩ | none=>none)=none
   rw [List.getElem?_eq_none hi]
 · intro i o h
   obtain ⟨h1,h2,h3⟩:=Xz hh i o h
   obtain ⟨_,_,an⟩:=hC.obj _ _ h1
   exact ⟨aa i h2,T7 (fun j hj=>aa j hj) h3,an.unren hτ h2 h3⟩
 · intro i p h
   have hm:Af i E.fx=true:=by
    cases hm:Af i E.fx with
    | true=>rfl
    | false=>rw [hC.fxs.1 ⟨i,[]⟩ hm] at h; cases h
   have:=a6F hf i hm
   show (match σ[i]? with | some c=>ι ⟨c,[]⟩ | none=>none)=some p
   rw [this]; exact hC.stay i p h
 · obtain ⟨h1,h2⟩:=a0W ht t v h
   simp only [Bool.and_eq_true,Bool.not_eq_true'] at h2
   obtain ⟨g1,g2,g3⟩:=ab.tm t _ h1
   exact ⟨g1,a0R (fun j hj=>aa j hj) h2.1,g3.unren hτ h2.1 (by rintro vs rfl; simp [AV.isTup] at h2)⟩
theorem Ac.trans {fx:List Nat} {a b c:St} (h:Ac fx a b) (k:Ac fx b c):Ac fx a c:=fun E x w e hR=>k E x w e (h E x w e hR)
theorem Ac.trunc {fx:List Nat} {tm:List (Nat × AV)} {hp:Hp} {nx:Nat} (id e s:Nat) (rows rows':List (List AV)) (m:Nat) (hk:look hp id=some (.list e s rows)) (hr:rows'=rows.take m):Ac fx ⟨tm,hp,nx⟩ ⟨tm,(id,.list e s rows')::hp,nx⟩:=by
 subst hr
 rintro E a w rfl ⟨hs,hd,ι,S,hC,ab⟩
 refine ⟨hs,hd,ι,S,⟨hC.frame,hC.sub,hC.lt,hC.dis,hC.own,hC.inj,hC.new,?_,hC.stay,hC.fxs⟩,ab⟩
 intro i o hl
 rw [Aj] at hl
 split at hl
 · rename_i hi
   subst hi
   simp only [Option.some.injEq] at hl
   subst hl
   obtain ⟨h1,h2,h3⟩:=hC.obj _ _ hk
   refine ⟨h1,trivial,?_⟩
   clear hk
   cases h3 with
   | nil e s h hs=>simp only [List.take_nil]; exact .nil e s h hs
   | list g cap e s rows vs h hs hr hl hm hw hn hc =>
     refine .list g cap e s _ vs h hs (fun r aD=>hr r (List.mem_of_mem_take aD)) (by rw [List.length_take]; omega) hm hw hn fun j v b hv hb=>hc j v b hv ?_
     rw [By _ _ hr,List.getElem?_take] at hb
     split at hb
     · exact hb
     · cases hb
 · exact hC.obj i o hl
theorem Ret.mono {P:Program} {f:FuncId} {args:List AV} {hi:Hp} {n:Nat} {st:Bool} {Q Q':AV->Hp->Nat->Prop} (hQ:∀ r ho m,Q r ho m->Q' r ho m) (h:Ret P f args hi n st Q):Ret P f args hi n st Q' :=
 ⟨h.enter,fun w ι A vs h1 h2 h3 h4 h5=>(h.calls w ι A vs h1 h2 h3 h4 h5).mono fun e w' ⟨v,r,ho,m,ι',S',a1,a2,a3⟩=>⟨v,r,ho,m,ι',S',a1,hQ _ _ _ a2,a3⟩⟩
theorem Ao.of {fx:List Nat} {body:St->(Exit->St->Prop)->Prop} {s:St} {Q:Exit->St->Prop} {α:Type} (I:α->Prop) (T:α->St) (μ:α->Nat) (x0:α) (h0:I x0) (hw:Ac fx s (T x0))
 (hr:∀ x,I x->body (T x) fun e s'=>match e with
   | .normal=>∃ y,I y/\μ y < μ x/\Ac fx s' (T y)
   | e=>Q e s') (ju:∀ s (Q Q':Exit->St->Prop),(∀ e s,Q e s->Q' e s)->body s Q->body s Q'):Ao fx body s Q:=by
 refine ⟨⟨{x:α // I x},fun x=>T x.1,fun x=>μ x.1,⟨x0,h0⟩,hw,fun x=>?_⟩⟩
 refine ju _ _ _ ?_ (hr x.1 x.2)
 intro e s h
 cases e with
 | normal=>obtain ⟨y,hy,aa,hk⟩:=h; exact ⟨⟨y,hy⟩,aa,hk⟩
 | _=>exact h
theorem Aa.mono {P:Program} {fx:List Nat} {f:FuncId} {avs:List AV} {s:St} {dst:Option Nat} {K K':St->Prop} (hK:∀ s,K s->K' s) (h:Aa P fx f avs s dst K):Aa P fx f avs s dst K':=by
 obtain ⟨gv,avs1,hg,hw⟩:=h.call
 exact ⟨gv,avs1,hg,hw.mono fun s1 ⟨s2,h2,hk⟩=>⟨s2,h2,hK _ hk⟩⟩
theorem Bt.mono {b:Bool} {X Y X' Y':Prop} (hx:X->X') (hy:Y->Y') (h:Bt b X Y):Bt b X' Y':=⟨fun e=>hx (h.t e),fun e=>hy (h.f e)⟩
theorem Qr {tt:Tab} {P:Program} {nt:Nat} {fx:List Nat} {o:Oper} {s:St} {K K':St->Prop} (hK:∀ s,K s->K' s) (h:G4 tt P nt fx o s K):G4 tt P nt fx o s K':=by
 unfold G4 at *
 obtain ⟨tm,hp,nx⟩:=s
 simp only at *
 cases hd:o.dst with
 | some d =>
   simp only [hd] at *
   cases hb:Nat.blt d nt with
   | false=>simp [hb] at h
   | true =>
     simp only [hb,cond_true] at *
     cases hs:Av tt o.op ⟨tm,hp,nx⟩ with
     | ok v=>simp only [hs] at *; exact hK _ h
     | cond p v=>simp only [hs] at *; exact ⟨h.1,hK _ h.2⟩
     | newP ob=>simp only [hs] at *; exact hK _ h
     | newM ob=>simp only [hs] at *; exact hK _ h
     | newC ob=>simp only [hs] at *; exact hK _ h
     | each id kk left=>simp only [hs] at h ⊢; exact ⟨fun h0=>hK _ (h.1 h0),fun j hj=>hK _ (h.2 j hj)⟩
     | newL0 len ob=>simp only [hs] at *; exact hK _ h
     | newL p len ob=>simp only [hs] at *; exact ⟨h.1,hK _ h.2⟩
     | setV p id v ob=>simp only [hs] at *; exact ⟨h.1,hK _ h.2⟩
     | kill p id v ob =>
       simp only [hs] at *
       cases hm:Af id fx with
       | true=>simp [hm] at h
       | false=>simp only [hm,cond_false] at *; exact ⟨h.1,hK _ h.2⟩
     | call n args=>simp only [hs] at *; exact h.mono hK
     | pick b x y =>
       simp only [hs] at *
       refine h.mono ?_ ?_
       · cases Au tm x with
         | none=>exact id
         | some v=>exact hK _
       · cases Au tm y with
         | none=>exact id
         | some v=>exact hK _
     | _=>simp [hs] at h
 | none =>
   simp only [hd] at *
   cases hs:Av tt o.op ⟨tm,hp,nx⟩ with
   | ok v=>simp only [hs] at *; exact hK _ h
   | setB id ob=>simp only [hs] at *; exact hK _ h
   | set p id ob=>simp only [hs] at *; exact ⟨h.1,hK _ h.2⟩
   | setV p id v ob=>simp only [hs] at *; exact ⟨h.1,hK _ h.2⟩
   | call n args=>simp only [hs] at *; exact h.mono hK
   | _=>simp [hs] at h
theorem G6 {ops:Array Oper} {o:Oper} {s:St} {X Y X' Y':Prop} (hx:X->X') (hy:Y->Y') (h:Dk ops o s X Y):Dk ops o s X' Y':=by
 unfold Dk at *
 cases hg:o.guard with
 | none=>simp only [hg] at *; exact hx h
 | some jw =>
   obtain ⟨j,want⟩:=jw
   simp only [hg] at *
   cases cN:C7 ops s.tm j with
   | none=>simp [cN] at h
   | some b =>
     simp only [cN] at *
     cases b with
     | none=>exact hy h
     | some b=>cases want with
       | true=>exact h.mono hx hy
       | false=>exact h.mono hy hx
theorem Qs {nt:Nat} {o:Oper} {s:St} {K K':St->Prop} (hK:∀ s,K s->K' s) (h:No nt o s K):No nt o s K':=by
 unfold No at *
 obtain ⟨tm,hp,nx⟩:=s
 cases hd:o.dst with
 | some d =>
   simp only [hd] at *
   cases hb:Nat.blt d nt with
   | false=>simp [hb] at h
   | true=>simp only [hb,cond_true] at *; exact hK _ h
 | none=>simp only [hd] at *; exact hK _ h
theorem U9 {tt:Tab} {P:Program} {nt:Nat} {fx:List Nat} {ops:Array Oper} {K K':St->Prop} (hK:∀ s,K s->K' s):∀ (l:List Oper) (s:St),Hk tt P nt fx ops l s K->Hk tt P nt fx ops l s K'
 | [],s,h=>hK s h
 | o::r,s,h=>by
   have ih:=U9 (tt:=tt) (P:=P) (nt:=nt) (fx:=fx) (ops:=ops) hK r
   simp only [Hk] at *
   exact G6 (Qr fun s' h'=>ih s' h') (Qs fun s' h'=>ih s' h') h
theorem B8.mono {P:Program} {f:FuncId} {avs:List AV} {s:St} {d:Nat} {K K':St->Prop} (hK:∀ s,K s->K' s) (h:B8 P f avs s d K):B8 P f avs s d K':=by
 obtain ⟨as,share,v,ho,m,h1,h2,h3,h4,h5⟩:=h.call
 exact ⟨as,share,v,ho,m,h1,h2,h3,h4,hK _ h5⟩
theorem a0X {tt:Tab} {P:Program} {nt:Nat} {hq:Hp} {md:Bool} {o:Oper} {s:St} {K K':St->Prop} (hK:∀ s,K s->K' s) (h:a43 tt P nt hq md o s K):a43 tt P nt hq md o s K':=by
 unfold a43 at *
 obtain ⟨tm,hp,nx⟩:=s
 simp only at *
 cases hd:o.dst with
 | none=>simp [hd] at h
 | some d =>
   simp only [hd] at *
   cases hb:Nat.blt d nt with
   | false=>simp [hb] at h
   | true =>
     simp only [hb,cond_true] at *
     cases hs:Av tt o.op ⟨tm,hq,0⟩ with
     | ok v=>simp only [hs] at *; exact hK _ h
     | cond p v=>simp only [hs] at *; exact ⟨h.1,hK _ h.2⟩
     | newL0 len ob =>
       cases ob with
       | box cs=>simp [hs] at h
       | map=>simp [hs] at h
       | ranged=>simp [hs] at h
       | clo=>simp [hs] at h
       | nest=>simp [hs] at h
       | list e sz rows=>simp only [hs] at *; exact hK _ h
     | pick b x0 y0 =>
       simp only [hs] at *
       cases a9:o.op with
       | pick c x y =>
         simp only [a9] at *
         refine h.mono ?_ ?_
         · cases Au tm x with
           | none=>exact id
           | some v=>exact hK _
         · cases Au tm y with
           | none=>exact id
           | some v=>exact hK _
       | _=>simp [a9] at h
     | call n args =>
       simp only [hs] at *
       cases hc:I5 o with
       | false=>simp [hc] at h
       | true =>
         simp only [hc,cond_true] at *
         cases md with
         | true=>obtain ⟨v,h1,h2,h3⟩:=h.call; exact ⟨⟨v,h1,h2,hK _ h3⟩⟩
         | false=>exact B8.mono hK h
     | newP ob =>
       simp only [hs] at *
       cases hc:(md&&Eq o) with
       | false=>simp [hc] at h
       | true=>simp only [hc,cond_true] at *; exact hK _ h
     | _=>simp [hs] at h
theorem X0 {nt:Nat} {o:Oper} {s:St} {K K':St->Prop} (hK:∀ s,K s->K' s) (h:Xd nt o s K):Xd nt o s K':=by
 unfold Xd at *
 obtain ⟨tm,hp,nx⟩:=s
 cases hd:o.dst with
 | some d =>
   simp only [hd] at *
   cases hb:Nat.blt d nt with
   | false=>simp [hb] at h
   | true=>simp only [hb,cond_true] at *; exact hK _ h
 | none=>simp [hd] at h
theorem a0Y {tt:Tab} {P:Program} {nt:Nat} {hq:Hp} {md:Bool} {ops:Array Oper} {K K':St->Prop} (hK:∀ s,K s->K' s):∀ (l:List Oper) (s:St),a10 tt P nt hq md ops l s K->a10 tt P nt hq md ops l s K'
 | [],s,h=>hK s h
 | o::r,s,h=>by
   have ih:=a0Y (tt:=tt) (P:=P) (nt:=nt) (hq:=hq) (md:=md) (ops:=ops) hK r
   simp only [a10] at *
   exact G6 (a0X fun s' h'=>ih s' h') (X0 fun s' h'=>ih s' h') h
theorem a7w {tt:Tab} {P:Program} {nt:Nat} {fx:List Nat} {hp0 ov:Hp} {o:Oper} {s:St} {K K':St->Hp->Prop} (hK:∀ s ov,K s ov->K' s ov) (h:a7k tt P nt fx hp0 ov o s K):a7k tt P nt fx hp0 ov o s K':=by
 unfold a7k at *
 cases hp:Be tt o with
 | false=>simp only [hp] at *; exact a0X (fun s' h'=>hK s' _ h') h
 | true =>
   simp only [hp] at *
   obtain ⟨tm,gK,nx⟩:=s
   simp only at *
   cases hd:o.dst with
   | none=>simp [hd] at h
   | some d =>
     simp only [hd] at *
     cases hb:Nat.blt d nt with
     | false=>simp [hb] at h
     | true =>
       simp only [hb,cond_true] at *
       cases hs:Av tt o.op ⟨tm,[],0⟩ with
       | call n args =>
         simp only [hs] at *
         obtain ⟨hi,v,ho,h1,h2,h3,h4⟩:=h.call
         exact ⟨⟨hi,v,ho,h1,h2,h3,hK _ _ h4⟩⟩
       | _=>simp [hs] at h
theorem X1 {tt:Tab} {P:Program} {nt:Nat} {fx:List Nat} {hp0:Hp} {ops:Array Oper} {K K':St->Prop} (hK:∀ s,K s->K' s):∀ (l:List Oper) (ov:Hp) (s:St),P2 tt P nt fx hp0 ops l ov s K->P2 tt P nt fx hp0 ops l ov s K'
 | [],ov,s,h=>hK _ h
 | o::r,ov,s,h=>by
   have ih:=X1 (tt:=tt) (P:=P) (nt:=nt) (fx:=fx) (hp0:=hp0) (ops:=ops) hK r
   simp only [P2] at *
   exact G6 (a7w fun s' ov' h'=>ih ov' s' h') (X0 fun s' h'=>ih _ s' h') h
theorem T9 {p q:Nat->Prop} (h:∀ i,p i->q i):∀ {l:List Nat},allR l p->allR l q
 | [],_=>trivial
 | [k],hp=>h k hp
 | k::k'::r,hp=>⟨h k hp.l,T9 h (l:=k'::r) hp.r⟩
theorem Gm {tt:Tab} {P:Program} {nt:Nat} {fx:List Nat} {ops:Array Oper} {K K':St->Prop} (hK:∀ s,K s->K' s):∀ (f:Nat) (listed:List Bool) (s:St),Co tt P nt fx ops f listed s K->Co tt P nt fx ops f listed s K'
 | 0,listed,s,h=>by
   simp only [Co] at *
   cases hr:Ct listed 0 ops.toList listed with
   | nil=>simp only [hr] at *; exact hK _ h
   | cons i r=>simp [hr] at h
 | f + 1,listed,s,h=>by
   simp only [Co] at *
   cases hr:Ct listed 0 ops.toList listed with
   | nil=>simp only [hr] at *; exact hK _ h
   | cons i0 r =>
     simp only [hr] at *
     refine T9 (fun i hi=>?_) h
     cases ho:ops.toList[i]? with
     | none=>simp [ho] at hi
     | some o =>
       simp only [ho] at hi ⊢
       exact G6 (Qr fun s' h'=>Gm hK f _ s' h') (Qs fun s' h'=>Gm hK f _ s' h') hi
theorem a2f {tt:Tab} {P:Program} {nt:Nat} {fx:List Nat} {ops:Array Oper} {o:Oper} {s:St} {K K':St->Prop} (hK:∀ s,K s->K' s) (h:I7 tt P nt fx ops o s K):I7 tt P nt fx ops o s K':=by
 unfold I7 at *
 cases hl:b0C ops.toList o with
 | false=>rw [hl] at h; exact Qr hK h
 | true =>
   rw [hl] at h
   simp only [cond_true] at *
   obtain ⟨tm,hp,nx⟩:=s
   unfold a6z at *
   simp only at *
   cases hd:o.dst with
   | none=>simp [hd] at h
   | some d =>
     simp only [hd] at *
     cases hb:Nat.blt d nt with
     | false=>simp [hb] at h
     | true =>
       simp only [hb,cond_true] at *
       cases hs:Av tt o.op ⟨tm,hp,0⟩ with
       | newL0 len ob =>
         cases ob with
         | box cs=>simp [hs] at h
         | map=>simp [hs] at h
         | ranged=>simp [hs] at h
         | clo=>simp [hs] at h
         | nest=>simp [hs] at h
         | list e sz rows=>simp only [hs] at *; exact hK _ h
       | _=>simp [hs] at h
theorem Pu.mono {X Y Y':Prop} (h:Y->Y') (k:Pu X Y):Pu X Y':=⟨k.l,h k.r⟩
theorem Kx {tt:Tab} {P:Program} {nt:Nat} {fx:List Nat} {ops:Array Oper} {tm0:List (Nat × AV)} {sel:List Bool} {hq:Hp} {K K':St->Prop} (hK:∀ s,K s->K' s):∀ (f:Nat) (listed:List Bool) (s:St),D9 tt P nt fx ops tm0 sel hq f listed s K->D9 tt P nt fx ops tm0 sel hq f listed s K'
 | 0,listed,s,h=>by
   simp only [D9] at *
   cases hr:Ct listed 0 ops.toList listed with
   | nil=>simp only [hr] at *; exact hK _ h
   | cons i r=>simp [hr] at h
 | f + 1,listed,s,h=>by
   simp only [D9] at *
   cases hr:Ct listed 0 ops.toList listed with
   | nil=>simp only [hr] at *; exact hK _ h
   | cons i0 r =>
     simp only [hr] at *
     refine T9 (fun i hi=>?_) h
     cases ho:ops.toList[i]? with
     | none=>simp [ho] at hi
     | some o =>
       simp only [ho] at hi ⊢
       exact G6 (a2f fun s' h'=>h'.mono (Kx hK f _ s')) (Qs fun s' h'=>h'.mono (Kx hK f _ s')) hi
theorem a2g {tt:Tab} {P:Program} {nt:Nat} {fx:List Nat} {ops:Array Oper} {s:St} {K K':St->Prop} (hK:∀ s,K s->K' s) (h:O3 tt P nt fx ops s K):O3 tt P nt fx ops s K':=by
 unfold O3 at *
 simp only at *
 generalize a46 tt ops.toList=t at *
 cases hb:((a44 (a0C (ops.toList.take t)) ops.toList t&&(a0D tt (ops.toList.take t)||guB ops.toList))&&!b0D ops.toList) with
 | false =>
   rw [hb] at h
   simp only [cond_false] at *
   cases iu:a3h tt ops.toList t with
   | true=>rw [iu] at h; exact X1 (fun s' h'=>Gm hK _ _ s' h') _ _ s h
   | false =>
   rw [iu] at h
   simp only [cond_false] at *
   unfold a14 at *
   cases a8:b1t tt ops.toList with
   | false=>rw [a8] at h; exact Gm hK _ _ s h
   | true =>
     rw [a8] at h
     simp only [cond_true] at *
     refine Ib (fun sel tm h'=>?_) h
     cases fA:preB ops.toList sel with
     | false=>rw [fA] at h'; exact Gm hK _ _ s h'
     | true=>rw [fA] at h'; exact Kx hK _ _ _ h'
 | true=>rw [hb] at h; exact a0Y (fun s' h'=>Gm hK _ _ s' h') _ s h
theorem Ao.mono {fx:List Nat} {body:St->(Exit->St->Prop)->Prop} {s:St} {Q Q':Exit->St->Prop} (hQ:∀ e s,Q e s->Q' e s) (hb:∀ s (Q Q':Exit->St->Prop),(∀ e s,Q e s->Q' e s)->body s Q->body s Q') (h:Ao fx body s Q):Ao fx body s Q':=by
 obtain ⟨α,T,μ,x0,hw,hr⟩:=h.inv
 refine ⟨α,T,μ,x0,hw,fun x=>hb _ _ _ ?_ (hr x)⟩
 intro e s h
 cases e with
 | normal=>exact h
 | _=>exact hQ _ _ h
theorem a9o {tt:Tab} {P:Program} {nt:Nat} {fx:List Nat} (c:Code):∀ (s:St) (Q Q':Exit->St->Prop),(∀ e s,Q e s->Q' e s)->run tt P nt fx c s Q->run tt P nt fx c s Q':=by
 induction c with
 | skip=>exact fun s Q Q' hQ h=>hQ _ _ h
 | label l=>exact fun s Q Q' hQ h=>hQ _ _ h
 | exit id=>exact fun s Q Q' hQ h=>hQ _ _ h
 | goto l=>exact fun s Q Q' hQ h=>hQ _ _ h
 | ret=>exact fun s Q Q' hQ h=>hQ _ _ h
 | region id ops draw =>
   intro s Q Q' hQ h
   cases draw with
   | true=>exact a2g (fun s h=>hQ _ _ h) h
   | false=>exact U9 (fun s h=>hQ _ _ h) _ s h
 | seq x y ihx ihy =>
   intro s Q Q' hQ h
   refine ihx s _ _ ?_ h
   intro e s' h'
   cases e with
   | normal=>exact ihy s' _ _ hQ h'
   | _=>exact hQ _ _ h'
 | cond c x y ihx ihy =>
   intro s Q Q' hQ h
   simp only [run] at *
   cases hc:Au s.tm c with
   | none=>simp [hc] at h
   | some v =>
     cases v with
     | val u =>
       cases u with
       | bool b=>simp only [hc] at *; exact h.mono (ihx s _ _ hQ) (ihy s _ _ hQ)
       | _=>simp [hc] at h
     | _=>simp [hc] at h
 | block id c ih =>
   intro s Q Q' hQ h
   refine ih s _ _ ?_ h
   intro e s' h'
   cases e with
   | exit i =>
     simp only at *
     cases hb:Nat.beq i id with
     | true=>rw [hb] at h'; exact hQ _ _ h'
     | false=>rw [hb] at h'; exact hQ _ _ h'
   | _=>exact hQ _ _ h'
 | loop c ih=>exact fun s Q Q' hQ h=>Ao.mono hQ ih h
 | _=>exact fun s Q Q' hQ h=>h.elim
theorem Ao.go {tt:Tab} {P:Program} {nt:Nat} {fx:List Nat} {c:Code} {s:St} {Q:Exit->St->Prop} {α:Type} (I:α->Prop) (T:α->St) (μ:α->Nat) (x0:α) (h0:I x0) (hw:Ac fx s (T x0))
 (hr:∀ x,I x->run tt P nt fx c (T x) fun e s'=>match e with
   | .normal=>∃ y,I y/\μ y < μ x/\Ac fx s' (T y)
   | e=>Q e s'):Ao fx (run tt P nt fx c) s Q:=Ao.of I T μ x0 h0 hw hr (a9o c)
theorem a5h (τ:Nat->Nat) {a:AV} (h:Fx [] a=true) (ht:a.isTup=false):Mm τ a=a:=by
 cases a with
 | tup vs=>simp [AV.isTup] at ht
 | agg cs =>
   simp only [Mm,a2b]
   congr 1
   have:cs.map (renC τ)=cs.map id:=List.map_congr_left fun c hc=>a0Q _ (List.all_eq_true.1 h c hc)
   rw [this,List.map_id]
 | own i len=>simp [Fx,Df,Af] at h
 | pt i r o=>simp [Fx,Df,Af] at h
 | sb i r o l=>simp [Fx,Df,Af] at h
 | mp i=>simp [Fx,Df,Af] at h
 | clo i=>simp [Fx,Df,Af] at h
 | _=>rfl
theorem Ret.fn {tt:Tab} {P:Program} {f:FuncId} {fn:Func} {c:Code} (hT:Bg P tt) (hf:P.funcs[f]?=some fn) (hb:fn.body=some c) (cf:∀ args w,(callFunc f args).run P w=.ok (.enter f args) w)
 {args:List AV} {n:Nat} {Q:AV->Hp->Nat->Prop} (bm:Nat.ble args.length fn.ntmps=true) (ha:Nw args=true) (h:run tt P fn.ntmps [] c ⟨Ih 0 args,[],0⟩ (Fin tt fn.results.toList [] [] n Q)):Ret P f args [] n true Q:=by
 have key:∀ x∈args,Fx [] x=true/\x.isTup=false:=by
  clear h bm
  induction args with
  | nil=>intro x hx; cases hx
  | cons a r ih =>
    simp only [Nw,Bool.and_eq_true,Bool.not_eq_true'] at ha
    intro x hx
    rcases List.mem_cons.1 hx with rfl | hx
    · exact ha.1
    · exact ih ha.2 x hx
 have e:args.map (Mm (tau [] [] n))=args:=by
  have:args.map (Mm (tau [] [] n))=args.map id:=List.map_congr_left fun x hx=>a5h _ (key x hx).1 (key x hx).2
  rw [this,List.map_id]
 have:=Ret.of_run (tt:=tt) hT hf hb cf [] [] args true n Q rfl rfl (Nat.le_of_ble_eq_true bm) (List.all_eq_true.2 fun x hx=>by
  obtain ⟨h1,h2⟩:=key x hx
  simp only [h2,Bool.not_false,Bool.and_true]
  cases x with
  | tup vs=>simp [AV.isTup] at h2
  | _=>exact h1) rfl h
 rw [e] at this
 exact this
theorem Cj (i:Nat):nodupB [i]=true:=rfl
theorem Bc {i j:Nat} (h:i≠j):nodupB [i,j]=true:=by
 have:Af i [j]=false:=by rw [Ag,if_neg h]; rfl
 rw [show nodupB [i,j]=(!Af i [j]&&nodupB [j]) from rfl,this]; rfl
end Go.Am
namespace Go.Am
open Go.RowKit
set_option linter.unusedVariables false
theorem a9p {hp:Hp} {id e s len:Nat} {rows:List (List AV)} (h:look hp id=some (.list e s rows)) (hl:len=rows.length):CvC hp [] false (.own id len) (.lst rows):=by
 have:=CvC.own (hp:=hp) (hi:=[]) (share:=false) id len e s rows h rfl (by omega) rfl
 rwa [List.take_of_length_le (by omega)] at this
theorem B3 {hp:Hp} {share:Bool} {a:AV} (h:Df [] a=true):CvC hp [] share a a :=
 .refl a (fun id hid=>by have:=Cb h id hid; simp [Af] at this) (.inr (.inr trivial))
theorem a9q {hp:Hp} {share:Bool}:CvC hp [] share nl (.lst []):=.nil
def Va:AV->Bool
 | .agg _=>false
 | .tup _=>false
 | _=>true
theorem a9r {hp:Hp} {id e s len:Nat} {rows:List (List AV)} (h:look hp id=some (.list e s rows)) (hl:len=rows.length):Cv hp [] false (.own id len) (.lst rows) :=
 .cell (fun _ e=>by cases e) (fun _ e=>by cases e) (a9p h hl)
theorem Qt {hp:Hp} {share:Bool} {a:AV} (h:(Df [] a&&Va a)=true):Cv hp [] share a a:=by
 simp only [Bool.and_eq_true] at h
 exact .cell (fun _ e=>by rw [e] at h; simp [Va] at h) (fun _ e=>by rw [e] at h; simp [Va] at h) (B3 h.1)
theorem b1h {hp:Hp} {share:Bool}:Cv hp [] share nl (.lst []):=.cell (fun _ e=>by cases e) (fun _ e=>by cases e) .nil
theorem b1i {hp:Hp} {id:Nat} {cs ds:List AV} (h:look hp id=some (.box cs)) (hc:Al (CvC hp [] false) cs ds) (hr:ds.all readC=true):Cv hp [] false (.pt id 0 0) (.rp ds):=.box id cs ds h rfl rfl hc hr
theorem Vb {hp:Hp} {share:Bool} {cs ds:List AV} (h:Al (CvC hp [] share) cs ds):Cv hp [] share (.agg cs) (.agg ds):=.agg _ _ h
theorem Aa.convA {P:Program} {fx:List Nat} {f:FuncId} {avs:List AV} {tm:List (Nat × AV)} {hp:Hp} {nx:Nat} {dst:Option Nat} {K:St->Prop} {Q:AV->Hp->Nat->Prop} {args:List AV} (aB:Ret P f args [] nx true Q) (cb:Al (Cv hp [] false) avs args)
 (h:∀ r ho m,Q r ho m->(Ld r=true/\Kg ho)/\K ⟨Na dst r tm,ho++hp,m⟩):Aa P fx f avs ⟨tm,hp,nx⟩ dst K :=
 Aa.plain ⟨args,[],true,false,Q,cb,fun id o h=>by simp [look] at h,aB,fun id h=>by simp [Bq,Af] at h,fun r ho m hq=>⟨fun _=>⟨(h r ho m hq).1.1,Qp (h r ho m hq).1.2⟩,(h r ho m hq).2⟩⟩
theorem Aa.convAIs {P:Program} {fx:List Nat} {f:FuncId} {avs:List AV} {tm:List (Nat × AV)} {hp:Hp} {nx:Nat} {dst:Option Nat} {K:St->Prop} {args:List AV} {r:AV} {ho:Hp} {m:Nat} (aB:Ret P f args [] nx true (Is r ho m)) (cb:Al (Cv hp [] false) avs args)
 (hf:Ld r=true) (fV:Kg ho) (h:K ⟨Na dst r tm,ho++hp,m⟩):Aa P fx f avs ⟨tm,hp,nx⟩ dst K :=
 Aa.convA aB cb (by rintro _ _ _ ⟨rfl,rfl,rfl⟩; exact ⟨⟨hf,fV⟩,h⟩)
theorem a9e.is {P:Program} {fx:List Nat} {f:FuncId} {avs:List AV} {hp0 ov:Hp} {s:St} {d:Nat} {K:AV->Hp->Prop} {i:Nat} {o o':A2} {v:AV} (aB:∀ n,Ret P f avs [(i,o)] n true (Is v [(i,o')] n)) (hn:a7v [i] avs=true) (bU:Pv [i] o=true)
 (hl:look (ov++s.hp) i=some o) (h0:∃ o'',look hp0 i=some o'') (h:K v [(i,o')]):a9e P fx f avs hp0 ov s d K:=by
 refine ⟨⟨[(i,o)],v,[(i,o')],fun id ob e=>?_,fun id ob e=>?_,fun tm hp nx hs=>?_,h⟩⟩
 · rw [Aj] at e
   split at e
   · rename_i hk; subst hk; cases e; exact ⟨hl,h0⟩
   · simp [look] at e
 · rw [Aj] at e
   split at e
   · rename_i hk; subst hk; exact ⟨o,Ae _ _ _⟩
   · simp [look] at e
 · refine Aa.heapIs (aB nx) hn ⟨hs i o (Ae _ _ _),bU,trivial⟩ rfl ?_
   rfl
theorem B8.convAIs {P:Program} {f:FuncId} {avs:List AV} {tm:List (Nat × AV)} {hp:Hp} {nx d:Nat} {K:St->Prop} {args:List AV} {v:AV} {ho:Hp} {m:Nat} (aB:Ret P f args [] nx true (Is v ho m)) (cb:Al (Cv hp [] false) avs args)
 (hf:Ld v=true) (fV:Kg ho) (hk:(Nat.ble nx m&&a3g nx ho)=true) (h:K ⟨(d,v)::tm,ho++hp,m⟩):B8 P f avs ⟨tm,hp,nx⟩ d K:=⟨⟨args,false,v,ho,m,cb,aB,hk,fun _=>⟨hf,fV⟩,h⟩⟩
theorem Cc {p:Prop} (h:p:=by repeat' first | exact trivial | exact Qt rfl | exact b1h | exact a9r rfl (by (first | rfl | (simp only [List.length_map]; done) | (simp only [List.length_map]; first | rfl | assumption | omega))) | exact B3 rfl | exact a9q | exact a9p rfl (by (first | rfl | (simp only [List.length_map]; done) | (simp only [List.length_map]; first | rfl | assumption | omega))) | refine b1i rfl ?_ rfl | refine Vb ?_ | refine And.intro ?_ ?_):p:=h
end Go.Am
namespace Go.Am
open Go.RowKit
set_option linter.unusedVariables false
set_option linter.unusedSimpArgs false
structure W2 (A B:Prop):Prop where
 m ::
 l:A
 r:B
structure W1 (p A:Prop):Prop where
 m ::
 f:p->A
structure Gw (L G:Prop):Prop where
 f:L->G
structure Gy (L G:Prop):Prop where
 m ::
 g:Gw L G
theorem Gy.f {L G:Prop} (h:Gy L G):L->G:=h.g.f
theorem Gw.end' {G:Prop}:Gw G G:=⟨fun h=>h⟩
theorem Gw.yes {L X Y:Prop} (h:Gy L X):Gw L (Bt true X Y):=⟨fun l=>.yes (h.f l)⟩
theorem Gw.no {L X Y:Prop} (h:Gy L Y):Gw L (Bt false X Y):=⟨fun l=>.not (h.f l)⟩
theorem Gw.dec {p:Prop} [Decidable p] {X Y A B:Prop} (ht:p->Gy A X) (hf:¬ p->Gy B Y):Gw (W2 (W1 p A) (W1 (¬ p) B)) (Bt (decide p) X Y):=⟨fun l=>.dec (fun h=>(ht h).f (l.l.f h)) (fun h=>(hf h).f (l.r.f h))⟩
theorem Gw.decT {p:Prop} [Decidable p] {X Y A:Prop} (hf:¬ p->False) (ht:p->Gy A X):Gw (W1 p A) (Bt (decide p) X Y):=⟨fun l=>.dec (fun h=>(ht h).f (l.f h)) (fun h=>(hf h).elim)⟩
theorem Gw.decF {p:Prop} [Decidable p] {X Y B:Prop} (ht:p->False) (hf:¬ p->Gy B Y):Gw (W1 (¬ p) B) (Bt (decide p) X Y):=⟨fun l=>.dec (fun h=>(ht h).elim) (fun h=>(hf h).f (l.f h))⟩
theorem Gw.ndec {p:Prop} [Decidable p] {X Y A B:Prop} (ht:¬ p->Gy A X) (hf:p->Gy B Y):Gw (W2 (W1 (¬ p) A) (W1 p B)) (Bt (!decide p) X Y):=⟨fun l=>.ndec (fun h=>(ht h).f (l.l.f h)) (fun h=>(hf h).f (l.r.f h))⟩
theorem Gw.ndecT {p:Prop} [Decidable p] {X Y A:Prop} (hf:p->False) (ht:¬ p->Gy A X):Gw (W1 (¬ p) A) (Bt (!decide p) X Y):=⟨fun l=>.ndec (fun h=>(ht h).f (l.f h)) (fun h=>(hf h).elim)⟩
theorem Gw.ndecF {p:Prop} [Decidable p] {X Y B:Prop} (ht:¬ p->False) (hf:p->Gy B Y):Gw (W1 p B) (Bt (!decide p) X Y):=⟨fun l=>.ndec (fun h=>(ht h).elim) (fun h=>(hf h).f (l.f h))⟩
theorem Gw.both {A B X Y:Prop} (h:Gy A X) (k:Gy B Y):Gw (W2 A B) (a7j X Y):=⟨fun l=>⟨h.f l.l,k.f l.r⟩⟩
theorem Gw.keep {L X Y:Prop} (x:X) (h:Gy L Y):Gw L (Pu X Y):=⟨fun l=>⟨x,h.f l⟩⟩
theorem Gw.and {L p Y:Prop} (x:p) (h:Gy L Y):Gw L (p/\Y):=⟨fun l=>⟨x,h.f l⟩⟩
theorem Goes {G L:Prop} (l:L) (w:Gy L G:=by
 repeat' first
  | (apply Go.Am.Gy.m; conv=>arg 2; whnf)
  | apply Go.Am.Gw.yes
  | apply Go.Am.Gw.no
  | (apply Go.Am.Gw.decF; focus (intro h; first | omega | exact h (by assumption) | exact absurd h (by assumption)))
  | (apply Go.Am.Gw.decT; focus (intro h; first | omega | exact h (by assumption) | exact absurd h (by assumption)))
  | apply Go.Am.Gw.dec
  | (apply Go.Am.Gw.ndecF; focus (intro h; first | omega | exact h (by assumption) | exact absurd h (by assumption)))
  | (apply Go.Am.Gw.ndecT; focus (intro h; first | omega | exact h (by assumption) | exact absurd h (by assumption)))
  | apply Go.Am.Gw.ndec
  | apply Go.Am.Gw.both
  | (apply Go.Am.Gw.keep; focus (repeat' first | exact trivial | rfl | apply And.intro))
  | (apply Go.Am.Gw.and; focus (first | decide | omega))
  | exact Go.Am.Gw.end'
  | intro h
  | fail):G:=w.f l
end Go.Am
