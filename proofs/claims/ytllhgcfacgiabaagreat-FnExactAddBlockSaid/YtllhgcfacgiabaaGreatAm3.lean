import Derived.Test.YtllhgcfacgiabaaGreatAm1
namespace Go.Am
open Go.RowKit
set_option linter.unusedVariables false
set_option linter.unusedSimpArgs false
def a4N:Value->Value->Bool
 | .bool a,.bool b=>a==b
 | .int k a,.int k' b=>k==k'&&decide (a=b)
 | .float k a,.float k' b=>(match k,k' with | .f32,.f32=>true | .f64,.f64=>true | _,_=>false)&&Nat.beq a b
 | .string a,.string b=>Nat.beq a.size 0&&Nat.beq b.size 0
 | .pointer none,.pointer none=>true
 | .slice none a b,.slice none c d=>Nat.beq a c&&Nat.beq b d
 | .map none,.map none=>true
 | .chan none,.chan none=>true
 | .nilFunc,.nilFunc=>true
 | .nilIface,.nilIface=>true
 | _,_=>false
theorem a68 {a b:Value} (h:a4N a b=true):a=b:=by
 unfold a4N at h
 split at h <;> first
  | (simp at h; done)
  | (simp at h; simp [h]; done)
  | rfl
  | skip
 · simp at h; obtain ⟨h1,h2⟩:=h
   rw [h2]; congr 1; split at h1 <;> first | rfl | (simp at h1)
def Ou:List Value->List Value->Bool
 | [],[]=>true
 | a::as,b::bs=>a4N a b&&Ou as bs
 | _,_=>false
theorem Wr:∀ {l m:List Value},Ou l m=true->l=m
 | [],[],_=>rfl
 | a::as,b::bs,h=>by simp [Ou] at h; rw [a68 h.1,Wr h.2]
 | [],_::_,h=>by simp [Ou] at h
 | _::_,[],h=>by simp [Ou] at h
def L6:TypeDesc->Bool
 | .struct _=>true
 | .array _ _=>true
 | _=>false
def Rl (P:Program) (f:Field) (x:Nat × Nat × Bool):Bool :=
 Nat.beq f.offset x.1&&(match P.info? f.type with | some i=>Nat.beq i.size x.2.1 | none=>false)&&(match P.underlying f.type with | some d=>L6 d==x.2.2 | none=>false)
def Fp (P:Program):List Field->List (Nat × Nat × Bool)->Bool
 | [],[]=>true
 | f::fs,x::xs=>Rl P f x&&Fp P fs xs
 | _,_=>false
def Cw (P:Program) (d:TypeDesc):TK->Bool
 | .word=>!L6 d
 | .struct fs=>match d with | .struct fields=>Fp P fields.toList fs | _=>false
 | .array n e=>match d with | .array m e'=>Nat.beq n m&&Nat.beq e e'&&(P.info? e').isSome | _=>false
 | .slice e=>match d with | .slice e'=>Nat.beq e e' | _=>false
 | .str=>match d with | .string=>true | _=>false
 | .bool=>match d with | .bool=>true | _=>false
 | .map k e=>match d with | .map k' e'=>Nat.beq k k'&&Nat.beq e e' | _=>false
def V5 (P:Program) (o:Nat) (f:Field) (k:KK):Bool :=
 Nat.beq f.offset o && !(f.name == "_") && (match P.underlying f.type with | some d => (match d with | .int k' => (match k with | .int k => k == k' | _ => false) | .bool => (match k with | .bool => true | _ => false) | .string => (match k with | .str => true | _ => false) | _ => false) | none => false)
def Ds (P:Program):Nat->List Field->List KK->Bool
 | _,[],[]=>true
 | o,f::fs,k::ks=>V5 P o f k&&Ds P (o + 1) fs ks
 | _,_,_=>false
def a1M (P:Program) (t:TypeId) (d:TypeDesc):List KK->Bool
 | []=>true
 | ks=>(match d with | .struct fields=>Ds P 0 fields.toList ks | _=>false)&&!(P.stoodInHeld t)&&!(P.eqGuardType P.depth t)
def a82 (P:Program) (t:TypeId) (ti:TI):Bool :=
 match P.info? t with
 | some i=>match P.underlying t with
   | some d=>Nat.beq i.size ti.size&&Nat.beq i.bytes ti.bytes&&(match i.zero with | some z=>Ou z.cells.toList ti.zero | none=>false)&&Nat.beq ti.zero.length ti.size&&ti.zero.all (·.oneCell')&&Cw P d ti.kind &&
      (match ti.int with | some k=>(match d with | .int k'=>k==k' | _=>false) | none=>true)&&a1M P t d ti.keys
   | none=>false
 | none=>false
structure Qi (P:Program) (t:TypeId) (ti:TI) (i:TypeInfo) (d:TypeDesc):Prop where
 info:P.info? t=some i
 under:P.underlying t=some d
 size:i.size=ti.size
 bytes:i.bytes=ti.bytes
 zero:∃ z,i.zero=some z/\z.cells.toList=ti.zero
 zlen:ti.zero.length=ti.size
 zone:∀ v∈ti.zero,v.oneCell'=true
 kind:Cw P d ti.kind=true
 int:∀ k,ti.int=some k->d=.int k
 keys:a1M P t d ti.keys=true
theorem a83 {P:Program} {t:TypeId} {ti:TI} (h:a82 P t ti=true):∃ i d,Qi P t ti i d:=by
 unfold a82 at h
 cases hi:P.info? t with
 | none=>simp [hi] at h
 | some i =>
   cases hd:P.underlying t with
   | none=>simp [hi,hd] at h
   | some d =>
     simp only [hi,hd,Bool.and_eq_true] at h
     obtain ⟨⟨⟨⟨⟨⟨⟨h1,h2⟩,h3⟩,h4⟩,h5⟩,h6⟩,h7⟩,h8⟩:=h
     refine ⟨i,d,hi,hd,Nat.eq_of_beq_eq_true h1,Nat.eq_of_beq_eq_true h2,?_,Nat.eq_of_beq_eq_true h4,fun v hv=>by simpa using (List.all_eq_true.1 h5) v hv,h6,fun k hk=>?_,h8⟩
     · cases hz:i.zero with
       | none=>simp [hz] at h3
       | some z=>simp only [hz] at h3; exact ⟨z,rfl,Wr h3⟩
     · simp only [hk] at h7
       cases d <;> simp at h7
       rw [h7]
structure Bg (P:Program) (tt:Tab):Prop where
 ok:∀ t ti,look tt t=some ti->∃ i d,Qi P t ti i d
 mixed:P.follows .mixedOrders=true
instance (P:Program) (tt:Tab):CoeFun (Bg P tt) (fun _=>∀ t ti,look tt t=some ti->∃ i d,Qi P t ti i d):=⟨Bg.ok⟩
theorem b1T {P:Program} {tt:Tab} (h:(tt.all fun x=>a82 P x.1 x.2)=true) (hm:P.follows .mixedOrders=true):Bg P tt:=by
 refine ⟨?_,hm⟩
 intro t ti hl
 induction tt with
 | nil=>simp [look] at hl
 | cons x r ih =>
   obtain ⟨k,v⟩:=x
   simp only [List.all_cons,Bool.and_eq_true] at h
   rw [Aj] at hl
   split at hl
   · rename_i e; subst e; simp at hl; subst hl; exact a83 h.1
   · exact ih h.2 hl
theorem F2 {P:Program} {t:TypeId} {d:TypeDesc} (h:P.underlying t=some d) (w:World):(isAgg t).run P w=.ok (L6 d) w:=by
 simp [isAgg,run_underlying h]
 cases d <;> rfl
theorem a84 {P:Program} {d:TypeDesc} {k:TK} (h:Cw P d k=true):L6 d=k.isAgg:=by
 cases k with
 | word=>simp [Cw] at h; simp [TK.isAgg,h]
 | struct fs=>cases d <;> simp [Cw] at h <;> rfl
 | array n e=>cases d <;> simp [Cw] at h <;> rfl
 | slice e=>cases d <;> simp [Cw] at h <;> rfl
 | str=>cases d <;> simp [Cw] at h <;> rfl
 | bool=>cases d <;> simp [Cw] at h <;> rfl
 | map k e=>cases d <;> simp [Cw] at h <;> rfl
theorem Qi.isAgg {P:Program} {t:TypeId} {ti:TI} {i:TypeInfo} {d:TypeDesc} (h:Qi P t ti i d) (w:World):(Go.isAgg t).run P w=.ok ti.kind.isAgg w:=by
 rw [F2 h.under,a84 h.kind]
theorem Qi.sizeOf {P:Program} {t:TypeId} {ti:TI} {i:TypeInfo} {d:TypeDesc} (h:Qi P t ti i d) (w:World):(Go.sizeOf t).run P w=.ok ti.size w:=by
 simp [Go.sizeOf,typeInfo,h.info,h.size]
theorem a85 {w:World} {S:Nat->Prop} {ι:Loc} {v:Value} {a:AV} (h:a4M v=some a):Bi w S ι v a:=by
 unfold a4M at h
 split at h
 · rename_i cs
   cases hb:cs.toList.all (·.oneCell') with
   | false=>simp [hb] at h
   | true =>
     simp [hb] at h
     subst h
     have:(Value.agg cs)=.agg cs.toList.toArray:=by simp
     rw [this]
     refine .one (.agg _ _ (Al.of (by simp) fun i x y hx hy=>?_))
     simp at hy hx
     obtain ⟨u,hu,rfl⟩:=hy
     rw [hx] at hu; simp at hu; subst hu
     exact .rd (.val _ ((List.all_eq_true.1 hb) _ (List.mem_of_getElem? (i:=i) (by simpa using hx))))
 · simp at h
 · rename_i h1 h2
   simp at h; subst h
   refine .one (.cell (.rd (.val _ ?_)))
   cases v <;> first | rfl | exact absurd rfl (h1 _) | exact absurd rfl (h2 _)
theorem a69 {K:Nat->Prop} {v:Value} {a:AV} (h:a4M v=some a):a.uses K:=by
 unfold a4M at h
 split at h
 · rename_i cs
   cases hb:cs.toList.all (·.oneCell') with
   | false=>simp [hb] at h
   | true=>simp [hb] at h; subst h; intro c hc id hi; simp at hc; obtain ⟨u,_,rfl⟩:=hc; simp [AV.idOf] at hi
 · simp at h
 · simp at h; subst h; trivial
theorem a22 {tm:List (Nat × AV)} {t:Nat} {v:AV} (h:Au tm (.tmp t)=some v):look tm t=some v/\v≠.junk:=by
 simp only [Au] at h
 split at h
 · cases h
 · rename_i hj
   exact ⟨h,fun e=>hj (by rw [h,e])⟩
theorem a7a {v:Value} {a:AV} (h:a4M v=some a):a≠.junk:=by
 rintro rfl
 unfold a4M at h
 split at h
 · rename_i cs
   cases hb:cs.toList.all (·.oneCell') <;> simp [hb] at h
 · simp at h
 · simp at h
theorem Ak {ι:Loc} {S:Nat->Prop} {tm:List (Nat × AV)} {nt nx:Nat} {w:World} {a:Act} (h:Cr ι S tm nt nx w a.tmps) {x:Operand} {v:AV} (hx:Au tm x=some v):Bi w S ι (a.eval x) v/\v.uses (· < nx):=by
 cases x with
 | tmp t=>have hx:=(a22 hx).1; exact ⟨(h.tm t v hx).2.2,(h.tm t v hx).2.1⟩
 | const c=>exact ⟨a85 hx,a69 hx⟩
 | global g=>simp [Au] at hx; subst hx; exact ⟨.one (.cell (.rd (.val _ rfl))),trivial⟩
 | func f=>simp [Au] at hx; subst hx; exact ⟨.one (.cell (.rd (.val _ rfl))),trivial⟩
theorem Jg {tm:List (Nat × AV)} {x:Operand} {v:AV} (hx:Au tm x=some v):v≠.junk:=by
 cases x with
 | tmp t=>exact (a22 hx).2
 | const c=>exact a7a hx
 | global g=>simp [Au] at hx; subst hx; intro e; cases e
 | func f=>simp [Au] at hx; subst hx; intro e; cases e
theorem Bi.val_inv {w:World} {S:Nat->Prop} {ι:Loc} {v u:Value} (h:Bi w S ι v (.val u)):v=u/\u.oneCell'=true:=by
 cases h with
 | one h=>cases h with
   | cell h=>cases h with
     | rd h=>cases h with
       | val v h=>exact ⟨rfl,h⟩
theorem Bi.agg_inv {w:World} {S:Nat->Prop} {ι:Loc} {v:Value} {cs:List AV} (h:Bi w S ι v (.agg cs)):∃ vs,v=.agg vs.toArray/\Al (A9 w S ι) vs cs:=by
 cases h with
 | one h=>cases h with
   | cell h=>cases h with
     | rd h=>cases h
   | agg vs cs h=>exact ⟨vs,rfl,h⟩
theorem Bi.tup_inv {w:World} {S:Nat->Prop} {ι:Loc} {v:Value} {cs:List AV} (h:Bi w S ι v (.tup cs)):∃ vs,v=.tuple vs.toArray/\Al (Eo w S ι) vs cs:=by
 cases h with
 | one h=>cases h with
   | cell h=>cases h with
     | rd h=>cases h
 | tup vs cs h=>exact ⟨vs,rfl,h⟩
theorem Bi.cells_rel {w:World} {S:Nat->Prop} {ι:Loc} {v:Value} {a:AV} (h:Bi w S ι v a) (hj:a≠.junk) (ht:∀ vs,a≠.tup vs):Al (A9 w S ι) v.cells.toList a.cells:=by
 cases h with
 | one h=>cases h with
   | cell h =>
     have h1:=h.one
     have hv:v.cells.toList=[v]:=by cases v <;> first | rfl | (simp [Value.oneCell'] at h1)
     have ha:a.cells=[a]:=by cases a <;> first | rfl | (cases h with | rd h=>cases h)
     rw [hv,ha]; exact ⟨h,trivial⟩
   | agg vs cs h=>exact h
 | tup vs cs h=>exact absurd rfl (ht cs)
 | any v=>exact absurd rfl hj
theorem L8 {K:Nat->Prop} {a:AV} (h:a.uses K) (ht:∀ vs,a≠.tup vs):∀ c∈a.cells,∀ id,c.idOf=some id->K id:=by
 cases a with
 | agg cs=>exact h
 | tup vs=>exact absurd rfl (ht vs)
 | own id len=>intro c hc i hi; simp [AV.cells] at hc; subst hc; simp [AV.idOf] at hi; subst hi; exact h
 | pt id r o=>intro c hc i hi; simp [AV.cells] at hc; subst hc; simp [AV.idOf] at hi; subst hi; exact h
 | sb id r o l=>intro c hc i hi; simp [AV.cells] at hc; subst hc; simp [AV.idOf] at hi; subst hi; exact h
 | mp id=>intro c hc i hi; simp [AV.cells] at hc; subst hc; simp [AV.idOf] at hi; subst hi; exact h
 | clo id=>intro c hc i hi; simp [AV.cells] at hc; subst hc; simp [AV.idOf] at hi; subst hi; exact h
 | _=>intro c hc i hi; simp [AV.cells] at hc; subst hc; simp [AV.idOf] at hi
theorem Bi.pt_inv {w:World} {S:Nat->Prop} {ι:Loc} {v:Value} {id row off:Nat} (h:Bi w S ι v (.pt id row off)):∃ g c s,ι id=some (.blk g c s)/\v=.pointer (some ⟨g,row * s + off,none⟩):=by
 cases h with
 | one h=>cases h with
   | cell h=>cases h with
     | rd h=>cases h
     | pt id row off g c s h=>exact ⟨g,c,s,h,rfl⟩
theorem Bi.rp_inv {w:World} {S:Nat->Prop} {ι:Loc} {v:Value} {cs:List AV} (h:Bi w S ι v (.rp cs)) :
 ∃ b off vs,v=.pointer (some ⟨b,off,none⟩)/\S b/\Al (Rd w S) vs cs/\∀ (i:Nat) (v:Value),vs[i]?=some v->w.cell? ⟨b,off + i,none⟩=some v:=by
 cases h with
 | one h=>cases h with
   | cell h=>cases h with
     | rd h=>cases h
     | rp cs b off h3 vs h4 h6 h7=>exact ⟨b,off,vs,rfl,h3,Al.of h4 h7,h6⟩
theorem Bi.own_inv {w:World} {S:Nat->Prop} {ι:Loc} {v:Value} {id len:Nat} (h:Bi w S ι v (.own id len)) :
 (∃ g cap s,ι id=some (.blk g cap s)/\len<=cap/\cap<=maxLen/\v=.slice (some ⟨g,0,none⟩) len cap)∨(ι id=some .nil/\len=0/\v=.slice none 0 0):=by
 cases h with
 | one h=>cases h with
   | cell h=>cases h with
     | rd h=>cases h
     | own id len g cap s h h1 h2=>exact .inl ⟨g,cap,s,h,h1,h2,rfl⟩
     | own0 id h=>exact .inr ⟨h,rfl,rfl⟩
theorem Bi.mp_inv {w:World} {S:Nat->Prop} {ι:Loc} {v:Value} {id:Nat} (h:Bi w S ι v (.mp id)):∃ g,v=.map (some g)/\ι id=some (.blk g 0 1):=by
 cases h with
 | one h=>cases h with
   | cell h=>cases h with
     | rd h=>cases h
     | mp id g h=>exact ⟨g,rfl,h⟩
theorem Bi.clo_inv {w:World} {S:Nat->Prop} {ι:Loc} {v:Value} {id:Nat} (h:Bi w S ι v (.clo id)):ι id=some (.clo v):=by
 cases h with
 | one h=>cases h with
   | cell h=>cases h with
     | rd h=>cases h
     | clo id v h _=>exact h
theorem Bi.lst_inv {w:World} {S:Nat->Prop} {ι:Loc} {v:Value} {rows:List (List AV)} (h:Bi w S ι v (.lst rows)):Rd w S v (.lst rows):=by
 cases h with
 | one h=>cases h with
   | cell h=>cases h with
     | rd h=>exact h
theorem Al.notid {w:World} {S:Nat->Prop}:∀ {vs:List Value} {cs:List AV},Al (Rd w S) vs cs->∀ c∈cs,c.idOf=none
 | [],[],_,c,hc=>by cases hc
 | v::vs,x::cs,h,c,hc=>by
   rcases List.mem_cons.1 hc with rfl | hc
   · have:=h.1; cases this <;> rfl
   · exact Al.notid h.2 c hc
 | [],_::_,h,_,_=>h.elim
 | _::_,[],h,_,_=>h.elim
variable {E:Env} {s:St} {a:Act} {w:World} {ι:Loc} {S:Nat->Prop} {tt:Tab}
def Good (E:Env) (s:St) (r:Result Next) (w:World) (ι:Loc) (S:Nat->Prop) (av:AV) (hp:List (Nat × A2)) (nx:Nat):Prop :=
 ∃ v w' ι' S',r=.ok (.value v) w'/\Core E ι' S' hp nx w'/\s.nx<=nx/\Later w w' S S' ι ι' (· < s.nx)/\Bi w' S' ι' v av/\av.uses (· < nx)
theorem Later.refl (w:World) (S:Nat->Prop) (ι:Loc) (K:Nat->Prop):Later w w S S ι ι K:=⟨fun b h=>⟨h,rfl⟩,fun id p _ h=>h⟩
theorem Good.same (hC:Core E ι S s.hp s.nx w) {r:Result Next} {v:Value} {av:AV} (hr:r=.ok (.value v) w) (hv:Bi w S ι v av) (hu:av.uses (· < s.nx)):Good E s r w ι S av s.hp s.nx :=
 ⟨v,w,ι,S,hr,hC,Nat.le_refl _,Later.refl _ _ _ _,hv,hu⟩
theorem Core.alloc {hp:List (Nat × A2)} {nx:Nat} (hC:Core E ι S hp nx w) {ob:Obj} {c sz:Nat} {o:A2}
 (ho:Bp (w.alloc ob) S (put ι nx (some (.blk w.heap.size c sz))) nx o) (hu:o.uses (· < nx + 1)) :
 Core E (put ι nx (some (.blk w.heap.size c sz))) S ((nx,o)::hp) (nx + 1) (w.alloc ob) /\
 Later w (w.alloc ob) S S ι (put ι nx (some (.blk w.heap.size c sz))) (· < nx):=by
 have be:∀ k,k < w.heap.size->(w.alloc ob).heap[k]?=w.heap[k]?:=fun k hk=>Below.heap_alloc _ _ _ hk
 have hL:Later w (w.alloc ob) S S ι (put ι nx (some (.blk w.heap.size c sz))) (· < nx) :=
  ⟨fun b hb=>⟨hb,be b (hC.lt b hb)⟩,fun id p hid h=>by rw [Ci _ _ (by first | omega | (dsimp only; omega) | (dsimp only at *; omega))]; exact h⟩
 refine ⟨⟨hC.frame.trans (Frame.of_below (D:=E.D) ((Below.refl _ _).alloc (Nat.le_refl _) _)) (fun _ _ h=>h),hC.sub,fun b hb=>by have:=hC.lt b hb; simp; omega,?_,?_,?_,?_,?_,fun id p h=>?_,hC.fxs⟩,hL⟩
 · rintro b hb ⟨id,c',s',h⟩
   by_cases hid:id=nx
   · subst hid
     rw [As] at h
     simp at h
     have:=hC.lt b hb
     omega
   · rw [Dd _ _ hid] at h; exact hC.dis b hb ⟨id,c',s',h⟩
 · intro id g c' s' h
   by_cases hid:id=nx
   · subst hid
     rw [As] at h
     simp at h
     obtain ⟨rfl,_⟩:=h
     exact ⟨by simp,.inl hC.frame.size⟩
   · rw [Dd _ _ hid] at h
     have:=hC.own id g c' s' h
     exact ⟨by simp; omega,this.2⟩
 · intro i j g c' d' s' r' hi hj
   by_cases h1:i=nx <;> by_cases h2:j=nx
   · exact h1.trans h2.symm
   · subst h1
     rw [As] at hi
     rw [Dd _ _ h2] at hj
     simp at hi
     have:=(hC.own j g _ _ hj).1
     omega
   · subst h2
     rw [As] at hj
     rw [Dd _ _ h1] at hi
     simp at hj
     have:=(hC.own i g _ _ hi).1
     omega
   · rw [Dd _ _ h1] at hi
     rw [Dd _ _ h2] at hj
     exact hC.inj i j g _ _ _ _ hi hj
 · intro id hid
   rw [Ci _ _ (by first | omega | (dsimp only; omega) | (dsimp only at *; omega))]
   exact hC.new id (by omega)
 · intro id o' h
   rw [Aj] at h
   split at h
   · rename_i e
     subst e
     simp at h
     subst h
     exact ⟨by omega,hu,ho⟩
   · have ⟨h1,h2,h3⟩:=hC.obj id o' h
     refine ⟨by omega,?_,h3.mono hL h1 h2 (fun _ k q hk hq=>by rw [Ci _ _ (by rw [hk]; exact Nat.ne_of_lt h1)]; exact hq) (fun k g c' s' _ hg=>be g (hC.own k g c' s' hg).1)⟩
     cases o' with
     | box cs=>exact fun c hc i hi=>Nat.lt_succ_of_lt (h2 c hc i hi)
     | list e s rows=>trivial
     | map ks rows=>trivial
     | ranged=>trivial
     | clo f fs cs=>exact ⟨fun c hc i hi=>Nat.lt_succ_of_lt (h2.1 c hc i hi),fun c hc i hi=>Nat.lt_succ_of_lt (h2.2 c hc i hi)⟩
     | nest e s rows=>exact fun h0 c hc i hi=>Nat.lt_succ_of_lt (h2 h0 c hc i hi)
 · have h':=hC.stay id p h
   by_cases hid:id=nx
   · subst hid; rw [hC.new _ (Nat.le_refl _)] at h'; cases h'
   · rw [Ci _ _ hid]; exact h'
theorem L9 (P:Program) (w:World) (t:TypeId) (cs:Array Value):(newRow t cs).run P w=.ok ⟨w.heap.size,0,none⟩ (w.alloc (.cells cs t)):=by
 rfl
theorem Ap {P:Program} {r:Sem Value} {v:Value} {w w':World} (h:r.run P w=.ok v w'):(do pure (Next.value (<- r)):Sem Next).run P w=.ok (.value v) w':=by
 simp [Sem.run_bind,h,Result.andThen_ok]
theorem a23 (hC:Core E ι S s.hp s.nx w) {v:Value} {cs:List AV} (h:Al (A9 w S ι) v.cells.toList cs) (hu:∀ c∈cs,∀ id,c.idOf=some id->id < s.nx) (T:TypeId) {r:Sem Value}
 (hr:r.run E.P w=.ok (.pointer (some ⟨w.heap.size,0,none⟩)) (w.alloc (.cells v.cells T))) :
 Good E s ((do pure (Next.value (<- r)):Sem Next).run E.P w) w ι S (.pt s.nx 0 0) ((s.nx,.box cs)::s.hp) (s.nx + 1):=by
 have e:v.cells=v.cells.toList.toArray:=by simp
 rw [e] at hr
 have hL:Later w (w.alloc (.cells v.cells.toList.toArray T)) S S ι (put ι s.nx (some (.blk w.heap.size 0 0))) (· < s.nx) :=
  ⟨fun b hb=>⟨hb,Below.heap_alloc _ _ _ (hC.lt b hb)⟩,fun id p hid h=>by rw [Ci _ _ (by first | omega | (dsimp only; omega) | (dsimp only at *; omega))]; exact h⟩
 have ho:Bp (w.alloc (.cells v.cells.toList.toArray T)) S (put ι s.nx (some (.blk w.heap.size 0 0))) s.nx (.box cs) :=
  .box w.heap.size 0 0 T cs v.cells.toList (As _ _ _) rfl (heap_alloc_new w _) (Al.of h.length fun i x y hx hy=>(h.at hx hy).mono hL (hu y (List.mem_of_getElem? hy)))
 have:=hC.alloc (c:=0) (sz:=0) ho (fun c hc id hi=>Nat.lt_succ_of_lt (hu c hc id hi))
 refine ⟨_,_,_,S,Ap hr,this.1,Nat.le_succ _,this.2,.one (.cell ?_),Nat.lt_succ_self _⟩
 have:=A9.pt (w:=w.alloc (.cells v.cells.toList.toArray T)) (S:=S) (ι:=put ι s.nx (some (.blk w.heap.size 0 0))) s.nx 0 0 w.heap.size 0 0 (As _ _ _)
 simpa using this
theorem Tm {ti:TI} {P:Program} {t:TypeId} {i:TypeInfo} {d:TypeDesc} (h:Qi P t ti i d):Al (A9 w S ι) ti.zero (Dr ti):=by
 refine Al.of (by simp [Dr]) fun i x y hx hy=>?_
 simp [Dr] at hy
 obtain ⟨u,hu,rfl⟩:=hy
 rw [hx] at hu; simp at hu; subst hu
 exact .rd (.val _ (h.zone _ (List.mem_of_getElem? hx)))
theorem Ma {ti:TI} {K:Nat->Prop}:∀ c∈Dr ti,∀ id,c.idOf=some id->K id:=by
 intro c hc id hi; simp [Dr] at hc; obtain ⟨u,_,rfl⟩:=hc; simp [AV.idOf] at hi
def SR.Sound (E:Env) (s:St) (f:(Operand->Value)->Sem Next):SR->Prop
 | .no=>True
 | .ok av=>∀ (a:Act) (w:World) (ι:Loc) (S:Nat->Prop),Core E ι S s.hp s.nx w->Cr ι S s.tm E.nt s.nx w a.tmps->Good E s ((f a.eval).run E.P w) w ι S av s.hp s.nx
 | .cond p av=>p->∀ (a:Act) (w:World) (ι:Loc) (S:Nat->Prop),Core E ι S s.hp s.nx w->Cr ι S s.tm E.nt s.nx w a.tmps->Good E s ((f a.eval).run E.P w) w ι S av s.hp s.nx
 | .newP o=>∀ (a:Act) (w:World) (ι:Loc) (S:Nat->Prop),Core E ι S s.hp s.nx w->Cr ι S s.tm E.nt s.nx w a.tmps->Good E s ((f a.eval).run E.P w) w ι S (.pt s.nx 0 0) ((s.nx,o)::s.hp) (s.nx + 1)
 | .newM o=>∀ (a:Act) (w:World) (ι:Loc) (S:Nat->Prop),Core E ι S s.hp s.nx w->Cr ι S s.tm E.nt s.nx w a.tmps->Good E s ((f a.eval).run E.P w) w ι S (.mp s.nx) ((s.nx,o)::s.hp) (s.nx + 1)
 | .newC o=>∀ (a:Act) (w:World) (ι:Loc) (S:Nat->Prop),Core E ι S s.hp s.nx w->Cr ι S s.tm E.nt s.nx w a.tmps->Good E s ((f a.eval).run E.P w) w ι S (.clo s.nx) ((s.nx,o)::s.hp) (s.nx + 1)
 | .each id ks left=>∀ (a:Act) (w:World) (ι:Loc) (S:Nat->Prop),Core E ι S s.hp s.nx w->Cr ι S s.tm E.nt s.nx w a.tmps ->
    (left=[]/\Good E s ((f a.eval).run E.P w) w ι S (.tup [.val (.bool false)]) s.hp s.nx) ∨
    ∃ (j:Nat) (h:j < left.length),Good E s ((f a.eval).run E.P w) w ι S (.tup [.val (.bool true),.agg (kvA ks left[j].1),left[j].2]) ((id,.ranged ks (some left[j]) (left.eraseIdx j))::s.hp) s.nx
 | .newL0 len o=>∀ (a:Act) (w:World) (ι:Loc) (S:Nat->Prop),Core E ι S s.hp s.nx w->Cr ι S s.tm E.nt s.nx w a.tmps ->
    ∃ v w' ι' S',(f a.eval).run E.P w=.ok (.value v) w'/\Core E ι' S' ((s.nx,o)::s.hp) (s.nx + 1) w'/\Later w w' S S' ι ι' (· < s.nx)/\Bi w' S' ι' v (.own s.nx len)/\(∀ g c z,ι' s.nx=some (.blk g c z)->w.heap.size<=g)/\∀ e sz rows,o=.list e sz rows->len<=rows.length
 | .newL p len o=>p->∀ (a:Act) (w:World) (ι:Loc) (S:Nat->Prop),Core E ι S s.hp s.nx w->Cr ι S s.tm E.nt s.nx w a.tmps->Good E s ((f a.eval).run E.P w) w ι S (.own s.nx len) ((s.nx,o)::s.hp) (s.nx + 1)
 | .kill p id av o=>p->E.fix id=none->∀ (a:Act) (w:World) (ι:Loc) (S:Nat->Prop),Core E ι S s.hp s.nx w->Cr ι S s.tm E.nt s.nx w a.tmps ->
    ∃ v w' ι' S',(f a.eval).run E.P w=.ok (.value v) w'/\Core E ι' S' ((id,o)::K5 [id] s.hp) s.nx w'/\Later w w' S S' ι ι' (fun i=>i < s.nx/\Af i [id]=false)/\Bi w' S' ι' v av/\av.uses (· < s.nx)
 | .setB id o=>∀ (a:Act) (w:World) (ι:Loc) (S:Nat->Prop),Core E ι S s.hp s.nx w->Cr ι S s.tm E.nt s.nx w a.tmps ->
    ∃ w' ι' S',(f a.eval).run E.P w=.ok .skip w'/\Core E ι' S' ((id,o)::s.hp) s.nx w'/\s.nx<=s.nx/\Later w w' S S' ι ι' (· < s.nx)
 | .set p id o=>p->∀ (a:Act) (w:World) (ι:Loc) (S:Nat->Prop),Core E ι S s.hp s.nx w->Cr ι S s.tm E.nt s.nx w a.tmps ->
    ∃ w' ι' S',(f a.eval).run E.P w=.ok .skip w'/\Core E ι' S' ((id,o)::s.hp) s.nx w'/\s.nx<=s.nx/\Later w w' S S' ι ι' (· < s.nx)
 | .setV p id av o=>p->∀ (a:Act) (w:World) (ι:Loc) (S:Nat->Prop),Core E ι S s.hp s.nx w->Cr ι S s.tm E.nt s.nx w a.tmps->Good E s ((f a.eval).run E.P w) w ι S av ((id,o)::s.hp) s.nx
 | .call n args=>∀ (a:Act) (w:World) (ι:Loc) (S:Nat->Prop),Core E ι S s.hp s.nx w->Cr ι S s.tm E.nt s.nx w a.tmps ->
    ∃ vs:List Value,(f a.eval).run E.P w=(callFunc n vs.toArray).run E.P w/\Al (Bi w S ι) vs args/\∀ x∈args,x.uses (· < s.nx)
 | .pick b x y=>∀ (a:Act) (w:World) (ι:Loc) (S:Nat->Prop),Cr ι S s.tm E.nt s.nx w a.tmps->(f a.eval).run E.P w=.ok (.value (if b then a.eval x else a.eval y)) w
theorem U0 (x:Operand):(moveA s x).Sound E s (fun ρ=>pure (.value (ρ x))):=by
 unfold moveA
 cases h:Au s.tm x with
 | none=>trivial
 | some v =>
   intro a w ι S hC hT
   have:=Ak hT h
   exact Good.same hC rfl this.1 this.2
theorem a1N (hT:Bg E.P tt) (t:TypeId):(a1G tt s t).Sound E s (fun _=>do pure (.value (<- Instr.alloc t true (.tuple #[])))):=by
 unfold a1G
 cases h:look tt t with
 | none=>trivial
 | some ti =>
   simp only [C0]
   intro a w ι S hC ab
   obtain ⟨i,d,hk⟩:=hT t ti h
   obtain ⟨z,hz,dA⟩:=hk.zero
   refine a23 (v:=z) (T:=t) hC (by rw [dA]; exact Tm hk) Ma ?_
   simp [Instr.alloc,zeroValue,typeInfo,hk.info,hz,newVar,L9]
theorem a4O (t:TypeId) (x:Operand):(a8U s x).Sound E s (fun ρ=>do pure (.value (<- Instr.box t (ρ x)))):=by
 unfold a8U
 cases h:Au s.tm x with
 | none=>trivial
 | some v =>
   by_cases ht:∃ vs,v=.tup vs
   · obtain ⟨vs,rfl⟩:=ht; trivial
   · have fG:∀ vs,v≠.tup vs:=fun vs e=>ht ⟨vs,e⟩
     have:∀ (a:Act) (w:World) (ι:Loc) (S:Nat->Prop),Core E ι S s.hp s.nx w->Cr ι S s.tm E.nt s.nx w a.tmps->Good E s ((do pure (.value (<- Instr.box t (a.eval x))):Sem Next).run E.P w) w ι S (.pt s.nx 0 0) ((s.nx,.box v.cells)::s.hp) (s.nx + 1):=by
      intro a w ι S hC ab
      have:=Ak ab h
      exact a23 (v:=a.eval x) (T:=t) hC (this.1.cells_rel (Jg h) fG) (L8 this.2 fG) (by simp [Instr.box,newVar,L9])
     cases v with
     | tup vs=>trivial
     | _=>simp only [C0]; exact this
end Go.Am
