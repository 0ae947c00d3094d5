import Derived.Test.YtllhgcfacgiabaaGreatAmQ0
import Derived.Orders
namespace Go.Am
open Go.RowKit
set_option linter.unusedVariables false
set_option linter.unusedSimpArgs false
variable {E:Env} {s:St} {a:Act} {w:World} {ι:Loc} {S:Nat->Prop} {tt:Tab}
theorem Ty {l:List Bool} (h:l.count false=0):∀ j,j < l.length->l[j]?=some true:=by
 intro j hj
 have hn:=List.count_eq_zero.1 h
 rw [List.getElem?_eq_getElem hj]
 cases e:l[j] with
 | true=>rfl
 | false=>exact absurd (e ▸ List.getElem_mem hj) hn
theorem F4 {l:Array Bool} {j:Nat} (h:j < l.size):l.getD j true=l.getD j false:=by
 rw [Array.getD_eq_getD_getElem?,Array.getD_eq_getD_getElem?,Array.getElem?_eq_getElem h]; rfl
theorem Dz {l:Array Bool} {i:Nat} (h:i < l.size):(l.setIfInBounds i true).getD i false=true:=by
 simp [Array.getD_eq_getD_getElem?,h]
theorem Bb {l:Array Bool} {i j:Nat} (h:j≠i):(l.setIfInBounds i true).getD j false=l.getD j false:=by
 simp only [Array.getD_eq_getD_getElem?]
 rw [Array.getElem?_setIfInBounds_ne (fun e=>h e.symm)]
def a5a (ops:Array Oper) (listed:Array Bool):Prop:=∀ k o,ops[k]?=some o->listed.getD k false=true->∀ e∈o.after,Region.binds .any e=true->listed.getD e.on false=true
theorem Tz {P:Program} {ops:Array Oper} {Q:Exit->Act->World->Prop} (I:Array Bool->Act->World->Prop)
 (eN:∀ i o,ops[i]?=some o->∀ e∈o.after,Region.binds .any e=true->e.on < i)
 (al:∀ listed a w i o,listed.size=ops.size->a5a ops listed->I listed a w->ops[i]?=some o->listed.getD i false=false->(∀ e∈o.after,Region.binds .any e=true->listed.getD e.on false=true) ->
   wpOp P ops Q i (fun a' w'=>I (listed.setIfInBounds i true) a' w') a w)
 (jg:∀ listed a w,listed.size=ops.size->I listed a w->(∀ j,j < ops.size->listed.getD j false=true)->Q .normal a w) :
 ∀ (fuel:Nat) (listed:Array Bool) (a:Act) (w:World),listed.size=ops.size->a5a ops listed->listed.toList.count false<=fuel->I listed a w->wpAny P .any ops Q fuel listed a w:=by
 have prog:∀ listed:Array Bool,listed.size=ops.size->Region.ready .any ops listed=[]->∀ j,j < ops.size->listed.getD j false=true:=by
  intro listed ao hr j
  induction j using Nat.strongRecOn with
  | _ j ih =>
    intro hj
    cases hl:listed.getD j false with
    | true=>rfl
    | false =>
      exfalso
      have:j∈Region.ready .any ops listed:=mem_ready.2 ⟨by rw [F4 (by omega)]; exact hl,ops[j],Array.getElem?_eq_getElem hj,fun e he hb=>by
       have aa:=eN j _ (Array.getElem?_eq_getElem hj) e he hb
       exact ih e.on aa (by omega)⟩
      rw [hr] at this; cases this
 intro fuel
 induction fuel with
 | zero =>
   intro listed a w ao hD hc hI
   have az:∀ j,j < ops.size->listed.getD j false=true:=fun j hj=>by
    have:=Ty (Nat.le_zero.1 hc) j (by simpa [ao] using hj)
    rw [Array.getD_eq_getD_getElem?]
    rw [Array.getElem?_toList] at this
    rw [this]; rfl
   refine ⟨?_,jg listed a w ao hI az⟩
   cases hr:Region.ready .any ops listed with
   | nil=>rfl
   | cons x r =>
     have hx:x∈Region.ready .any ops listed:=by rw [hr]; exact List.mem_cons_self ..
     obtain ⟨h1,o,ho,_⟩:=mem_ready.1 hx
     have aa:x < ops.size:=(Array.getElem?_eq_some_iff.1 ho).1
     rw [F4 (by omega),az x aa] at h1; cases h1
 | succ fuel ih =>
   intro listed a w ao hD hc hI
   refine ⟨fun hr=>jg listed a w ao hI (prog listed ao hr),fun i hi=>?_⟩
   obtain ⟨h1,o,ho,ha⟩:=mem_ready.1 hi
   have aa:i < ops.size:=(Array.getElem?_eq_some_iff.1 ho).1
   rw [F4 (by omega)] at h1
   have mN:a5a ops (listed.setIfInBounds i true):=by
    intro k q hq hk e he hb
    by_cases d5:k=i
    · subst d5
      rw [ho] at hq; cases hq
      have:=ha e he hb
      by_cases jh:e.on=k
      · rw [jh]; exact Dz (by omega)
      · rw [Bb jh]; exact this
    · rw [Bb d5] at hk
      have:=hD k q hq hk e he hb
      by_cases jh:e.on=i
      · rw [jh]; exact Dz (by omega)
      · rw [Bb jh]; exact this
   refine wpOp_mono (fun a' w' jT=>ih _ a' w' (by simp [ao]) mN ?_ jT) (al listed a w i o ao hD hI ho h1 ha)
   have jP:i < listed.toList.length:=by simpa [ao] using aa
   have hv:listed.toList[i]=false:=by
    have:listed[i]'(by omega)=false:=by
     rw [Array.getD_eq_getD_getElem?,Array.getElem?_eq_getElem (by omega)] at h1; exact h1
    simpa using this
   rw [Array.toList_setIfInBounds,List.count_set jP,hv]
   have aE:0 < listed.toList.count false:=List.count_pos_iff.2 (hv ▸ List.getElem_mem jP)
   simp only [beq_self_eq_true,if_true]
   have:(true==false)=false:=rfl
   rw [this]; simp only [Bool.false_eq_true,if_false]; omega
theorem Js {o:Oper} {k:Nat} (h:Af k (It o.after.toList)=true):∃ e∈o.after,Region.binds .any e=true/\e.on=k:=by
 have key:∀ l:List Edge,Af k (It l)=true->∃ e∈l,Region.binds .any e=true/\e.on=k:=by
  intro l
  induction l with
  | nil=>intro h; simp [It,Af] at h
  | cons e r ih =>
    intro h
    simp only [It] at h
    cases hb:Region.binds .any e with
    | true =>
      rw [hb] at h
      simp only [Ag] at h
      split at h
      · rename_i hk; exact ⟨e,List.mem_cons_self ..,hb,hk.symm⟩
      · obtain ⟨e',h1,h2⟩:=ih h; exact ⟨e',List.mem_cons_of_mem _ h1,h2⟩
    | false =>
      rw [hb] at h
      obtain ⟨e',h1,h2⟩:=ih h; exact ⟨e',List.mem_cons_of_mem _ h1,h2⟩
 obtain ⟨e,h1,h2⟩:=key _ h
 exact ⟨e,by simpa using h1,h2⟩
theorem Xi (i:Nat):∀ (l m:List Nat),Af i (l++m)=true->Af i l=true∨Af i m=true
 | [],m,h=>.inr h
 | k::l,m,h=>by
   rw [List.cons_append,Ag] at h
   rw [Ag]
   split at h
   · rename_i e; rw [if_pos e]; exact .inl rfl
   · rename_i e; rw [if_neg e]; exact Xi i l m h
theorem Xj {ops:Array Oper} {listed:Array Bool} (hD:a5a ops listed):∀ (i:Nat) (acc:List Nat),i<=ops.size->O0 (ops.toList.take i).reverse i acc=true->(∀ k,Af k acc=true->listed.getD k false=true)->∀ j,j < i->listed.getD j false=true
 | 0,_,_,_,_,j,hj=>by omega
 | i + 1,acc,hi,hc,b9,j,hj=>by
   have aa:i < ops.toList.length:=by simpa using (show i < ops.size by omega)
   rw [List.take_succ_eq_append_getElem aa,List.reverse_append] at hc
   simp only [List.reverse_cons,List.reverse_nil,List.nil_append,List.cons_append,O0,Bool.and_eq_true] at hc
   have ji:=b9 i hc.1
   by_cases e:j=i
   · subst e; exact ji
   · refine Xj hD i _ (by omega) hc.2 (fun k hk=>?_) j (by omega)
     rcases Xi k _ _ hk with h | h
     · obtain ⟨e,h1,h2,h3⟩:=Js h
       have ho:ops[i]?=some ops.toList[i]:=by
        rw [<- Array.getElem?_toList,List.getElem?_eq_getElem aa]
       have:=hD i _ ho ji e h1 h2
       rw [h3] at this; exact this
     · exact b9 k h
theorem Nq {ops:Array Oper} {listed:Array Bool} (hD:a5a ops listed):∀ (i:Nat) (acc:List Nat),i<=ops.size->(∀ k,Af k acc=true->listed.getD k false=true)->∀ k,Af k (Ei (ops.toList.take i).reverse i acc)=true->listed.getD k false=true
 | 0,acc,_,b9,k,hk=>by
   have:Ei (ops.toList.take 0).reverse 0 acc=acc:=by simp [Ei]
   rw [this] at hk; exact b9 k hk
 | i + 1,acc,hi,b9,k,hk=>by
   have aa:i < ops.toList.length:=by simpa using (show i < ops.size by omega)
   rw [List.take_succ_eq_append_getElem aa,List.reverse_append] at hk
   simp only [List.reverse_cons,List.reverse_nil,List.nil_append,List.cons_append,Ei] at hk
   cases hm:Af i acc with
   | false=>rw [hm] at hk; exact Nq hD i acc (by omega) b9 k hk
   | true =>
     rw [hm] at hk
     refine Nq hD i _ (by omega) (fun j hj=>?_) k hk
     rcases Xi j _ _ hj with h | h
     · obtain ⟨e,h1,h2,h3⟩:=Js h
       have ho:ops[i]?=some ops.toList[i]:=by
        rw [<- Array.getElem?_toList,List.getElem?_eq_getElem aa]
       have:=hD i _ ho (b9 i hm) e h1 h2
       rw [h3] at this; exact this
     · exact b9 j h
inductive Ka (tt:Tab) (hq:Hp) (o:Oper) (tm:List (Nat × AV)):AV->Prop
 | ok {v:AV} (h:Av tt o.op ⟨tm,hq,0⟩=.ok v):Ka tt hq o tm v
 | cond {v:AV} {p:Prop} (h:Av tt o.op ⟨tm,hq,0⟩=.cond p v) (hp:p):Ka tt hq o tm v
 | lst {len e sz:Nat} {rows:List (List AV)} (h:Av tt o.op ⟨tm,hq,0⟩=.newL0 len (.list e sz rows)):Ka tt hq o tm (.lst (rows.take len))
 | pick {v:AV} {b:Bool} {c x y:Operand} (ho:o.op=.pick c x y) (h:Av tt o.op ⟨tm,hq,0⟩=.pick b x y) (hx:Au tm (if b then x else y)=some v):Ka tt hq o tm v
def b1f (P:Program) (tt:Tab) (hq:Hp) (o:Oper) (s:St) (v:AV) (s1:St):Prop :=
 ∃ f avs args share ho,Av tt o.op ⟨s.tm,hq,0⟩=.call f avs/\I5 o=true/\Al (Cv s.hp [] share) avs args/\Ret P f args [] s.nx true (Is v ho s1.nx)/\s.nx<=s1.nx/\a3g s.nx ho=true/\(share=false->Ld v=true/\Kg ho)/\s1.hp=ho++s.hp
def b0E (P:Program) (tt:Tab) (hq:Hp) (o:Oper) (s:St) (v:AV):Prop :=
 ∃ f avs,Av tt o.op ⟨s.tm,hq,0⟩=.call f avs/\(∀ hp,Al (Cv hp [] true) avs avs)/\∀ n,Ret P f avs [] n true (Is v [] n)
def b0F (tt:Tab) (hq:Hp) (o:Oper) (s:St) (v:AV) (s1:St):Prop :=
 ∃ ob,Av tt o.op ⟨s.tm,hq,0⟩=.newP ob/\Eq o=true/\v=.pt s.nx 0 0/\s1.hp=(s.nx,ob)::s.hp/\s1.nx=s.nx + 1
def a3l (P:Program) (tt:Tab) (nt:Nat) (hq:Hp) (md:Bool) (ops:Array Oper) (o:Oper) (s s1:St):Prop :=
 ∃ d v,o.dst=some d/\d < nt/\s1.tm=(d,v)::s.tm /\
   (((∃ j want ob,o.guard=some (j,want)/\C7 ops s.tm j=some ob/\ob≠some want)/\v=.tup []/\s1.hp=s.hp/\s1.nx=s.nx) ∨
    ((∀ j want,o.guard=some (j,want)->C7 ops s.tm j=some (some want))/\(((Ka tt hq o s.tm v∨b0E P tt hq o s v)/\s1.hp=s.hp/\s1.nx=s.nx)∨(md=false/\b1f P tt hq o s v s1)∨(md=true/\b0F tt hq o s v s1))))
theorem P3 {ops:Array Oper} {o:Oper} {X Y:Prop} (h:Dk ops o s X Y) :
 ((∀ j want,o.guard=some (j,want)->C7 ops s.tm j=some (some want))/\X)∨((∃ j want ob,o.guard=some (j,want)/\C7 ops s.tm j=some ob/\ob≠some want)/\Y):=by
 unfold Dk at h
 cases hg:o.guard with
 | none=>simp only [hg] at h; exact .inl ⟨fun j want e=>by (cases e),h⟩
 | some jw =>
   obtain ⟨j,want⟩:=jw
   simp only [hg] at h
   cases cN:C7 ops s.tm j with
   | none=>simp [cN] at h
   | some ob =>
     simp only [cN] at h
     cases ob with
     | none=>exact .inr ⟨⟨j,want,none,rfl,cN,by simp⟩,h⟩
     | some b =>
       simp only at h
       have yes:∀ {b want:Bool},b=want->C7 ops s.tm j=some (some b)->∀ j' want',some (j,want)=some (j',want')->C7 ops s.tm j'=some (some want'):=by
        rintro b want rfl hg j' want' e; cases e; exact hg
       cases want with
       | true=>cases b with
         | true=>exact .inl ⟨yes rfl cN,h.t rfl⟩
         | false=>exact .inr ⟨⟨j,true,some false,rfl,cN,by simp⟩,h.f rfl⟩
       | false=>cases b with
         | true=>exact .inr ⟨⟨j,false,some true,rfl,cN,by simp⟩,h.t rfl⟩
         | false=>exact .inl ⟨yes rfl cN,h.f rfl⟩
theorem a0H {P:Program} {nt:Nat} {hq:Hp} {md:Bool} {o:Oper} {K:St->Prop} (h:a43 tt P nt hq md o s K) :
 ∃ d v s1,o.dst=some d/\d < nt/\s1.tm=(d,v)::s.tm/\(((Ka tt hq o s.tm v∨b0E P tt hq o s v)/\s1.hp=s.hp/\s1.nx=s.nx)∨(md=false/\b1f P tt hq o s v s1)∨(md=true/\b0F tt hq o s v s1))/\K s1:=by
 unfold a43 at h
 obtain ⟨tm,hp,nx⟩:=s
 simp only at h
 cases hd:o.dst with
 | none=>simp [hd] at h
 | some d =>
   simp only [hd] at h
   cases hb:Nat.blt d nt with
   | false=>simp [hb] at h
   | true =>
     have aa:d < nt:=Nat.le_of_ble_eq_true hb
     simp only [hb,cond_true] at h
     cases hs:Av tt o.op ⟨tm,hq,0⟩ with
     | ok v=>simp only [hs] at h; exact ⟨d,v,⟨(d,v)::tm,hp,nx⟩,rfl,aa,rfl,.inl ⟨.inl (.ok hs),rfl,rfl⟩,h⟩
     | cond p v=>simp only [hs] at h; exact ⟨d,v,⟨(d,v)::tm,hp,nx⟩,rfl,aa,rfl,.inl ⟨.inl (.cond hs h.1),rfl,rfl⟩,h.2⟩
     | newL0 len ob =>
       cases ob with
       | box cs=>simp [hs] at h
       | map=>simp [hs] at h
       | ranged=>simp [hs] at h
       | clo=>simp [hs] at h
       | nest=>simp [hs] at h
       | list e sz rows=>simp only [hs] at h; exact ⟨d,_,⟨(d,.lst (rows.take len))::tm,hp,nx⟩,rfl,aa,rfl,.inl ⟨.inl (.lst hs),rfl,rfl⟩,h⟩
     | pick b x0 y0 =>
       simp only [hs] at h
       cases a9:o.op with
       | pick c x y =>
         have cV:x0=x/\y0=y:=by
          rw [a9] at hs
          simp only [Av] at hs
          split at hs
          · simp only [SR.pick.injEq] at hs; exact ⟨hs.2.1.symm,hs.2.2.symm⟩
          · cases hs
         obtain ⟨rfl,rfl⟩:=cV
         simp only [a9] at h
         cases b with
         | true =>
           have h':=h.t rfl
           cases hx:Au tm x0 with
           | none=>simp [hx] at h'
           | some v=>simp only [hx] at h'; exact ⟨d,v,⟨(d,v)::tm,hp,nx⟩,rfl,aa,rfl,.inl ⟨.inl (.pick a9 hs hx),rfl,rfl⟩,h'⟩
         | false =>
           have h':=h.f rfl
           cases hx:Au tm y0 with
           | none=>simp [hx] at h'
           | some v=>simp only [hx] at h'; exact ⟨d,v,⟨(d,v)::tm,hp,nx⟩,rfl,aa,rfl,.inl ⟨.inl (.pick a9 hs hx),rfl,rfl⟩,h'⟩
       | _=>simp [a9] at h
     | call n args =>
       simp only [hs] at h
       cases hc:I5 o with
       | false=>simp [hc] at h
       | true =>
         simp only [hc,cond_true] at h
         cases md with
         | true =>
           obtain ⟨v,h1,h2,h3⟩:=h.call
           exact ⟨d,v,⟨(d,v)::tm,hp,nx⟩,rfl,aa,rfl,.inl ⟨.inr ⟨n,args,hs,h1,h2⟩,rfl,rfl⟩,h3⟩
         | false =>
         obtain ⟨as,share,v,ho,m,h1,h2,h3,h4,h5⟩:=h.call
         simp only [Bool.and_eq_true] at h3
         exact ⟨d,v,⟨(d,v)::tm,ho++hp,m⟩,rfl,aa,rfl,.inr (.inl ⟨rfl,n,args,as,share,ho,hs,hc,h1,h2,Nat.le_of_ble_eq_true h3.1,h3.2,h4,rfl⟩),h5⟩
     | newP ob =>
       simp only [hs] at h
       cases hc:(md&&Eq o) with
       | false=>simp [hc] at h
       | true =>
         simp only [hc,cond_true] at h
         simp only [Bool.and_eq_true] at hc
         exact ⟨d,_,⟨(d,.pt nx 0 0)::tm,(nx,ob)::hp,nx + 1⟩,rfl,aa,rfl,.inr (.inr ⟨hc.1,ob,hs,hc.2,rfl,rfl,rfl⟩),h⟩
     | _=>simp [hs] at h
theorem Xk {P:Program} {nt:Nat} {hq:Hp} {md:Bool} {ops:Array Oper} {K:St->Prop}:∀ (l:List Oper) (s:St),a10 tt P nt hq md ops l s K ->
 ∃ f:Nat->St,f 0=s/\(∀ i o,l[i]?=some o->a3l P tt nt hq md ops o (f i) (f (i + 1)))/\K (f l.length)
 | [],s,h=>⟨fun _=>s,rfl,fun i o h=>by simp at h,h⟩
 | o::r,s,h=>by
   simp only [a10] at h
   have key:∀ s1,a3l P tt nt hq md ops o s s1->a10 tt P nt hq md ops r s1 K->∃ f:Nat->St,f 0=s/\(∀ i q,(o::r)[i]?=some q->a3l P tt nt hq md ops q (f i) (f (i + 1)))/\K (f (o::r).length):=by
    intro s1 h1 h2
    obtain ⟨f,f0,fs,fk⟩:=Xk r s1 h2
    refine ⟨fun i=>match i with | 0=>s | i + 1=>f i,rfl,fun i q hq=>?_,fk⟩
    cases i with
    | zero=>simp at hq; subst hq; show a3l P tt nt _ md ops o s (f 0); rw [f0]; exact h1
    | succ i=>simp at hq; exact fs i q hq
   rcases P3 h with ⟨hg,h⟩ | ⟨hg,h⟩
   · obtain ⟨d,v,s1,h1,h2,h3,h4,h5⟩:=a0H h
     exact key s1 ⟨d,v,h1,h2,h3,.inr ⟨hg,h4⟩⟩ h5
   · unfold Xd at h
     obtain ⟨tm,hp,nx⟩:=s
     cases hd:o.dst with
     | none=>simp [hd] at h
     | some d =>
       simp only [hd] at h
       cases hb:Nat.blt d nt with
       | false=>simp [hb] at h
       | true=>rw [hb] at h; exact key ⟨(d,.tup [])::tm,hp,nx⟩ ⟨d,_,hd,Nat.le_of_ble_eq_true hb,rfl,.inl ⟨hg,rfl,rfl,rfl⟩⟩ h
structure Jt (P:Program) (tt:Tab) (nt:Nat) (hq:Hp) (md:Bool) (ops:Array Oper) (n:Nat) (f:Nat->St):Prop where
 le:n<=ops.size
 step:∀ i o,i < n->ops[i]?=some o->a3l P tt nt hq md ops o (f i) (f (i + 1))
 pair:∀ i j o q,i < n->j < n->ops[i]?=some o->ops[j]?=some q->Xb i o j q=true
 guard:∀ i o,i < n->ops[i]?=some o->Xc o i=true
 call:∀ i o,i < n->ops[i]?=some o->Er md o=true->∀ j q,j < i->ops[j]?=some q->Er md q=true->Af j (Ei (ops.toList.take i).reverse i (It o.after.toList))=true
variable {P:Program} {nt n:Nat} {hq:Hp} {md:Bool} {ops:Array Oper} {f:Nat->St}
theorem Jt.dst (h:Jt P tt nt hq md ops n f) {i:Nat} (hi:i < n):∃ o d v,ops[i]?=some o/\o.dst=some d/\d < nt/\(f (i + 1)).tm=(d,v)::(f i).tm:=by
 have aa:i < ops.size:=Nat.lt_of_lt_of_le hi h.le
 have ho:=Array.getElem?_eq_getElem aa
 obtain ⟨d,v,h1,h2,h3,_⟩:=h.step i _ hi ho
 exact ⟨_,d,v,ho,h1,h2,h3⟩
theorem Jt.ne (h:Jt P tt nt hq md ops n f) {i j:Nat} (hi:i < n) (hj:j < n) (ah:i≠j) {o q:Oper} (ho:ops[i]?=some o) (ac:ops[j]?=some q):o.dst≠q.dst:=by
 have:=h.pair i j o q hi hj ho ac
 unfold Xb at this
 cases hd:q.dst with
 | none=>simp [hd] at this
 | some e =>
   simp only [hd] at this
   have hb:Nat.beq i j=false:=by
    cases hb:Nat.beq i j with
    | true=>exact absurd (Nat.eq_of_beq_eq_true hb) ah
    | false=>rfl
   rw [hb] at this
   simp only [cond_false,Bool.and_eq_true] at this
   cases a6:o.dst with
   | none=>simp [a6] at this
   | some d =>
     simp only [a6] at this
     intro e'
     cases e'
     simp at this
theorem Jt.old (h:Jt P tt nt hq md ops n f):∀ (i:Nat),i<=n->∀ t,(∀ j o,j < i->ops[j]?=some o->o.dst≠some t)->look (f i).tm t=look (f 0).tm t
 | 0,_,t,_=>rfl
 | i + 1,hi,t,ht=>by
   obtain ⟨o,d,v,ho,hd,_,dK⟩:=h.dst (i:=i) (by omega)
   have aj:d≠t:=fun e=>ht i o (by omega) ho (by rw [hd,e])
   rw [dK,An _ _ aj]
   exact h.old i (by omega) t fun j q hj ac=>ht j q (by omega) ac
theorem Jt.stay (h:Jt P tt nt hq md ops n f) {j:Nat} {q:Oper} {t:Nat} (hj:j < n) (ac:ops[j]?=some q) (hd:q.dst=some t):∀ (i:Nat),j < i->i<=n->look (f i).tm t=look (f (j + 1)).tm t
 | 0,h1,_=>by omega
 | i + 1,h1,h2=>by
   by_cases e:i=j
   · subst e; rfl
   · obtain ⟨o,d,v,ho,a6,_,dK⟩:=h.dst (i:=i) (by omega)
     have aj:d≠t:=fun e'=>h.ne (i:=i) (j:=j) (by omega) hj e ho ac (by rw [a6,hd,e'])
     rw [dK,An _ _ aj]
     exact h.stay hj ac hd i (by omega) (by omega)
theorem Jt.hpStay (h:Jt P tt nt hq md ops n f) {k:Nat}:∀ (i:Nat),k<=i->i<=n->(∀ j o,k<=j->j < i->ops[j]?=some o->Er md o=false)->(f i).hp=(f k).hp/\(f i).nx=(f k).nx
 | i,h1,h2,h3=>by
   by_cases e:i=k
   · subst e; exact ⟨rfl,rfl⟩
   · obtain ⟨i,rfl⟩:∃ m,i=m + 1:=⟨i - 1,by omega⟩
     have ih:=h.hpStay i (by omega) (by omega) (fun j o hj aN ho=>h3 j o hj (by omega) ho)
     have ho:=Array.getElem?_eq_getElem (Nat.lt_of_lt_of_le (show i < n by omega) h.le)
     obtain ⟨d,v,_,_,_,hc⟩:=h.step i _ (by omega) ho
     have aJ:=h3 i _ (by omega) (by omega) ho
     rcases hc with ⟨_,_,e1,e2⟩ | ⟨_,⟨_,e1,e2⟩ | ⟨rfl,_,_,_,_,_,_,au,_⟩ | ⟨rfl,_,_,au,_⟩⟩
     · exact ⟨e1.trans ih.1,e2.trans ih.2⟩
     · exact ⟨e1.trans ih.1,e2.trans ih.2⟩
     · have:I5 _=false:=aJ
       rw [this] at au; cases au
     · have:Eq _=false:=aJ
       rw [this] at au; cases au
theorem a0I:∀ {h:Hp} {n:Nat},a3g n h=true->∀ {id:Nat},id < n->look h id=none
 | [],_,_,_,_=>rfl
 | (k,o)::r,n,hn,id,hid=>by
   simp only [a3g,Bool.and_eq_true] at hn
   have:=Nat.le_of_ble_eq_true hn.1
   rw [An _ _ (by omega)]
   exact a0I hn.2 hid
theorem Jt.sub (h:Jt P tt nt hq md ops n f):∀ (i:Nat),i<=n->(f 0).nx<=(f i).nx/\∀ id,id < (f 0).nx->look (f i).hp id=look (f 0).hp id
 | 0,_=>⟨Nat.le_refl _,fun _ _=>rfl⟩
 | i + 1,hi=>by
   have ih:=h.sub i (by omega)
   have ho:=Array.getElem?_eq_getElem (Nat.lt_of_lt_of_le (show i < n by omega) h.le)
   obtain ⟨d,v,_,_,_,hc⟩:=h.step i _ (by omega) ho
   rcases hc with ⟨_,_,e1,e2⟩ | ⟨_,⟨_,e1,e2⟩ | ⟨_,_,_,_,_,bY,_,_,_,_,ax,bg,_,e1⟩ | ⟨_,ob,_,_,_,e1,e2⟩⟩
   · rw [e1,e2]; exact ih
   · rw [e1,e2]; exact ih
   · refine ⟨Nat.le_trans ih.1 ax,fun id hid=>?_⟩
     rw [e1,Fa,a0I bg (by omega)]
     exact ih.2 id hid
   · rw [e1,e2]
     refine ⟨by omega,fun id hid=>?_⟩
     rw [An _ _ (by omega)]
     exact ih.2 id hid
def QHp (P:Program) (tt:Tab) (fx:List Nat) (hp0:Hp) (o:Oper) (s:St) (d:Nat) (v:AV) (ov ov1:Hp):Prop :=
 Be tt o=true/\∃ fn avs hi ho,Av tt o.op ⟨s.tm,[],0⟩=.call fn avs/\(∀ id ob,look hi id=some ob->look (ov++s.hp) id=some ob/\∃ o',look hp0 id=some o')/\(∀ id ob,look ho id=some ob->∃ o',look hi id=some o') /\
  (∀ tm hp nx,(∀ id ob,look hi id=some ob->look hp id=some ob)->Aa P fx fn avs ⟨tm,hp,nx⟩ (some d) fun s'=>s'=⟨(d,v)::tm,ho++hp,nx⟩)/\ov1=ho++ov
def a3m (P:Program) (tt:Tab) (nt:Nat) (fx:List Nat) (hp0:Hp) (ops:Array Oper) (o:Oper) (s s1:St) (ov ov1:Hp):Prop :=
 ∃ d v,o.dst=some d/\d < nt/\s1.tm=(d,v)::s.tm /\
   (((∃ j want ob,o.guard=some (j,want)/\C7 ops s.tm j=some ob/\ob≠some want)/\v=.tup []/\s1.hp=s.hp/\s1.nx=s.nx/\ov1=ov) ∨
    ((∀ j want,o.guard=some (j,want)->C7 ops s.tm j=some (some want)) /\
      ((Be tt o=false/\(Ka tt [] o s.tm v∨b0E P tt [] o s v)/\s1.hp=s.hp/\s1.nx=s.nx/\ov1=ov)∨(b0F tt [] o s v s1/\ov1=ov)∨(QHp P tt fx hp0 o s d v ov ov1/\s1.hp=s.hp/\s1.nx=s.nx))))
theorem a7p {P:Program} {nt:Nat} {fx:List Nat} {hp0 ov:Hp} {o:Oper} {K:St->Hp->Prop} (h:a7k tt P nt fx hp0 ov o s K) :
 ∃ d v s1 ov1,o.dst=some d/\d < nt/\s1.tm=(d,v)::s.tm/\((Be tt o=false/\(Ka tt [] o s.tm v∨b0E P tt [] o s v)/\s1.hp=s.hp/\s1.nx=s.nx/\ov1=ov)∨(b0F tt [] o s v s1/\ov1=ov)∨(QHp P tt fx hp0 o s d v ov ov1/\s1.hp=s.hp/\s1.nx=s.nx))/\K s1 ov1:=by
 unfold a7k at h
 cases hp:Be tt o with
 | false =>
   simp only [hp] at h
   obtain ⟨d,v,s1,h1,h2,h3,h4,h5⟩:=a0H h
   refine ⟨d,v,s1,ov,h1,h2,h3,?_,h5⟩
   rcases h4 with ⟨h4,e1,e2⟩ | ⟨e,_⟩ | ⟨_,h4⟩
   · exact .inl ⟨rfl,h4,e1,e2,rfl⟩
   · cases e
   · exact .inr (.inl ⟨h4,rfl⟩)
 | true =>
   simp only [hp] at h
   obtain ⟨tm,gK,nx⟩:=s
   simp only at h
   cases hd:o.dst with
   | none=>simp [hd] at h
   | some d =>
     simp only [hd] at h
     cases hb:Nat.blt d nt with
     | false=>simp [hb] at h
     | true =>
       simp only [hb,cond_true] at h
       cases hs:Av tt o.op ⟨tm,[],0⟩ with
       | call n args =>
         simp only [hs] at h
         obtain ⟨hi,v,ho,h1,h2,h3,h4⟩:=h.call
         exact ⟨d,v,⟨(d,v)::tm,gK,nx⟩,ho++ov,rfl,Nat.le_of_ble_eq_true hb,rfl,.inr (.inr ⟨⟨hp,n,args,hi,ho,hs,h1,h2,h3,rfl⟩,rfl,rfl⟩),h4⟩
       | _=>simp [hs] at h
theorem U6 {P:Program} {nt:Nat} {fx:List Nat} {hp0:Hp} {ops:Array Oper} {K:St->Prop}:∀ (l:List Oper) (ov:Hp) (s:St),P2 tt P nt fx hp0 ops l ov s K ->
 ∃ (f:Nat->St) (g:Nat->Hp),f 0=s/\g 0=ov/\(∀ i o,l[i]?=some o->a3m P tt nt fx hp0 ops o (f i) (f (i + 1)) (g i) (g (i + 1)))/\K ⟨(f l.length).tm,g l.length++(f l.length).hp,(f l.length).nx⟩
 | [],ov,s,h=>⟨fun _=>s,fun _=>ov,rfl,rfl,fun i o h=>by simp at h,h⟩
 | o::r,ov,s,h=>by
   simp only [P2] at h
   have key:∀ s1 ov1,a3m P tt nt fx hp0 ops o s s1 ov ov1->P2 tt P nt fx hp0 ops r ov1 s1 K->∃ (f:Nat->St) (g:Nat->Hp),f 0=s/\g 0=ov/\(∀ i q,(o::r)[i]?=some q->a3m P tt nt fx hp0 ops q (f i) (f (i + 1)) (g i) (g (i + 1)))/\K ⟨(f (o::r).length).tm,g (o::r).length++(f (o::r).length).hp,(f (o::r).length).nx⟩:=by
    intro s1 ov1 h1 h2
    obtain ⟨f,g,f0,g0,fs,fk⟩:=U6 r ov1 s1 h2
    refine ⟨fun i=>match i with | 0=>s | i + 1=>f i,fun i=>match i with | 0=>ov | i + 1=>g i,rfl,rfl,fun i q hq=>?_,fk⟩
    cases i with
    | zero=>simp at hq; subst hq; show a3m P tt nt fx hp0 ops o s (f 0) ov (g 0); rw [f0,g0]; exact h1
    | succ i=>simp at hq; exact fs i q hq
   rcases P3 h with ⟨hg,h⟩ | ⟨hg,h⟩
   · obtain ⟨d,v,s1,ov1,h1,h2,h3,h4,h5⟩:=a7p h
     exact key s1 ov1 ⟨d,v,h1,h2,h3,.inr ⟨hg,h4⟩⟩ h5
   · unfold Xd at h
     obtain ⟨tm,hp,nx⟩:=s
     cases hd:o.dst with
     | none=>simp [hd] at h
     | some d =>
       simp only [hd] at h
       cases hb:Nat.blt d nt with
       | false=>simp [hb] at h
       | true=>rw [hb] at h; exact key ⟨(d,.tup [])::tm,hp,nx⟩ ov ⟨d,_,hd,Nat.le_of_ble_eq_true hb,rfl,.inl ⟨hg,rfl,rfl,rfl,rfl⟩⟩ h
structure Ej (P:Program) (tt:Tab) (nt:Nat) (fx:List Nat) (ops:Array Oper) (n:Nat) (f:Nat->St) (g:Nat->Hp):Prop where
 le:n<=ops.size
 zero:g 0=[]
 step:∀ i o,i < n->ops[i]?=some o->a3m P tt nt fx (f 0).hp ops o (f i) (f (i + 1)) (g i) (g (i + 1))
 pair:∀ i j o q,i < n->j < n->ops[i]?=some o->ops[j]?=some q->Xb i o j q=true
 guard:∀ i o,i < n->ops[i]?=some o->Xc o i=true
 call:∀ i o,i < n->ops[i]?=some o->Er true o=true->∀ j q,j < i->ops[j]?=some q->Er true q=true->Af j (Ei (ops.toList.take i).reverse i (It o.after.toList))=true
 ptr:∀ i o,i < n->ops[i]?=some o->Be tt o=true->∀ j q,j < i->ops[j]?=some q->Be tt q=true->Af j (Ei (ops.toList.take i).reverse i (It o.after.toList))=true
section
variable {fx:List Nat} {g:Nat->Hp}
theorem Ej.dst (h:Ej P tt nt fx ops n f g) {i:Nat} (hi:i < n):∃ o d v,ops[i]?=some o/\o.dst=some d/\d < nt/\(f (i + 1)).tm=(d,v)::(f i).tm:=by
 have aa:i < ops.size:=Nat.lt_of_lt_of_le hi h.le
 have ho:=Array.getElem?_eq_getElem aa
 obtain ⟨d,v,h1,h2,h3,_⟩:=h.step i _ hi ho
 exact ⟨_,d,v,ho,h1,h2,h3⟩
theorem Ej.ne (h:Ej P tt nt fx ops n f g) {i j:Nat} (hi:i < n) (hj:j < n) (ah:i≠j) {o q:Oper} (ho:ops[i]?=some o) (ac:ops[j]?=some q):o.dst≠q.dst:=by
 have:=h.pair i j o q hi hj ho ac
 unfold Xb at this
 cases hd:q.dst with
 | none=>simp [hd] at this
 | some e =>
   simp only [hd] at this
   have hb:Nat.beq i j=false:=by
    cases hb:Nat.beq i j with
    | true=>exact absurd (Nat.eq_of_beq_eq_true hb) ah
    | false=>rfl
   rw [hb] at this
   simp only [cond_false,Bool.and_eq_true] at this
   cases a6:o.dst with
   | none=>simp [a6] at this
   | some d =>
     simp only [a6] at this
     intro e'
     cases e'
     simp at this
theorem Ej.old (h:Ej P tt nt fx ops n f g):∀ (i:Nat),i<=n->∀ t,(∀ j o,j < i->ops[j]?=some o->o.dst≠some t)->look (f i).tm t=look (f 0).tm t
 | 0,_,t,_=>rfl
 | i + 1,hi,t,ht=>by
   obtain ⟨o,d,v,ho,hd,_,dK⟩:=h.dst (i:=i) (by omega)
   have aj:d≠t:=fun e=>ht i o (by omega) ho (by rw [hd,e])
   rw [dK,An _ _ aj]
   exact h.old i (by omega) t fun j q hj ac=>ht j q (by omega) ac
theorem Ej.stay (h:Ej P tt nt fx ops n f g) {j:Nat} {q:Oper} {t:Nat} (hj:j < n) (ac:ops[j]?=some q) (hd:q.dst=some t):∀ (i:Nat),j < i->i<=n->look (f i).tm t=look (f (j + 1)).tm t
 | 0,h1,_=>by omega
 | i + 1,h1,h2=>by
   by_cases e:i=j
   · subst e; rfl
   · obtain ⟨o,d,v,ho,a6,_,dK⟩:=h.dst (i:=i) (by omega)
     have aj:d≠t:=fun e'=>h.ne (i:=i) (j:=j) (by omega) hj e ho ac (by rw [a6,hd,e'])
     rw [dK,An _ _ aj]
     exact h.stay hj ac hd i (by omega) (by omega)
theorem Ej.hpStay (h:Ej P tt nt fx ops n f g) {k:Nat}:∀ (i:Nat),k<=i->i<=n->(∀ j o,k<=j->j < i->ops[j]?=some o->Er true o=false)->(f i).hp=(f k).hp/\(f i).nx=(f k).nx
 | i,h1,h2,h3=>by
   by_cases e:i=k
   · subst e; exact ⟨rfl,rfl⟩
   · obtain ⟨i,rfl⟩:∃ m,i=m + 1:=⟨i - 1,by omega⟩
     have ih:=h.hpStay i (by omega) (by omega) (fun j o hj aN ho=>h3 j o hj (by omega) ho)
     have ho:=Array.getElem?_eq_getElem (Nat.lt_of_lt_of_le (show i < n by omega) h.le)
     obtain ⟨d,v,_,_,_,hc⟩:=h.step i _ (by omega) ho
     have aJ:=h3 i _ (by omega) (by omega) ho
     rcases hc with ⟨_,_,e1,e2,_⟩ | ⟨_,⟨_,_,e1,e2,_⟩ | ⟨⟨_,_,au,_⟩,_⟩ | ⟨_,e1,e2⟩⟩
     · exact ⟨e1.trans ih.1,e2.trans ih.2⟩
     · exact ⟨e1.trans ih.1,e2.trans ih.2⟩
     · have:Eq _=false:=aJ
       rw [this] at au; cases au
     · exact ⟨e1.trans ih.1,e2.trans ih.2⟩
theorem Ej.ovStay (h:Ej P tt nt fx ops n f g) {k:Nat}:∀ (i:Nat),k<=i->i<=n->(∀ j o,k<=j->j < i->ops[j]?=some o->Be tt o=false)->g i=g k
 | i,h1,h2,h3=>by
   by_cases e:i=k
   · subst e; rfl
   · obtain ⟨i,rfl⟩:∃ m,i=m + 1:=⟨i - 1,by omega⟩
     have ih:=h.ovStay i (by omega) (by omega) (fun j o hj aN ho=>h3 j o hj (by omega) ho)
     have ho:=Array.getElem?_eq_getElem (Nat.lt_of_lt_of_le (show i < n by omega) h.le)
     obtain ⟨d,v,_,_,_,hc⟩:=h.step i _ (by omega) ho
     have aJ:=h3 i _ (by omega) (by omega) ho
     rcases hc with ⟨_,_,_,_,e⟩ | ⟨_,⟨_,_,_,_,e⟩ | ⟨_,e⟩ | ⟨⟨au,_⟩,_⟩⟩
     · exact e.trans ih
     · exact e.trans ih
     · exact e.trans ih
     · rw [aJ] at au; cases au
theorem Ej.sub (h:Ej P tt nt fx ops n f g):∀ (i:Nat),i<=n->(f 0).nx<=(f i).nx/\∀ id,id < (f 0).nx->look (f i).hp id=look (f 0).hp id
 | 0,_=>⟨Nat.le_refl _,fun _ _=>rfl⟩
 | i + 1,hi=>by
   have ih:=h.sub i (by omega)
   have ho:=Array.getElem?_eq_getElem (Nat.lt_of_lt_of_le (show i < n by omega) h.le)
   obtain ⟨d,v,_,_,_,hc⟩:=h.step i _ (by omega) ho
   rcases hc with ⟨_,_,e1,e2,_⟩ | ⟨_,⟨_,_,e1,e2,_⟩ | ⟨⟨_,_,_,_,e1,e2⟩,_⟩ | ⟨_,e1,e2⟩⟩
   · rw [e1,e2]; exact ih
   · rw [e1,e2]; exact ih
   · rw [e1,e2]
     refine ⟨by omega,fun id hid=>?_⟩
     rw [An _ _ (by omega)]
     exact ih.2 id hid
   · rw [e1,e2]; exact ih
theorem Ej.ovKeys (h:Ej P tt nt fx ops n f g):∀ (i:Nat),i<=n->∀ id o,look (g i) id=some o->∃ o',look (f 0).hp id=some o'
 | 0,_,id,o,e=>by rw [h.zero] at e; simp [look] at e
 | i + 1,hi,id,o,e=>by
   have ih:=h.ovKeys i (by omega)
   have ho:=Array.getElem?_eq_getElem (Nat.lt_of_lt_of_le (show i < n by omega) h.le)
   obtain ⟨d,v,_,_,_,hc⟩:=h.step i _ (by omega) ho
   rcases hc with ⟨_,_,_,_,e'⟩ | ⟨_,⟨_,_,_,_,e'⟩ | ⟨_,e'⟩ | ⟨⟨_,_,_,aQ,fw,_,h1,h2,_,e'⟩,_⟩⟩
   · rw [e'] at e; exact ih id o e
   · rw [e'] at e; exact ih id o e
   · rw [e'] at e; exact ih id o e
   · rw [e',Fa] at e
     cases hl:look fw id with
     | some x =>
       obtain ⟨y,hy⟩:=h2 id x hl
       exact (h1 id y hy).2
     | none=>rw [hl] at e; exact ih id o e
end
end Go.Am
