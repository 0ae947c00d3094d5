import Derived.Test.YtllhgcfacgiabaaGreatP71
import Derived.Test.YtllhgcfacgiabaaGreatAmP
namespace Go.Proofs.YtllhgcfacgiabaaGreat
open Go Go.Am Go.RowKit
set_option linter.unusedVariables false
set_option linter.unusedSimpArgs false
theorem mut_sub {ι ι':Am.Loc} (h:∀ k p,ι' k=some p→∃ k',ι k'=some p) {b:Nat} (hm:Mut ι' b):Mut ι b:=by
 obtain ⟨k,c,s,e⟩:=hm
 obtain ⟨k',e'⟩:=h k _ e
 exact ⟨k',c,s,e'⟩
def rootL (ι:Am.Loc) (i:Nat):Am.Loc:=fun k=>if k=⟨i,[]⟩ then ι k else none
theorem rootL_at {ι:Am.Loc} {i:Nat}:rootL ι i ⟨i,[]⟩=ι ⟨i,[]⟩:=by simp [rootL]
theorem rootL_of {ι:Am.Loc} {i:Nat} {k:Key} {p:Pl} (h:rootL ι i k=some p):k=⟨i,[]⟩∧ι k=some p:=by
 unfold rootL at h
 split at h
 · exact ⟨‹_›,h⟩
 · cases h
def permL (ι:Am.Loc) (i N:Nat) (σ:Nat→Nat):Am.Loc:=fun k=>if k.id=i then match k.path with
    | []=>ι k
    | j::q=>if j < N * 6 then ι ⟨i,(σ (j / 6) * 6 + j % 6)::q⟩ else none
 else none
theorem permL_root {ι:Am.Loc} {i N:Nat} {σ:Nat→Nat}:permL ι i N σ ⟨i,[]⟩=ι ⟨i,[]⟩:=by simp [permL]
theorem permL_in {ι:Am.Loc} {i N:Nat} {σ:Nat→Nat} {j:Nat} (h:j < N * 6) (q:List Nat):permL ι i N σ ⟨i,j::q⟩=ι ⟨i,(σ (j / 6) * 6 + j % 6)::q⟩:=by simp [permL,h]
theorem permL_of {ι:Am.Loc} {i N:Nat} {σ:Nat→Nat} {k:Key} {p:Pl} (h:permL ι i N σ k=some p) :
 (k=⟨i,[]⟩∧ι k=some p)∨∃ j q,k=⟨i,j::q⟩∧j < N * 6∧ι ⟨i,(σ (j / 6) * 6 + j % 6)::q⟩=some p:=by
 obtain ⟨id,path⟩:=k
 unfold permL at h
 split at h
 · rename_i e
   dsimp only at e h
   subst e
   cases path with
   | nil=>exact .inl ⟨rfl,h⟩
   | cons j q =>
     dsimp only at h
     split at h
     · exact .inr ⟨j,q,rfl,‹_›,h⟩
     · cases h
 · cases h
theorem permL_sub {ι:Am.Loc} {i N:Nat} {σ:Nat→Nat} {k:Key} {p:Pl} (h:permL ι i N σ k=some p):∃ k',ι k'=some p:=by
 rcases permL_of h with ⟨_,h⟩ | ⟨j,q,_,_,h⟩ <;> exact ⟨_,h⟩
abbrev rowsOf (R:Nat→List AV) (N:Nat):List (List AV):=(List.range N).map R
theorem rowsOf_len (R:Nat→List AV) (N:Nat):(rowsOf R N).length=N:=by simp [rowsOf]
theorem rowsOf_flat {R:Nat→List AV} {N:Nat} (hR:∀ k,k < N→(R k).length=6) {j:Nat} (h:j < N * 6):(rowsOf R N).flatten[j]?=(R (j / 6))[j % 6]?:=by
 have h1:∀ r∈rowsOf R N,r.length=6:=fun r hr=>by
  obtain ⟨k,hk,rfl⟩:=List.mem_map.1 hr
  exact hR k (List.mem_range.1 hk)
 have h2:(rowsOf R N)[j / 6]?=some (R (j / 6)):=by
  have:j / 6 < N:=by omega
  simp [rowsOf,this]
 have:=flat_at (s:=6) (rowsOf R N) (j / 6) (j % 6) _ h1 h2 (by omega)
 rwa [show j / 6 * 6 + j % 6=j by omega] at this
theorem rd_val {w:World} {S:Nat→Prop} {v u:Value} (h:Rd w S v (.val u)):v=u:=by cases h; rfl
theorem tr_val {w:World} {S:Nat→Prop} {ι:Am.Loc} {k:Key} {v u:Value} (h:Tr w S ι k v (.val u)):v=u:=by
 cases h with
 | rd h=>exact rd_val h
theorem Ret.permNest {P:Program} {f:FuncId} {T N i n:Nat} {ws:List AV} (has:∀ a∈ws,∃ v,a=.val v) (R:Nat→List AV) (tx out:Nat→Int) (hR:∀ k,k < N→(R k).length=6∧(R k)[0]?=some (iv (tx k))∧(R k)[1]?=some (iv (out k)))
 (Z:(Nat→Nat)→Prop) (hZ:∀ σ,Z σ→(∀ k,k < N→σ k < N)∧∀ k l,k < N→l < N→σ k=σ l→k=l)
 (h:∀ v2 v3 v4 v5:Nat→Value,Ret P f (.own i N::ws) [(i,.list T 6 ((CoinT.mk tx out v2 v3 v4 v5).rows id N))] n true fun r ho m=>r=.tup []∧m=n∧∃ σ,Z σ∧ho=[(i,.list T 6 ((CoinT.mk tx out v2 v3 v4 v5).rows σ N))]) :
 Ret P f (.own i N::ws) [(i,.nest (c:=true) T 6 (rowsOf R N))] n true fun r ho m=>r=.tup []∧m=n∧∃ σ,Z σ∧ho=[(i,.nest (c:=true) T 6 (rowsOf (fun k=>R (σ k)) N))]:=by
 have hone:∀ {o o':AObj} (id:Nat),Am.look [(i,o)] id=some o'→id=i∧o'=o:=by
  intro o o' id hl
  rw [look_cons] at hl
  split at hl
  · cases hl; exact ⟨(‹i=id›).symm,rfl⟩
  · cases hl
 have hoff:∀ {o:AObj} (id:Nat),Am.look [(i,o)] id=none↔id≠i:=by
  intro o id
  rw [look_cons]
  by_cases e:i=id
  · rw [if_pos e]; exact ⟨fun h=>(by cases h),fun h=>absurd e.symm h⟩
  · rw [if_neg e]; exact ⟨fun _=>Ne.symm e,fun _=>rfl⟩
 have hin:∀ {o:AObj} (id:Nat),inH [(i,o)] id↔id=i:=by
  intro o id
  unfold inH
  rw [Ne,hoff]; simp
 refine ⟨(h (fun _=>undef) (fun _=>undef) (fun _=>undef) (fun _=>undef)).enter,fun w ι A vs hC h1 h2 h3 h4=>?_⟩
 obtain ⟨hlt,huse,hob⟩:=hC.obj i _ (look_cons_eq _ _ _)
 have hroot0:∃ p,ι ⟨i,[]⟩=some p:=by
  generalize rowsOf R N=rows at hob
  cases hob with
  | nest0 e s hι hs=>exact ⟨_,hι⟩
  | nest g cap e s rows us hι=>exact ⟨_,hι⟩
 have hR6:∀ k,k < N→(R k).length=6:=fun k hk=>(hR k hk).1
 have hflat:=fun j=>@rowsOf_flat R N hR6 j
 have hsub0:∀ k p,rootL ι i k=some p→∃ k',ι k'=some p:=fun k p hk=>⟨k,(rootL_of hk).2⟩
 obtain ⟨us,hul,hus,hIn,hOut⟩:∃ us:List Value,N * 6≤us.length∧(∀ (j:Nat) (v:Value) (a:AV),us[j]?=some v→(rowsOf R N).flatten[j]?=some a→Tr w A ι ⟨i,[j]⟩ v a) ∧
  (∀ rows:List (List AV),rows.length=N→(∀ r∈rows,r.length=6)→(∀ (j:Nat) (v:Value) (a:AV),us[j]?=some v→rows.flatten[j]?=some a→Rd w A v a)→ObjOk w A (rootL ι i) i (.list T 6 rows)) ∧
  ∀ (w':World) (S':Nat→Prop) (ι':Am.Loc) (rows rows':List (List AV)) (σ:Nat→Nat),rows.length=N→rows'.length=N→(∀ r∈rows',r.length=6)→ι' ⟨i,[]⟩=ι ⟨i,[]⟩→ObjOk w' S' ι' i (.list T 6 rows) →
    (∀ us':List Value,(∀ (j:Nat) (v:Value) (a:AV),us'[j]?=some v→rows.flatten[j]?=some a→Rd w' S' v a)→∀ (j:Nat) (v:Value) (a:AV),us'[j]?=some v→rows'.flatten[j]?=some a→Tr w' A (permL ι i N σ) ⟨i,[j]⟩ v a) →
    ObjOk w' A (permL ι i N σ) i (.nest (c:=true) T 6 rows'):=by
  obtain ⟨rows0,hr0⟩:∃ r,r=rowsOf R N:=⟨_,rfl⟩
  have hl0:rows0.length=N:=by rw [hr0,rowsOf_len]
  rw [← hr0] at hob ⊢
  cases hob with
  | nest0 e s hι hs =>
    obtain rfl:N=0:=hl0.symm
    refine ⟨[],by omega,fun j v a hv=>by simp at hv,fun rows hl _ _=>?_,fun w' S' ι' rows rows' σ _ hl _ hi _ _=>?_⟩
    · rw [List.length_eq_zero_iff.1 hl]; exact .nil T 6 (rootL_at.trans hι) hs
    · rw [List.length_eq_zero_iff.1 hl]; exact .nest0 T 6 (permL_root.trans hι) hs
  | nest g cap e s rows us hι hs hr hl hm hw hn hc =>
    refine ⟨us,by rw [hn]; omega,fun j v a hv ha=>(hc j v a hv ha).elim (fun hx=>by cases hx.1) id,fun rows hl' hr' hc'=>?_,fun w' S' ι' rows1 rows' σ hl1 hl' hr' hi hob' hc'=>?_⟩
    · exact .list g cap T 6 rows us (rootL_at.trans hι) hs hr' (by omega) hm hw hn hc'
    · cases hob' with
      | nil e s hι' hs'=>rw [hi,hι] at hι'; cases hι'
      | list g' cap' e s rows us' hι' hs' hr'' hl'' hm' hw' hn' hcc =>
        rw [hi,hι] at hι'
        cases hι'
        exact .nest g cap T 6 rows' us' (permL_root.trans hι) hs hr' (by omega) hm hw' hn' fun j v a hv ha=>.inr (hc' us' hcc j v a hv ha)
 obtain ⟨C,hCd⟩:∃ C:CoinT Nat,C=CoinT.mk tx out (fun k=>us.getD (k * 6 + 2) undef) (fun k=>us.getD (k * 6 + 3) undef) (fun k=>us.getD (k * 6 + 4) undef) (fun k=>us.getD (k * 6 + 5) undef):=⟨_,rfl⟩
 have hc6:∀ σ:Nat→Nat,∀ r∈C.rows σ N,r.length=6:=fun σ r hr=>by
  obtain ⟨k,_,rfl⟩:=List.mem_map.1 hr
  rfl
 have hcf:∀ (σ:Nat→Nat) j,j < N * 6→(C.rows σ N).flatten[j]?=(C.row (σ (j / 6)))[j % 6]?:=fun σ j hj=>rowsOf_flat (R:=fun k=>C.row (σ k)) (fun _ _=>rfl) hj
 have hlf:∀ (rows:List (List AV)) (j:Nat) (a:AV),rows.length=N→(∀ r∈rows,r.length=6)→rows.flatten[j]?=some a→j < N * 6:=fun rows j a hl hr ha=>by
  have:=(List.getElem?_eq_some_iff.1 ha).1
  rw [flatten_length rows hr,hl] at this
  exact this
 have key:∀ (k c:Nat) (v:Value),k < N→c < 6→us[k * 6 + c]?=some v→(C.row k)[c]?=some (.val v):=by
  intro k c v hk hc hv
  have hT:∀ a,(R k)[c]?=some a→Tr w A ι ⟨i,[k * 6 + c]⟩ v a:=fun a ha=>hus (k * 6 + c) v a hv (by rw [hflat (k * 6 + c) (by omega),show (k * 6 + c) / 6=k by omega,show (k * 6 + c) % 6=c by omega]; exact ha)
  have hd:us.getD (k * 6 + c) undef=v:=by rw [List.getD_eq_getElem?_getD,hv]; rfl
  rw [hCd]
  match c,hc with
  | 0,_=>rw [tr_val (hT _ (hR k hk).2.1)]; rfl
  | 1,_=>rw [tr_val (hT _ (hR k hk).2.2)]; rfl
  | 2,_=>rw [← hd]; rfl
  | 3,_=>rw [← hd]; rfl
  | 4,_=>rw [← hd]; rfl
  | 5,_=>rw [← hd]; rfl
 have hcore:Core ⟨P,w,Mut (rootL ι i),A,0,fun _=>none,[0]⟩ (rootL ι i) A [(i,.list T 6 (C.rows _root_.id N))] n w:=by
  refine ⟨.refl _ _,fun b hb=>.inl hb,hC.lt,fun b hb hm=>hC.dis b hb (mut_sub hsub0 hm),fun k g c s hk=>⟨(hC.own k g c s (rootL_of hk).2).1,.inr ⟨k,c,s,hk⟩⟩,fun a b g c d s r ha hb=>hC.inj a b g c d s r (rootL_of ha).2 (rootL_of hb).2,fun k hk=>?_,fun id o ho=>?_,fun id p e=>(by cases e),⟨fun _ _=>rfl,fun e=>(by cases e)⟩⟩
  · unfold rootL
    split
    · exact hC.new k hk
    · rfl
  · obtain ⟨rfl,rfl⟩:=hone id ho
    refine ⟨hlt,trivial,hIn _ (C.rows_len _ _) (hc6 _) fun j v a hv ha=>?_⟩
    have hj:=hlf _ j a (C.rows_len _ _) (hc6 _) ha
    rw [hcf _ j hj] at ha
    have hk:=key (j / 6) (j % 6) v (by omega) (by omega) (by rw [show j / 6 * 6 + j % 6=j by omega]; exact hv)
    rw [show _root_.id (j / 6)=j / 6 from rfl,hk] at ha
    cases ha
    exact .val v (hus j v _ hv (by rw [hflat j hj]; exact List.getElem?_eq_getElem (by rw [hR6 _ (by omega)]; omega))).one
 have hargs:All2 (VRel w A (rootL ι i)) vs (.own i N::ws):=by
  refine All2.of h2.length fun x v a hv ha=>?_
  have hr:=h2.at hv ha
  cases x with
  | zero =>
    simp only [List.getElem?_cons_zero,Option.some.injEq] at ha
    subst ha
    refine hr.mono (K:=fun x=>x=i) ⟨fun b hb=>⟨hb,rfl⟩,fun id p hid hp=>?_⟩ rfl
    subst hid; exact rootL_at.trans hp
  | succ x =>
    obtain ⟨u,rfl⟩:=has a (List.mem_of_getElem? (by simpa using ha))
    exact hr.mono (K:=fun _=>False) ⟨fun b hb=>⟨hb,rfl⟩,fun id p hid _=>hid.elim⟩ trivial
 have hcall:=(h _ _ _ _).calls w (rootL ι i) A vs (hCd ▸ hcore) (fun k hk=>?_) hargs (fun x hx=>?_) (fun id o ho=>?_)
 · refine Calls.mono hcall ?_
   rintro e w' ⟨v,r,ho,m,ι',S',rfl,⟨rfl,rfl,σ,hσ,rfl⟩,hnm,hC',hdom,hv,hu,huo,hio,hoi,hkeep⟩
   rw [← hCd] at hC' hdom hu huo hio hoi
   obtain ⟨hσ1,hσ2⟩:=hZ σ hσ
   have hw0:=hC'.frame
   have hblock:∀ b,b < w.heap.size→¬ Mut (rootL ι i) b→w'.heap[b]?=w.heap[b]?:=hw0.block
   have hA:∀ b,A b→A b∧w'.heap[b]?=w.heap[b]?:=fun b hb=>⟨hb,hblock b (hC.lt b hb) fun hm=>hC.dis b hb (mut_sub hsub0 hm)⟩
   have hroot:ι' ⟨i,[]⟩=ι ⟨i,[]⟩:=by
    obtain ⟨p,hp⟩:=hroot0
    rw [hp]
    exact hkeep i _ p (look_cons_eq _ _ _) (.inl rfl) (rootL_at.trans hp)
   have hps:∀ k p,permL ι i N σ k=some p→∃ k',ι k'=some p:=fun k p hk=>permL_sub hk
   have hcore2:Core ⟨P,w,Mut ι,A,0,fun _=>none,[0]⟩ (permL ι i N σ) A [(i,.nest (c:=true) T 6 (rowsOf (fun k=>R (σ k)) N))] m w':=by
    refine ⟨⟨hw0.os,hw0.tape,hw0.output,hw0.size,fun b hb hn=>hblock b hb fun hm=>hn (mut_sub hsub0 hm)⟩,fun b hb=>.inl hb,fun b hb=>Nat.lt_of_lt_of_le (hC.lt b hb) hw0.size,fun b hb hm=>hC.dis b hb (mut_sub hps hm),fun k g c s hk=>?_,fun a b g c d s r ha hb=>?_,fun k hk=>?_,fun id o ho=>?_,fun id p e=>(by cases e),⟨fun _ _=>rfl,fun e=>(by cases e)⟩⟩
    · obtain ⟨k',hk'⟩:=hps k _ hk
      exact ⟨Nat.lt_of_lt_of_le (hC.own k' g c s hk').1 hw0.size,.inr ⟨k',c,s,hk'⟩⟩
    · rcases permL_of ha with ⟨ea,ha⟩ | ⟨ja,qa,ea,la,ha⟩ <;> rcases permL_of hb with ⟨eb,hb⟩ | ⟨jb,qb,eb,lb,hb⟩
      · rw [ea,eb]
      · rw [ea] at ha; have:=hC.inj _ _ _ _ _ _ _ ha hb; simp at this
      · rw [eb] at hb; have:=hC.inj _ _ _ _ _ _ _ ha hb; simp at this
      · have:=hC.inj _ _ _ _ _ _ _ ha hb
        simp only [Key.mk.injEq,List.cons.injEq,true_and] at this
        obtain ⟨h5,h6⟩:=this
        have h7:ja / 6=jb / 6:=hσ2 _ _ (by omega) (by omega) (by omega)
        have h8:ja=jb:=by omega
        rw [ea,eb,h6,h8]
    · unfold permL
      rw [if_neg (by omega)]
    · obtain ⟨rfl,rfl⟩:=hone id ho
      refine ⟨hlt,fun e=>(by cases e),hOut w' S' ι' (C.rows σ N) _ σ (C.rows_len _ _) (rowsOf_len _ _) (fun r hr=>?_) hroot (hC'.obj _ _ (look_cons_eq _ _ _)).2.2 fun us' hc' j v a hv ha=>?_⟩
      · obtain ⟨k,hk,rfl⟩:=List.mem_map.1 hr
        exact hR6 _ (hσ1 k (List.mem_range.1 hk))
      · have hj:=hlf _ j a (rowsOf_len _ _) (fun r hr=>by
         obtain ⟨k,hk,rfl⟩:=List.mem_map.1 hr
         exact hR6 _ (hσ1 k (List.mem_range.1 hk))) ha
        rw [rowsOf_flat (fun k hk=>hR6 _ (hσ1 k hk)) hj] at ha
        have hs1:=hσ1 (j / 6) (by omega)
        have hlt0:σ (j / 6) * 6 + j % 6 < us.length:=by omega
        have hu0:=List.getElem?_eq_getElem hlt0
        have hk:=key (σ (j / 6)) (j % 6) _ hs1 (by omega) hu0
        have hvv:=rd_val (hc' j v _ hv ((hcf σ j hj).trans hk))
        have hT:=hus _ _ a hu0 (by rw [hflat _ (by omega),show (σ (j / 6) * 6 + j % 6) / 6=σ (j / 6) by omega,show (σ (j / 6) * 6 + j % 6) % 6=j % 6 by omega]; exact ha)
        rw [← hvv] at hT
        have hT2:Tr w' A ι ⟨id,[σ (j / 6) * 6 + j % 6]⟩ v a:=hT.monoC (fun k=>k.id=id∧k.path≠[]) (fun k x hk=>⟨hk.1,by simp⟩) hA (fun k p _ hp=>hp) (fun k g c s hk hp=>hblock g (hC.own k g c s hp).1 fun ⟨k0,c0,s0,hm⟩=>by
         obtain ⟨e0,hm⟩:=rootL_of hm
         have:=hC.inj _ _ _ _ _ _ _ hp hm
         rw [this,e0] at hk
         exact hk.2 rfl) ⟨rfl,by simp⟩
        exact hT2.move (i:=id) (n:=id) (pre:=[σ (j / 6) * 6 + j % 6]) (pre':=[j]) (fun q p hp=>(permL_in hj q).trans hp) [] rfl
   have hres:v=.tuple #[]∨True:=.inr trivial
   refine ⟨v,.tup [],_,m,permL ι i N σ,A,rfl,⟨rfl,rfl,σ,hσ,rfl⟩,Nat.le_refl _,?_,fun k hk=>?_,?_,fun v hv=>(by simp at hv),fun id o ho=>?_,fun id hid=>(hin id).2 ((hin id).1 hid),fun id hid=>.inl ((hin id).2 ((hin id).1 hid)),fun id o p ho _ hp=>?_⟩
   · exact hcore2
   · have hk':=(hoff k.id).1 hk
     unfold permL
     rw [if_neg hk']
   · cases hv with
     | one hv=>cases hv with
       | cell hv=>cases hv with
         | rd hv=>cases hv
     | tup us0 cs0 h0 =>
       exact .tup us0 [] (by cases us0 with
        | nil=>trivial
        | cons=>exact h0.elim)
   · obtain ⟨rfl,rfl⟩:=hone id ho
     exact fun e=>(by cases e)
   · obtain ⟨rfl,rfl⟩:=hone id ho
     exact permL_root.trans hp
 · have hk':k≠⟨i,[]⟩:=fun e=>by
    subst e
    unfold placeB at hk
    rw [look_cons_eq] at hk
    cases hk
   unfold rootL
   rw [if_neg hk']
 · rcases List.mem_cons.1 hx with rfl | hx
   · exact (hin i).2 rfl
   · obtain ⟨u,rfl⟩:=has x hx
     trivial
 · obtain ⟨rfl,rfl⟩:=hone id ho
   trivial
end Go.Proofs.YtllhgcfacgiabaaGreat
