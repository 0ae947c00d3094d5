import Derived.Test.YtllhgcfacgiabaaGreatAm9
namespace Go.Am
open Go.RowKit
set_option linter.unusedVariables false
set_option linter.unusedSimpArgs false
variable {tt:Tab}
theorem Hl {t:Nat}:∀ {l:List Operand},.tmp t∈l->Af t (De l)=true
 | [],h=>by cases h
 | x::r,h=>by
   rcases List.mem_cons.1 h with e | h
   · subst e; simp [De,Ag]
   · have ih:=Hl h
     cases x with
     | tmp k=>simp only [De,Ag]; split <;> first | rfl | exact ih
     | _=>exact ih
theorem Rt {tm tm':List (Nat × AV)} {x:Operand} (h:∀ t,x=.tmp t->look tm t=look tm' t):Au tm x=Au tm' x:=by
 cases x with
 | tmp t=>simp only [Au,h t rfl]
 | _=>rfl
def Agree (l:List Operand) (tm tm':List (Nat × AV)):Prop:=∀ x∈l,Au tm x=Au tm' x
theorem Tx {tm tm':List (Nat × AV)}:∀ {ps:List (Nat × Operand)},Agree (ps.map (·.2)) tm tm'->Hg tm ps=Hg tm' ps
 | [],_=>rfl
 | (i,x)::r,h=>by
   have hx:=h x (by simp)
   have hr:=Tx (ps:=r) fun y hy=>h y (by simp only [List.map_cons,List.mem_cons]; exact .inr hy)
   simp only [Hg,hx,hr]
theorem Ru {tm tm':List (Nat × AV)}:∀ {l:List Operand},Agree l tm tm'->Iz tm l=Iz tm' l
 | [],_=>rfl
 | x::r,h=>by
   have hx:=h x (by simp)
   have hr:=Ru (l:=r) fun y hy=>h y (by simp [hy])
   simp only [Iz,hx,hr]
theorem Ie (o:Op) {tm tm':List (Nat × AV)} (hq:Hp) (n:Nat) (h:Agree o.operands.toList tm tm'):Av tt o ⟨tm,hq,n⟩=Av tt o ⟨tm',hq,n⟩:=by
 cases o with
 | move x=>simp only [Av,moveA,h x (by simp [Op.operands])]
 | assign x=>simp only [Av,moveA,h x (by simp [Op.operands])]
 | alloc t=>rfl
 | nilCheck x=>simp only [Av,a8T,h x (by simp [Op.operands])]
 | range t x=>simp only [Av,Tk,h x (by simp [Op.operands])]
 | next x b=>simp only [Av,a0s,h x (by simp [Op.operands])]
 | entry x=>simp only [Av,Tl,h x (by simp [Op.operands])]
 | pick c x y=>simp only [Av,h c (by simp [Op.operands])]
 | box t x=>simp only [Av,a8U,h x (by simp [Op.operands])]
 | build t ps =>
   have:=Tx (ps:=ps.toList) (fun x hx=>h x (by simpa [Op.operands] using hx))
   simp only [Av,Wm,this]
 | load t x=>simp only [Av,Tg,h x (by simp [Op.operands])]; rfl
 | store t x v=>simp only [Av,Ti,h x (by simp [Op.operands]),h v (by simp [Op.operands])]; rfl
 | binOp op t x y k=>simp only [Av,a8V,a20,Wn,a8W,h x (by simp [Op.operands]),h y (by simp [Op.operands])]; rfl
 | unOp op t x=>simp only [Av,unA,h x (by simp [Op.operands])]; rfl
 | convert a b x=>simp only [Av,convA,a1L,h x (by simp [Op.operands])]
 | fieldAddr t x f =>
   have e:∀ k p,H7 ⟨tm,hq,n⟩ k p=H7 ⟨tm',hq,n⟩ k p:=by intro k p; cases p <;> rfl
   simp only [Av,Jn,h x (by simp [Op.operands]),e]
 | field t x f=>simp only [Av,Wo,h x (by simp [Op.operands])]
 | indexAddr t x i=>simp only [Av,Hh,G1,h x (by simp [Op.operands]),h i (by simp [Op.operands])]; rfl
 | index t x i=>simp only [Av,Ri,G1,h x (by simp [Op.operands]),h i (by simp [Op.operands])]
 | extract x i=>simp only [Av,Ng,h x (by simp [Op.operands])]
 | buildSlice t k ps =>
   have:=Tx (ps:=ps.toList) (fun x hx=>h x (by simpa [Op.operands] using hx))
   simp only [Av,H8,this]
 | makeSlice t l c=>simp only [Av,Jo,G1,h l (by simp [Op.operands]),h c (by simp [Op.operands])]
 | makeMap t r =>
   cases r with
   | none=>rfl
   | some x=>simp only [Av,K7,h x (by simp [Op.operands])]
 | mapUpdate t m k v=>simp only [Av,Oo,h m (by simp [Op.operands]),h k (by simp [Op.operands]),h v (by simp [Op.operands])]
 | lookup t x i b=>simp only [Av,Oq,h x (by simp [Op.operands]),h i (by simp [Op.operands])]
 | slice t x lo hi mx =>
   cases mx with
   | some m=>rfl
   | none =>
     have hx:=h x (by simp [Op.operands])
     cases lo with
     | none =>
       cases hi with
       | none=>simp only [Av,I2,Gh,hx]; rfl
       | some b=>simp only [Av,I2,Gh,G1,hx,h b (by simp [Op.operands])]; rfl
     | some l =>
       cases hi with
       | none=>simp only [Av,I2,Gh,G1,hx,h l (by simp [Op.operands])]; rfl
       | some b=>simp only [Av,I2,Gh,G1,hx,h b (by simp [Op.operands]),h l (by simp [Op.operands])]; rfl
 | makeFunc fn f c =>
   have h1:=Ru (l:=f.toList) fun x hx=>h x (by simp only [Op.operands,Array.toList_append,List.mem_append]; exact .inl hx)
   have h2:=Ru (l:=c.toList) fun x hx=>h x (by simp only [Op.operands,Array.toList_append,List.mem_append]; exact .inr hx)
   simp only [Av,a81,h1,h2]
 | call c =>
   simp only [Av]
   cases hc:c.callee with
   | value f =>
     have hf:=h f (by simp [Op.operands,Call.operands,hc])
     have ha:=Ru (l:=c.args.toList) (fun x hx=>h x (by simp only [Op.operands,Call.operands,hc,Array.toList_append,List.mem_append]; exact .inr hx))
     simp only [a0p,hf,ha]
   | invoke r m=>rfl
   | builtin b =>
     have ha:Agree c.args.toList tm tm':=fun x hx=>h x (by simp only [Op.operands,Call.operands,hc,Array.toList_append,List.mem_append]; exact .inr hx)
     revert ha
     generalize c.args.toList=l
     intro ha
     cases b <;> simp only [D6]
     case len =>
      cases l with
      | nil=>rfl
      | cons x r =>
        cases r with
        | nil =>
          cases c.argTypes.toList with
          | nil=>rfl
          | cons t r=>cases r with
            | nil=>simp only [a0q,ha x (by simp)]
            | cons=>rfl
        | cons=>rfl
     case append =>
      cases l with
      | nil=>rfl
      | cons x r =>
        cases r with
        | nil=>rfl
        | cons y r =>
          cases r with
          | nil =>
            cases c.argTypes.toList with
            | nil=>rfl
            | cons t r=>cases r with
              | nil=>rfl
              | cons t' r=>cases r with
                | nil=>simp only [On,ha x (by simp),ha y (by simp)]; rfl
                | cons=>rfl
          | cons=>rfl
     case min =>
      cases l with
      | nil=>rfl
      | cons x r =>
        cases r with
        | nil=>rfl
        | cons y r =>
          cases r with
          | nil=>simp only [a8Y,ha x (by simp),ha y (by simp)]
          | cons=>rfl
     case copy =>
      cases l with
      | nil=>rfl
      | cons x r =>
        cases r with
        | nil=>rfl
        | cons y r =>
          cases r with
          | nil =>
            cases c.argTypes.toList with
            | nil=>rfl
            | cons t r=>cases r with
              | nil=>rfl
              | cons t' r=>cases r with
                | nil=>simp only [a0r,ha x (by simp),ha y (by simp)]; rfl
                | cons=>rfl
          | cons=>rfl
     case delete =>
      cases l with
      | nil=>rfl
      | cons x r =>
        cases r with
        | nil=>rfl
        | cons y r =>
          cases r with
          | nil =>
            cases c.argTypes.toList with
            | nil=>rfl
            | cons t r=>cases r with
              | nil=>rfl
              | cons t' r=>cases r with
                | nil=>simp only [Ot,ha x (by simp),ha y (by simp)]
                | cons=>rfl
          | cons=>rfl
 | _=>rfl
def SR.calm:SR->Prop
 | .ok _=>True
 | .cond _ _=>True
 | .pick _ _ _=>True
 | .newL0 _ _=>True
 | .call _ _=>True
 | _=>False
theorem a3k {tm:List (Nat × AV)} {hq hp:Hp} {n n':Nat} (h:∀ id o,look hq id=some o->look hp id=some o) (ag:Bool) (sz:Nat) (p:AV) (hc:(L2 ⟨tm,hq,n⟩ ag sz p).calm) :
 L2 ⟨tm,hp,n'⟩ ag sz p=L2 ⟨tm,hq,n⟩ ag sz p:=by
 cases p with
 | pt id row off =>
   simp only [L2] at *
   cases ho:look hq id with
   | none=>simp [ho,SR.calm] at hc
   | some o=>rw [h id o ho]
 | _=>rfl
theorem a48 {hq hp:Hp} (h:∀ id o,look hq id=some o->look hp id=some o) {q:AV} {r:List (List AV) × Prop} (hr:Gz hq q=some r):Gz hp q=some r:=by
 cases q with
 | own id len =>
   simp only [Gz] at *
   cases ho:look hq id with
   | none=>simp [ho] at hr
   | some o=>rw [h id o ho]; rw [ho] at hr; exact hr
 | val v=>exact hr
 | _=>exact hr
theorem a7o {tt:Tab} {tm:List (Nat × AV)} {hq hp:Hp} {n n':Nat} {a:TypeId} {x:Operand} (h:∀ id o,look hq id=some o->look hp id=some o) (hc:(a1L tt ⟨tm,hq,n⟩ a x).calm):a1L tt ⟨tm,hp,n'⟩ a x=a1L tt ⟨tm,hq,n⟩ a x:=by
 unfold a1L at *
 cases he:B2 tt a with
 | none=>rfl
 | some et =>
   obtain ⟨e,te⟩:=et
   simp only [he] at hc ⊢
   cases hi:te.int with
   | none=>rfl
   | some k =>
     cases k <;> simp only [hi] at hc ⊢
     cases hx:Au tm x with
     | none=>rfl
     | some q =>
       simp only [hx] at hc ⊢
       cases hr:Gz hq q with
       | none=>simp [hr,SR.calm] at hc
       | some r=>rw [a48 h hr]
theorem Rv {tm:List (Nat × AV)} {hq hp:Hp} {n n':Nat} (h:∀ id o,look hq id=some o->look hp id=some o) (sz:Nat) (l:Int) (hh:Option Int) (p:AV) (hc:(Hz ⟨tm,hq,n⟩ sz l hh p).calm) :
 Hz ⟨tm,hp,n'⟩ sz l hh p=Hz ⟨tm,hq,n⟩ sz l hh p:=by
 cases p with
 | own id len =>
   simp only [Hz] at *
   cases ho:look hq id with
   | none=>simp [ho,SR.calm] at hc
   | some o=>rw [h id o ho]
 | _=>rfl
theorem Hm (o:Op) {tm:List (Nat × AV)} {hq hp:Hp} {n n':Nat} (h:∀ id o,look hq id=some o->look hp id=some o) (hc:(Av tt o ⟨tm,hq,n⟩).calm):Av tt o ⟨tm,hp,n'⟩=Av tt o ⟨tm,hq,n⟩:=by
 cases o with
 | load t x =>
   simp only [Av,Tg] at *
   cases ht:look tt t with
   | none=>rfl
   | some ti =>
     simp only [ht] at *
     cases hx:Au tm x with
     | none=>rfl
     | some p=>simp only [hx] at *; exact a3k h _ _ _ hc
 | store t x v =>
   exfalso
   simp only [Av,Ti] at hc
   cases ht:look tt t with
   | none=>simp [ht,SR.calm] at hc
   | some ti =>
     simp only [ht] at hc
     cases hx:Au tm x with
     | none=>simp [hx,SR.calm] at hc
     | some p =>
       cases hv:Au tm v with
       | none=>simp [hx,hv,SR.calm] at hc
       | some u =>
         have:∀ u,¬ (Ol ⟨tm,hq,n⟩ ti.size u p).calm:=by
          intro u hc
          cases p with
          | pt id row off =>
            simp only [Ol] at hc
            cases ho:look hq id with
            | none=>simp [ho,SR.calm] at hc
            | some o =>
              cases o with
              | box cs =>
                cases row with
                | zero=>simp only [ho,C0] at hc; cases hb:(Nat.beq u.cells.length ti.size&&Nat.ble (off + ti.size) cs.length) <;> simp [hb,SR.calm] at hc
                | succ row=>simp only [ho] at hc; cases hb:Nat.beq u.cells.length ti.size <;> simp [hb,SR.calm] at hc
              | map=>simp only [ho] at hc; exact hc
              | ranged=>simp only [ho] at hc; exact hc
              | clo=>simp only [ho] at hc; exact hc
              | nest e sz rows=>simp only [ho] at hc; cases hb:(Nat.beq u.cells.length ti.size&&Nat.ble (off + ti.size) sz&&u.cells.all Pz) <;> (rw [hb] at hc; exact hc)
              | list e sz rows=>simp only [ho] at hc; cases hb:(Nat.beq u.cells.length ti.size&&Nat.ble (off + ti.size) sz&&u.cells.all Dw) <;> (rw [hb] at hc; exact hc)
          | _=>exact hc
         simp only [hx,hv] at hc
         cases u with
         | tup vs=>exact hc
         | _=>exact this _ hc
 | indexAddr t x i =>
   simp only [Av,Hh,G1] at *
   cases hi:Au tm i with
   | none=>rfl
   | some iv =>
     simp only [hi] at *
     cases hx:Au tm x with
     | none=>rfl
     | some p =>
       have key:∀ te m,(L4 ⟨tm,hq,n⟩ te m p).calm->L4 ⟨tm,hp,n'⟩ te m p=L4 ⟨tm,hq,n⟩ te m p:=by
        intro te m hc
        cases p with
        | own id len =>
          simp only [L4] at *
          cases ho:look hq id with
          | none=>simp [ho,SR.calm] at hc
          | some o=>rw [h id o ho]
        | _=>rfl
       have key2:∀ te m z,(L5 ⟨tm,hq,n⟩ te m z p).calm->L5 ⟨tm,hp,n'⟩ te m z p=L5 ⟨tm,hq,n⟩ te m z p:=by
        intro te m z hc
        cases p with
        | pt id row off =>
          simp only [L5] at *
          cases ho:look hq id with
          | none=>simp [ho,SR.calm] at hc
          | some o=>rw [h id o ho]
        | _=>rfl
       simp only [hx] at *
       cases iv with
       | val u =>
         cases u with
         | int k z =>
           simp only at *
           cases he:B2 tt t with
           | some et=>obtain ⟨e,te⟩:=et; simp only [he] at *; exact key _ _ hc
           | none =>
             simp only [he] at *
             cases ha:G0 tt t with
             | none=>rfl
             | some mt =>
               obtain ⟨m,e,te⟩:=mt
               simp only [ha] at hc ⊢
               cases bO:Nat.blt 1 m with
               | true=>rw [bO] at hc; exact key2 _ _ _ hc
               | false=>rfl
         | _=>rfl
       | _=>rfl
 | convert a b x =>
   simp only [Av] at *
   cases hb:Tj tt b with
   | false=>simp only [hb] at *; rfl
   | true=>simp only [hb] at *; exact a7o h hc
 | call c =>
   simp only [Av] at *
   cases bn:c.callee with
   | value f =>
     simp only [bn,a0p] at hc ⊢
     cases hx:Au tm f with
     | none=>rfl
     | some p =>
       cases p with
       | clo id =>
         simp only [hx] at hc ⊢
         cases hl:look hq id with
         | none=>simp only [hl] at hc; exact hc.elim
         | some o=>simp only [h id o hl]
       | val v=>cases v with
         | func fn f1 c1=>cases fn <;> rfl
         | _=>rfl
       | _=>rfl
   | invoke r m=>rfl
   | builtin b =>
     simp only [bn] at hc
     cases b <;> first | rfl | skip
     case delete =>
      exfalso; revert hc
      simp only [D6,Ot,Bool.cond_eq_ite]
      repeat' split
      all_goals exact fun h=>h
     case len =>
      simp only [D6] at hc ⊢
      split
      · rename_i x hx
        simp only [hx] at hc
        split
        · rename_i t ht
          simp only [ht,a0q] at hc ⊢
          split
          · rename_i ti cp
            simp only [cp] at hc
            split
            · rfl
            · rename_i mk me hk
              simp only [hk] at hc
              cases hx:Au tm x with
              | none=>rfl
              | some p =>
                cases p with
                | mp id =>
                  simp only [hx] at hc ⊢
                  cases hl:look hq id with
                  | none=>simp only [hl] at hc; exact hc.elim
                  | some o=>simp only [h id o hl]
                | _=>rfl
            · rfl
            · rfl
          · rfl
        · rfl
      · rfl
     case append =>
      exfalso
      revert hc
      generalize c.args.toList=l
      generalize c.argTypes.toList=ts
      intro hc
      cases l with
      | nil=>exact hc
      | cons x r=>cases r with
        | nil=>exact hc
        | cons y r=>cases r with
          | cons=>exact hc
          | nil=>cases ts with
            | nil=>exact hc
            | cons t r=>cases r with
              | nil=>exact hc
              | cons t' r=>cases r with
                | cons=>exact hc
                | nil =>
                  simp only [D6] at hc
                  cases hb:Nat.beq t t' with
                  | false=>rw [hb] at hc; exact hc
                  | true =>
                    rw [hb] at hc
                    simp only [cond_true,On] at hc
                    cases he:B2 tt t with
                    | none=>simp [he,SR.calm] at hc
                    | some et =>
                      obtain ⟨e,te⟩:=et
                      simp only [he] at hc
                      cases hx:Au tm x with
                      | none=>simp [hx,SR.calm] at hc
                      | some p =>
                        cases hy:Au tm y with
                        | none=>simp [hx,hy,SR.calm] at hc
                        | some q =>
                          cases hr:Gz hq q with
                          | none =>
                            simp only [hx,hy,hr] at hc
                            revert hc
                            unfold Nh
                            intro hc
                            split at hc
                            · split at hc
                              · split at hc
                                · generalize (Nat.beq e _&&Nat.beq _ te.size&&Nat.beq _ te.size&&List.all _ _)=bb at hc
                                  cases bb <;> exact hc
                                · exact hc
                              · exact hc
                            · exact hc
                          | some yp =>
                            obtain ⟨ys,pp⟩:=yp
                            simp only [hx,hy,hr] at hc
                            revert hc
                            unfold K6
                            intro hc
                            split at hc
                            · split at hc
                              · cases hb:(Nat.beq e _&&Nat.beq _ te.size) <;> (rw [hb] at hc; exact hc)
                              · exact hc
                            · simp only [L1] at hc
                              cases hb:Nat.blt 0 te.size <;> (rw [hb] at hc; exact hc)
                            · exact hc
     case copy =>
      exfalso
      revert hc
      generalize c.args.toList=l
      generalize c.argTypes.toList=ts
      intro hc
      cases l with
      | nil=>exact hc
      | cons x r=>cases r with
        | nil=>exact hc
        | cons y r=>cases r with
          | cons=>exact hc
          | nil=>cases ts with
            | nil=>exact hc
            | cons t r=>cases r with
              | nil=>exact hc
              | cons t' r=>cases r with
                | cons=>exact hc
                | nil =>
                  simp only [D6] at hc
                  cases hb:Nat.beq t t' with
                  | false=>rw [hb] at hc; exact hc
                  | true =>
                    rw [hb] at hc
                    simp only [cond_true,a0r] at hc
                    cases he:B2 tt t with
                    | none=>simp [he,SR.calm] at hc
                    | some et =>
                      obtain ⟨e,te⟩:=et
                      simp only [he] at hc
                      cases hx:Au tm x with
                      | none=>simp [hx,SR.calm] at hc
                      | some p =>
                        cases hy:Au tm y with
                        | none=>simp [hx,hy,SR.calm] at hc
                        | some q =>
                          cases hr:Gz hq q with
                          | none=>simp [hx,hy,hr,SR.calm] at hc
                          | some yp =>
                            obtain ⟨ys,pp⟩:=yp
                            simp only [hx,hy,hr] at hc
                            revert hc
                            unfold Wp
                            intro hc
                            split at hc
                            · split at hc
                              · cases hb:(Nat.beq te.size 1&&Nat.blt 0 _) <;> (rw [hb] at hc; exact hc)
                              · exact hc
                            · exact hc
 | buildSlice t k ps=>rfl
 | slice t x lo hi mx =>
   cases mx with
   | some m=>rfl
   | none =>
     simp only [Av,I2] at *
     cases he:B2 tt t with
     | none=>rfl
     | some et =>
       obtain ⟨e,te⟩:=et
       simp only [he] at *
       cases hx:Au tm x with
       | none=>rfl
       | some p =>
         simp only [hx] at *
         cases lo with
         | none=>rfl
         | some l =>
           have e1:∀ o:Operand,G1 ⟨tm,hp,n'⟩ o=G1 ⟨tm,hq,n⟩ o:=fun _=>rfl
           simp only [e1] at *
           cases hl:G1 ⟨tm,hq,n⟩ l with
           | none=>rfl
           | some i =>
             simp only [hl] at *
             cases hi with
             | none=>exact Rv h _ _ _ _ hc
             | some hh =>
               simp only at *
               cases dJ:G1 ⟨tm,hq,n⟩ hh with
               | none=>rfl
               | some b =>
                 simp only [dJ] at *
                 exact Rv h _ _ _ _ hc
 | makeMap t r=>cases r <;> rfl
 | mapUpdate t m k v =>
   exfalso; revert hc
   simp only [Av,Oo,Bool.cond_eq_ite]
   repeat' split
   all_goals exact fun h=>h
 | lookup t x i b =>
   simp only [Av,Oq] at *
   cases hm:Ga tt t with
   | none=>rfl
   | some km =>
     simp only [hm] at *
     cases hx:Au tm x with
     | none=>rfl
     | some p =>
       cases p with
       | mp id =>
         simp only [hx] at *
         cases hl:look hq id with
         | none=>simp only [hl] at hc; exact hc.elim
         | some o=>simp only [h id o hl]
       | _=>rfl
 | nilCheck x =>
   simp only [Av,a8T] at *
   cases hx:Au tm x with
   | none=>rfl
   | some p =>
     cases p with
     | clo id =>
       simp only [hx] at hc ⊢
       cases hl:look hq id with
       | none=>simp only [hl] at hc; exact hc.elim
       | some o=>simp only [h id o hl]
     | val v=>cases v with
       | func fn f1 c1=>cases fn <;> rfl
       | _=>rfl
     | _=>rfl
 | range t x =>
   exfalso; revert hc
   simp only [Av,Tk]
   repeat' split
   all_goals exact fun h=>h
 | next x b =>
   exfalso; revert hc
   simp only [Av,a0s,Bool.cond_eq_ite]
   repeat' split
   all_goals exact fun h=>h
 | entry x =>
   simp only [Av,Tl] at *
   split
   · rename_i id hx
     simp only [hx] at hc
     cases hl:look hq id with
     | none=>simp only [hl] at hc; exact hc.elim
     | some o=>simp only [h id o hl]
   · rfl
 | _=>rfl
theorem a16 {s:St} {sz:Nat} {l:Int} {h:Option Int} {p:AV} {b:Bool} {x y:Operand}:Hz s sz l h p≠.pick b x y:=by
 cases p with
 | own id len =>
   simp only [Hz]
   cases look s.hp id with
   | none=>intro e; cases e
   | some o =>
     cases o with
     | box cs=>intro e; cases e
     | nest=>intro e; cases e
     | map=>intro e; cases e
     | ranged=>intro e; cases e
     | clo=>intro e; cases e
     | list e sz' rows =>
       simp only
       cases Nat.beq sz' sz with
       | false=>intro e; cases e
       | true=>cases h <;> (intro e; cases e)
 | lst rows=>cases h <;> (intro e; cases e)
 | _=>intro e; cases e
theorem a49 {tt:Tab} {s:St} {o:Op} {b:Bool} {x y:Operand} (h:Av tt o s=.pick b x y):∃ c,o=.pick c x y:=by
 cases o with
 | pick c x0 y0 =>
   simp only [Av] at h
   split at h
   · simp only [SR.pick.injEq] at h; exact ⟨c,by rw [h.2.1,h.2.2]⟩
   · cases h
 | call c =>
   exfalso; revert h
   simp only [Av,a0p,D6,Ot,a0q,On,K6,Nh,a8Y,a0r,Wp,L1,Bool.cond_eq_ite]
   repeat' split
   all_goals (intro h; cases h)
 | _ =>
   exfalso; revert h
   simp only [Av,moveA,a8T,Tk,a0s,Tl,a81,a1G,a8U,Wm,K7,Oo,Oq,Tg,L2,Ti,Ol,a8V,a20,Wn,a8W,a1I,a1L,unA,convA,Jn,H7,Wo,Hh,L4,L5,Ri,Ng,H8,Jo,I2,Gh,a1J,Rj,evA,C0,L0,L1,Bool.cond_eq_ite]
   repeat' split
   all_goals first
    | (intro h; exact absurd h a16)
    | (intro h; cases h)
end Go.Am
