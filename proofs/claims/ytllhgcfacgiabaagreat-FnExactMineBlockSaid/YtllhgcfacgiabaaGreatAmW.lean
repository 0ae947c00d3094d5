import Derived.Test.YtllhgcfacgiabaaGreatAmP
namespace Go.Am
open Go.RowKit
set_option linter.unusedVariables false
set_option linter.unusedSimpArgs false
theorem Weak.plant2 {fx:List Nat} {tm tm':List (Nat × AV)} {hp hp':Hp} {nx nx':Nat} {b0 b1 b2:Bool} (i e s k o1 n1 e1 s1 o2 n2 e2 s2 l1 l2:Nat) (rows rows' r1 r2:List (List AV)) (row:List AV)
 (hl:look hp i=some (.nest (c:=b0) e s rows)) (h1:look hp n1=some (.nest (c:=b1) e1 s1 r1)) (h2:look hp n2=some (.nest (c:=b2) e2 s2 r2)) (hl1:l1=r1.length) (hl2:l2=r2.length) (hrow:rows[k]?=some row) (hq1:row[o1]?=some (.own n1 l1)) (hq2:row[o2]?=some (.own n2 l2))
 (hr:rows'=rows.set k ((row.set o1 (.tree e1 s1 r1)).set o2 (.tree e2 s2 r2))) (hin:∀ c∈rows'.flatten,inB c=true) (hin1:∀ c∈r1.flatten,inB c=true) (hin2:∀ c∈r2.flatten,inB c=true)
 (hb:(!memB n1 fx&&!memB n2 fx&&!Nat.beq n1 i&&!Nat.beq n2 i&&!Nat.beq n1 n2&&!Nat.beq o1 o2&&allLt nx' fx&&Nat.ble nx' nx&&Nat.blt i nx')=true) (ht1:keepTn n1 tm nx' tm') (ht2:keepTn n2 tm nx' tm') (hh1:keepHn n1 hp nx' hp') (hh2:keepHn n2 hp nx' hp') (hno:look hp' i=none) :
 Weak fx ⟨tm,hp,nx⟩ ⟨tm',(i,.nest (c:=true) e s rows')::hp',nx'⟩:=by
 subst hl1 hl2
 simp only [Bool.and_eq_true,Bool.not_eq_true'] at hb
 obtain ⟨⟨⟨⟨⟨⟨⟨⟨hf1,hf2⟩,hi1⟩,hi2⟩,hn12⟩,ho12⟩,hfx⟩,hnx⟩,hix⟩:=hb
 have hi1':n1≠i:=fun e=>by subst e; simp at hi1
 have hi2':n2≠i:=fun e=>by subst e; simp at hi2
 have hn':n1≠n2:=fun e=>by subst e; simp at hn12
 have ho':o1≠o2:=fun e=>by subst e; simp at ho12
 intro E a w he hR
 have hrr:=nest_rows hR hl
 have hk:=(List.getElem?_eq_some_iff.1 hrow).1
 have ho1:o1 < s:=by
  rw [← hrr row (List.mem_of_getElem? hrow)]
  exact (List.getElem?_eq_some_iff.1 hq1).1
 have hone:∀ c∈(rows.set k (row.set o1 (.tree e1 s1 r1))).flatten,c.idOf≠some n1:=fun c hc e'=>by
  obtain ⟨r,hr',hcr⟩:=List.mem_flatten.1 hc
  obtain ⟨j,hj,rfl⟩:=List.mem_iff_getElem.1 hr'
  rw [List.length_set] at hj
  rw [List.getElem_set] at hcr
  split at hcr
  · rename_i hkj
    obtain ⟨m,hm,rfl⟩:=List.mem_iff_getElem.1 hcr
    by_cases hmo:o2=m
    · subst hmo
      rw [List.getElem_set_ne ho'] at e'
      rw [List.getElem?_eq_getElem (by simpa using hm)] at hq2
      rw [Option.some.inj hq2] at e'
      exact hn' (Option.some.inj e').symm
    · have:inB (row.set o1 (.tree e1 s1 r1))[m]=true:=by
       refine hin _ (List.mem_flatten.2 ⟨(row.set o1 (.tree e1 s1 r1)).set o2 (.tree e2 s2 r2),?_,?_⟩)
       · rw [hr]; exact List.mem_iff_getElem.2 ⟨k,by simpa using hk,by simp⟩
       · exact List.mem_iff_getElem.2 ⟨m,by simpa using hm,by rw [List.getElem_set_ne hmo]⟩
      revert e' this
      generalize (row.set o1 (.tree e1 s1 r1))[m]=c
      intro e' this
      cases c <;> simp [inB,AV.idOf] at this e'
  · rename_i hkj
    have:inB c=true:=by
     refine hin c (List.mem_flatten.2 ⟨rows[j],?_,hcr⟩)
     rw [hr]; exact List.mem_iff_getElem.2 ⟨j,by simpa using hj,by rw [List.getElem_set_ne hkj]⟩
    cases c <;> simp [inB,AV.idOf] at this e'
 have hcl:=Weak.close (fx:=fx) (tm:=tm) (nx:=nx) n2 e2 s2 r2 h2 hin2
 have hlk:∀ j,j≠n2→look ((n2,.nest (c:=true) e2 s2 r2)::hp) j=look hp j:=fun j hj=>look_cons_ne _ _ (fun e=>hj e.symm)
 have g1':=Weak.fold (fx:=fx) (tm':=tm') (hp':=(n2,.nest (c:=true) e2 s2 r2)::hp') i e s (k * s + o1) n1 e1 s1 rows _ r1 hf1 hi1' ((hlk i (fun e=>hi2' e.symm)).trans hl) ((hlk n1 hn').trans h1) (by rw [flat_at rows k o1 row hrr hrow ho1]; exact hq1) (flat_set _ rows k o1 row hrr hrow ho1) (by rw [List.length_set]) (set_rows hrr hrow) hin1 hone
  (fun t v h=>keepTn_look ht1 t v h) (fun j ob h=>by
    rw [look_cons] at h
    split at h
    · rename_i e'
      subst e'
      simp only [Option.some.injEq] at h
      subst h
      exact ⟨look_cons_eq _ _ _,fun e=>hn' e.symm,fun h0=>by cases h0⟩
    · rename_i e'
      obtain ⟨a1,a2,a3,_,_⟩:=keepHn_look hh1 j ob h
      exact ⟨(hlk j (fun e=>e' e.symm)).trans a1,a2,a3⟩) E a w he (hcl E a w he hR)
 have hrr1:=set_rows (o:=o1) (x:=.tree e1 s1 r1) hrr hrow
 have ho2:o2 < s:=by
  rw [← hrr row (List.mem_of_getElem? hrow)]
  exact (List.getElem?_eq_some_iff.1 hq2).1
 have hrow1:(rows.set k (row.set o1 (.tree e1 s1 r1)))[k]?=some (row.set o1 (.tree e1 s1 r1)):=List.getElem?_set_self hk
 have hset:(rows.set k (row.set o1 (.tree e1 s1 r1))).set k ((row.set o1 (.tree e1 s1 r1)).set o2 (.tree e2 s2 r2))=rows':=by rw [List.set_set]; exact hr.symm
 have g2:=Weak.fold (fx:=fx) (tm':=tm') (hp':=hp') i e s (k * s + o2) n2 e2 s2 _ rows' r2 hf2 hi2' (look_cons_eq _ _ _) ((look_cons_ne _ _ (fun e=>hi2' e.symm)).trans (look_cons_eq _ _ _)) (by rw [flat_at _ k o2 _ hrr1 hrow1 ho2,List.getElem?_set_ne ho']; exact hq2) (by rw [← hset]; exact flat_set _ _ k o2 _ hrr1 hrow1 ho2) (by rw [← hset,List.length_set]) (by rw [← hset]; exact set_rows hrr1 hrow1) hin2
  (fun c hc e'=>by have:=hin c hc; cases c <;> simp [inB,AV.idOf] at this e') (fun t v h=>⟨h,(keepTn_look ht2 t v h).2⟩) (fun j ob h=>by
    obtain ⟨a1,a2,a3,_,_⟩:=keepHn_look hh2 j ob h
    by_cases hj:i=j
    · subst hj; rw [hno] at h; cases h
    · exact ⟨(look_cons_ne _ _ hj).trans ((look_cons_ne _ _ fun e=>a2 e.symm).trans h),a2,a3⟩) E a w he g1'
 have g3:=Weak.close (fx:=fx) i e s _ (look_cons_eq _ _ _) hin E a w he g2
 have g4:Rel E ⟨tm',(i,.nest (c:=true) e s rows')::hp',nx⟩ a w:=by
  refine Forget.rel ?_ g3
  refine ⟨fun t v h=>h,fun j ob h=>?_,Nat.le_refl _⟩
  simp only [look_cons] at h ⊢
  by_cases hj:i=j
  · subst hj; simp only [if_true] at h ⊢; exact h
  · simp only [if_neg hj] at h ⊢; exact h
 refine Rel.lower hnx (by rw [he]; exact hfx) (fun t v h=>ltV_uses (keepTn_keep ht1 t v h)) (fun j ob h=>?_) g4
 rw [look_cons] at h
 split at h
 · rename_i e'
   subst e'
   simp only [Option.some.injEq] at h
   subst h
   exact ⟨Nat.le_of_ble_eq_true hix,fun h0=>by cases h0⟩
 · obtain ⟨_,_,_,a4,a5⟩:=keepHn_look hh1 j ob h
   exact ⟨a4,a5⟩
theorem Weak.lift2 {fx:List Nat} {tm:List (Nat × AV)} {hp:Hp} {nx:Nat} {b:Bool} (i e s k o1 e1 s1 o2 e2 s2:Nat) (rows r1 r2:List (List AV)) (row:List AV) (hl:look hp i=some (.nest (c:=b) e s rows)) (hrow:rows[k]?=some row) (hq1:row[o1]?=some (.tree e1 s1 r1)) (hq2:row[o2]?=some (.tree e2 s2 r2)) (hb:(!Nat.beq i nx&&!Nat.beq i (nx + 1)&&!Nat.beq o1 o2)=true) :
 Weak fx ⟨tm,hp,nx⟩ ⟨tm,(i,.nest (c:=false) e s (rows.set k ((row.set o1 (.own nx r1.length)).set o2 (.own (nx + 1) r2.length))))::(nx,.nest (c:=true) e1 s1 r1)::(nx + 1,.nest (c:=true) e2 s2 r2)::hp,nx + 2⟩:=by
 simp only [Bool.and_eq_true,Bool.not_eq_true'] at hb
 obtain ⟨⟨hi1,hi2⟩,ho⟩:=hb
 have hi1':i≠nx:=fun e=>by subst e; simp at hi1
 have hi2':i≠nx + 1:=fun e=>by subst e; simp at hi2
 have ho':o1≠o2:=fun e=>by subst e; simp at ho
 have hk:=(List.getElem?_eq_some_iff.1 hrow).1
 have h1:=Weak.liftN (fx:=fx) (tm:=tm) (hp:=hp) (nx:=nx) i e s k o1 e1 s1 rows r1 row hl hrow hq1
 have h2:=Weak.liftN (fx:=fx) (tm:=tm) (hp:=(i,.nest (c:=false) e s (rows.set k (row.set o1 (.own nx r1.length))))::(nx,.nest (c:=true) e1 s1 r1)::hp) (nx:=nx + 1) (b:=false) i e s k o2 e2 s2 (rows.set k (row.set o1 (.own nx r1.length))) r2 (row.set o1 (.own nx r1.length)) (look_cons_eq _ _ _) (List.getElem?_set_self hk) (by rw [List.getElem?_set_ne ho']; exact hq2)
 rw [List.set_set] at h2
 refine (h1.trans h2).trans ?_
 intro E a w he hR
 refine Forget.rel ?_ hR
 refine ⟨fun t v h=>h,fun j ob h=>?_,Nat.le_refl _⟩
 simp only [look_cons] at h ⊢
 by_cases a1:i=j
 · simp only [if_pos a1] at h ⊢; exact h
 simp only [if_neg a1] at h ⊢
 by_cases a2:nx=j
 · have a3:¬ nx + 1=j:=by omega
   simp only [if_pos a2,if_neg a3] at h ⊢; exact h
 simp only [if_neg a2] at h ⊢
 exact h
theorem Weak.openN {fx:List Nat} {tm:List (Nat × AV)} {hp:Hp} {nx:Nat} {b:Bool} (id e s:Nat) (rows:List (List AV)) (hl:look hp id=some (.nest (c:=b) e s rows)) (hin:∀ c∈rows.flatten,inB c=true) :
 Weak fx ⟨tm,hp,nx⟩ ⟨tm,(id,.nest (c:=false) e s rows)::hp,nx⟩:=by
 refine Weak.retell id _ _ hl fun w S ι hu hob=>⟨fun _ c hc i hi=>?_,?_⟩
 · have:=hin c hc
   cases c <;> simp [inB,AV.idOf] at this hi
 cases hob with
 | nest0 _ _ h hs=>exact .nest0 e s h hs
 | nest g cap _ _ _ vs h hs hr hle hm hw hn hc=>exact .nest g cap e s rows vs h hs hr hle hm hw hn fun i v c hv ha=>.inr (CRel.tr (hc i v c hv ha) (hin c (List.mem_of_getElem? ha)))
end Go.Am
