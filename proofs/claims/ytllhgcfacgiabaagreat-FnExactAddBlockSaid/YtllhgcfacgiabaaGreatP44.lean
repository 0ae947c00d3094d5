import Derived.Test.YtllhgcfacgiabaaGreatR2
import Derived.Test.YtllhgcfacgiabaaGreatR12
import Derived.Test.YtllhgcfacgiabaaGreatAmP
import Derived.Test.YtllhgcfacgiabaaGreatP43
namespace Go.Proofs.YtllhgcfacgiabaaGreat
open Go Go.Am Go.RowKit Go.ChangeShapes Go.WideShapes Go.ChangeAt Go.Deep
set_option linter.unusedVariables false
section
variable {H:Type} {enc:TypeId × Value->H} {w:World} {base:Nat} {sp:Nat->Bool} {held:Bool}
theorem allTwo {Z0 Z1:List AV->Prop} {ps:List (List AV)} (h:Al (fun (Z:List AV->Prop) p=>Z p) [Z0,Z1] ps):∃ p0 p1,ps=[p0,p1]/\Z0 p0/\Z1 p1 :=
 match ps,h with
 | [p0,p1],h=>⟨p0,p1,rfl,h.1,h.2.1⟩
theorem a8E:∃ f0 f1:Field,Tryz.prog.underlying 159=some (.struct #[f0,f1])/\f0.type=2/\f1.type=35/\P7 Tryz.prog 0 [f0,f1] (Tryz.prog.cellsOf 159)=true :=
 ⟨_,_,Tryz.underlying159,rfl,rfl,by kernel_rfl⟩
theorem a6e:Reads enc Tryz.prog w base sp held 159 fun us=>∃ x:Bh,us=A4 x/\Uk x.blk:=by
 obtain ⟨f0,f1,hu,h0,h1,ho⟩:=a8E
 refine (Fs hu [isInt,fun us=>∃ x:B7,us=Ix x/\Uk x] ho ⟨?_,?_,trivial⟩).mono ?_
 · show Reads enc _ w base sp held f0.type isInt; rw [h0]; exact Km
 · show Reads enc _ w base sp held f1.type _; rw [h1]; exact Vk
 rintro us ⟨ps,hp,rfl⟩
 obtain ⟨_,_,rfl,⟨a,rfl⟩,⟨b,rfl,hb⟩⟩:=allTwo hp
 exact ⟨⟨a,b⟩,rfl,hb⟩
theorem a4n:Reads enc Tryz.prog w base sp held 22 fun us=>∃ xs:List Bh,us=[Fo xs]/\xs.length<=maxLen/\∀ x∈xs,Uk x.blk :=
 (Il Tryz.underlying22 (by rw [show Tryz.prog.cellsOf 159=6 from by kernel_rfl]; decide) a6e).mono fun us ⟨rows,h1,h2,h3⟩=>by
   obtain ⟨zs,g1,g2,g3⟩:=Sc (f:=A4) h3
   exact ⟨zs,by rw [h1,g1],by omega,g2⟩
theorem a8F:∃ f0 f1:Field,Tryz.prog.underlying 24=some (.struct #[f0,f1])/\f0.type=2/\f1.type=22/\P7 Tryz.prog 0 [f0,f1] (Tryz.prog.cellsOf 24)=true :=
 ⟨_,_,Tryz.underlying24,rfl,rfl,by kernel_rfl⟩
theorem a6f:Reads enc Tryz.prog w base sp held 24 fun us=>∃ x:Br,us=Hf x/\a6a x:=by
 obtain ⟨f0,f1,hu,h0,h1,ho⟩:=a8F
 refine (Fs hu [Yq,fun us=>∃ xs:List Bh,us=[Fo xs]/\xs.length<=maxLen/\∀ x∈xs,Uk x.blk] ho ⟨?_,?_,trivial⟩).mono ?_
 · show Reads enc _ w base sp held f0.type Yq; rw [h0]; exact a3P
 · show Reads enc _ w base sp held f1.type _; rw [h1]; exact a4n
 rintro us ⟨ps,hp,rfl⟩
 obtain ⟨_,_,rfl,⟨a,rfl,ha⟩,⟨b,rfl,bu,a8⟩⟩:=allTwo hp
 exact ⟨⟨a,b⟩,rfl,Nat.le_trans bu (by decide),a8,ha⟩
theorem a8G {vs:Array Value} {d:DataW H} {ps:List MemPlace} (h:DataW.Trod enc Tryz.prog w base sp held 24 (.agg vs) d ps):∃ b:Br,a6a b/\Bi w (fun b=>b < w.heap.size) (fun _=>none) (.agg vs) (C5 b):=by
 obtain ⟨us,⟨b,rfl,hm⟩,hv⟩:=a09 a6f h
 exact ⟨b,hm,hv⟩
end
end Go.Proofs.YtllhgcfacgiabaaGreat
namespace Go.Am
open Go.RowKit
set_option linter.unusedVariables false
set_option linter.unusedSimpArgs false
theorem Ac.plant2 {fx:List Nat} {tm tm':List (Nat × AV)} {hp hp':Hp} {nx nx':Nat} {b0 b1 b2:Bool} (i e s k o1 n1 e1 s1 o2 n2 e2 s2 l1 l2:Nat) (rows rows' r1 r2:List (List AV)) (row:List AV)
 (hl:look hp i=some (.nest (c:=b0) e s rows)) (h1:look hp n1=some (.nest (c:=b1) e1 s1 r1)) (h2:look hp n2=some (.nest (c:=b2) e2 s2 r2)) (bW:l1=r1.length) (dJ:l2=r2.length) (am:rows[k]?=some row) (gh:row[o1]?=some (.own n1 l1)) (dD:row[o2]?=some (.own n2 l2))
 (hr:rows'=rows.set k ((row.set o1 (.tree e1 s1 r1)).set o2 (.tree e2 s2 r2))) (ap:∀ c∈rows'.flatten,inB c=true) (lu:∀ c∈r1.flatten,inB c=true) (db:∀ c∈r2.flatten,inB c=true)
 (hb:(!Af n1 fx&&!Af n2 fx&&!Nat.beq n1 i&&!Nat.beq n2 i&&!Nat.beq n1 n2&&!Nat.beq o1 o2&&U8 nx' fx&&Nat.ble nx' nx&&Nat.blt i nx')=true) (mm:Qz n1 tm nx' tm') (nK:Qz n2 tm nx' tm') (mn:Uq n1 hp nx' hp') (nM:Uq n2 hp nx' hp') (aJ:look hp' i=none) :
 Ac fx ⟨tm,hp,nx⟩ ⟨tm',(i,.nest (c:=true) e s rows')::hp',nx'⟩:=by
 subst bW dJ
 simp only [Bool.and_eq_true,Bool.not_eq_true'] at hb
 obtain ⟨⟨⟨⟨⟨⟨⟨⟨nN,nO⟩,lv⟩,fm⟩,lw⟩,lx⟩,ce⟩,gY⟩,kU⟩:=hb
 have jL:n1≠i:=fun e=>by subst e; simp at lv
 have f8:n2≠i:=fun e=>by subst e; simp at fm
 have fq:n1≠n2:=fun e=>by subst e; simp at lw
 have bY:o1≠o2:=fun e=>by subst e; simp at lx
 intro E a w he hR
 have ff:=Up hR hl
 have hk:=(List.getElem?_eq_some_iff.1 am).1
 have mo:o1 < s:=by
  rw [<- ff row (List.mem_of_getElem? am)]
  exact (List.getElem?_eq_some_iff.1 gh).1
 have aX:∀ c∈(rows.set k (row.set o1 (.tree e1 s1 r1))).flatten,c.idOf≠some n1:=fun c hc e'=>by
  obtain ⟨r,aD,aR⟩:=List.mem_flatten.1 hc
  obtain ⟨j,hj,rfl⟩:=List.mem_iff_getElem.1 aD
  rw [List.length_set] at hj
  rw [List.getElem_set] at aR
  split at aR
  · rename_i mq
    obtain ⟨m,hm,rfl⟩:=List.mem_iff_getElem.1 aR
    by_cases mr:o2=m
    · subst mr
      rw [List.getElem_set_ne bY] at e'
      rw [List.getElem?_eq_getElem (by simpa using hm)] at dD
      rw [Option.some.inj dD] at e'
      exact fq (Option.some.inj e').symm
    · have:inB (row.set o1 (.tree e1 s1 r1))[m]=true:=by
       refine ap _ (List.mem_flatten.2 ⟨(row.set o1 (.tree e1 s1 r1)).set o2 (.tree e2 s2 r2),?_,?_⟩)
       · rw [hr]; exact List.mem_iff_getElem.2 ⟨k,by simpa using hk,by simp⟩
       · exact List.mem_iff_getElem.2 ⟨m,by simpa using hm,by rw [List.getElem_set_ne mr]⟩
      revert e' this
      generalize (row.set o1 (.tree e1 s1 r1))[m]=c
      intro e' this
      cases c <;> simp [inB,AV.idOf] at this e'
  · rename_i mq
    have:inB c=true:=by
     refine ap c (List.mem_flatten.2 ⟨rows[j],?_,aR⟩)
     rw [hr]; exact List.mem_iff_getElem.2 ⟨j,by simpa using hj,by rw [List.getElem_set_ne mq]⟩
    cases c <;> simp [inB,AV.idOf] at this e'
 have cL:=Ac.close (fx:=fx) (tm:=tm) (nx:=nx) n2 e2 s2 r2 h2 db
 have cU:∀ j,j≠n2->look ((n2,.nest (c:=true) e2 s2 r2)::hp) j=look hp j:=fun j hj=>An _ _ (fun e=>hj e.symm)
 have g1':=Ac.fold (fx:=fx) (tm':=tm') (hp':=(n2,.nest (c:=true) e2 s2 r2)::hp') i e s (k * s + o1) n1 e1 s1 rows _ r1 nN jL ((cU i (fun e=>f8 e.symm)).trans hl) ((cU n1 fq).trans h1) (by rw [Pg rows k o1 row ff am mo]; exact gh) (N8 _ rows k o1 row ff am mo) (by rw [List.length_set]) (N9 ff am) lu aX
  (fun t v h=>Kq mm t v h) (fun j ob h=>by
    rw [Aj] at h
    split at h
    · rename_i e'
      subst e'
      simp only [Option.some.injEq] at h
      subst h
      exact ⟨Ae _ _ _,fun e=>fq e.symm,fun h0=>by cases h0⟩
    · rename_i e'
      obtain ⟨a1,a2,a3,_,_⟩:=Fi mn j ob h
      exact ⟨(cU j (fun e=>e' e.symm)).trans a1,a2,a3⟩) E a w he (cL E a w he hR)
 have ij:=N9 (o:=o1) (x:=.tree e1 s1 r1) ff am
 have mu:o2 < s:=by
  rw [<- ff row (List.mem_of_getElem? am)]
  exact (List.getElem?_eq_some_iff.1 dD).1
 have fi:(rows.set k (row.set o1 (.tree e1 s1 r1)))[k]?=some (row.set o1 (.tree e1 s1 r1)):=List.getElem?_set_self hk
 have bI:(rows.set k (row.set o1 (.tree e1 s1 r1))).set k ((row.set o1 (.tree e1 s1 r1)).set o2 (.tree e2 s2 r2))=rows':=by rw [List.set_set]; exact hr.symm
 have g2:=Ac.fold (fx:=fx) (tm':=tm') (hp':=hp') i e s (k * s + o2) n2 e2 s2 _ rows' r2 nO f8 (Ae _ _ _) ((An _ _ (fun e=>f8 e.symm)).trans (Ae _ _ _)) (by rw [Pg _ k o2 _ ij fi mu,List.getElem?_set_ne bY]; exact dD) (by rw [<- bI]; exact N8 _ _ k o2 _ ij fi mu) (by rw [<- bI,List.length_set]) (by rw [<- bI]; exact N9 ij fi) db
  (fun c hc e'=>by have:=ap c hc; cases c <;> simp [inB,AV.idOf] at this e') (fun t v h=>⟨h,(Kq nK t v h).2⟩) (fun j ob h=>by
    obtain ⟨a1,a2,a3,_,_⟩:=Fi nM j ob h
    by_cases hj:i=j
    · subst hj; rw [aJ] at h; cases h
    · exact ⟨(An _ _ hj).trans ((An _ _ fun e=>a2 e.symm).trans h),a2,a3⟩) E a w he g1'
 have g3:=Ac.close (fx:=fx) i e s _ (Ae _ _ _) ap E a w he g2
 have g4:Rel E ⟨tm',(i,.nest (c:=true) e s rows')::hp',nx⟩ a w:=by
  refine Dy.rel ?_ g3
  refine ⟨fun t v h=>h,fun j ob h=>?_,Nat.le_refl _⟩
  simp only [Aj] at h ⊢
  by_cases hj:i=j
  · subst hj; simp only [if_true] at h ⊢; exact h
  · simp only [if_neg hj] at h ⊢; exact h
 refine Rel.lower gY (by rw [he]; exact ce) (fun t v h=>Xw (Oa mm t v h)) (fun j ob h=>?_) g4
 rw [Aj] at h
 split at h
 · rename_i e'
   subst e'
   simp only [Option.some.injEq] at h
   subst h
   exact ⟨Nat.le_of_ble_eq_true kU,fun h0=>by cases h0⟩
 · obtain ⟨_,_,_,a4,a5⟩:=Fi mn j ob h
   exact ⟨a4,a5⟩
theorem Ac.lift2 {fx:List Nat} {tm:List (Nat × AV)} {hp:Hp} {nx:Nat} {b:Bool} (i e s k o1 e1 s1 o2 e2 s2:Nat) (rows r1 r2:List (List AV)) (row:List AV) (hl:look hp i=some (.nest (c:=b) e s rows)) (am:rows[k]?=some row) (gh:row[o1]?=some (.tree e1 s1 r1)) (dD:row[o2]?=some (.tree e2 s2 r2)) (hb:(!Nat.beq i nx&&!Nat.beq i (nx + 1)&&!Nat.beq o1 o2)=true) :
 Ac fx ⟨tm,hp,nx⟩ ⟨tm,(i,.nest (c:=false) e s (rows.set k ((row.set o1 (.own nx r1.length)).set o2 (.own (nx + 1) r2.length))))::(nx,.nest (c:=true) e1 s1 r1)::(nx + 1,.nest (c:=true) e2 s2 r2)::hp,nx + 2⟩:=by
 simp only [Bool.and_eq_true,Bool.not_eq_true'] at hb
 obtain ⟨⟨lv,fm⟩,ho⟩:=hb
 have jL:i≠nx:=fun e=>by subst e; simp at lv
 have f8:i≠nx + 1:=fun e=>by subst e; simp at fm
 have bY:o1≠o2:=fun e=>by subst e; simp at ho
 have hk:=(List.getElem?_eq_some_iff.1 am).1
 have h1:=Ac.liftN (fx:=fx) (tm:=tm) (hp:=hp) (nx:=nx) i e s k o1 e1 s1 rows r1 row hl am gh
 have h2:=Ac.liftN (fx:=fx) (tm:=tm) (hp:=(i,.nest (c:=false) e s (rows.set k (row.set o1 (.own nx r1.length))))::(nx,.nest (c:=true) e1 s1 r1)::hp) (nx:=nx + 1) (b:=false) i e s k o2 e2 s2 (rows.set k (row.set o1 (.own nx r1.length))) r2 (row.set o1 (.own nx r1.length)) (Ae _ _ _) (List.getElem?_set_self hk) (by rw [List.getElem?_set_ne bY]; exact dD)
 rw [List.set_set] at h2
 refine (h1.trans h2).trans ?_
 intro E a w he hR
 refine Dy.rel ?_ hR
 refine ⟨fun t v h=>h,fun j ob h=>?_,Nat.le_refl _⟩
 simp only [Aj] at h ⊢
 by_cases a1:i=j
 · simp only [if_pos a1] at h ⊢; exact h
 simp only [if_neg a1] at h ⊢
 by_cases a2:nx=j
 · have a3:¬ nx + 1=j:=by omega
   simp only [if_pos a2,if_neg a3] at h ⊢; exact h
 simp only [if_neg a2] at h ⊢
 exact h
theorem Ac.openN {fx:List Nat} {tm:List (Nat × AV)} {hp:Hp} {nx:Nat} {b:Bool} (id e s:Nat) (rows:List (List AV)) (hl:look hp id=some (.nest (c:=b) e s rows)) (ap:∀ c∈rows.flatten,inB c=true) :
 Ac fx ⟨tm,hp,nx⟩ ⟨tm,(id,.nest (c:=false) e s rows)::hp,nx⟩:=by
 refine Ac.retell id _ _ hl fun w S ι hu an=>⟨fun _ c hc i hi=>?_,?_⟩
 · have:=ap c hc
   cases c <;> simp [inB,AV.idOf] at this hi
 cases an with
 | nest0 _ _ h hs=>exact .nest0 e s h hs
 | nest g cap _ _ _ vs h hs hr ax hm hw hn hc=>exact .nest g cap e s rows vs h hs hr ax hm hw hn fun i v c hv ha=>.inr (A9.tr (hc i v c hv ha) (ap c (List.mem_of_getElem? ha)))
end Go.Am
namespace Go.Proofs.YtllhgcfacgiabaaGreat
open Go Go.Am Go.RowKit
set_option linter.unusedVariables false
set_option linter.unusedSimpArgs false
def I1 (m:Nat):List InD->List InD
 | []=>[]
 | x::r=>((m:Int),((m + 1:Nat):Int),marks (m + 2) x.2.2.length)::I1 (m + 2 + x.2.2.length) r
def Hv (m:Nat):List InD->Nat
 | []=>m
 | x::r=>Hv (m + 2 + x.2.2.length) r
theorem Fv:∀ (l:List InD) (m:Nat),(I1 m l).length=l.length
 | [],m=>rfl
 | x::r,m=>by simp [I1,Fv r]
theorem Pp:∀ (l:List InD) (x:InD) (m:Nat),I1 m (l++[x])=I1 m l++[((Hv m l:Int),((Hv m l + 1:Nat):Int),marks (Hv m l + 2) x.2.2.length)]/\Hv m (l++[x])=Hv m l + 2 + x.2.2.length
 | [],x,m=>⟨rfl,rfl⟩
 | y::r,x,m=>by
   obtain ⟨h1,h2⟩:=Pp r x (m + 2 + y.2.2.length)
   exact ⟨by simp only [List.cons_append,I1,Hv,h1],by simp only [List.cons_append,Hv,h2]⟩
theorem Pq:∀ (l:List InD) (m:Nat),Hv m l=m + 2 * l.length + Bn pIn l
 | [],m=>by simp [Hv,Bn]
 | x::r,m=>by
   rw [Hv,Pq r]
   simp only [Bn,List.map_cons,List.sum_cons,List.length_cons,pIn]
   omega
def mkP (m:Nat) (xs:List InD) (k:Nat):List InD:=I1 m (xs.take k)++xs.drop k
theorem b0n (m:Nat) (xs:List InD):mkP m xs 0=xs:=by simp [mkP,I1]
theorem b05 (m:Nat) (xs:List InD):mkP m xs xs.length=I1 m xs:=by simp [mkP]
theorem b06 (m:Nat) (xs:List InD) (k:Nat) (h:k<=xs.length):(mkP m xs k).length=xs.length:=by simp [mkP,Fv]; omega
theorem b1O (m:Nat) (xs:List InD) (k:Nat) (h:k < xs.length):(mkP m xs k)[k]?=some xs[k]:=by
 rw [mkP,List.getElem?_append_right (by rw [Fv,List.length_take]; omega),Fv,List.length_take,List.getElem?_drop,show k + (k - min k xs.length)=k by omega,List.getElem?_eq_getElem h]
theorem b07 (m:Nat) (xs:List InD) (k:Nat) (h:k < xs.length):(mkP m xs k).set k ((Hv m (xs.take k):Int),((Hv m (xs.take k) + 1:Nat):Int),marks (Hv m (xs.take k) + 2) xs[k].2.2.length)=mkP m xs (k + 1):=by
 unfold mkP
 rw [Bo xs k h,(Pp _ _ _).1,List.set_append_right _ _ (by rw [Fv,List.length_take]; omega),Fv,List.length_take,show k - min k xs.length=0 by omega,List.drop_eq_getElem_cons h,List.set_cons_zero,List.append_assoc]
 rfl
theorem a4o (xs:List InD) (i m n:Nat) (hl:xs.length<=1048576) (hp:Bn pIn xs<=1048576) (hm:m<=1099000000000) :
 Ret Tryz.prog 94 [.own i xs.length,iv m] [(i,.nest (c:=true) 201 3 (xs.map inT))] n true (Is (iv (Hv m xs)) [(i,.nest (c:=true) 201 3 ((I1 m xs).map inT))] n):=by
 refine Ret.of_run (tt:=tt) Ad Tryz.func94 rfl Tryz.call94 [i] [.nest (c:=true) 201 3 (xs.map inT)] [.own 0 xs.length,iv m] true n _ rfl (Cj i) (by exact Nat.le_of_ble_eq_true rfl) rfl rfl ?_
 refine Goes ?_
 obtain ⟨R,hR⟩:∃ R:Nat->List (List AV),∀ k,R k=(mkP m xs k).map inT:=⟨_,fun _=>rfl⟩
 obtain ⟨cn,aM⟩:∃ cn:Nat->Nat,∀ k,cn k=Hv m (xs.take k):=⟨_,fun _=>rfl⟩
 have cc:∀ k,∀ c∈(R k).flatten,inB c=true:=fun k=>by rw [hR]; exact a3W _
 have dE:∀ k,k<=xs.length->(R k).length=xs.length:=fun k hk=>by rw [hR,List.length_map,b06 m xs k hk]
 have dF:∀ k (h:k < xs.length),(R k)[k]?=some (inT xs[k]):=fun k h=>by rw [hR,List.getElem?_map,b1O m xs k h]; rfl
 have a7:∀ k (h:k < xs.length),(R k).set k (inT ((cn k:Int),((cn k + 1:Nat):Int),marks (cn k + 2) xs[k].2.2.length))=R (k + 1):=fun k h=>by rw [hR,hR,aM,setM inT,b07 m xs k h]
 have au:∀ k,k<=xs.length->cn k<=m + 2 * xs.length + Bn pIn xs:=fun k hk=>by
  have h1:=Pq (xs.take k) m
  have h2:=H3 pIn xs k
  rw [List.length_take] at h1
  rw [aM]; omega
 have bK:∀ k (h:k < xs.length),cn (k + 1)=cn k + 2 + xs[k].2.2.length:=fun k h=>by rw [aM,aM,Bo xs k h,(Pp _ _ _).2]
 have up:∀ k (h:k < xs.length),Ac [0] ⟨[(0,.own 0 xs.length),(1,iv (cn k)),(5,iv k)],[(0,.nest (c:=true) 201 3 (R k))],1⟩ ⟨[(0,.own 0 xs.length),(1,iv (cn k)),(5,iv k)],[(0,.nest (c:=false) 201 3 ((R k).set k [iv xs[k].1,iv xs[k].2.1,.own 1 xs[k].2.2.length])),(1,.list 2 1 (ivs xs[k].2.2))],2⟩:=fun k h=>by
  refine (Ac.lift 0 _ 3 k 2 _ 1 (R k) (ivs xs[k].2.2) (inT xs[k]) rfl (dF k h) rfl (b1l _) rfl).trans ?_
  rw [List.length_map]
  exact Ac.of rfl rfl ⟨⟨rfl,rfl⟩,⟨rfl,rfl⟩,⟨rfl,rfl⟩,trivial⟩ ⟨⟨rfl,rfl,Wa (cc k) rfl⟩,⟨rfl,rfl,rfl⟩,trivial⟩
 have toT:∀ k,Ac [0] ⟨[(0,.own 0 xs.length),(1,iv (cn k)),(5,iv k)],[(0,.nest (c:=true) 201 3 (R k))],1⟩ (if h:k < xs.length then ⟨[(0,.own 0 xs.length),(1,iv (cn k)),(5,iv k)],[(0,.nest (c:=false) 201 3 ((R k).set k [iv xs[k].1,iv xs[k].2.1,.own 1 xs[k].2.2.length])),(1,.list 2 1 (ivs xs[k].2.2))],2⟩ else ⟨[(0,.own 0 xs.length),(1,iv (cn k)),(5,iv k)],[(0,.nest (c:=true) 201 3 (R k))],1⟩):=fun k=>by
  by_cases h:k < xs.length
  · rw [dif_pos h]; exact up k h
  · rw [dif_neg h]; exact fun E a w _ hR=>hR
 have h0:m=cn 0:=by rw [aM]; rfl
 have dG:xs.map inT=R 0:=by rw [hR,b0n]
 rw [dG]
 refine Ao.go (fun k:Nat=>k<=xs.length) (fun k=>if h:k < xs.length then ⟨[(0,.own 0 xs.length),(1,iv (cn k)),(5,iv k)],[(0,.nest (c:=false) 201 3 ((R k).set k [iv xs[k].1,iv xs[k].2.1,.own 1 xs[k].2.2.length])),(1,.list 2 1 (ivs xs[k].2.2))],2⟩ else ⟨[(0,.own 0 xs.length),(1,iv (cn k)),(5,iv k)],[(0,.nest (c:=true) 201 3 (R k))],1⟩) (fun k=>xs.length - k) 0 (Nat.zero_le _) (Ac.trans ?_ (toT 0)) ?_
 · exact Ac.of rfl rfl ⟨⟨rfl,rfl⟩,⟨Aw (by rw [h0]),rfl⟩,⟨rfl,rfl⟩,trivial⟩ ⟨⟨rfl,rfl,rfl⟩,trivial⟩
 intro k hk
 by_cases aa:k < xs.length
 · rw [dif_pos aa]
   have hb:=au k hk
   have bu:=au (k + 1) aa
   have ak:=bK k aa
   have cP:=dE k hk
   have co:=Ew pIn xs xs[k] (List.getElem_mem aa)
   have w1:IntKind.i64.wrap ((cn k:Int) + 1)=((cn k + 1:Nat):Int):=by rw [IntWalk.i64_in _ (by omega)]; omega
   have w2:IntKind.i64.wrap (((cn k + 1:Nat):Int) + 1)=((cn k + 2:Nat):Int):=by rw [IntWalk.i64_in _ (by omega)]; omega
   conv=>whnf
   repeat' first | ((first | refine Bt.dec (fun h=>?_) (fun h=>?_) | refine Bt.ndec (fun h=>?_) (fun h=>?_)) <;> first | (exfalso; first | omega | exact h (by assumption) | exact absurd h (by assumption)) | (conv=>whnf)) | (refine And.intro (by first | decide | omega) ?_; first | (refine Aq (fun K hK=>?_); conv=>whnf) | (conv=>whnf)) | fail
   refine ⟨by rw [List.length_set]; omega,?_⟩
   rw [Lp (by omega) (row':=[iv (cn k),iv xs[k].2.1,.own 1 xs[k].2.2.length]) rfl]
   try refine Aq (fun K hK=>?_)
   conv=>whnf
   repeat' first | (refine Kc.use (by assumption) ?_; conv=>whnf) | (refine And.intro (by first | decide | omega) ?_; first | (refine Aq (fun K hK=>?_); conv=>whnf) | (conv=>whnf)) | fail
   rw [w1]
   refine ⟨by rw [List.length_set]; omega,?_⟩
   rw [Lp (by omega) (row':=[iv (cn k),iv ((cn k + 1:Nat):Int),.own 1 xs[k].2.2.length]) rfl]
   try refine Aq (fun K hK=>?_)
   conv=>whnf
   repeat' first | (refine Kc.use (by assumption) ?_; conv=>whnf) | (refine And.intro (by first | decide | omega) ?_; first | (refine Aq (fun K hK=>?_); conv=>whnf) | (conv=>whnf)) | fail
   rw [w2,Ss (by omega)]
   refine ⟨⟨by rw [List.length_set]; omega,rfl⟩,?_⟩
   try refine Aq (fun K hK=>?_)
   conv=>whnf
   refine Aa.heapIs (Nx xs[k].2.2 1 (cn k + 2) 2 (by simp only [pIn] at co; omega) (by omega)) rfl ktA rfl ?_
   conv=>whnf
   repeat' first | (refine Kc.use (by assumption) ?_; conv=>whnf) | fail
   refine ⟨k + 1,by omega,by omega,Ac.trans ?_ (toT (k + 1))⟩
   refine Ac.plant 0 _ 3 k 2 1 _ 1 xs[k].2.2.length _ _ _ [iv (cn k),iv ((cn k + 1:Nat):Int),.own 1 xs[k].2.2.length] rfl rfl (by simp [Hq]) ?_ rfl ?_ (cc (k + 1)) (Mw _) rfl ⟨⟨rfl,rfl,rfl⟩,⟨Aw (by rw [ak]),rfl,rfl⟩,⟨Aw Cm,rfl,rfl⟩,trivial⟩ trivial
   · rw [List.getElem?_set_self (by omega)]
   · rw [List.set_set]
     exact (a7 k aa).symm
 · rw [dif_neg aa]
   obtain rfl:k=xs.length:=by omega
   refine Goes ?_;repeat' first|apply W2.m|refine W1.m fun h=>?_
   refine Ab.mk' [] rfl rfl rfl rfl rfl rfl rfl ⟨?_,?_,rfl⟩
   · rw [aM,List.take_length]; rfl
   · rw [hR,b05]; rfl
def F1 (m:Nat):List Cx->List Cx
 | []=>[]
 | x::r=>((m:Int),marks (m + 1) x.2.length)::F1 (m + 1 + x.2.length) r
def Hc (m:Nat):List Cx->Nat
 | []=>m
 | x::r=>Hc (m + 1 + x.2.length) r
theorem En:∀ (l:List Cx) (m:Nat),(F1 m l).length=l.length
 | [],m=>rfl
 | x::r,m=>by simp [F1,En r]
theorem M3:∀ (l:List Cx) (x:Cx) (m:Nat),F1 m (l++[x])=F1 m l++[((Hc m l:Int),marks (Hc m l + 1) x.2.length)]/\Hc m (l++[x])=Hc m l + 1 + x.2.length
 | [],x,m=>⟨rfl,rfl⟩
 | y::r,x,m=>by
   obtain ⟨h1,h2⟩:=M3 r x (m + 1 + y.2.length)
   exact ⟨by simp only [List.cons_append,F1,Hc,h1],by simp only [List.cons_append,Hc,h2]⟩
theorem S4:∀ (l:List Cx) (m:Nat),Hc m l=m + l.length + Bn Je l
 | [],m=>by simp [Hc,Bn]
 | x::r,m=>by
   rw [Hc,S4 r]
   simp only [Bn,List.map_cons,List.sum_cons,List.length_cons,Je]
   omega
def mkQ (m:Nat) (xs:List Cx) (k:Nat):List Cx:=F1 m (xs.take k)++xs.drop k
theorem b0o (m:Nat) (xs:List Cx):mkQ m xs 0=xs:=by simp [mkQ,F1]
theorem b08 (m:Nat) (xs:List Cx):mkQ m xs xs.length=F1 m xs:=by simp [mkQ]
theorem b09 (m:Nat) (xs:List Cx) (k:Nat) (h:k<=xs.length):(mkQ m xs k).length=xs.length:=by simp [mkQ,En]; omega
theorem b1P (m:Nat) (xs:List Cx) (k:Nat) (h:k < xs.length):(mkQ m xs k)[k]?=some xs[k]:=by
 rw [mkQ,List.getElem?_append_right (by rw [En,List.length_take]; omega),En,List.length_take,List.getElem?_drop,show k + (k - min k xs.length)=k by omega,List.getElem?_eq_getElem h]
theorem b1a (m:Nat) (xs:List Cx) (k:Nat) (h:k < xs.length):(mkQ m xs k).set k ((Hc m (xs.take k):Int),marks (Hc m (xs.take k) + 1) xs[k].2.length)=mkQ m xs (k + 1):=by
 unfold mkQ
 rw [Bo xs k h,(M3 _ _ _).1,List.set_append_right _ _ (by rw [En,List.length_take]; omega),En,List.length_take,show k - min k xs.length=0 by omega,List.drop_eq_getElem_cons h,List.set_cons_zero,List.append_assoc]
 rfl
theorem a2L (xs:List Cx) (i m n:Nat) (hl:xs.length<=1048576) (hp:Bn Je xs<=1048576) (hm:m<=1099000000000) :
 Ret Tryz.prog 95 [.own i xs.length,iv m] [(i,.nest (c:=true) 203 2 (xs.map outT))] n true (Is (iv (Hc m xs)) [(i,.nest (c:=true) 203 2 ((F1 m xs).map outT))] n):=by
 refine Ret.of_run (tt:=tt) Ad Tryz.func95 rfl Tryz.call95 [i] [.nest (c:=true) 203 2 (xs.map outT)] [.own 0 xs.length,iv m] true n _ rfl (Cj i) (by exact Nat.le_of_ble_eq_true rfl) rfl rfl ?_
 refine Goes ?_
 obtain ⟨R,hR⟩:∃ R:Nat->List (List AV),∀ k,R k=(mkQ m xs k).map outT:=⟨_,fun _=>rfl⟩
 obtain ⟨cn,aM⟩:∃ cn:Nat->Nat,∀ k,cn k=Hc m (xs.take k):=⟨_,fun _=>rfl⟩
 have cc:∀ k,∀ c∈(R k).flatten,inB c=true:=fun k=>by rw [hR]; exact Yx _
 have dE:∀ k,k<=xs.length->(R k).length=xs.length:=fun k hk=>by rw [hR,List.length_map,b09 m xs k hk]
 have dF:∀ k (h:k < xs.length),(R k)[k]?=some (outT xs[k]):=fun k h=>by rw [hR,List.getElem?_map,b1P m xs k h]; rfl
 have a7:∀ k (h:k < xs.length),(R k).set k (outT ((cn k:Int),marks (cn k + 1) xs[k].2.length))=R (k + 1):=fun k h=>by rw [hR,hR,aM,setM outT,b1a m xs k h]
 have au:∀ k,k<=xs.length->cn k<=m + xs.length + Bn Je xs:=fun k hk=>by
  have h1:=S4 (xs.take k) m
  have h2:=H3 Je xs k
  rw [List.length_take] at h1
  rw [aM]; omega
 have bK:∀ k (h:k < xs.length),cn (k + 1)=cn k + 1 + xs[k].2.length:=fun k h=>by rw [aM,aM,Bo xs k h,(M3 _ _ _).2]
 have up:∀ k (h:k < xs.length),Ac [0] ⟨[(0,.own 0 xs.length),(1,iv (cn k)),(5,iv k)],[(0,.nest (c:=true) 203 2 (R k))],1⟩ ⟨[(0,.own 0 xs.length),(1,iv (cn k)),(5,iv k)],[(0,.nest (c:=false) 203 2 ((R k).set k [iv xs[k].1,.own 1 xs[k].2.length])),(1,.list 2 1 (ivs xs[k].2))],2⟩:=fun k h=>by
  refine (Ac.lift 0 _ 2 k 1 _ 1 (R k) (ivs xs[k].2) (outT xs[k]) rfl (dF k h) rfl (b1l _) rfl).trans ?_
  rw [List.length_map]
  exact Ac.of rfl rfl ⟨⟨rfl,rfl⟩,⟨rfl,rfl⟩,⟨rfl,rfl⟩,trivial⟩ ⟨⟨rfl,rfl,Wa (cc k) rfl⟩,⟨rfl,rfl,rfl⟩,trivial⟩
 have toT:∀ k,Ac [0] ⟨[(0,.own 0 xs.length),(1,iv (cn k)),(5,iv k)],[(0,.nest (c:=true) 203 2 (R k))],1⟩ (if h:k < xs.length then ⟨[(0,.own 0 xs.length),(1,iv (cn k)),(5,iv k)],[(0,.nest (c:=false) 203 2 ((R k).set k [iv xs[k].1,.own 1 xs[k].2.length])),(1,.list 2 1 (ivs xs[k].2))],2⟩ else ⟨[(0,.own 0 xs.length),(1,iv (cn k)),(5,iv k)],[(0,.nest (c:=true) 203 2 (R k))],1⟩):=fun k=>by
  by_cases h:k < xs.length
  · rw [dif_pos h]; exact up k h
  · rw [dif_neg h]; exact fun E a w _ hR=>hR
 have h0:m=cn 0:=by rw [aM]; rfl
 have dG:xs.map outT=R 0:=by rw [hR,b0o]
 rw [dG]
 refine Ao.go (fun k:Nat=>k<=xs.length) (fun k=>if h:k < xs.length then ⟨[(0,.own 0 xs.length),(1,iv (cn k)),(5,iv k)],[(0,.nest (c:=false) 203 2 ((R k).set k [iv xs[k].1,.own 1 xs[k].2.length])),(1,.list 2 1 (ivs xs[k].2))],2⟩ else ⟨[(0,.own 0 xs.length),(1,iv (cn k)),(5,iv k)],[(0,.nest (c:=true) 203 2 (R k))],1⟩) (fun k=>xs.length - k) 0 (Nat.zero_le _) (Ac.trans ?_ (toT 0)) ?_
 · exact Ac.of rfl rfl ⟨⟨rfl,rfl⟩,⟨Aw (by rw [h0]),rfl⟩,⟨rfl,rfl⟩,trivial⟩ ⟨⟨rfl,rfl,rfl⟩,trivial⟩
 intro k hk
 by_cases aa:k < xs.length
 · rw [dif_pos aa]
   have hb:=au k hk
   have bu:=au (k + 1) aa
   have ak:=bK k aa
   have cP:=dE k hk
   have co:=Ew Je xs xs[k] (List.getElem_mem aa)
   have w1:IntKind.i64.wrap ((cn k:Int) + 1)=((cn k + 1:Nat):Int):=by rw [IntWalk.i64_in _ (by omega)]; omega
   conv=>whnf
   repeat' first | ((first | refine Bt.dec (fun h=>?_) (fun h=>?_) | refine Bt.ndec (fun h=>?_) (fun h=>?_)) <;> first | (exfalso; first | omega | exact h (by assumption) | exact absurd h (by assumption)) | (conv=>whnf)) | (refine And.intro (by first | decide | omega) ?_; first | (refine Aq (fun K hK=>?_); conv=>whnf) | (conv=>whnf)) | fail
   refine ⟨by rw [List.length_set]; omega,?_⟩
   rw [Lp (by omega) (row':=[iv (cn k),.own 1 xs[k].2.length]) rfl]
   try refine Aq (fun K hK=>?_)
   conv=>whnf
   repeat' first | (refine Kc.use (by assumption) ?_; conv=>whnf) | (refine And.intro (by first | decide | omega) ?_; first | (refine Aq (fun K hK=>?_); conv=>whnf) | (conv=>whnf)) | fail
   rw [w1,Ss (by omega)]
   refine ⟨⟨by rw [List.length_set]; omega,rfl⟩,?_⟩
   try refine Aq (fun K hK=>?_)
   conv=>whnf
   refine Aa.heapIs (Nx xs[k].2 1 (cn k + 1) 2 (by simp only [Je] at co; omega) (by omega)) rfl ktA rfl ?_
   conv=>whnf
   repeat' first | (refine Kc.use (by assumption) ?_; conv=>whnf) | fail
   refine ⟨k + 1,by omega,by omega,Ac.trans ?_ (toT (k + 1))⟩
   refine Ac.plant 0 _ 2 k 1 1 _ 1 xs[k].2.length _ _ _ [iv (cn k),.own 1 xs[k].2.length] rfl rfl (by simp [Hq]) ?_ rfl ?_ (cc (k + 1)) (Mw _) rfl ⟨⟨rfl,rfl,rfl⟩,⟨Aw (by rw [ak]),rfl,rfl⟩,⟨Aw Cm,rfl,rfl⟩,trivial⟩ trivial
   · rw [List.getElem?_set_self (by omega)]
   · rw [List.set_set]
     exact (a7 k aa).symm
 · rw [dif_neg aa]
   obtain rfl:k=xs.length:=by omega
   refine Goes ?_;repeat' first|apply W2.m|refine W1.m fun h=>?_
   refine Ab.mk' [] rfl rfl rfl rfl rfl rfl rfl ⟨?_,?_,rfl⟩
   · rw [aM,List.take_length]; rfl
   · rw [hR,b08]; rfl
end Go.Proofs.YtllhgcfacgiabaaGreat
