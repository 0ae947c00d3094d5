import Derived.Test.YtllhgcfacgiabaaGreatP20
import Derived.Test.YtllhgcfacgiabaaGreatM1
namespace Go.Proofs.YtllhgcfacgiabaaGreat
open Go Go.Am Go.RowKit
set_option linter.unusedVariables false
set_option linter.unusedSimpArgs false
set_option maxHeartbeats 2000000 in
theorem l3Pack_bp (t:TxD) (n:Nat) (h:okT t):Ret Tryz.prog 170 [.rp (txC t),bv false] [] n true (Is (.own n (packT (bareT t)).length) [(n,.list 5 1 (uvs (packT (bareT t))))] (n + 1)):=by
 obtain ⟨t1,xs,ys⟩:=t
 obtain ⟨h1,h2,h3,h4,h5⟩:=h
 dsimp only at h1 h2 h3 h4 h5
 have hL1:(xs.map inRow).length=xs.length:=by simp
 have hL2:(ys.map outRow).length=ys.length:=by simp
 have hb1:=putN_len t1
 have hb2:=putN_len xs.length
 have hb3:=putN_len ys.length
 show Ret Tryz.prog 170 [.rp [iv t1,insV xs,outsV ys],bv false] [] n true (Is (.own n (packT (bareT (t1,xs,ys))).length) [(n,.list 5 1 (uvs (packT (bareT (t1,xs,ys)))))] (n + 1))
 refine Ret.fn ttOk Tryz.func170 rfl Tryz.call170 rfl rfl ?_
 refine Goes ?_
 first | refine CallQ.is (l3Put_ret t1 _ h1) rfl rfl ?_ | refine CallP.is (l3Put_ret t1 _ h1) rfl ?_
 refine Goes ?_
 rw [hL1]
 first | refine CallP.is (l3Put_ret xs.length _ ⟨by omega,by omega⟩) rfl ?_ | refine CallQ.is (l3Put_ret xs.length _ ⟨by omega,by omega⟩) rfl rfl ?_
 refine Goes ?_
 refine ⟨⟨?_,?_,?_,?_,?_⟩,?_⟩
 · exact lenA
 · exact lenA
 · exact lenA
 · exact lenA
 · intro r hr; first | (rw [takeU] at hr; exact row1 hr) | exact row1 hr | (have h0:=List.mem_of_mem_take hr; simp only [List.mem_singleton] at h0; subst h0; rfl)
 refine Goes ?_
 have hs0:(putN t1++putN xs.length).length≤6:=by simp only [List.length_append]; omega
 refine LoopP.go (fun k:Nat=>k≤xs.length) (fun k=>⟨[(0,.rp [iv t1,insV xs,outsV ys]),(1,bv false),(5,.own 0 (putN t1++putN xs.length++insN ((xs.take k).map bareI)).length),(6,iv k)],[(0,.list 5 1 (uvs (putN t1++putN xs.length++insN ((xs.take k).map bareI))))],1⟩) (fun k=>xs.length - k) 0 (Nat.zero_le _) ?_ ?_
 · have e0:putN t1++putN xs.length++insN ((xs.take 0).map bareI)=putN t1++putN xs.length:=by simp [insN]
   rw [e0]
   exact Weak.of rfl rfl ⟨⟨rfl,rfl⟩,⟨rfl,rfl⟩,⟨leafW (len1 _ _),rfl⟩,⟨rfl,rfl⟩,trivial⟩ ⟨⟨leafO (app1 _ _),rfl,rfl⟩,trivial⟩
 · intro k hk
   have hi:=insN_len (xs:=(xs.take k).map bareI) fun x hx=>by
    obtain ⟨x',hx',rfl⟩:=List.mem_map.1 hx
    exact okI_bare (h4 x' (List.mem_of_mem_take hx'))
   rw [List.length_map,List.length_take] at hi
   have hb:(putN t1++putN xs.length++insN ((xs.take k).map bareI)).length≤160:=by simp only [List.length_append] at *; omega
   refine Goes ?_;repeat' first|apply W2.m|refine W1.m fun h=>?_
   · have hlt:k < xs.length:=by omega
     have hx:=h4 _ (List.getElem_mem hlt)
     have htk:putN t1++putN xs.length++insN ((xs.take (k + 1)).map bareI)=putN t1++putN xs.length++insN ((xs.take k).map bareI)++packI (bareI xs[k]):=by rw [insN_bare hlt]; simp only [List.append_assoc]
     generalize hxy:xs[k]=x at *
     obtain ⟨x1,x2,x3⟩:=x
     have hx1:inR 0 2147483646 x1:=hx.1
     have hx2:inR 0 65535 x2:=by have:=hx.2.1; unfold inR at this ⊢; dsimp only at this; omega
     have hx3:smallL 12 x3:=⟨Nat.le_trans hx.2.2.1 (by decide),hx.2.2.2⟩
     have g1:=bigN_len x1
     have g2:=(putN_len x2).2
     have g3:=listN_len x3
     have g4:=hx3.1
     generalize putN t1++putN xs.length++insN ((xs.take k).map bareI)=s at *
     rw [rowK inRow xs k hlt,hxy]
     refine ⟨by rw [hL1]; exact ⟨by omega,by omega,rfl⟩,?_⟩
     refine Goes ?_
     rw [rowK inRow xs k hlt,hxy]
     refine ⟨by rw [hL1]; exact ⟨by omega,by omega,rfl⟩,?_⟩
     refine Goes ?_
     all_goals repeat' first
      | refine CallP.is (l3Big_ret x1 _ hx1) rfl ?_
        refine Goes ?_
      | refine CallP.is (l3Put_ret x2 _ hx2) rfl ?_
        refine Goes ?_
      | refine ⟨⟨?_,?_,?_,?_,?_⟩,?_⟩
        · exact lenA
        · exact lenA
        · exact lenA
        · exact lenA
        · intro r hr; first | (rw [takeU] at hr; exact row1 hr) | exact row1 hr | (have h0:=List.mem_of_mem_take hr; simp only [List.mem_singleton] at h0; subst h0; rfl)
        refine Goes ?_
     all_goals
      have htk2:putN t1++putN xs.length++insN ((xs.take (k + 1)).map bareI)=s++bigN x1++putN x2++[0]:=by rw [htk,packI_bare]; simp only [List.append_assoc]
      refine ⟨k + 1,by omega,by omega,Weak.of rfl rfl ⟨⟨rfl,rfl⟩,⟨rfl,rfl⟩,⟨leafW ?_,rfl⟩,⟨leafI numA,rfl⟩,trivial⟩ ⟨⟨leafO ?_,rfl,rfl⟩,trivial⟩⟩
      · rw [htk2]; exact len3 s (bigN x1) (putN x2) [0]
      · rw [htk2]; exact app3 s (bigN x1) (putN x2) [0]
   · obtain rfl:k=xs.length:=by omega
     rw [List.take_length] at hi hb ⊢
     rw [Nat.min_self] at hi
     rw [hL2]
     first | refine CallP.is (l3Put_ret ys.length _ ⟨by omega,by omega⟩) rfl ?_ | refine CallQ.is (l3Put_ret ys.length _ ⟨by omega,by omega⟩) rfl rfl ?_
     refine Goes ?_
     refine ⟨⟨?_,?_,?_,?_,?_⟩,?_⟩
     · exact lenA
     · exact lenA
     · exact lenA
     · exact lenA
     · intro r hr; first | (rw [takeU] at hr; exact row1 hr) | exact row1 hr | (have h0:=List.mem_of_mem_take hr; simp only [List.mem_singleton] at h0; subst h0; rfl)
     refine Goes ?_
     have hP:packT (bareT (t1,xs,ys))=putN t1++putN xs.length++insN (xs.map bareI)++putN ys.length++outsN ys:=by simp only [packT,bareT,List.length_map]
     rw [hP]
     clear hP
     have hb4:(putN t1++putN xs.length++insN (xs.map bareI)++putN ys.length).length≤170:=by simp only [List.length_append] at *; omega
     have HL:=len1 (putN t1++putN xs.length++insN (xs.map bareI)) (putN ys.length)
     have HO:=app1 (putN t1++putN xs.length++insN (xs.map bareI)) (putN ys.length)
     generalize putN t1++putN xs.length++insN (xs.map bareI)++putN ys.length=s0 at *
     refine LoopP.go (fun k:Nat=>k≤ys.length) (fun k=>⟨[(0,.rp [iv t1,insV xs,outsV ys]),(5,.own 0 (s0++outsN (ys.take k)).length),(7,iv k)],[(0,.list 5 1 (uvs (s0++outsN (ys.take k))))],1⟩) (fun k=>ys.length - k) 0 (Nat.zero_le _) ?_ ?_
     · have e0:s0++outsN (ys.take 0)=s0:=by simp [outsN]
       rw [e0]
       exact Weak.of rfl rfl ⟨⟨rfl,rfl⟩,⟨leafW (HL),rfl⟩,⟨rfl,rfl⟩,trivial⟩ ⟨⟨leafO (HO),rfl,rfl⟩,trivial⟩
     · clear hb1 hb2 hb3 hi hb h
       intro k hk
       have hi:=outsN_len (ys:=ys.take k) fun y hy=>h5 y (List.mem_of_mem_take hy)
       rw [List.length_take] at hi
       have hb:(s0++outsN (ys.take k)).length≤360:=by simp only [List.length_append]; omega
       refine Goes ?_;repeat' first|apply W2.m|refine W1.m fun h=>?_
       · have hlt:k < ys.length:=by omega
         have hy:=h5 _ (List.getElem_mem hlt)
         have htk:s0++outsN (ys.take (k + 1))=s0++outsN (ys.take k)++packO ys[k]:=by rw [outsN_take hlt]; simp only [List.append_assoc]
         generalize hxy:ys[k]=y at *
         obtain ⟨y1,y2⟩:=y
         have hy1:inR 0 2147483646 y1:=hy.1
         have hy2:smallL 12 y2:=hy.2
         have g1:=bigN_len y1
         have g3:=listN_len y2
         have g4:=hy2.1
         have htk2:s0++outsN (ys.take (k + 1))=s0++outsN (ys.take k)++bigN y1++listN y2:=by rw [htk]; simp only [packO,List.append_assoc]
         generalize s0++outsN (ys.take k)=s at *
         rw [rowK outRow ys k hlt,hxy]
         refine ⟨by rw [hL2]; exact ⟨by omega,by omega,rfl⟩,?_⟩
         refine Goes ?_
         rw [rowK outRow ys k hlt,hxy]
         refine ⟨by rw [hL2]; exact ⟨by omega,by omega,rfl⟩,?_⟩
         refine Goes ?_
         all_goals repeat' first
          | refine CallP.is (l3Big_ret y1 _ hy1) rfl ?_
            refine Goes ?_
          | refine CallP.is (l3List_ret y2 _ hy2) rfl ?_
            refine Goes ?_
          | refine ⟨⟨?_,?_,?_,?_,?_⟩,?_⟩
            · exact lenA
            · exact lenA
            · exact lenA
            · exact lenA
            · intro r hr; first | (rw [takeU] at hr; exact row1 hr) | exact row1 hr | (have h0:=List.mem_of_mem_take hr; simp only [List.mem_singleton] at h0; subst h0; rfl)
            refine Goes ?_
         all_goals
          refine ⟨k + 1,by omega,by omega,Weak.of rfl rfl ⟨⟨rfl,rfl⟩,⟨leafW ?_,rfl⟩,⟨leafI numA,rfl⟩,trivial⟩ ⟨⟨leafO ?_,rfl,rfl⟩,trivial⟩⟩
          · rw [htk2]; exact len2 _ _ _
          · rw [htk2]; exact app2 _ _ _
       · obtain rfl:k=ys.length:=by omega
         rw [List.take_length]
         refine FinOk.mk' [0] rfl rfl rfl rfl rfl rfl rfl ⟨?_,?_,rfl⟩
         · rfl
         · rfl
theorem l3Fault_rp (t:TxD) (n:Nat) (hl:t.2.1.length≤1048576) (hl2:t.2.2.length≤1048576):Ret Tryz.prog 113 [.rp (txC t)] [] n true (Is (iv (faultC t)) [] n):=by
 obtain ⟨t1,xs,ys⟩:=t
 dsimp only at hl hl2
 have hL:(xs.map inRow).length=xs.length:=by simp
 have hL2:(ys.map outRow).length=ys.length:=by simp
 show Ret Tryz.prog 113 [.rp [iv t1,insV xs,outsV ys]] [] n true (Is (iv (faultC (t1,xs,ys))) [] n)
 by_cases hv:inR 0 65535 t1
 case neg =>
  have hvr:=l1In_ret t1 0 65535
  rw [decide_eq_false hv] at hvr
  refine Ret.fn ttOk Tryz.func113 rfl Tryz.call113 rfl rfl ?_
  refine Goes ?_
  first | refine CallP.is (hvr _) rfl ?_ | refine CallQ.is (hvr _) rfl rfl ?_
  refine Goes ?_
  refine FinOk.pure rfl rfl rfl ⟨?_,rfl,rfl⟩
  unfold faultC; rw [if_pos hv]
 have hvr:=l1In_ret t1 0 65535
 rw [decide_eq_true hv] at hvr
 have g1:¬ ¬ inR 0 65535 t1:=fun h'=>h' hv
 refine Ret.fn ttOk Tryz.func113 rfl Tryz.call113 rfl rfl ?_
 refine Goes ?_
 first | refine CallP.is (hvr _) rfl ?_ | refine CallQ.is (hvr _) rfl rfl ?_
 refine Goes ?_;repeat' first|apply W2.m|refine W1.m fun h=>?_
 · refine FinOk.pure rfl rfl rfl ⟨?_,rfl,rfl⟩
   unfold faultC; rw [if_neg g1,if_pos (by dsimp only; omega)]
 · refine FinOk.pure rfl rfl rfl ⟨?_,rfl,rfl⟩
   unfold faultC; rw [if_neg g1,if_neg (by dsimp only; omega),if_pos (by dsimp only; omega)]
 · refine FinOk.pure rfl rfl rfl ⟨?_,rfl,rfl⟩
   unfold faultC; rw [if_neg g1,if_neg (by dsimp only; omega),if_neg (by dsimp only; omega),if_pos (by dsimp only; omega)]
 have g2:faultC (t1,xs,ys)=if insC [] xs≠0 then insC [] xs else outsC 0 ys:=by
  unfold faultC; rw [if_neg g1,if_neg (by dsimp only; omega),if_neg (by dsimp only; omega),if_neg (by dsimp only; omega)]
 have e0:insC [] xs=insC (xs.take 0) (xs.drop 0):=by simp
 refine LoopP.go (fun k:Nat=>k≤xs.length∧insC [] xs=insC (xs.take k) (xs.drop k)) (fun k=>⟨[(3,iv k),(0,.rp [iv t1,insV xs,outsV ys])],[],0⟩) (fun k=>xs.length - k) 0 ⟨Nat.zero_le _,e0⟩ (Weak.of rfl rfl ktA trivial) ?_
 intro k ⟨hk,hp⟩
 refine Goes ?_;repeat' first|apply W2.m|refine W1.m fun h=>?_
 · have hlt:k < xs.length:=by omega
   have hat:=insC_at xs k hlt
   first | refine CallP.is (l3In_ret xs k xs[k] _ hl hlt rfl) rfl ?_ | refine CallQ.is (l3In_ret xs k xs[k] _ hl hlt rfl) rfl rfl ?_
   refine Goes ?_;repeat' first|apply W2.m|refine W1.m fun h=>?_
   · have g3:inC (xs.take k) xs[k]≠0:=h
     rw [if_pos g3] at hat
     refine FinOk.pure rfl rfl rfl ⟨?_,rfl,rfl⟩
     rw [g2,hp,hat,if_pos g3]
   · have g3:¬ inC (xs.take k) xs[k]≠0:=h
     rw [if_neg g3] at hat
     exact ⟨k + 1,⟨by omega,by rw [hp,hat]⟩,by omega,(Weak.of rfl rfl ktA trivial)⟩
 · obtain rfl:k=xs.length:=by omega
   rw [insC_end] at hp
   rw [g2,hp,if_neg (by decide)]
   first | refine CallP.is (l3Outs_ret ys _ (by omega)) rfl ?_ | refine CallQ.is (l3Outs_ret ys _ (by omega)) rfl rfl ?_
   refine Goes ?_
   refine FinOk.pure rfl rfl rfl ⟨?_,rfl,rfl⟩
   rfl
theorem l3Sum_rp (t:TxD) (n:Nat) (h:faultC t=0):Ret Tryz.prog 135 [.rp (txC t)] [] n true (Is (iv (sumF (packT (bareT t)))) [] n):=by
 have hk:=fault_ok (fault_bare h)
 have hp:=fun n=>l3Pack_bp t n (fault_ok h)
 generalize txC t=cs at hp ⊢
 refine Ret.fn ttOk Tryz.func135 rfl Tryz.call135 rfl rfl ?_
 refine Goes ?_
 first | refine CallP.is (hp _) rfl ?_ | refine CallQ.is (hp _) rfl rfl ?_
 refine Goes ?_
 refine CallP.convAIs (l1Sum_ret (packT (bareT t)) _ (packT_u8 hk) (Nat.le_trans (packT_len hk) (by decide))) cvargsA rfl (by first | exact trivial | exact ⟨flat_ivs _,trivial⟩) ?_
 refine Goes ?_
 refine FinOk.pure rfl rfl rfl ⟨?_,rfl,rfl⟩
 rfl
end Go.Proofs.YtllhgcfacgiabaaGreat
namespace Go.Proofs.YtllhgcfacgiabaaGreat
open Go Go.Am Go.RowKit
set_option linter.unusedVariables false
set_option linter.unusedSimpArgs false
def joinF (a b:Int):Int:=sumI [a,b]
theorem joinF_bd (a b:Int):0≤joinF a b∧joinF a b≤2147483646:=sumI_bd _
abbrev isSumI (z:Int):Prop:=0≤z∧z≤2147483646
def parN (k n:Nat):Nat:=if k % 2=1 then k - 1 else if k + 1 < n then k + 1 else k
theorem parN_lt {k n:Nat} (h:k < n):parN k n < n:=by unfold parN; split <;> (try split) <;> omega
def mateI (l:List Int) (k:Nat):Int:=l.getD (parN k l.length) 0
def pairF (l:List Int) (i:Nat):Int:=joinF (l.getD (2 * i) 0) (mateI l (2 * i))
def abP (l:List Int) (i:Nat):List Int:=(List.range i).map (pairF l)
theorem abP_len (l:List Int) (i:Nat):(abP l i).length=i:=by simp [abP]
theorem abP_snoc (l:List Int) (i:Nat):abP l (i + 1)=abP l i++[pairF l i]:=by simp [abP,List.range_succ]
def aboveF (l:List Int):List Int:=abP l ((l.length + 1) / 2)
theorem aboveF_len (l:List Int):(aboveF l).length=(l.length + 1) / 2:=abP_len _ _
theorem abP_sum (l:List Int) (i:Nat):∀ z∈abP l i,isSumI z:=by
 intro z hz
 simp only [abP,List.mem_map] at hz
 obtain ⟨k,_,rfl⟩:=hz
 exact joinF_bd _ _
theorem aboveF_sum (l:List Int):∀ z∈aboveF l,isSumI z:=abP_sum _ _
def rowsW (l:List Int):List (List Int):=if h:l.length≤1 then [] else l::rowsW (aboveF l)
termination_by l.length
decreasing_by rw [aboveF_len]; omega
def topW (l:List Int):Int:=if h:l.length≤1 then l.getD 0 0 else topW (aboveF l)
termination_by l.length
decreasing_by rw [aboveF_len]; omega
theorem rowsW_end {l:List Int} (h:l.length≤1):rowsW l=[]:=by rw [rowsW,dif_pos h]
theorem rowsW_next {l:List Int} (h:¬ l.length≤1):rowsW l=l::rowsW (aboveF l):=by rw [rowsW,dif_neg h]
theorem topW_end {l:List Int} (h:l.length≤1):topW l=l.getD 0 0:=by rw [topW,dif_pos h]
theorem topW_next {l:List Int} (h:¬ l.length≤1):topW l=topW (aboveF l):=by rw [topW,dif_neg h]
def twinB (l:List Int):Bool:=(List.range (l.length / 2)).any fun i=>decide (l.getD (2 * i) 0=l.getD (2 * i + 1) 0)
def askC (l:List Int):Int:=if l.length < 1∨8 < l.length then 2 else if allB 0 2147483646 l then 0 else 3
theorem allB_iff (lo hi:Int) (l:List Int):allB lo hi l=true↔∀ z∈l,lo≤z∧z≤hi:=by simp [allB]
theorem askC_ok {l:List Int}:askC l=0↔1≤l.length∧l.length≤8∧∀ z∈l,isSumI z:=by
 unfold askC
 split
 · exact ⟨fun h=>by simp at h,fun h=>by omega⟩
 · split
   · rename_i h1 h2
     exact ⟨fun _=>⟨by omega,by omega,(allB_iff _ _ _).1 h2⟩,fun _=>rfl⟩
   · rename_i h1 h2
     exact ⟨fun h=>by simp at h,fun h=>absurd ((allB_iff _ _ _).2 h.2.2) h2⟩
structure RowOk (l:List Int):Prop where
 pos:1≤l.length
 le:l.length≤8
 sum:∀ z∈l,isSumI z
theorem RowOk.above {l:List Int} (h:RowOk l):RowOk (aboveF l):=⟨by rw [aboveF_len]; have:=h.pos; omega,by rw [aboveF_len]; have:=h.le; omega,aboveF_sum l⟩
theorem RowOk.at {l:List Int} (h:RowOk l) {k:Nat} (hk:k < l.length):isSumI (l.getD k 0):=by
 rw [List.getD_eq_getElem?_getD,List.getElem?_eq_getElem hk]
 exact h.sum _ (List.getElem_mem hk)
theorem topW_sum (l:List Int) (h:RowOk l):isSumI (topW l):=by
 by_cases hl:l.length≤1
 · rw [topW_end hl]; exact h.at h.pos
 · rw [topW_next hl]
   exact topW_sum (aboveF l) h.above
termination_by l.length
decreasing_by rw [aboveF_len]; omega
theorem rowsW_ok (l:List Int) (h:RowOk l):∀ r∈rowsW l,RowOk r:=by
 by_cases hl:l.length≤1
 · rw [rowsW_end hl]; intro r hr; cases hr
 · rw [rowsW_next hl]
   intro r hr
   rcases List.mem_cons.1 hr with rfl | hr
   · exact h
   · exact rowsW_ok (aboveF l) h.above r hr
termination_by l.length
decreasing_by rw [aboveF_len]; omega
theorem rowsW_len (l:List Int) (h:l.length≤8):(rowsW l).length≤3∧(l.length≤4→(rowsW l).length≤2)∧(l.length≤2→(rowsW l).length≤1):=by
 have step:∀ (l:List Int),¬ l.length≤1→(rowsW l).length=(rowsW (aboveF l)).length + 1:=fun l hl=>by rw [rowsW_next hl]; simp
 have z:∀ (l:List Int),l.length≤1→(rowsW l).length=0:=fun l hl=>by rw [rowsW_end hl]; rfl
 have two:∀ (l:List Int),l.length≤2→(rowsW l).length≤1:=by
  intro l hl
  by_cases h1:l.length≤1
  · rw [z l h1]; omega
  · rw [step l h1,z _ (by rw [aboveF_len]; omega)]
    omega
 have four:∀ (l:List Int),l.length≤4→(rowsW l).length≤2:=by
  intro l hl
  by_cases h1:l.length≤1
  · rw [z l h1]; omega
  · rw [step l h1]
    have:=two (aboveF l) (by rw [aboveF_len]; omega)
    omega
 refine ⟨?_,four l,two l⟩
 by_cases h1:l.length≤1
 · rw [z l h1]; omega
 · rw [step l h1]
   have:=four (aboveF l) (by rw [aboveF_len]; omega)
   omega
end Go.Proofs.YtllhgcfacgiabaaGreat
