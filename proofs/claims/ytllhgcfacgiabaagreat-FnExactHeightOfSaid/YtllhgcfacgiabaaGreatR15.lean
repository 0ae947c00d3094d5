import Derived.Test.YtllhgcfacgiabaaGreatR7
import Derived.Test.YtllhgcfacgiabaaGreatP20
import Derived.Test.YtllhgcfacgiabaaGreatR10
namespace Go.Proofs.YtllhgcfacgiabaaGreat
open Go Go.Am Go.RowKit
set_option linter.unusedVariables false
set_option linter.unusedSimpArgs false
set_option maxHeartbeats 2000000 in
theorem addNode_ret (bits:Int) (xs:List PlaceD) (x:NodeD) (i j n:Nat) (hij:i≠j) (hne:xs≠[]) (hlen:xs.length≤8) (hf:FitsB x.blk) (hb:isI64 x.blk.bits) (hok:PlacesOk xs) :
 Ret Tryz.prog 110 [.pt i 0 0,.agg (nodeC x)] (treeO bits i j xs) n false (Is (iv (stepC bits xs x)) (treeO bits i j (stepX bits xs x)) n):=by
 have hpos:0 < xs.length:=List.length_pos_iff.2 hne
 refine Ret.of_run (tt:=tt) ttOk Tryz.func110 rfl Tryz.call110 [i,j] [.box [iv bits,.own 1 xs.length],.list 109 5 (xs.map placeRow)] [.pt 0 0 0,.agg (nodeC x)] false n _ rfl (nodup2 hij) (by exact Nat.le_of_ble_eq_true rfl) rfl rfl ?_
 by_cases h0:blkF x.blk≠0
 · have hC:stepC bits xs x=blkF x.blk:=if_pos h0
   have hX:stepX bits xs x=xs:=by unfold stepX; rw [hC,if_neg h0]
   rw [hC,hX]
   refine Goes ?_
   first | refine CallP.is (sealBlock_no x.blk _ hf hb h0) rfl ?_ | refine CallQ.is (sealBlock_no x.blk _ hf hb h0) rfl rfl ?_
   refine Goes ?_;repeat' first|apply W2.m|refine W1.m fun h=>?_
   refine FinOk.mk' [] rfl rfl rfl rfl rfl rfl rfl ⟨?_,?_,rfl⟩
   · rfl
   · rfl
 have hz:blkF x.blk=0:=Decidable.not_not.1 h0
 have hseal:=fun n=>sealBlock_ret x.blk n hf hb hz
 have hhas:=fun i j n hij=>hasN_ret bits x.up xs i j n hij (by omega)
 cases hu:upAt xs x with
 | none =>
   have hC:stepC bits xs x=4:=by unfold stepC; rw [if_neg h0,hu]
   have hX:stepX bits xs x=xs:=by unfold stepX; rw [hC,if_neg (by decide)]
   rw [hC,hX]
   by_cases hin:-1≤x.up∧x.up + 1 < xs.length
   · rw [decide_eq_true hin] at hhas
     obtain ⟨k,hk,hk2⟩:∃ k:Nat,k < xs.length∧x.up=(k:Int) + -1:=⟨(x.up + 1).toNat,by omega,by omega⟩
     have hat:=fun i j n hij=>at_ret bits xs k i j n hij hk (by omega)
     have hs:¬ xs[k].sum=x.blk.prev:=fun e=>by
      unfold upAt at hu
      rw [if_pos ⟨hin.1,hin.2,(by
       have:(x.up + 1).toNat=k:=by omega
       rw [this]; simp [List.getD_eq_getElem?_getD,hk,e])⟩] at hu
      cases hu
     rw [← hk2] at hat
     refine Goes ?_
     first | refine CallP.is (hseal _) rfl ?_ | refine CallQ.is (hseal _) rfl rfl ?_
     refine Goes ?_
     repeat' first
      | (refine CallP.heapIs (hhas 0 1 _ (by decide)) rfl ktA rfl ?_
         refine Goes ?_;repeat' first|apply W2.m|refine W1.m fun h=>?_)
      | (refine CallP.heapIs (hat 0 1 _ (by decide)) rfl ktA rfl ?_
         refine Goes ?_;repeat' first|apply W2.m|refine W1.m fun h=>?_)
     all_goals first
      | (exfalso; omega)
      | (refine FinOk.mk' [] rfl rfl rfl rfl rfl rfl rfl ⟨?_,?_,rfl⟩
         · rfl
         · rfl)
   · rw [decide_eq_false hin] at hhas
     refine Goes ?_
     first | refine CallP.is (hseal _) rfl ?_ | refine CallQ.is (hseal _) rfl rfl ?_
     refine Goes ?_
     refine CallP.heapIs (hhas 0 1 _ (by decide)) rfl ktA rfl ?_
     refine Goes ?_;repeat' first|apply W2.m|refine W1.m fun h=>?_
     all_goals
      refine FinOk.mk' [] rfl rfl rfl rfl rfl rfl rfl ⟨?_,?_,rfl⟩
      · rfl
      · rfl
 | some k =>
   obtain ⟨hk,hk2,hk3⟩:=upAt_some hu
   have hg:xs.getD k p0=xs[k]:=by simp [List.getD_eq_getElem?_getD,hk]
   rw [hg] at hk3
   have hC:stepC bits xs x=addP bits xs xs[k] x.blk:=by unfold stepC; rw [if_neg h0,hu]; dsimp only; rw [hg]
   have hX:stepX bits xs x=grownP bits xs k xs[k] x.blk:=by
    have:(x.up + 1).toNat=k:=by omega
    unfold stepX grownP; rw [hC,this,hg,hk2]
   rw [hC,hX]
   have hm:=List.getElem?_eq_getElem hk
   obtain ⟨c1,c2,c3⟩:=hok k _ hm
   rw [decide_eq_true (show -1≤x.up∧x.up + 1 < xs.length by omega)] at hhas
   have hat:=fun i j n hij=>at_ret bits xs k i j n hij hk (by omega)
   have hadd:=fun i j n hij=>add_ret bits xs k x.blk i j n hij hk (by omega) hf hz c1 ⟨c2,by omega⟩
   rw [← hk2] at hat hadd
   refine Goes ?_
   first | refine CallP.is (hseal _) rfl ?_ | refine CallQ.is (hseal _) rfl rfl ?_
   refine Goes ?_
   repeat' first
    | (refine CallP.heapIs (hhas 0 1 _ (by decide)) rfl ktA rfl ?_
       refine Goes ?_;repeat' first|apply W2.m|refine W1.m fun h=>?_)
    | (refine CallP.heapIs (hat 0 1 _ (by decide)) rfl ktA rfl ?_
       refine Goes ?_;repeat' first|apply W2.m|refine W1.m fun h=>?_)
   all_goals try (exfalso; omega)
   all_goals
    refine CallP.heapIs (hadd 0 1 _ (by decide)) rfl ktA rfl ?_
    refine Goes ?_
    refine FinOk.mk' [] rfl rfl rfl rfl rfl rfl rfl ⟨?_,?_,rfl⟩
    · rfl
    · rfl
end Go.Proofs.YtllhgcfacgiabaaGreat
namespace Go.Proofs.YtllhgcfacgiabaaGreat
open Go Go.Am Go.RowKit
set_option linter.unusedVariables false
set_option linter.unusedSimpArgs false
theorem all2_row {R:AV→AV→Prop} {rows rows':List (List AV)} (h:All2 (All2 R) rows rows') {s:Nat} (hr:∀ r∈rows,r.length=s):∀ r∈rows',r.length=s:=by
 intro r hr'
 obtain ⟨i,hi⟩:=List.mem_iff_getElem?.1 hr'
 have hlt:i < rows.length:=by rw [h.length]; exact (List.getElem?_eq_some_iff.1 hi).1
 have hr0:=List.getElem?_eq_getElem hlt
 rw [← (h.at hr0 hi).length]; exact hr _ (List.getElem_mem hlt)
theorem Weak.rows {fx:List Nat} {tm:List (Nat × AV)} {hp:Hp} {nx:Nat} (id e s:Nat) (rows rows':List (List AV)) (hl:Am.look hp id=some (.list e s rows)) (hw:All2 (All2 nilOr) rows rows') :
 Weak fx ⟨tm,hp,nx⟩ ⟨tm,(id,.list e s rows')::hp,nx⟩:=by
 rintro E a w _ ⟨hsz,hd,ι,S,hC,hTm⟩
 obtain ⟨hid0,huse0,hob⟩:=hC.obj id _ hl
 refine ⟨hsz,hd,ι,S,⟨hC.frame,hC.sub,hC.lt,hC.dis,hC.own,hC.inj,hC.new,?_,hC.stay,hC.fxs⟩,hTm⟩
 intro i o h
 by_cases hii:id=i
 · subst hii
   rw [look_cons_eq] at h
   simp only [Option.some.injEq] at h
   subst h
   refine ⟨hid0,trivial,?_⟩
   have hL:=hw.length
   cases hob with
   | nil _ _ h' h2 =>
     cases rows' with
     | nil=>exact .nil e s h' h2
     | cons=>simp at hL
   | list g cap _ _ _ vs h' hs hr hle hm hb hn hc =>
     exact .list g cap e s rows' vs h' hs (all2_row hw hr) (by omega) hm hb hn (fun j v av hv ha=>by
      have hf:=all2_flatten hw
      have hlt:j < rows.flatten.length:=by rw [hf.length]; exact (List.getElem?_eq_some_iff.1 ha).1
      have h8:=List.getElem?_eq_getElem hlt
      exact rd_nilOr (hc j v _ hv h8) (hf.at h8 ha))
 · rw [look_cons_ne _ _ hii] at h
   exact hC.obj i o h
end Go.Proofs.YtllhgcfacgiabaaGreat
namespace Go.Proofs.YtllhgcfacgiabaaGreat
open Go Go.Am Go.RowKit
set_option linter.unusedVariables false
set_option linter.unusedSimpArgs false
def goX (bits:Int):List PlaceD→List NodeD→List PlaceD
 | xs,[]=>xs
 | xs,x::r=>goX bits (stepX bits xs x) r
theorem goX_at (bits:Int) (xs:List PlaceD) (ns:List NodeD) (k:Nat) (h:k < ns.length):goX bits xs (ns.drop k)=goX bits (stepX bits xs ns[k]) (ns.drop (k + 1)):=by
 rw [List.drop_eq_getElem_cons h,goX]
structure At (t:TreeD) (k:Nat) (xs:List PlaceD):Prop where
 le:k≤t.nodes.length
 good:Good t.bits xs (t.nodes.take k)
 code:goC t.bits [p0] t.nodes=goC t.bits xs (t.nodes.drop k)
 places:goX t.bits [p0] t.nodes=goX t.bits xs (t.nodes.drop k)
theorem At.nil (t:TreeD):At t 0 [p0]:=⟨Nat.zero_le _,by rw [List.take_zero]; exact Good.nil _,rfl,rfl⟩
theorem At.len {t:TreeD} {k:Nat} {xs:List PlaceD} (h:At t k xs):xs.length=k + 1:=by
 have:=h.le
 rw [h.good.len,List.length_take]; omega
theorem At.step {t:TreeD} {k:Nat} {xs:List PlaceD} (h:At t k xs) (hlt:k < t.nodes.length) (hf:FitsB t.nodes[k].blk) (hs:stepC t.bits xs t.nodes[k]=0):At t (k + 1) (stepX t.bits xs t.nodes[k]):=by
 refine ⟨hlt,by rw [takeS _ _ hlt]; exact h.good.step hf hs,?_,?_⟩
 · rw [h.code,goC_at _ _ _ _ hlt,if_neg (fun e=>e hs)]
 · rw [h.places,goX_at _ _ _ _ hlt]
theorem At.bad {t:TreeD} {k:Nat} {xs:List PlaceD} (h:At t k xs) (hlt:k < t.nodes.length) (hs:stepC t.bits xs t.nodes[k]≠0):goC t.bits [p0] t.nodes=stepC t.bits xs t.nodes[k]:=by
 rw [h.code,goC_at _ _ _ _ hlt,if_pos hs]
theorem At.end {t:TreeD} {xs:List PlaceD} (h:At t t.nodes.length xs):goC t.bits [p0] t.nodes=0∧goX t.bits [p0] t.nodes=xs:=by
 refine ⟨?_,?_⟩
 · rw [h.code,List.drop_length,goC]
 · rw [h.places,List.drop_length,goX]
theorem nil_place:All2 (All2 nilOr) [[iv 0,iv 0,iv 0,iv 0,nl]] ([p0].map placeRow):=⟨⟨.inl rfl,.inl rfl,.inl rfl,.inl rfl,.inr ⟨rfl,rfl⟩,trivial⟩,trivial⟩
set_option maxHeartbeats 2000000 in
theorem checkTree_bad (t:TreeD) (n:Nat) (hf:∀ x∈t.nodes,FitsB x.blk∧isI64 x.blk.bits) (hb:isI64 t.bits) (hlen:t.nodes.length≤1048576) (h0:treeF t≠0):Ret Tryz.prog 58 [treeV t] [] n true (Is (.tup [.agg [iv 0,nl],iv (treeF t)]) [] n):=by
 have hL:(t.nodes.map nodeC).length=t.nodes.length:=by simp
 have hB:=fun n=>isBits_ret t.bits n hb
 unfold treeF at h0 ⊢
 cases hbb:bitsB t.bits with
 | false =>
   rw [hbb] at hB
   refine Ret.fn ttOk Tryz.func58 rfl Tryz.call58 rfl rfl ?_
   refine Goes ?_
   first | refine CallP.is (hB _) rfl ?_ | refine CallQ.is (hB _) rfl rfl ?_
   refine Goes ?_
   refine FinOk.mk' [] rfl rfl rfl rfl rfl rfl rfl ⟨?_,?_,rfl⟩
   · rfl
   · rfl
 | true =>
   rw [hbb] at hB h0
   rw [if_pos rfl] at h0 ⊢
   by_cases h8:8 < t.nodes.length
   · rw [if_pos h8]
     refine Ret.fn ttOk Tryz.func58 rfl Tryz.call58 rfl rfl ?_
     refine Goes ?_
     first | refine CallP.is (hB _) rfl ?_ | refine CallQ.is (hB _) rfl rfl ?_
     refine Goes ?_;repeat' first|apply W2.m|refine W1.m fun h=>?_
     all_goals first
      | (exfalso; omega)
      | (refine FinOk.mk' [] rfl rfl rfl rfl rfl rfl rfl ⟨?_,?_,rfl⟩
         · rfl
         · rfl)
   rw [if_neg h8] at h0 ⊢
   refine Ret.fn ttOk Tryz.func58 rfl Tryz.call58 rfl rfl ?_
   refine Goes ?_
   first | refine CallP.is (hB _) rfl ?_ | refine CallQ.is (hB _) rfl rfl ?_
   refine Goes ?_;repeat' first|apply W2.m|refine W1.m fun h=>?_
   all_goals try (exfalso; omega)
   all_goals rw [hL]
   all_goals refine LoopP.go (fun y:Nat × List PlaceD=>At t y.1 y.2) (fun y=>⟨[(2,.pt 0 0 0),(4,.pt 1 0 0),(23,nodesV t.nodes),(24,iv t.nodes.length),(25,iv y.1)],(0,.box [iv 0,nl])::treeO t.bits 1 2 y.2,3⟩) (fun y=>t.nodes.length - y.1) (0,[p0]) (At.nil t) ?_ ?_
   all_goals first
    | exact Weak.trans (Weak.rows 2 109 5 _ ([p0].map placeRow) rfl nil_place) (Weak.ren [1,3,2] rfl rfl ktA ktA)
    | exact Weak.trans (Weak.rows 3 109 5 _ ([p0].map placeRow) rfl nil_place) (Weak.ren [1,2,3] rfl rfl ktA ktA)
    | skip
   all_goals
    rintro ⟨k,xs⟩ hA
    dsimp only at hA ⊢
    have hxl:=hA.len
    by_cases hlt:k < t.nodes.length
    · obtain ⟨hfx,hbx⟩:=hf _ (List.getElem_mem hlt)
      have hadd:=fun i j n hij=>addNode_ret t.bits xs t.nodes[k] i j n hij (fun e=>by rw [e] at hxl; simp at hxl) (by omega) hfx hbx hA.good.ok
      by_cases hs:stepC t.bits xs t.nodes[k]=0
      · rw [hs] at hadd
        refine Goes ?_;repeat' first|apply W2.m|refine W1.m fun h=>?_
        rw [rowK nodeC t.nodes k hlt]
        refine ⟨⟨by omega,by omega,rfl⟩,?_⟩
        refine Goes ?_
        refine CallP.heapIs (hadd 1 2 _ (by decide)) rfl ktA rfl ?_
        refine Goes ?_
        exact ⟨(k + 1,stepX t.bits xs t.nodes[k]),hA.step hlt hfx hs,by show _ - (k + 1) < _; omega,(Weak.of rfl rfl ktA ktA)⟩
      · rw [hA.bad hlt hs]
        refine Goes ?_;repeat' first|apply W2.m|refine W1.m fun h=>?_
        rw [rowK nodeC t.nodes k hlt]
        refine ⟨⟨by omega,by omega,rfl⟩,?_⟩
        refine Goes ?_
        refine CallP.heapIs (hadd 1 2 _ (by decide)) rfl ktA rfl ?_
        refine Goes ?_;repeat' first|apply W2.m|refine W1.m fun h=>?_
        all_goals first
         | (exfalso; omega)
         | (refine FinOk.mk' [] rfl rfl rfl rfl rfl rfl rfl ⟨?_,?_,rfl⟩
            · rfl
            · rfl)
    · obtain rfl:k=t.nodes.length:=by have:=hA.le; omega
      exact absurd hA.end.1 h0
set_option maxHeartbeats 2000000 in
theorem checkTree_ok (t:TreeD) (n:Nat) (hf:∀ x∈t.nodes,FitsB x.blk∧isI64 x.blk.bits) (hb:isI64 t.bits) (hlen:t.nodes.length≤1048576) (h0:treeF t=0):Ret Tryz.prog 58 [treeV t] [] n true (Is (.tup [.agg [iv t.bits,.own n (goX t.bits [p0] t.nodes).length],iv 0]) [(n,.list 109 5 ((goX t.bits [p0] t.nodes).map placeRow))] (n + 1)):=by
 have hL:(t.nodes.map nodeC).length=t.nodes.length:=by simp
 have hB:=fun n=>isBits_ret t.bits n hb
 unfold treeF at h0
 cases hbb:bitsB t.bits with
 | false=>rw [hbb] at h0; cases h0
 | true =>
   rw [hbb] at hB h0
   rw [if_pos rfl] at h0
   by_cases h8:8 < t.nodes.length
   · rw [if_pos h8] at h0; cases h0
   rw [if_neg h8] at h0
   refine Ret.fn ttOk Tryz.func58 rfl Tryz.call58 rfl rfl ?_
   refine Goes ?_
   first | refine CallP.is (hB _) rfl ?_ | refine CallQ.is (hB _) rfl rfl ?_
   refine Goes ?_;repeat' first|apply W2.m|refine W1.m fun h=>?_
   all_goals try (exfalso; omega)
   all_goals rw [hL]
   all_goals refine LoopP.go (fun y:Nat × List PlaceD=>At t y.1 y.2) (fun y=>⟨[(2,.pt 0 0 0),(4,.pt 1 0 0),(23,nodesV t.nodes),(24,iv t.nodes.length),(25,iv y.1)],(0,.box [iv 0,nl])::treeO t.bits 1 2 y.2,3⟩) (fun y=>t.nodes.length - y.1) (0,[p0]) (At.nil t) ?_ ?_
   all_goals first
    | exact Weak.trans (Weak.rows 2 109 5 _ ([p0].map placeRow) rfl nil_place) (Weak.ren [1,3,2] rfl rfl ktA ktA)
    | exact Weak.trans (Weak.rows 3 109 5 _ ([p0].map placeRow) rfl nil_place) (Weak.ren [1,2,3] rfl rfl ktA ktA)
    | skip
   all_goals
    rintro ⟨k,xs⟩ hA
    dsimp only at hA ⊢
    have hxl:=hA.len
    by_cases hlt:k < t.nodes.length
    · obtain ⟨hfx,hbx⟩:=hf _ (List.getElem_mem hlt)
      have hadd:=fun i j n hij=>addNode_ret t.bits xs t.nodes[k] i j n hij (fun e=>by rw [e] at hxl; simp at hxl) (by omega) hfx hbx hA.good.ok
      have hs:stepC t.bits xs t.nodes[k]=0:=Decidable.not_not.1 fun e=>e (by rw [← hA.bad hlt e]; exact h0)
      · rw [hs] at hadd
        refine Goes ?_;repeat' first|apply W2.m|refine W1.m fun h=>?_
        rw [rowK nodeC t.nodes k hlt]
        refine ⟨⟨by omega,by omega,rfl⟩,?_⟩
        refine Goes ?_
        refine CallP.heapIs (hadd 1 2 _ (by decide)) rfl ktA rfl ?_
        refine Goes ?_
        exact ⟨(k + 1,stepX t.bits xs t.nodes[k]),hA.step hlt hfx hs,by show _ - (k + 1) < _; omega,(Weak.of rfl rfl ktA ktA)⟩
    · obtain rfl:k=t.nodes.length:=by have:=hA.le; omega
      rw [hA.end.2]
      refine Goes ?_;repeat' first|apply W2.m|refine W1.m fun h=>?_
      all_goals try (exfalso; omega)
      refine FinOk.mk' [2] rfl rfl rfl rfl rfl rfl rfl ⟨?_,?_,rfl⟩
      · rfl
      · rfl
end Go.Proofs.YtllhgcfacgiabaaGreat
namespace Go.Proofs.YtllhgcfacgiabaaGreat
open Go Go.Am Go.RowKit
set_option linter.unusedVariables false
set_option linter.unusedSimpArgs false
abbrev endX (t:TreeD):List PlaceD:=goX t.bits [p0] t.nodes
theorem goX_good (bits:Int):∀ (ns ns0:List NodeD) (xs:List PlaceD),(∀ x∈ns,FitsB x.blk)→Good bits xs ns0→goC bits xs ns=0→Good bits (goX bits xs ns) (ns0++ns)
 | [],ns0,xs,_,hg,_=>by rw [List.append_nil]; exact hg
 | x::r,ns0,xs,hf,hg,h=>by
   rw [goC] at h
   by_cases hs:stepC bits xs x≠0
   · rw [if_pos hs] at h; exact absurd h hs
   · rw [if_neg hs] at h
     rw [goX,show ns0++x::r=(ns0++[x])++r by simp]
     exact goX_good bits r _ _ (fun y hy=>hf y (List.mem_cons_of_mem _ hy)) (hg.step (hf x List.mem_cons_self) (Decidable.not_not.1 hs)) h
theorem treeF_ok {t:TreeD} (hf:∀ x∈t.nodes,FitsB x.blk) (h0:treeF t=0):bitsB t.bits=true∧Upto t (endX t) t.nodes.length:=by
 unfold treeF at h0
 cases hb:bitsB t.bits with
 | false=>rw [hb] at h0; cases h0
 | true =>
   rw [hb,if_pos rfl] at h0
   by_cases h8:8 < t.nodes.length
   · rw [if_pos h8] at h0; cases h0
   rw [if_neg h8] at h0
   exact ⟨rfl,⟨by rw [List.take_length]; exact goX_good t.bits t.nodes [] [p0] hf (Good.nil _) h0,Nat.le_refl _,by omega⟩⟩
def askF (t:TreeD) (z:Int):Int:=if treeF t≠0 then treeF t else if -1≤z∧z < t.nodes.length then 0 else 3
theorem askF_ok {t:TreeD} {z:Int} (hf:∀ x∈t.nodes,FitsB x.blk) (h:askF t z=0):treeF t=0∧∃ k:Nat,k < (endX t).length∧z=(k:Int) + -1:=by
 unfold askF at h
 by_cases h0:treeF t≠0
 · rw [if_pos h0] at h; exact absurd h h0
 rw [if_neg h0] at h
 have hz:=Decidable.not_not.1 h0
 by_cases h1:-1≤z∧z < t.nodes.length
 · have hl:=(treeF_ok hf hz).2.len
   exact ⟨hz,(z + 1).toNat,by omega,by omega⟩
 · rw [if_neg h1] at h; cases h
theorem l6Asked_rp (t:TreeD) (z:Int) (n:Nat) (hf:FitsT t):Ret Tryz.prog 70 [.rp (treeC t),iv z] [] n true (Is (iv (askF t z)) [] n):=by
 have hL:(t.nodes.map nodeC).length=t.nodes.length:=by simp
 have hlen:=hf.len
 have hT:=fun n=>l6Tree_rp t n hf.len hf.nodes
 have hI:=fun n=>l1In_ret z (-1) ((t.nodes.length:Int) - 1) n
 have hw:IntKind.i64.wrap ((t.nodes.length:Int) - 1)=(t.nodes.length:Int) - 1:=IntWalk.i64_in _ (by omega)
 unfold askF
 by_cases h0:treeF t≠0
 · rw [if_pos h0]
   refine Ret.fn ttOk Tryz.func70 rfl Tryz.call70 rfl rfl ?_
   refine Goes ?_;repeat' first|apply W2.m|refine W1.m fun h=>?_
   first | refine CallP.is (hT _) rfl ?_ | refine CallQ.is (hT _) rfl rfl ?_
   refine Goes ?_;repeat' first|apply W2.m|refine W1.m fun h=>?_
   refine FinOk.pure rfl rfl rfl ⟨?_,rfl,rfl⟩
   rfl
 rw [if_neg h0]
 rw [Decidable.not_not.1 h0] at hT
 by_cases h1:-1≤z∧z < t.nodes.length
 · rw [decide_eq_true (show inR (-1) ((t.nodes.length:Int) - 1) z from ⟨by omega,by omega⟩)] at hI
   rw [if_pos h1]
   refine Ret.fn ttOk Tryz.func70 rfl Tryz.call70 rfl rfl ?_
   refine Goes ?_;repeat' first|apply W2.m|refine W1.m fun h=>?_
   first | refine CallP.is (hT _) rfl ?_ | refine CallQ.is (hT _) rfl rfl ?_
   refine Goes ?_;repeat' first|apply W2.m|refine W1.m fun h=>?_
   rw [hL,hw]
   first | refine CallP.is (hI _) rfl ?_ | refine CallQ.is (hI _) rfl rfl ?_
   refine Goes ?_;repeat' first|apply W2.m|refine W1.m fun h=>?_
   refine FinOk.pure rfl rfl rfl ⟨?_,rfl,rfl⟩
   rfl
 · rw [decide_eq_false (show ¬ inR (-1) ((t.nodes.length:Int) - 1) z from fun ⟨a,b⟩=>h1 ⟨by omega,by omega⟩)] at hI
   rw [if_neg h1]
   refine Ret.fn ttOk Tryz.func70 rfl Tryz.call70 rfl rfl ?_
   refine Goes ?_;repeat' first|apply W2.m|refine W1.m fun h=>?_
   first | refine CallP.is (hT _) rfl ?_ | refine CallQ.is (hT _) rfl rfl ?_
   refine Goes ?_;repeat' first|apply W2.m|refine W1.m fun h=>?_
   rw [hL,hw]
   first | refine CallP.is (hI _) rfl ?_ | refine CallQ.is (hI _) rfl rfl ?_
   refine Goes ?_;repeat' first|apply W2.m|refine W1.m fun h=>?_
   refine FinOk.pure rfl rfl rfl ⟨?_,rfl,rfl⟩
   rfl
theorem checkNode_bad (t:TreeD) (z:Int) (n:Nat) (hf:∀ x∈t.nodes,FitsB x.blk∧isI64 x.blk.bits) (hb:isI64 t.bits) (hlen:t.nodes.length≤1048576) (h0:treeF t≠0):Ret Tryz.prog 72 [treeV t,iv z] [] n true (Is (.tup [.agg [iv 0,nl],iv (treeF t)]) [] n):=by
 refine Ret.fn ttOk Tryz.func72 rfl Tryz.call72 rfl rfl ?_
 refine Goes ?_;repeat' first|apply W2.m|refine W1.m fun h=>?_
 first | refine CallP.is (checkTree_bad t _ hf hb hlen h0) rfl ?_ | refine CallQ.is (checkTree_bad t _ hf hb hlen h0) rfl rfl ?_
 refine Goes ?_;repeat' first|apply W2.m|refine W1.m fun h=>?_
 all_goals first
  | (exfalso; omega)
  | (refine FinOk.mk' [] rfl rfl rfl rfl rfl rfl rfl ⟨?_,?_,rfl⟩
     · rfl
     · rfl)
theorem checkNode_ok (t:TreeD) (z:Int) (n:Nat) (hf:∀ x∈t.nodes,FitsB x.blk∧isI64 x.blk.bits) (hb:isI64 t.bits) (hlen:t.nodes.length≤1048576) (h0:treeF t=0):Ret Tryz.prog 72 [treeV t,iv z] [] n true (Is (.tup [.agg [iv t.bits,.own n (endX t).length],iv (askF t z)]) [(n,.list 109 5 ((endX t).map placeRow))] (n + 1)):=by
 have hu:=(treeF_ok (fun x hx=>(hf x hx).1) h0).2
 have hl:=hu.len
 have h8:=hu.cap
 have hh:=fun i j n hij=>hasN_ret t.bits z (endX t) i j n hij (by omega)
 have hA:askF t z=if -1≤z∧z < t.nodes.length then 0 else 3:=if_neg (fun e=>e h0)
 rw [hA]
 by_cases h1:-1≤z∧z < t.nodes.length
 · rw [if_pos h1]
   rw [decide_eq_true (show -1≤z∧z + 1 < ((endX t).length:Int) from ⟨by omega,by omega⟩)] at hh
   refine Ret.fn ttOk Tryz.func72 rfl Tryz.call72 rfl rfl ?_
   refine Goes ?_;repeat' first|apply W2.m|refine W1.m fun h=>?_
   first | refine CallP.is (checkTree_ok t _ hf hb hlen h0) rfl ?_ | refine CallQ.is (checkTree_ok t _ hf hb hlen h0) rfl rfl ?_
   refine Goes ?_;repeat' first|apply W2.m|refine W1.m fun h=>?_
   refine CallP.heapIs (hh 3 2 _ (by decide)) rfl ktA rfl ?_
   refine Goes ?_;repeat' first|apply W2.m|refine W1.m fun h=>?_
   refine FinOk.mk' [2] rfl rfl rfl rfl rfl rfl rfl ⟨?_,?_,rfl⟩
   · rfl
   · rfl
 · rw [if_neg h1]
   rw [decide_eq_false (show ¬ (-1≤z∧z + 1 < ((endX t).length:Int)) from fun ⟨a,b⟩=>h1 ⟨by omega,by omega⟩)] at hh
   refine Ret.fn ttOk Tryz.func72 rfl Tryz.call72 rfl rfl ?_
   refine Goes ?_;repeat' first|apply W2.m|refine W1.m fun h=>?_
   first | refine CallP.is (checkTree_ok t _ hf hb hlen h0) rfl ?_ | refine CallQ.is (checkTree_ok t _ hf hb hlen h0) rfl rfl ?_
   refine Goes ?_;repeat' first|apply W2.m|refine W1.m fun h=>?_
   refine CallP.heapIs (hh 3 2 _ (by decide)) rfl ktA rfl ?_
   refine Goes ?_;repeat' first|apply W2.m|refine W1.m fun h=>?_
   refine FinOk.mk' [2] rfl rfl rfl rfl rfl rfl rfl ⟨?_,?_,rfl⟩
   · rfl
   · rfl
def hgtF (t:TreeD) (z:Int):Int:=if askF t z=0 then ((endX t).getD (z + 1).toNat p0).h else 0
theorem specHeightOf_ret (t:TreeD) (z:Int) (n:Nat) (hf:FitsT t):Ret Tryz.prog 29 [treeV t,iv z] [] n true (Is (.agg [iv (askF t z),iv (hgtF t z)]) [] n):=by
 have hA:=fun n=>l6Asked_rp t z n hf
 unfold hgtF
 by_cases h0:askF t z=0
 · obtain ⟨hz,k,hk,hk2⟩:=askF_ok hf.nodes h0
   have hu:=(treeF_ok hf.nodes hz).2
   have hp:=List.getElem?_eq_getElem hk
   have hg:(endX t).getD (z + 1).toNat p0=(endX t)[k]:=by
    rw [show (z + 1).toNat=k by omega]; simp [List.getD_eq_getElem?_getD,hk]
   have hH:=fun n=>l6Height_rp t (endX t) t.nodes.length k n z (endX t)[k] hu hk2 hp
   rw [if_pos h0,hg,h0]
   rw [h0] at hA
   refine Ret.fn ttOk Tryz.func29 rfl Tryz.call29 rfl rfl ?_
   refine Goes ?_;repeat' first|apply W2.m|refine W1.m fun h=>?_
   refine CallP.convAIs (hA _) cvargsA rfl (by first | exact trivial | exact ⟨flat_ivs _,trivial⟩) ?_
   refine Goes ?_;repeat' first|apply W2.m|refine W1.m fun h=>?_
   refine CallP.convAIs (hH _) cvargsA rfl (by first | exact trivial | exact ⟨flat_ivs _,trivial⟩) ?_
   refine Goes ?_;repeat' first|apply W2.m|refine W1.m fun h=>?_
   refine FinOk.pure rfl rfl rfl ⟨?_,rfl,rfl⟩
   rfl
 · rw [if_neg h0]
   refine Ret.fn ttOk Tryz.func29 rfl Tryz.call29 rfl rfl ?_
   refine Goes ?_;repeat' first|apply W2.m|refine W1.m fun h=>?_
   refine CallP.convAIs (hA _) cvargsA rfl (by first | exact trivial | exact ⟨flat_ivs _,trivial⟩) ?_
   refine Goes ?_;repeat' first|apply W2.m|refine W1.m fun h=>?_
   all_goals first
    | (exfalso; omega)
    | (refine FinOk.pure rfl rfl rfl ⟨?_,rfl,rfl⟩
       rfl)
theorem implHeightOf_ret (t:TreeD) (z:Int) (n:Nat) (hf:∀ x∈t.nodes,FitsB x.blk∧isI64 x.blk.bits) (hb:isI64 t.bits) (hlen:t.nodes.length≤1048576):Ret Tryz.prog 30 [treeV t,iv z] [] n true (Is (.agg [iv (askF t z),iv (hgtF t z)]) [] n):=by
 have hf':=fun x hx=>(hf x hx).1
 by_cases hz:treeF t=0
 · have hc:=fun n=>checkNode_ok t z n hf hb hlen hz
   by_cases h0:askF t z=0
   · obtain ⟨_,k,hk,hk2⟩:=askF_ok hf' h0
     have hu:=(treeF_ok hf' hz).2
     have hg:(endX t).getD (z + 1).toNat p0=(endX t)[k]:=by
      rw [show (z + 1).toNat=k by omega]; simp [List.getD_eq_getElem?_getD,hk]
     have hl:=hu.len
     have h8:=hu.cap
     have hat:=fun i j n hij=>at_ret t.bits (endX t) k i j n hij hk (by omega)
     rw [← hk2] at hat
     unfold hgtF
     rw [if_pos h0,hg,h0]
     rw [h0] at hc
     refine Ret.fn ttOk Tryz.func30 rfl Tryz.call30 rfl rfl ?_
     refine Goes ?_;repeat' first|apply W2.m|refine W1.m fun h=>?_
     first | refine CallP.is (hc _) rfl ?_ | refine CallQ.is (hc _) rfl rfl ?_
     refine Goes ?_;repeat' first|apply W2.m|refine W1.m fun h=>?_
     refine CallP.heapIs (hat 3 2 _ (by decide)) rfl ktA rfl ?_
     refine Goes ?_;repeat' first|apply W2.m|refine W1.m fun h=>?_
     refine FinOk.mk' [] rfl rfl rfl rfl rfl rfl rfl ⟨?_,?_,rfl⟩
     · rfl
     · rfl
   · unfold hgtF
     rw [if_neg h0]
     refine Ret.fn ttOk Tryz.func30 rfl Tryz.call30 rfl rfl ?_
     refine Goes ?_;repeat' first|apply W2.m|refine W1.m fun h=>?_
     first | refine CallP.is (hc _) rfl ?_ | refine CallQ.is (hc _) rfl rfl ?_
     refine Goes ?_;repeat' first|apply W2.m|refine W1.m fun h=>?_
     all_goals first
      | (exfalso; omega)
      | (refine FinOk.mk' [] rfl rfl rfl rfl rfl rfl rfl ⟨?_,?_,rfl⟩
         · rfl
         · rfl)
 · have hA:askF t z=treeF t:=if_pos hz
   unfold hgtF
   rw [hA,if_neg hz]
   refine Ret.fn ttOk Tryz.func30 rfl Tryz.call30 rfl rfl ?_
   refine Goes ?_;repeat' first|apply W2.m|refine W1.m fun h=>?_
   first | refine CallP.is (checkNode_bad t z _ hf hb hlen hz) rfl ?_ | refine CallQ.is (checkNode_bad t z _ hf hb hlen hz) rfl rfl ?_
   refine Goes ?_;repeat' first|apply W2.m|refine W1.m fun h=>?_
   all_goals first
    | (exfalso; omega)
    | (refine FinOk.mk' [] rfl rfl rfl rfl rfl rfl rfl ⟨?_,?_,rfl⟩
       · rfl
       · rfl)
end Go.Proofs.YtllhgcfacgiabaaGreat
namespace Go.Proofs.YtllhgcfacgiabaaGreat
open Go Go.Am Go.RowKit
set_option linter.unusedVariables false
set_option linter.unusedSimpArgs false
theorem lawHeightOf (t:TreeD) (z:Int) (n:Nat) (hm:MemT t):Ret Tryz.prog 6 [treeV t,iv z] [] n true (fun r _ _=>r=bv true):=by
 refine Ret.fn ttOk Tryz.func6 rfl Tryz.call6 rfl rfl ?_
 refine Goes ?_;repeat' first|apply W2.m|refine W1.m fun h=>?_
 first | refine CallP.is (szTree_ret t 1048576 _ (by decide) (by decide) hm) rfl ?_ | refine CallQ.is (szTree_ret t 1048576 _ (by decide) (by decide) hm) rfl rfl ?_
 refine Goes ?_;repeat' first|apply W2.m|refine W1.m fun h=>?_
 · exact FinOk.pure rfl rfl rfl rfl
 have hf:FitsT t:=fitsT_of (by have:=(leftI_pos h).2; omega)
 first | refine CallP.is (toTree_fr t _ hf) rfl ?_ | refine CallQ.is (toTree_fr t _ hf) rfl rfl ?_
 refine Goes ?_;repeat' first|apply W2.m|refine W1.m fun h=>?_
 first | refine CallP.is (specHeightOf_ret t z _ hf) rfl ?_ | refine CallQ.is (specHeightOf_ret t z _ hf) rfl rfl ?_
 refine Goes ?_;repeat' first|apply W2.m|refine W1.m fun h=>?_
 first | refine CallP.is (toTree_fr t _ hf) rfl ?_ | refine CallQ.is (toTree_fr t _ hf) rfl rfl ?_
 refine Goes ?_;repeat' first|apply W2.m|refine W1.m fun h=>?_
 first | refine CallP.is (implHeightOf_ret t z _ (fun x hx=>⟨hf.nodes x hx,(hm.nodes x hx).bits⟩) hm.bits hf.len) rfl ?_ | refine CallQ.is (implHeightOf_ret t z _ (fun x hx=>⟨hf.nodes x hx,(hm.nodes x hx).bits⟩) hm.bits hf.len) rfl rfl ?_
 refine Goes ?_;repeat' first|apply W2.m|refine W1.m fun h=>?_
 first | refine CallP.is (eqIR_same _ ⟨_,_,rfl⟩ _) rfl ?_ | refine CallQ.is (eqIR_same _ ⟨_,_,rfl⟩ _) rfl rfl ?_
 refine Goes ?_;repeat' first|apply W2.m|refine W1.m fun h=>?_
 first | refine CallQ.is (toTree_fr t _ hf) rfl rfl ?_ | refine CallP.is (toTree_fr t _ hf) rfl ?_
 refine Goes ?_;repeat' first|apply W2.m|refine W1.m fun h=>?_
 first | refine CallP.is (eqTree_yes t _ hf) rfl ?_ | refine CallQ.is (eqTree_yes t _ hf) rfl rfl ?_
 refine Goes ?_;repeat' first|apply W2.m|refine W1.m fun h=>?_
 exact FinOk.pure rfl rfl rfl rfl
end Go.Proofs.YtllhgcfacgiabaaGreat
