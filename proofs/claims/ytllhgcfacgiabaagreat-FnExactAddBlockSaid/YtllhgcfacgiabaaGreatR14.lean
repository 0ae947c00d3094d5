import Derived.Test.YtllhgcfacgiabaaGreatR9
import Derived.Test.YtllhgcfacgiabaaGreatR12
import Derived.Test.YtllhgcfacgiabaaGreatM9
namespace Go.Proofs.YtllhgcfacgiabaaGreat
open Go Go.Am Go.RowKit
set_option linter.unusedVariables false
set_option linter.unusedSimpArgs false
theorem a4G {t:Br} {xs:List Ar} {i k:Nat} (hu:Ly t xs i) (s:Int) (hk:k < xs.length):D4 xs s=(k:Int) + -1↔xs[k].sum=s:=by
 constructor
 · intro h
   unfold D4 at h
   cases hn:C1 xs s with
   | none=>rw [hn] at h; dsimp only at h; omega
   | some j =>
     rw [hn] at h
     dsimp only at h
     obtain rfl:j=k:=by omega
     obtain ⟨p,hp,e,_⟩:=M2.1 hn
     rw [List.getElem?_eq_getElem hk] at hp
     cases hp
     exact e
 · intro h
   unfold D4
   rw [<- h,hu.good.nodeF_at (List.getElem?_eq_getElem hk)]
theorem Zj {xs:List Ar} {s:Int}:D4 xs s=-2↔C1 xs s=none:=by
 unfold D4
 cases C1 xs s with
 | none=>simp
 | some j=>simp; omega
set_option maxHeartbeats 2000000 in
theorem a8M (t:Br) (xs:List Ar) (i n:Nat) (hu:Ly t xs i) (aa:i < t.nodes.length) (hf:B4 t.nodes[i].blk):Ret Tryz.prog 107 [.rp (Hf t),iv i] [] n true (Is (iv (Dv t.bits xs t.nodes[i])) [] n):=by
 have hL:(t.nodes.map A4).length=t.nodes.length:=by simp
 have fj:=hu.len
 have h8:=hu.cap
 have hF:=fun n=>Q6 t.nodes[i].blk n hf
 have hI:=fun n=>Ck t.nodes[i].up (-1) ((i:Int) - 1) n
 have jY:IntKind.i64.wrap ((i:Int) - 1)=(i:Int) - 1:=IntWalk.i64_in _ (by omega)
 by_cases h0:Dn t.nodes[i].blk≠0
 · have hC:Dv t.bits xs t.nodes[i]=Dn t.nodes[i].blk:=if_pos h0
   rw [hC]
   refine Ret.fn Ad Tryz.func107 rfl Tryz.call107 rfl rfl ?_
   refine Goes ?_
   rw [A1 A4 t.nodes i aa]
   refine ⟨by rw [hL]; exact ⟨by omega,by omega,rfl⟩,?_⟩
   refine Goes ?_
   refine Aa.is (hF _) rfl ?_
   refine Goes ?_;repeat' first|apply W2.m|refine W1.m fun h=>?_
   refine Ab.pure rfl rfl rfl ⟨?_,rfl,rfl⟩
   rfl
 have hz:Dn t.nodes[i].blk=0:=Decidable.not_not.1 h0
 rw [hz] at hF
 have hP:=fun n=>Jm t xs t.nodes[i].blk.prev i n hu
 cases f5:a2K xs t.nodes[i] with
 | none =>
   have hC:Dv t.bits xs t.nodes[i]=4:=by unfold Dv; rw [if_neg h0,f5]
   rw [hC]
   by_cases ap:inR (-1) ((i:Int) - 1) t.nodes[i].up
   · rw [decide_eq_true ap] at hI
     have db:=ap
     unfold inR at db
     obtain ⟨k,hk,ck⟩:∃ k:Nat,k < xs.length/\t.nodes[i].up=(k:Int) + -1:=⟨(t.nodes[i].up + 1).toNat,by omega,by omega⟩
     have aj:¬ D4 xs t.nodes[i].blk.prev=t.nodes[i].up:=fun e=>by
      rw [ck] at e
      have hs:=(a4G hu _ hk).1 e
      unfold a2K at f5
      rw [if_pos ⟨db.1,by omega,(by
       have:(t.nodes[i].up + 1).toNat=k:=by omega
       rw [this]; simp [List.getD_eq_getElem?_getD,hk,hs])⟩] at f5
      cases f5
     refine Ret.fn Ad Tryz.func107 rfl Tryz.call107 rfl rfl ?_
     refine Goes ?_
     rw [A1 A4 t.nodes i aa]
     refine ⟨by rw [hL]; exact ⟨by omega,by omega,rfl⟩,?_⟩
     refine Goes ?_
     refine Aa.is (hF _) rfl ?_
     refine Goes ?_
     rw [jY]
     repeat' first
      | (refine B8.is (hI _) rfl rfl ?_
         refine Goes ?_)
      | (refine B8.is (hP _) rfl rfl ?_
         refine Goes ?_;repeat' first|apply W2.m|refine W1.m fun h=>?_)
     all_goals first
      | (exfalso; omega)
      | (refine Ab.pure rfl rfl rfl ⟨?_,rfl,rfl⟩
         rfl)
   · rw [decide_eq_false ap] at hI
     refine Ret.fn Ad Tryz.func107 rfl Tryz.call107 rfl rfl ?_
     refine Goes ?_
     rw [A1 A4 t.nodes i aa]
     refine ⟨by rw [hL]; exact ⟨by omega,by omega,rfl⟩,?_⟩
     refine Goes ?_
     refine Aa.is (hF _) rfl ?_
     refine Goes ?_
     rw [jY]
     repeat' first
      | (refine B8.is (hI _) rfl rfl ?_
         refine Goes ?_)
      | (first | refine B8.is (hP _) rfl rfl ?_ | refine Aa.is (hP _) rfl ?_
         refine Goes ?_)
     all_goals first
      | (exfalso; omega)
      | (refine Ab.pure rfl rfl rfl ⟨?_,rfl,rfl⟩
         rfl)
 | some k =>
   obtain ⟨hk,ck,gk⟩:=Po f5
   have hg:xs.getD k p0=xs[k]:=by simp [List.getD_eq_getElem?_getD,hk]
   rw [hg] at gk
   have hC:Dv t.bits xs t.nodes[i]=K3 t.bits xs xs[k] t.nodes[i].blk:=by unfold Dv; rw [if_neg h0,f5]; dsimp only; rw [hg]
   have nS:D4 xs t.nodes[i].blk.prev=t.nodes[i].up:=by rw [ck]; exact (a4G hu _ hk).2 gk
   have ap:inR (-1) ((i:Int) - 1) t.nodes[i].up:=by unfold inR; omega
   rw [decide_eq_true ap] at hI
   rw [nS] at hP
   have hB:=fun n=>Oi t xs i k n t.nodes[i].up xs[k] t.nodes[i].blk hu ck (List.getElem?_eq_getElem hk) hf hz
   obtain ⟨_,bW,dY,gz⟩:=Hb hz
   have hH:=fun n=>Iq t.nodes[i].blk n bW dY gz
   have hQ:=fun n=>Jm t xs (E9 t.nodes[i].blk) i n hu
   rw [hC]
   by_cases hc:E6 t.bits xs[k] t.nodes[i].blk≠0
   · have hA:K3 t.bits xs xs[k] t.nodes[i].blk=E6 t.bits xs[k] t.nodes[i].blk:=if_pos hc
     rw [hA]
     refine Ret.fn Ad Tryz.func107 rfl Tryz.call107 rfl rfl ?_
     refine Goes ?_
     rw [A1 A4 t.nodes i aa]
     refine ⟨by rw [hL]; exact ⟨by omega,by omega,rfl⟩,?_⟩
     refine Goes ?_
     refine Aa.is (hF _) rfl ?_
     refine Goes ?_
     rw [jY]
     repeat' first
      | (refine B8.is (hI _) rfl rfl ?_
         refine Goes ?_)
      | (refine B8.is (hP _) rfl rfl ?_
         refine Goes ?_;repeat' first|apply W2.m|refine W1.m fun h=>?_)
     refine Aa.is (hB _) rfl ?_
     refine Goes ?_;repeat' first|apply W2.m|refine W1.m fun h=>?_
     all_goals first
      | (exfalso; omega)
      | (refine Ab.pure rfl rfl rfl ⟨?_,rfl,rfl⟩
         rfl)
   · rw [Decidable.not_not.1 hc] at hB
     have hA:K3 t.bits xs xs[k] t.nodes[i].blk=if D4 xs (E9 t.nodes[i].blk)=-2 then 0 else 6:=by
      unfold K3
      rw [if_neg hc]
      cases hn:C1 xs (E9 t.nodes[i].blk) with
      | none=>rw [if_pos (Zj.2 hn)]; rfl
      | some j=>rw [if_neg (show ¬ D4 xs (E9 t.nodes[i].blk)=-2 from fun e=>by rw [Zj.1 e] at hn; cases hn)]; rfl
     rw [hA]
     refine Ret.fn Ad Tryz.func107 rfl Tryz.call107 rfl rfl ?_
     refine Goes ?_
     rw [A1 A4 t.nodes i aa]
     refine ⟨by rw [hL]; exact ⟨by omega,by omega,rfl⟩,?_⟩
     refine Goes ?_
     refine Aa.is (hF _) rfl ?_
     refine Goes ?_
     rw [jY]
     repeat' first
      | (refine B8.is (hI _) rfl rfl ?_
         refine Goes ?_)
      | (refine B8.is (hP _) rfl rfl ?_
         refine Goes ?_;repeat' first|apply W2.m|refine W1.m fun h=>?_)
     refine Aa.is (hB _) rfl ?_
     refine Goes ?_
     refine Aa.is (hH _) rfl ?_
     refine Goes ?_
     refine Aa.is (hQ _) rfl ?_
     refine Goes ?_;repeat' first|apply W2.m|refine W1.m fun h=>?_
     all_goals first
      | (exfalso; omega)
      | (rw [if_pos (show D4 xs (E9 t.nodes[i].blk)=-2 by omega)]
         refine Ab.pure rfl rfl rfl ⟨?_,rfl,rfl⟩
         rfl)
      | (rw [if_neg (show ¬ D4 xs (E9 t.nodes[i].blk)=-2 by omega)]
         refine Ab.pure rfl rfl rfl ⟨?_,rfl,rfl⟩
         rfl)
theorem Ly.nil {t:Br} (h:t.nodes.length<=8):Ly t [p0] 0:=⟨by rw [List.take_zero]; exact Good.nil _,Nat.zero_le _,h⟩
theorem Ly.step {t:Br} {xs:List Ar} {i:Nat} (hu:Ly t xs i) (aa:i < t.nodes.length) (hf:B4 t.nodes[i].blk) (hs:Dv t.bits xs t.nodes[i]=0):Ly t (F7 t.bits xs t.nodes[i]) (i + 1) :=
 ⟨by rw [Bo _ _ aa]; exact hu.good.step hf hs,aa,hu.cap⟩
theorem a1B (t:Br) (n:Nat) (ae:t.nodes.length<=1048576) (hf:∀ x∈t.nodes,B4 x.blk):Ret Tryz.prog 56 [.rp (Hf t)] [] n true (Is (iv (Gt t)) [] n):=by
 have hL:(t.nodes.map A4).length=t.nodes.length:=by simp
 have hb:=fun n=>Yo t.bits n
 unfold Gt
 cases bO:E4 t.bits with
 | false =>
   rw [bO] at hb
   refine Ret.fn Ad Tryz.func56 rfl Tryz.call56 rfl rfl ?_
   refine Goes ?_
   refine Aa.is (hb _) rfl ?_
   refine Goes ?_
   refine Ab.pure rfl rfl rfl ⟨?_,rfl,rfl⟩
   rfl
 | true =>
   rw [bO] at hb
   rw [if_pos rfl]
   by_cases h8:8 < t.nodes.length
   · rw [if_pos h8]
     refine Ret.fn Ad Tryz.func56 rfl Tryz.call56 rfl rfl ?_
     refine Goes ?_
     refine Aa.is (hb _) rfl ?_
     refine Goes ?_;repeat' first|apply W2.m|refine W1.m fun h=>?_
     all_goals first
      | (exfalso; omega)
      | (refine Ab.pure rfl rfl rfl ⟨?_,rfl,rfl⟩
         rfl)
   rw [if_neg h8]
   refine Ret.fn Ad Tryz.func56 rfl Tryz.call56 rfl rfl ?_
   refine Goes ?_
   refine Aa.is (hb _) rfl ?_
   refine Goes ?_;repeat' first|apply W2.m|refine W1.m fun h=>?_
   all_goals try (exfalso; omega)
   refine Ao.go (fun y:Nat × List Ar=>y.1<=t.nodes.length/\Ly t y.2 y.1/\goC t.bits [p0] t.nodes=goC t.bits y.2 (t.nodes.drop y.1)) (fun y=>⟨[(0,.rp (Hf t)),(3,iv y.1)],[],0⟩) (fun y=>t.nodes.length - y.1) (0,[p0]) ⟨Nat.zero_le _,Ly.nil (by omega),rfl⟩ (Ac.of rfl rfl ktA trivial) ?_
   rintro ⟨k,xs⟩ ⟨g1,g2,g3⟩
   dsimp only at g1 g2 g3 ⊢
   by_cases aa:k < t.nodes.length
   · have ai:=a59 t.bits xs t.nodes k aa
     rw [<- g3] at ai
     have dq:=hf _ (List.getElem_mem aa)
     have hN:=fun n=>a8M t xs k n g2 aa dq
     by_cases hs:Dv t.bits xs t.nodes[k]≠0
     · rw [if_pos hs] at ai
       rw [ai]
       refine Goes ?_;repeat' first|apply W2.m|refine W1.m fun h=>?_
       all_goals try (exfalso; omega)
       refine Aa.is (hN _) rfl ?_
       refine Goes ?_;repeat' first|apply W2.m|refine W1.m fun h=>?_
       all_goals first
        | (exfalso; omega)
        | (refine Ab.pure rfl rfl rfl ⟨?_,rfl,rfl⟩
           rfl)
     · rw [if_neg hs] at ai
       have eA:=Decidable.not_not.1 hs
       rw [eA] at hN
       refine Goes ?_;repeat' first|apply W2.m|refine W1.m fun h=>?_
       all_goals try (exfalso; omega)
       refine Aa.is (hN _) rfl ?_
       refine Goes ?_
       all_goals try (exfalso; omega)
       exact ⟨(k + 1,F7 t.bits xs t.nodes[k]),⟨by show k + 1<=_; omega,g2.step aa dq eA,ai⟩,by show _ - (k + 1) < _; omega,(Ac.of rfl rfl ktA trivial)⟩
   · obtain rfl:k=t.nodes.length:=by omega
     rw [List.drop_length,goC] at g3
     rw [g3]
     refine Goes ?_;repeat' first|apply W2.m|refine W1.m fun h=>?_
     all_goals try (exfalso; omega)
     refine Ab.pure rfl rfl rfl ⟨?_,rfl,rfl⟩
     rfl
end Go.Proofs.YtllhgcfacgiabaaGreat
namespace Go.Proofs.YtllhgcfacgiabaaGreat
open Go Go.Am Go.RowKit
set_option linter.unusedVariables false
set_option linter.unusedSimpArgs false
set_option maxHeartbeats 2000000 in
theorem Vv (bits:Int) (xs:List Ar) (x:Bh) (i j n:Nat) (ah:i≠j) (aj:xs≠[]) (ae:xs.length<=8) (hf:B4 x.blk) (hb:Du x.blk.bits) (aZ:Og xs) :
 Ret Tryz.prog 110 [.pt i 0 0,.agg (A4 x)] (Ks bits i j xs) n false (Is (iv (Dv bits xs x)) (Ks bits i j (F7 bits xs x)) n):=by
 have aE:0 < xs.length:=List.length_pos_iff.2 aj
 refine Ret.of_run (tt:=tt) Ad Tryz.func110 rfl Tryz.call110 [i,j] [.box [iv bits,.own 1 xs.length],.list 109 5 (xs.map Bd)] [.pt 0 0 0,.agg (A4 x)] false n _ rfl (Bc ah) (by exact Nat.le_of_ble_eq_true rfl) rfl rfl ?_
 by_cases h0:Dn x.blk≠0
 · have hC:Dv bits xs x=Dn x.blk:=if_pos h0
   have hX:F7 bits xs x=xs:=by unfold F7; rw [hC,if_neg h0]
   rw [hC,hX]
   refine Goes ?_
   refine Aa.is (S3 x.blk _ hf hb h0) rfl ?_
   refine Goes ?_;repeat' first|apply W2.m|refine W1.m fun h=>?_
   refine Ab.mk' [] rfl rfl rfl rfl rfl rfl rfl ⟨?_,?_,rfl⟩
   · rfl
   · rfl
 have hz:Dn x.blk=0:=Decidable.not_not.1 h0
 have cI:=fun n=>Qe x.blk n hf hb hz
 have eu:=fun i j n ah=>b0l bits x.up xs i j n ah (by omega)
 cases hu:a2K xs x with
 | none =>
   have hC:Dv bits xs x=4:=by unfold Dv; rw [if_neg h0,hu]
   have hX:F7 bits xs x=xs:=by unfold F7; rw [hC,if_neg (by decide)]
   rw [hC,hX]
   by_cases ap:-1<=x.up/\x.up + 1 < xs.length
   · rw [decide_eq_true ap] at eu
     obtain ⟨k,hk,ck⟩:∃ k:Nat,k < xs.length/\x.up=(k:Int) + -1:=⟨(x.up + 1).toNat,by omega,by omega⟩
     have ai:=fun i j n ah=>a57 bits xs k i j n ah hk (by omega)
     have hs:¬ xs[k].sum=x.blk.prev:=fun e=>by
      unfold a2K at hu
      rw [if_pos ⟨ap.1,ap.2,(by
       have:(x.up + 1).toNat=k:=by omega
       rw [this]; simp [List.getD_eq_getElem?_getD,hk,e])⟩] at hu
      cases hu
     rw [<- ck] at ai
     refine Goes ?_
     refine Aa.is (cI _) rfl ?_
     refine Goes ?_
     repeat' first
      | (refine Aa.heapIs (eu 0 1 _ (by decide)) rfl ktA rfl ?_
         refine Goes ?_;repeat' first|apply W2.m|refine W1.m fun h=>?_)
      | (refine Aa.heapIs (ai 0 1 _ (by decide)) rfl ktA rfl ?_
         refine Goes ?_;repeat' first|apply W2.m|refine W1.m fun h=>?_)
     all_goals first
      | (exfalso; omega)
      | (refine Ab.mk' [] rfl rfl rfl rfl rfl rfl rfl ⟨?_,?_,rfl⟩
         · rfl
         · rfl)
   · rw [decide_eq_false ap] at eu
     refine Goes ?_
     refine Aa.is (cI _) rfl ?_
     refine Goes ?_
     refine Aa.heapIs (eu 0 1 _ (by decide)) rfl ktA rfl ?_
     refine Goes ?_;repeat' first|apply W2.m|refine W1.m fun h=>?_
     all_goals
      refine Ab.mk' [] rfl rfl rfl rfl rfl rfl rfl ⟨?_,?_,rfl⟩
      · rfl
      · rfl
 | some k =>
   obtain ⟨hk,ck,gk⟩:=Po hu
   have hg:xs.getD k p0=xs[k]:=by simp [List.getD_eq_getElem?_getD,hk]
   rw [hg] at gk
   have hC:Dv bits xs x=K3 bits xs xs[k] x.blk:=by unfold Dv; rw [if_neg h0,hu]; dsimp only; rw [hg]
   have hX:F7 bits xs x=K4 bits xs k xs[k] x.blk:=by
    have:(x.up + 1).toNat=k:=by omega
    unfold F7 K4; rw [hC,this,hg,ck]
   rw [hC,hX]
   have hm:=List.getElem?_eq_getElem hk
   obtain ⟨c1,c2,c3⟩:=aZ k _ hm
   rw [decide_eq_true (show -1<=x.up/\x.up + 1 < xs.length by omega)] at eu
   have ai:=fun i j n ah=>a57 bits xs k i j n ah hk (by omega)
   have bj:=fun i j n ah=>a61 bits xs k x.blk i j n ah hk (by omega) hf hz c1 ⟨c2,by omega⟩
   rw [<- ck] at ai bj
   refine Goes ?_
   refine Aa.is (cI _) rfl ?_
   refine Goes ?_
   repeat' first
    | (refine Aa.heapIs (eu 0 1 _ (by decide)) rfl ktA rfl ?_
       refine Goes ?_;repeat' first|apply W2.m|refine W1.m fun h=>?_)
    | (refine Aa.heapIs (ai 0 1 _ (by decide)) rfl ktA rfl ?_
       refine Goes ?_;repeat' first|apply W2.m|refine W1.m fun h=>?_)
   all_goals try (exfalso; omega)
   all_goals
    refine Aa.heapIs (bj 0 1 _ (by decide)) rfl ktA rfl ?_
    refine Goes ?_
    refine Ab.mk' [] rfl rfl rfl rfl rfl rfl rfl ⟨?_,?_,rfl⟩
    · rfl
    · rfl
end Go.Proofs.YtllhgcfacgiabaaGreat
namespace Go.Proofs.YtllhgcfacgiabaaGreat
open Go Go.Am Go.RowKit
set_option linter.unusedVariables false
set_option linter.unusedSimpArgs false
theorem b0v {R:AV->AV->Prop} {rows rows':List (List AV)} (h:Al (Al R) rows rows') {s:Nat} (hr:∀ r∈rows,r.length=s):∀ r∈rows',r.length=s:=by
 intro r aD
 obtain ⟨i,hi⟩:=List.mem_iff_getElem?.1 aD
 have aa:i < rows.length:=by rw [h.length]; exact (List.getElem?_eq_some_iff.1 hi).1
 have d3:=List.getElem?_eq_getElem aa
 rw [<- (h.at d3 hi).length]; exact hr _ (List.getElem_mem aa)
theorem Ac.rows {fx:List Nat} {tm:List (Nat × AV)} {hp:Hp} {nx:Nat} (id e s:Nat) (rows rows':List (List AV)) (hl:Am.look hp id=some (.list e s rows)) (hw:Al (Al a06) rows rows') :
 Ac fx ⟨tm,hp,nx⟩ ⟨tm,(id,.list e s rows')::hp,nx⟩:=by
 rintro E a w _ ⟨ao,hd,ι,S,hC,ab⟩
 obtain ⟨e7,e8,an⟩:=hC.obj id _ hl
 refine ⟨ao,hd,ι,S,⟨hC.frame,hC.sub,hC.lt,hC.dis,hC.own,hC.inj,hC.new,?_,hC.stay,hC.fxs⟩,ab⟩
 intro i o h
 by_cases e9:id=i
 · subst e9
   rw [Ae] at h
   simp only [Option.some.injEq] at h
   subst h
   refine ⟨e7,trivial,?_⟩
   have hL:=hw.length
   cases an with
   | nil _ _ h' h2 =>
     cases rows' with
     | nil=>exact .nil e s h' h2
     | cons=>simp at hL
   | list g cap _ _ _ vs h' hs hr ax hm hb hn hc =>
     exact .list g cap e s rows' vs h' hs (b0v hw hr) (by omega) hm hb hn (fun j v av hv ha=>by
      have hf:=Mt hw
      have aa:j < rows.flatten.length:=by rw [hf.length]; exact (List.getElem?_eq_some_iff.1 ha).1
      have h8:=List.getElem?_eq_getElem aa
      exact a3F (hc j v _ hv h8) (hf.at h8 ha))
 · rw [An _ _ e9] at h
   exact hC.obj i o h
def goX (bits:Int):List Ar->List Bh->List Ar
 | xs,[]=>xs
 | xs,x::r=>goX bits (F7 bits xs x) r
theorem b1R (bits:Int) (xs:List Ar) (ns:List Bh) (k:Nat) (h:k < ns.length):goX bits xs (ns.drop k)=goX bits (F7 bits xs ns[k]) (ns.drop (k + 1)):=by
 rw [List.drop_eq_getElem_cons h,goX]
structure At (t:Br) (k:Nat) (xs:List Ar):Prop where
 le:k<=t.nodes.length
 good:Good t.bits xs (t.nodes.take k)
 code:goC t.bits [p0] t.nodes=goC t.bits xs (t.nodes.drop k)
 places:goX t.bits [p0] t.nodes=goX t.bits xs (t.nodes.drop k)
theorem At.nil (t:Br):At t 0 [p0]:=⟨Nat.zero_le _,by rw [List.take_zero]; exact Good.nil _,rfl,rfl⟩
theorem At.len {t:Br} {k:Nat} {xs:List Ar} (h:At t k xs):xs.length=k + 1:=by
 have:=h.le
 rw [h.good.len,List.length_take]; omega
theorem At.step {t:Br} {k:Nat} {xs:List Ar} (h:At t k xs) (aa:k < t.nodes.length) (hf:B4 t.nodes[k].blk) (hs:Dv t.bits xs t.nodes[k]=0):At t (k + 1) (F7 t.bits xs t.nodes[k]):=by
 refine ⟨aa,by rw [Bo _ _ aa]; exact h.good.step hf hs,?_,?_⟩
 · rw [h.code,a59 _ _ _ _ aa,if_neg (fun e=>e hs)]
 · rw [h.places,b1R _ _ _ _ aa]
theorem At.bad {t:Br} {k:Nat} {xs:List Ar} (h:At t k xs) (aa:k < t.nodes.length) (hs:Dv t.bits xs t.nodes[k]≠0):goC t.bits [p0] t.nodes=Dv t.bits xs t.nodes[k]:=by
 rw [h.code,a59 _ _ _ _ aa,if_pos hs]
theorem At.end {t:Br} {xs:List Ar} (h:At t t.nodes.length xs):goC t.bits [p0] t.nodes=0/\goX t.bits [p0] t.nodes=xs:=by
 refine ⟨?_,?_⟩
 · rw [h.code,List.drop_length,goC]
 · rw [h.places,List.drop_length,goX]
theorem Ps:Al (Al a06) [[iv 0,iv 0,iv 0,iv 0,nl]] ([p0].map Bd):=⟨⟨.inl rfl,.inl rfl,.inl rfl,.inl rfl,.inr ⟨rfl,rfl⟩,trivial⟩,trivial⟩
set_option maxHeartbeats 2000000 in
theorem a0o (t:Br) (n:Nat) (hf:∀ x∈t.nodes,B4 x.blk/\Du x.blk.bits) (hb:Du t.bits) (ae:t.nodes.length<=1048576) (h0:Gt t≠0):Ret Tryz.prog 58 [C5 t] [] n true (Is (.tup [.agg [iv 0,nl],iv (Gt t)]) [] n):=by
 have hL:(t.nodes.map A4).length=t.nodes.length:=by simp
 have hB:=fun n=>Qy t.bits n hb
 unfold Gt at h0 ⊢
 cases bO:E4 t.bits with
 | false =>
   rw [bO] at hB
   refine Ret.fn Ad Tryz.func58 rfl Tryz.call58 rfl rfl ?_
   refine Goes ?_
   refine Aa.is (hB _) rfl ?_
   refine Goes ?_
   refine Ab.mk' [] rfl rfl rfl rfl rfl rfl rfl ⟨?_,?_,rfl⟩
   · rfl
   · rfl
 | true =>
   rw [bO] at hB h0
   rw [if_pos rfl] at h0 ⊢
   by_cases h8:8 < t.nodes.length
   · rw [if_pos h8]
     refine Ret.fn Ad Tryz.func58 rfl Tryz.call58 rfl rfl ?_
     refine Goes ?_
     refine Aa.is (hB _) rfl ?_
     refine Goes ?_;repeat' first|apply W2.m|refine W1.m fun h=>?_
     all_goals first
      | (exfalso; omega)
      | (refine Ab.mk' [] rfl rfl rfl rfl rfl rfl rfl ⟨?_,?_,rfl⟩
         · rfl
         · rfl)
   rw [if_neg h8] at h0 ⊢
   refine Ret.fn Ad Tryz.func58 rfl Tryz.call58 rfl rfl ?_
   refine Goes ?_
   refine Aa.is (hB _) rfl ?_
   refine Goes ?_;repeat' first|apply W2.m|refine W1.m fun h=>?_
   all_goals try (exfalso; omega)
   all_goals rw [hL]
   all_goals refine Ao.go (fun y:Nat × List Ar=>At t y.1 y.2) (fun y=>⟨[(2,.pt 0 0 0),(4,.pt 1 0 0),(23,Fo t.nodes),(24,iv t.nodes.length),(25,iv y.1)],(0,.box [iv 0,nl])::Ks t.bits 1 2 y.2,3⟩) (fun y=>t.nodes.length - y.1) (0,[p0]) (At.nil t) ?_ ?_
   all_goals first
    | exact Ac.trans (Ac.rows 2 109 5 _ ([p0].map Bd) rfl Ps) (Ac.ren [1,3,2] rfl rfl ktA ktA)
    | exact Ac.trans (Ac.rows 3 109 5 _ ([p0].map Bd) rfl Ps) (Ac.ren [1,2,3] rfl rfl ktA ktA)
    | skip
   all_goals
    rintro ⟨k,xs⟩ hA
    dsimp only at hA ⊢
    have fj:=hA.len
    by_cases aa:k < t.nodes.length
    · obtain ⟨ce,ly⟩:=hf _ (List.getElem_mem aa)
      have bj:=fun i j n ah=>Vv t.bits xs t.nodes[k] i j n ah (fun e=>by rw [e] at fj; simp at fj) (by omega) ce ly hA.good.ok
      by_cases hs:Dv t.bits xs t.nodes[k]=0
      · rw [hs] at bj
        refine Goes ?_;repeat' first|apply W2.m|refine W1.m fun h=>?_
        rw [A1 A4 t.nodes k aa]
        refine ⟨⟨by omega,by omega,rfl⟩,?_⟩
        refine Goes ?_
        refine Aa.heapIs (bj 1 2 _ (by decide)) rfl ktA rfl ?_
        refine Goes ?_
        exact ⟨(k + 1,F7 t.bits xs t.nodes[k]),hA.step aa ce hs,by show _ - (k + 1) < _; omega,(Ac.of rfl rfl ktA ktA)⟩
      · rw [hA.bad aa hs]
        refine Goes ?_;repeat' first|apply W2.m|refine W1.m fun h=>?_
        rw [A1 A4 t.nodes k aa]
        refine ⟨⟨by omega,by omega,rfl⟩,?_⟩
        refine Goes ?_
        refine Aa.heapIs (bj 1 2 _ (by decide)) rfl ktA rfl ?_
        refine Goes ?_;repeat' first|apply W2.m|refine W1.m fun h=>?_
        all_goals first
         | (exfalso; omega)
         | (refine Ab.mk' [] rfl rfl rfl rfl rfl rfl rfl ⟨?_,?_,rfl⟩
            · rfl
            · rfl)
    · obtain rfl:k=t.nodes.length:=by have:=hA.le; omega
      exact absurd hA.end.1 h0
set_option maxHeartbeats 2000000 in
theorem Tb (t:Br) (n:Nat) (hf:∀ x∈t.nodes,B4 x.blk/\Du x.blk.bits) (hb:Du t.bits) (ae:t.nodes.length<=1048576) (h0:Gt t=0):Ret Tryz.prog 58 [C5 t] [] n true (Is (.tup [.agg [iv t.bits,.own n (goX t.bits [p0] t.nodes).length],iv 0]) [(n,.list 109 5 ((goX t.bits [p0] t.nodes).map Bd))] (n + 1)):=by
 have hL:(t.nodes.map A4).length=t.nodes.length:=by simp
 have hB:=fun n=>Qy t.bits n hb
 unfold Gt at h0
 cases bO:E4 t.bits with
 | false=>rw [bO] at h0; cases h0
 | true =>
   rw [bO] at hB h0
   rw [if_pos rfl] at h0
   by_cases h8:8 < t.nodes.length
   · rw [if_pos h8] at h0; cases h0
   rw [if_neg h8] at h0
   refine Ret.fn Ad Tryz.func58 rfl Tryz.call58 rfl rfl ?_
   refine Goes ?_
   refine Aa.is (hB _) rfl ?_
   refine Goes ?_;repeat' first|apply W2.m|refine W1.m fun h=>?_
   all_goals try (exfalso; omega)
   all_goals rw [hL]
   all_goals refine Ao.go (fun y:Nat × List Ar=>At t y.1 y.2) (fun y=>⟨[(2,.pt 0 0 0),(4,.pt 1 0 0),(23,Fo t.nodes),(24,iv t.nodes.length),(25,iv y.1)],(0,.box [iv 0,nl])::Ks t.bits 1 2 y.2,3⟩) (fun y=>t.nodes.length - y.1) (0,[p0]) (At.nil t) ?_ ?_
   all_goals first
    | exact Ac.trans (Ac.rows 2 109 5 _ ([p0].map Bd) rfl Ps) (Ac.ren [1,3,2] rfl rfl ktA ktA)
    | exact Ac.trans (Ac.rows 3 109 5 _ ([p0].map Bd) rfl Ps) (Ac.ren [1,2,3] rfl rfl ktA ktA)
    | skip
   all_goals
    rintro ⟨k,xs⟩ hA
    dsimp only at hA ⊢
    have fj:=hA.len
    by_cases aa:k < t.nodes.length
    · obtain ⟨ce,ly⟩:=hf _ (List.getElem_mem aa)
      have bj:=fun i j n ah=>Vv t.bits xs t.nodes[k] i j n ah (fun e=>by rw [e] at fj; simp at fj) (by omega) ce ly hA.good.ok
      have hs:Dv t.bits xs t.nodes[k]=0:=Decidable.not_not.1 fun e=>e (by rw [<- hA.bad aa e]; exact h0)
      · rw [hs] at bj
        refine Goes ?_;repeat' first|apply W2.m|refine W1.m fun h=>?_
        rw [A1 A4 t.nodes k aa]
        refine ⟨⟨by omega,by omega,rfl⟩,?_⟩
        refine Goes ?_
        refine Aa.heapIs (bj 1 2 _ (by decide)) rfl ktA rfl ?_
        refine Goes ?_
        exact ⟨(k + 1,F7 t.bits xs t.nodes[k]),hA.step aa ce hs,by show _ - (k + 1) < _; omega,(Ac.of rfl rfl ktA ktA)⟩
    · obtain rfl:k=t.nodes.length:=by have:=hA.le; omega
      rw [hA.end.2]
      refine Goes ?_;repeat' first|apply W2.m|refine W1.m fun h=>?_
      all_goals try (exfalso; omega)
      refine Ab.mk' [2] rfl rfl rfl rfl rfl rfl rfl ⟨?_,?_,rfl⟩
      · rfl
      · rfl
abbrev Cz (t:Br):List Ar:=goX t.bits [p0] t.nodes
theorem a4H (bits:Int):∀ (ns ns0:List Bh) (xs:List Ar),(∀ x∈ns,B4 x.blk)->Good bits xs ns0->goC bits xs ns=0->Good bits (goX bits xs ns) (ns0++ns)
 | [],ns0,xs,_,hg,_=>by rw [List.append_nil]; exact hg
 | x::r,ns0,xs,hf,hg,h=>by
   rw [goC] at h
   by_cases hs:Dv bits xs x≠0
   · rw [if_pos hs] at h; exact absurd h hs
   · rw [if_neg hs] at h
     rw [goX,show ns0++x::r=(ns0++[x])++r by simp]
     exact a4H bits r _ _ (fun y hy=>hf y (List.mem_cons_of_mem _ hy)) (hg.step (hf x List.mem_cons_self) (Decidable.not_not.1 hs)) h
theorem Tc {t:Br} (hf:∀ x∈t.nodes,B4 x.blk) (h0:Gt t=0):E4 t.bits=true/\Ly t (Cz t) t.nodes.length:=by
 unfold Gt at h0
 cases hb:E4 t.bits with
 | false=>rw [hb] at h0; cases h0
 | true =>
   rw [hb,if_pos rfl] at h0
   by_cases h8:8 < t.nodes.length
   · rw [if_pos h8] at h0; cases h0
   rw [if_neg h8] at h0
   exact ⟨rfl,⟨by rw [List.take_length]; exact a4H t.bits t.nodes [] [p0] hf (Good.nil _) h0,Nat.le_refl _,by omega⟩⟩
end Go.Proofs.YtllhgcfacgiabaaGreat
