import Derived.Test.YtllhgcfacgiabaaGreatB7
import Derived.Test.YtllhgcfacgiabaaGreatR9
import Derived.Test.YtllhgcfacgiabaaGreatR5
namespace Go.Proofs.YtllhgcfacgiabaaGreat
open Go Go.Am Go.RowKit
set_option linter.unusedVariables false
set_option linter.unusedSimpArgs false
theorem a1D (c:Int) (n:Nat):Ret Tryz.prog 60 [iv c] [] n true (Is (Pt c) [] n):=by
 refine Ret.fn Ad Tryz.func60 rfl Tryz.call60 rfl rfl ?_
 refine Goes ?_
 refine Ab.pure rfl rfl rfl ⟨?_,rfl,rfl⟩
 rfl
set_option maxHeartbeats 2000000 in
theorem a6q (t:Br) (n:Nat) (hF:F8 t):Ret Tryz.prog 119 [C5 t] [] n true (Is (b0u n t) [(n,.list 103 6 (t.nodes.map A4))] (n + 1)):=by
 have hl:=hF.len
 have hL:(t.nodes.map A4).length=t.nodes.length:=by simp
 refine Ret.fn Ad Tryz.func119 rfl Tryz.call119 rfl rfl ?_
 refine Goes ?_
 refine Ao.go (fun k:Nat=>k<=t.nodes.length) (fun k=>⟨[(1,.pt 0 0 0),(2,.pt 1 0 0),(3,.pt 2 0 0),(4,iv k)],[(0,.box (Hf t)),(1,.box [iv 0,nl]),(2,.box [iv t.bits,.own 3 k]),(3,.list 103 6 ((t.nodes.take k).map A4))],4⟩) (fun k=>t.nodes.length - k) 0 (Nat.zero_le _) ?_ ?_
 · refine Ac.trans (Ac.of (tm':=[(1,.pt 0 0 0),(2,.pt 1 0 0),(3,.pt 2 0 0),(4,iv (0:Nat))]) (hp':=[(0,.box (Hf t)),(1,.box [iv 0,nl]),(2,.box [iv t.bits,nl])]) (nx':=3) rfl rfl ⟨⟨rfl,rfl⟩,⟨rfl,rfl⟩,⟨rfl,rfl⟩,⟨rfl,rfl⟩,trivial⟩ ⟨⟨rfl,rfl,rfl⟩,⟨rfl,rfl,rfl⟩,⟨rfl,rfl,rfl⟩,trivial⟩) ?_
   refine Ac.trans (Ac.name 2 1 103 6 _ (by decide) rfl rfl) ?_
   exact (Ac.of rfl rfl ktA ktA)
 intro k hk
 by_cases aa:k < t.nodes.length
 · refine Goes ?_;repeat' first|apply W2.m|refine W1.m fun h=>?_
   all_goals try (exfalso; omega)
   repeat'
    first
     | (rw [A1 A4 t.nodes k aa]
        refine ⟨by rw [hL]; exact ⟨by omega,by omega,rfl⟩,?_⟩
        refine Goes ?_)
     | (refine B8.is (Oj t.nodes[k].blk _ (hF.nodes _ (List.getElem_mem aa))) rfl rfl ?_
        refine Goes ?_)
   refine ⟨⟨by simp; omega,by show (k + 1) * 64<=_; omega,by show k + 1<=_; unfold maxLen; omega,True.intro,fun r hr=>by rw [List.mem_singleton.1 (List.mem_of_mem_take hr)]; rfl⟩,?_⟩
   refine Goes ?_
   refine ⟨k + 1,by omega,by omega,Ac.of rfl rfl ⟨⟨rfl,rfl⟩,⟨rfl,rfl⟩,⟨rfl,rfl⟩,⟨Aw Cm,rfl⟩,trivial⟩ ⟨⟨rfl,rfl,rfl⟩,⟨rfl,rfl,rfl⟩,⟨rfl,rfl,rfl⟩,⟨Ch ?_,rfl,rfl⟩,trivial⟩⟩
   rw [Bo t.nodes k aa,List.map_append,List.take_of_length_le (by simp; omega)]; rfl
 · obtain rfl:k=t.nodes.length:=by omega
   rw [List.take_length]
   refine Goes ?_;repeat' first|apply W2.m|refine W1.m fun h=>?_
   all_goals try (exfalso; omega)
   refine Ab.mk' [3] rfl rfl rfl rfl rfl rfl rfl ⟨?_,?_,rfl⟩
   · rfl
   · rfl
abbrev Uz (t:Br) (b:B7):AV:=.agg (iv 0::iv t.nodes.length::Hf (D3 t b))
set_option maxHeartbeats 2000000 in
theorem a8P (t:Br) (b:B7) (i n:Nat) (hF:F8 t) (hf:B4 b) (hz:Gt t=0) (hb:Dn b=0) (h0:Hy t.bits (Cz t) b≠0):Ret Tryz.prog 62 [C5 t,.pt i 0 0] [(i,.box (Ix b))] n true (Is (Pt (Hy t.bits (Cz t) b)) [(i,.box (Ix b))] n):=by
 have hL:(t.nodes.map A4).length=t.nodes.length:=by simp
 have hu:=(Tc hF.nodes hz).2
 have hl:=hu.len
 have h8:=hu.cap
 have ae:=hF.len
 have hP:=fun n=>Jm t (Cz t) b.prev t.nodes.length n hu
 have ik:=fun c n=>a1D c n
 have cZ:¬ Dn b≠0:=fun e=>e hb
 obtain ⟨_,bW,dY,iF⟩:=Hb hb
 cases hk:C1 (Cz t) b.prev with
 | none =>
   have hC:Hy t.bits (Cz t) b=4:=by unfold Hy; rw [if_neg cZ,hk]
   have e1:D4 (Cz t) b.prev=-2:=by unfold D4; rw [hk]
   rw [e1] at hP
   rw [hC]
   refine Ret.of_run (tt:=tt) Ad Tryz.func62 rfl Tryz.call62 [i] [.box (Ix b)] [C5 t,.pt 0 0 0] true n _ rfl (Cj i) (by exact Nat.le_of_ble_eq_true rfl) rfl rfl ?_
   refine Goes ?_
   try rw [hL]
   repeat' first
    | (refine Aa.convAIs (hP _) Cc rfl (by first | exact trivial | exact ⟨Bu _,trivial⟩) ?_
       refine Goes ?_)
    | (refine Aa.is (ik 4 _) rfl ?_
       refine Goes ?_)
   all_goals first
    | (exfalso; omega)
    | (refine Ab.mk' [] rfl rfl rfl rfl rfl rfl rfl ⟨?_,?_,rfl⟩
       · rfl
       · rfl)
 | some k =>
   have eE:=Zk hk
   have hg:(Cz t).getD k p0=(Cz t)[k]:=by simp [List.getD_eq_getElem?_getD,eE]
   have e1:D4 (Cz t) b.prev=(k:Int) + -1:=by unfold D4; rw [hk]
   rw [e1] at hP
   by_cases h9:8 < (Cz t).length
   · have hC:Hy t.bits (Cz t) b=2:=by unfold Hy; rw [if_neg cZ,hk]; exact if_pos h9
     rw [hC]
     refine Ret.of_run (tt:=tt) Ad Tryz.func62 rfl Tryz.call62 [i] [.box (Ix b)] [C5 t,.pt 0 0 0] true n _ rfl (Cj i) (by exact Nat.le_of_ble_eq_true rfl) rfl rfl ?_
     refine Goes ?_
     try rw [hL]
     repeat' first
      | (refine Aa.convAIs (hP _) Cc rfl (by first | exact trivial | exact ⟨Bu _,trivial⟩) ?_
         refine Goes ?_;repeat' first|apply W2.m|refine W1.m fun h=>?_)
      | (refine Aa.is (ik 2 _) rfl ?_
         refine Goes ?_)
     all_goals first
      | (exfalso; omega)
      | (refine Ab.mk' [] rfl rfl rfl rfl rfl rfl rfl ⟨?_,?_,rfl⟩
         · rfl
         · rfl)
   · have hC:Hy t.bits (Cz t) b=K3 t.bits (Cz t) (Cz t)[k] b:=by unfold Hy; rw [if_neg cZ,hk]; dsimp only; rw [if_neg h9,hg]
     have hB:=fun n=>Oi t (Cz t) t.nodes.length k n _ _ b hu rfl (List.getElem?_eq_getElem eE) hf hb
     by_cases hc:E6 t.bits (Cz t)[k] b≠0
     · have hA:K3 t.bits (Cz t) (Cz t)[k] b=E6 t.bits (Cz t)[k] b:=if_pos hc
       rw [hC,hA]
       refine Ret.of_run (tt:=tt) Ad Tryz.func62 rfl Tryz.call62 [i] [.box (Ix b)] [C5 t,.pt 0 0 0] true n _ rfl (Cj i) (by exact Nat.le_of_ble_eq_true rfl) rfl rfl ?_
       refine Goes ?_
       try rw [hL]
       repeat' first
        | (refine Aa.convAIs (hP _) Cc rfl (by first | exact trivial | exact ⟨Bu _,trivial⟩) ?_
           refine Goes ?_;repeat' first|apply W2.m|refine W1.m fun h=>?_)
        | (refine Aa.convAIs (hB _) Cc rfl (by first | exact trivial | exact ⟨Bu _,trivial⟩) ?_
           refine Goes ?_;repeat' first|apply W2.m|refine W1.m fun h=>?_)
        | (refine Aa.is (ik _ _) rfl ?_
           refine Goes ?_)
       all_goals first
        | (exfalso; omega)
        | (refine Ab.mk' [] rfl rfl rfl rfl rfl rfl rfl ⟨?_,?_,rfl⟩
           · rfl
           · rfl)
     · rw [Decidable.not_not.1 hc] at hB
       have hA:K3 t.bits (Cz t) (Cz t)[k] b=if (C1 (Cz t) (E9 b)).isSome=true then 6 else 0:=if_neg hc
       rw [hC,hA] at h0
       rw [hC,hA]
       have hH:=fun n=>Iq b n bW dY iF
       have hQ:=fun n=>Jm t (Cz t) (E9 b) t.nodes.length n hu
       cases hn:C1 (Cz t) (E9 b) with
       | none=>rw [hn] at h0; exact absurd rfl h0
       | some j =>
         have e2:D4 (Cz t) (E9 b)=(j:Int) + -1:=by unfold D4; rw [hn]
         rw [e2,<- hL] at hQ
         refine Ret.of_run (tt:=tt) Ad Tryz.func62 rfl Tryz.call62 [i] [.box (Ix b)] [C5 t,.pt 0 0 0] true n _ rfl (Cj i) (by exact Nat.le_of_ble_eq_true rfl) rfl rfl ?_
         refine Goes ?_
         try rw [hL]
         refine Aa.convAIs (hP _) Cc rfl (by first | exact trivial | exact ⟨Bu _,trivial⟩) ?_
         refine Goes ?_;repeat' first|apply W2.m|refine W1.m fun h=>?_
         all_goals try (exfalso; omega)
         refine Aa.convAIs (hB _) Cc rfl (by first | exact trivial | exact ⟨Bu _,trivial⟩) ?_
         refine Goes ?_;repeat' first|apply W2.m|refine W1.m fun h=>?_
         all_goals try (exfalso; omega)
         all_goals
          repeat' first
           | (refine Aa.convAIs (hH _) Cc rfl (by first | exact trivial | exact ⟨Bu _,trivial⟩) ?_
              refine Goes ?_)
           | (refine Aa.convAIs (hQ _) Cc rfl (by first | exact trivial | exact ⟨Bu _,trivial⟩) ?_
              refine Goes ?_;repeat' first|apply W2.m|refine W1.m fun h=>?_)
           | (refine Aa.is (ik 6 _) rfl ?_
              refine Goes ?_)
         all_goals first
          | (exfalso; omega)
          | (refine Ab.mk' [] rfl rfl rfl rfl rfl rfl rfl ⟨?_,?_,rfl⟩
             · rfl
             · rfl)
theorem Zm {t:Br} {b:B7} (h:Hy t.bits (Cz t) b=0):Dn b=0/\∃ (k:Nat) (hk:k < (Cz t).length),C1 (Cz t) b.prev=some k/\E6 t.bits (Cz t)[k] b=0/\C1 (Cz t) (E9 b)=none/\¬ 8 < (Cz t).length:=by
 unfold Hy at h
 by_cases h0:Dn b≠0
 · rw [if_pos h0] at h; exact absurd h h0
 rw [if_neg h0] at h
 cases hn:C1 (Cz t) b.prev with
 | none=>rw [hn] at h; cases h
 | some k =>
   rw [hn] at h
   dsimp only at h
   by_cases h8:8 < (Cz t).length
   · rw [if_pos h8] at h; cases h
   rw [if_neg h8] at h
   have eE:=Zk hn
   have hg:(Cz t).getD k p0=(Cz t)[k]:=by simp [List.getD_eq_getElem?_getD,eE]
   rw [hg] at h
   obtain ⟨a1,a2⟩:=a1x h
   exact ⟨Decidable.not_not.1 h0,k,eE,rfl,a1,a2,h8⟩
set_option maxHeartbeats 2000000 in
theorem b0x (t:Br) (b:B7) (i n:Nat) (hF:F8 t) (hf:B4 b) (hz:Gt t=0) (h0:Hy t.bits (Cz t) b=0):Ret Tryz.prog 62 [C5 t,.pt i 0 0] [(i,.box (Ix b))] n true (Is (.agg [iv 0,iv t.nodes.length,iv t.bits,.own n (t.nodes.length + 1)]) [(i,.box (Ix b)),(n,.list 103 6 ((D3 t b).nodes.map A4))] (n + 1)):=by
 have hL:(t.nodes.map A4).length=t.nodes.length:=by simp
 have hu:=(Tc hF.nodes hz).2
 have hl:=hu.len
 have h8:=hu.cap
 have ae:=hF.len
 obtain ⟨hb,k,eE,hk,hc,hn,h9⟩:=Zm h0
 obtain ⟨_,bW,dY,iF⟩:=Hb hb
 have hP:=fun n=>Jm t (Cz t) b.prev t.nodes.length n hu
 have e1:D4 (Cz t) b.prev=(k:Int) + -1:=by unfold D4; rw [hk]
 have eU:a6n (Cz t) b=(k:Int) + -1:=by unfold a6n; rw [hk]
 have hB:=fun n=>Oi t (Cz t) t.nodes.length k n _ _ b hu rfl (List.getElem?_eq_getElem eE) hf hb
 have hH:=fun n=>Iq b n bW dY iF
 have hQ:=fun n=>Jm t (Cz t) (E9 b) t.nodes.length n hu
 have e2:D4 (Cz t) (E9 b)=-2:=by unfold D4; rw [hn]
 rw [e1] at hP
 rw [hc] at hB
 rw [e2,<- hL] at hQ
 show Ret Tryz.prog 62 _ _ n true (Is _ [(i,.box (Ix b)),(n,.list 103 6 ((t.nodes++[(⟨a6n (Cz t) b,b⟩:Bh)]).map A4))] (n + 1))
 rw [eU]
 refine Ret.of_run (tt:=tt) Ad Tryz.func62 rfl Tryz.call62 [i] [.box (Ix b)] [C5 t,.pt 0 0 0] true n _ rfl (Cj i) (by exact Nat.le_of_ble_eq_true rfl) rfl rfl ?_
 refine Goes ?_
 try rw [hL]
 refine Aa.convAIs (hP _) Cc rfl (by first | exact trivial | exact ⟨Bu _,trivial⟩) ?_
 refine Goes ?_;repeat' first|apply W2.m|refine W1.m fun h=>?_
 all_goals try (exfalso; omega)
 refine Aa.convAIs (hB _) Cc rfl (by first | exact trivial | exact ⟨Bu _,trivial⟩) ?_
 refine Goes ?_;repeat' first|apply W2.m|refine W1.m fun h=>?_
 all_goals try (exfalso; omega)
 all_goals
  repeat' first
   | (refine Aa.convAIs (hH _) Cc rfl (by first | exact trivial | exact ⟨Bu _,trivial⟩) ?_
      refine Goes ?_)
   | (refine Aa.convAIs (hQ _) Cc rfl (by first | exact trivial | exact ⟨Bu _,trivial⟩) ?_
      refine Goes ?_)
   | (refine Aa.is (a6q t _ hF) rfl ?_
      refine Goes ?_)
 all_goals try (exfalso; omega)
 all_goals
  refine B8.is (Oj b _ hf) rfl rfl ?_
  refine Goes ?_
  refine ⟨⟨by simp,by show (t.nodes.length + 1) * 64<=_; omega,by show t.nodes.length + 1<=_; unfold maxLen; omega,True.intro,fun r hr=>by rw [List.mem_singleton.1 (List.mem_of_mem_take hr)]; rfl⟩,?_⟩
  refine Goes ?_
  refine Ab.mk' [3] rfl rfl rfl rfl rfl rfl rfl ⟨?_,?_,rfl⟩
  · rw [hL]; rfl
  · rw [List.take_of_length_le (by simp),List.map_append]; rfl
theorem a4J (t:Br) (b:B7) (n:Nat) (hF:F8 t) (hf:B4 b) (h0:Rc t b≠0):Ret Tryz.prog 17 [C5 t,Fy b] [] n true (Is (Pt (Rc t b)) [] n):=by
 have hT:=fun n=>a1B t n hF.len hF.nodes
 have hB:=fun n=>Q6 b n hf
 have ik:=fun c n=>a1D c n
 by_cases hz:Gt t=0
 · have hA:Rc t b=Hy t.bits (Cz t) b:=if_neg (fun e=>e hz)
   rw [hz] at hT
   rw [hA] at h0 ⊢
   by_cases hb:Dn b=0
   · rw [hb] at hB
     refine Ret.fn Ad Tryz.func17 rfl Tryz.call17 rfl rfl ?_
     refine Goes ?_
     refine Aa.convAIs (hT _) Cc rfl (by first | exact trivial | exact ⟨Bu _,trivial⟩) ?_
     refine Goes ?_
     all_goals try (exfalso; omega)
     refine Aa.convAIs (hB _) Cc rfl (by first | exact trivial | exact ⟨Bu _,trivial⟩) ?_
     refine Goes ?_
     all_goals try (exfalso; omega)
     refine Aa.heapIs (a8P t b 1 _ hF hf hz hb h0) rfl ktA rfl ?_
     refine Goes ?_
     all_goals
      refine Ab.pure rfl rfl rfl ⟨?_,rfl,rfl⟩
      rfl
   · have hC:Hy t.bits (Cz t) b=Dn b:=if_pos hb
     rw [hC]
     refine Ret.fn Ad Tryz.func17 rfl Tryz.call17 rfl rfl ?_
     refine Goes ?_
     refine Aa.convAIs (hT _) Cc rfl (by first | exact trivial | exact ⟨Bu _,trivial⟩) ?_
     refine Goes ?_
     all_goals try (exfalso; omega)
     refine Aa.convAIs (hB _) Cc rfl (by first | exact trivial | exact ⟨Bu _,trivial⟩) ?_
     refine Goes ?_;repeat' first|apply W2.m|refine W1.m fun h=>?_
     all_goals try (exfalso; omega)
     refine Aa.is (ik _ _) rfl ?_
     refine Goes ?_
     all_goals
      refine Ab.pure rfl rfl rfl ⟨?_,rfl,rfl⟩
      rfl
 · have hA:Rc t b=Gt t:=if_pos hz
   rw [hA]
   refine Ret.fn Ad Tryz.func17 rfl Tryz.call17 rfl rfl ?_
   refine Goes ?_
   refine Aa.convAIs (hT _) Cc rfl (by first | exact trivial | exact ⟨Bu _,trivial⟩) ?_
   refine Goes ?_;repeat' first|apply W2.m|refine W1.m fun h=>?_
   all_goals try (exfalso; omega)
   refine Aa.is (ik _ _) rfl ?_
   refine Goes ?_
   all_goals
    refine Ab.pure rfl rfl rfl ⟨?_,rfl,rfl⟩
    rfl
theorem a4K (t:Br) (b:B7) (n:Nat) (hF:F8 t) (hf:B4 b) (h0:Rc t b=0):Ret Tryz.prog 17 [C5 t,Fy b] [] n true (Is (.agg [iv 0,iv t.nodes.length,iv t.bits,.own n (t.nodes.length + 1)]) [(n,.list 103 6 ((D3 t b).nodes.map A4))] (n + 1)):=by
 have hT:=fun n=>a1B t n hF.len hF.nodes
 have hB:=fun n=>Q6 b n hf
 obtain ⟨hz,hp⟩:=a2Y h0
 obtain ⟨hb,_⟩:=Zm hp
 rw [hz] at hT
 rw [hb] at hB
 refine Ret.fn Ad Tryz.func17 rfl Tryz.call17 rfl rfl ?_
 refine Goes ?_
 refine Aa.convAIs (hT _) Cc rfl (by first | exact trivial | exact ⟨Bu _,trivial⟩) ?_
 refine Goes ?_
 all_goals try (exfalso; omega)
 refine Aa.convAIs (hB _) Cc rfl (by first | exact trivial | exact ⟨Bu _,trivial⟩) ?_
 refine Goes ?_
 all_goals try (exfalso; omega)
 refine Aa.heapIs (b0x t b 1 _ hF hf hz hp) rfl ktA rfl ?_
 refine Goes ?_
 refine Ab.mk' [3] rfl rfl rfl rfl rfl rfl rfl ⟨?_,?_,rfl⟩
 · rfl
 · rfl
theorem a6r (t:Br) (b:B7) (n:Nat) (hF:F8 t) (hf:B4 b) (h0:Rc t b=0):Ret Tryz.prog 17 [C5 t,Fy b] [] n true (Is (Uz t b) [] n) :=
 Ret.freeze (by
  rintro _ _ _ ⟨rfl,rfl,rfl⟩
  exact ⟨Uz t b,FrV.agg _ (iv 0::iv t.nodes.length::Hf (D3 t b)) ⟨.refl _ rfl (fun _ e=>by cases e),.refl _ rfl (fun _ e=>by cases e),.refl _ rfl (fun _ e=>by cases e),Vg (Ae _ _ _) (by simp),trivial⟩,rfl,rfl,rfl⟩) (a4K t b n hF hf h0)
theorem Zn {α:Type} {f:α->List AV} (h:∀ x,∀ c∈f x,M5 c) (xs:List α):∀ c∈(xs.map f).flatten,M5 c:=fun c hc=>by
 obtain ⟨r,hr,aR⟩:=List.mem_flatten.1 hc
 obtain ⟨x,_,rfl⟩:=List.mem_map.1 hr
 exact h x c aR
theorem b1o (zs:List Int):M5 (tl zs):=.tree _ _ _ (Zn (f:=fun z:Int=>[iv z]) (fun x c hc=>by rw [List.mem_singleton.1 hc]; exact .val _) zs)
theorem b2f (x:InD):∀ c∈inT x,M5 c:=fun c hc=>by
 simp only [List.mem_cons,List.not_mem_nil,or_false] at hc
 rcases hc with rfl | rfl | rfl
 · exact .val _
 · exact .val _
 · exact b1o _
theorem b1S (x:Cx):∀ c∈outT x,M5 c:=fun c hc=>by
 simp only [List.mem_cons,List.not_mem_nil,or_false] at hc
 rcases hc with rfl | rfl
 · exact .val _
 · exact b1o _
theorem b2g (x:TxD):∀ c∈txT x,M5 c:=fun c hc=>by
 simp only [List.mem_cons,List.not_mem_nil,or_false] at hc
 rcases hc with rfl | rfl | rfl
 · exact .val _
 · exact .tree _ _ _ (Zn b2f _)
 · exact .tree _ _ _ (Zn b1S _)
theorem a64 {hp:Hp} {a:Bool} {i k:Nat} {p t b o:Int} {xs:List TxD} (h:Go.Am.look hp i=some (A2.nest (c:=a) 133 3 (xs.map txT))) (hk:k=xs.length):Cv hp [] false (.agg [iv p,iv t,iv b,iv o,.own i k]) (.agg [iv p,iv t,iv b,iv o,Im xs]) :=
 Vb ⟨B3 rfl,B3 rfl,B3 rfl,B3 rfl,V9 h rfl (b1n _) (by simpa using hk),trivial⟩
theorem b0y {hp:Hp} {p t b o:Int} {xs:List TxD}:Cv hp [] false (.agg [iv p,iv t,iv b,iv o,Im xs]) (.agg [iv p,iv t,iv b,iv o,Im xs]) :=
 Vb ⟨B3 rfl,B3 rfl,B3 rfl,B3 rfl,B3 rfl,trivial⟩
theorem b1c (x:Bh):∀ c∈Ef x,M5 c:=fun c hc=>by
 simp only [List.mem_cons,List.not_mem_nil,or_false] at hc
 rcases hc with rfl | rfl | rfl | rfl | rfl | rfl
 · exact .val _
 · exact .val _
 · exact .val _
 · exact .val _
 · exact .val _
 · exact .tree _ _ _ (Zn b2g _)
theorem b1d {b:Bool} (xs:List Bh):Xa (.nest (c:=b) 103 6 (xs.map Ef)):=fun c hc=>.inr (Zn b1c xs c hc)
theorem a2Z {hp:Hp} {a:Bool} {i k:Nat} {z:Int} {xs:List Bh} (h:Go.Am.look hp i=some (A2.nest (c:=a) 103 6 (xs.map Ef))) (hk:k=xs.length):Cv hp [] false (.agg [iv z,.own i k]) (.agg [iv z,Fo xs]) :=
 Vb ⟨B3 rfl,V9 h rfl (a2N _) (by simpa using hk),trivial⟩
theorem a65 {hp:Hp} {z:Int} {xs:List Bh}:Cv hp [] false (.agg [iv z,Fo xs]) (.agg [iv z,Fo xs]):=Vb ⟨B3 rfl,B3 rfl,trivial⟩
theorem Wk {hp:Hp} {a:Bool} {i k:Nat} {c v z:Int} {xs:List Bh} (h:Go.Am.look hp i=some (A2.nest (c:=a) 103 6 (xs.map Ef))) (hk:k=xs.length):Cv hp [] false (.agg [iv c,iv v,iv z,.own i k]) (.agg [iv c,iv v,iv z,Fo xs]) :=
 Vb ⟨B3 rfl,B3 rfl,B3 rfl,V9 h rfl (a2N _) (by simpa using hk),trivial⟩
theorem Te {hp:Hp} {c v z:Int} {xs:List Bh}:Cv hp [] false (.agg [iv c,iv v,iv z,Fo xs]) (.agg [iv c,iv v,iv z,Fo xs]):=Vb ⟨B3 rfl,B3 rfl,B3 rfl,B3 rfl,trivial⟩
theorem Kt {hp:Hp} {c v z:Int}:Cv hp [] false (.agg [iv c,iv v,iv z,nl]) (.agg [iv c,iv v,iv z,.lst []]):=Vb ⟨B3 rfl,B3 rfl,B3 rfl,a9q,trivial⟩
def a66:Br:=⟨0,[]⟩
theorem a6s:F8 a66:=Zc (by decide)
theorem a6t (t:Br) (b:B7) (c:Int) (n:Nat) (hm:a6a t) (cJ:Uk b) (hs:∀ n,F8 t->B4 b->Ret Tryz.prog 17 [C5 t,Fy b] [] n true (Is (Pt c) [] n)) (hi:∀ n,F8 t->B4 b->Ret Tryz.prog 19 [C5 t,Fy b] [] n true (Is (Pt c) [] n)):Ret Tryz.prog 4 [C5 t,Fy b] [] n true (fun r _ _=>r=bv true):=by
 refine Ret.fn Ad Tryz.func4 rfl Tryz.call4 rfl rfl ?_
 refine Goes ?_
 refine Aa.is (Zd t 1048576 _ (by decide) (by decide) hm) rfl ?_
 refine Goes ?_;repeat' first|apply W2.m|refine W1.m fun h=>?_
 · exact Ab.pure rfl rfl rfl rfl
 have jx:=Ec (by assumption)
 have ao:Hu t<=1048576:=by have:=jx.2; omega
 have hF:=Zc ao
 refine Aa.is (N3 b _ _ (by omega) (by unfold B1; split <;> omega) cJ) rfl ?_
 refine Goes ?_;repeat' first|apply W2.m|refine W1.m fun h=>?_
 · exact Ab.pure rfl rfl rfl rfl
 have ak:He b<=1048576:=by have:=Ec (by assumption:¬ B1 (B1 1048576 ↑(Hu t)) ↑(He b) < 0); omega
 have hf:=Yp ak
 have lz:=hF.len
 have lA:Bn Cs t.nodes<=1048576:=by unfold Hu at ao; omega
 have lB:=hf.len
 have lC:Bn Cy b.txs<=1048576:=by unfold He at ak; omega
 have lD:=S5 1 t.nodes t.nodes.length (Nat.le_refl _)
 rw [List.take_length] at lD
 refine Ia.is rfl (fun n=>Jl t n hF) ?_
 refine Goes ?_
 refine Ia.is rfl (fun n=>Gd b n hf) ?_
 refine Goes ?_
 refine Ia.is rfl (fun n=>hs n hF hf) ?_
 refine Goes ?_
 refine Aa.is (Zf t _ hF) rfl ?_
 refine Goes ?_
 refine Aa.is (Oh b _ hf) rfl ?_
 refine Goes ?_
 refine Aa.convAIs (hi _ hF hf) ⟨a2Z rfl rfl,a64 rfl rfl,trivial⟩ rfl trivial ?_
 refine Goes ?_
 refine Aa.convAIs (Dc c 0 a66 _ a6s) ⟨Kt,Kt,trivial⟩ rfl trivial ?_
 refine Goes ?_
 refine B8.is (Jl t _ hF) rfl rfl ?_
 refine Goes ?_
 refine Aa.convAIs (Q9 t _ hF) ⟨a2Z rfl rfl,a65,trivial⟩ rfl trivial ?_
 refine Goes ?_
 refine B8.is (Gd b _ hf) rfl rfl ?_
 refine Goes ?_
 refine Aa.convAIs (N4 b _ hf) ⟨a64 rfl rfl,b0y,trivial⟩ rfl trivial ?_
 refine Goes ?_
 refine Aa.heapIs (M4 t.bits t.nodes 3 1 _ lz lA (by decide)) rfl ktA rfl ?_
 refine Goes ?_
 refine Aa.heapIs (Qf b.prev b.time b.bits b.nonce b.txs 5 (nNs 1 t.nodes) _ lB lC (by omega)) rfl ktA rfl ?_
 refine Goes ?_
 refine Aa.convAIs (Dc c 0 a66 _ a6s) ⟨Kt,Kt,trivial⟩ rfl trivial ?_
 refine Goes ?_
 refine Aa.is (Rb c 0 0 1 _) rfl ?_
 refine Goes ?_
 refine Aa.convAIs (E7 c 0 0 [] 1 _ (by decide) (by decide) (by decide)) ⟨Kt,Qt rfl,trivial⟩ rfl trivial ?_
 refine Goes ?_
 refine Ia.is rfl (fun n=>Jl t n hF) ?_
 refine Goes ?_
 refine Ia.is rfl (fun n=>Gd b n hf) ?_
 refine Goes ?_
 refine Ia.is rfl (fun n=>hi n hF hf) ?_
 refine Goes ?_
 refine Aa.convAIs (Dc c 0 a66 _ a6s) ⟨Kt,Kt,trivial⟩ rfl trivial ?_
 refine Goes ?_
 refine Aa.convAIs (E7 c 0 0 [] 1 _ (by decide) (by decide) (by decide)) ⟨Kt,Qt rfl,trivial⟩ rfl trivial ?_
 refine Goes ?_
 exact Ab.pure rfl rfl rfl rfl
theorem a8Q (t:Br) (b:B7) (n:Nat) (hm:a6a t) (cJ:Uk b) (hs:∀ n,F8 t->B4 b->Ret Tryz.prog 17 [C5 t,Fy b] [] n true (Is (Uz t b) [] n)) (hi:∀ n,F8 t->B4 b->Ret Tryz.prog 19 [C5 t,Fy b] [] n true (Is (.agg [iv 0,iv t.nodes.length,iv t.bits,.own n (t.nodes.length + 1)]) [Hw n (D3 t b).nodes] (n + 1))) (fm:∀ n,F8 t->B4 b->Ret Tryz.prog 19 [C5 t,Fy b] [] n true (Is (Uz t b) [] n)) (h8:t.nodes.length<=8):Ret Tryz.prog 4 [C5 t,Fy b] [] n true (fun r _ _=>r=bv true):=by
 refine Ret.fn Ad Tryz.func4 rfl Tryz.call4 rfl rfl ?_
 refine Goes ?_
 refine Aa.is (Zd t 1048576 _ (by decide) (by decide) hm) rfl ?_
 refine Goes ?_;repeat' first|apply W2.m|refine W1.m fun h=>?_
 · exact Ab.pure rfl rfl rfl rfl
 have jx:=Ec (by assumption)
 have ao:Hu t<=1048576:=by have:=jx.2; omega
 have hF:=Zc ao
 refine Aa.is (N3 b _ _ (by omega) (by unfold B1; split <;> omega) cJ) rfl ?_
 refine Goes ?_;repeat' first|apply W2.m|refine W1.m fun h=>?_
 · exact Ab.pure rfl rfl rfl rfl
 have ak:He b<=1048576:=by have:=Ec (by assumption:¬ B1 (B1 1048576 ↑(Hu t)) ↑(He b) < 0); omega
 have cu:Hu t + He b<=1048576:=by have:=Ec (by assumption:¬ B1 (B1 1048576 ↑(Hu t)) ↑(He b) < 0); omega
 have hf:=Yp ak
 have lz:=hF.len
 have lA:Bn Cs t.nodes<=1048576:=by unfold Hu at ao; omega
 have lB:=hf.len
 have lC:Bn Cy b.txs<=1048576:=by unfold He at ak; omega
 have lD:=S5 1 t.nodes t.nodes.length (Nat.le_refl _)
 rw [List.take_length] at lD
 have lE:F8 (D3 t b):=⟨by show (t.nodes++[_]).length<=_; simp; omega,fun x hx=>by
  rcases List.mem_append.1 hx with hx | hx
  · exact hF.nodes x hx
  · rw [List.mem_singleton.1 hx]; exact hf⟩
 have jM:(D3 t b).nodes.length=t.nodes.length + 1:=by show (t.nodes++[_]).length=_; simp
 have lF:Bn Cs (D3 t b).nodes<=1048576:=by
  have e:Bn Cs (D3 t b).nodes=Bn Cs t.nodes + He b:=by show Bn Cs (t.nodes++[_])=_; simp [Bn,Cs]
  rw [e]; unfold Hu at cu; omega
 have jJ:∀ i n,Ret Tryz.prog 24 [.agg [iv 0,iv t.nodes.length,iv t.bits,.own i (t.nodes.length + 1)],iv (1:Nat)] [Hw i (D3 t b).nodes] n true (Is (iv (nNs 1 (D3 t b).nodes)) [Hw i (a4w 1 (D3 t b).nodes)] n):=fun i n=>by
  have:=Ra 0 t.nodes.length t.bits (D3 t b).nodes i 1 n (by omega) lF (by decide)
  rw [jM] at this
  exact this
 refine Ia.is rfl (fun n=>Jl t n hF) ?_
 refine Goes ?_
 refine Ia.is rfl (fun n=>Gd b n hf) ?_
 refine Goes ?_
 refine Ia.is rfl (fun n=>hs n hF hf) ?_
 refine Goes ?_
 refine Aa.is (Zf t _ hF) rfl ?_
 refine Goes ?_
 refine Aa.is (Oh b _ hf) rfl ?_
 refine Goes ?_
 refine Aa.convAIs (hi _ hF hf) ⟨a2Z rfl rfl,a64 rfl rfl,trivial⟩ rfl ⟨b1d _,trivial⟩ ?_
 refine Goes ?_
 refine Aa.convAIs (Dc 0 t.nodes.length (D3 t b) _ lE) ⟨Wk rfl jM.symm,Te,trivial⟩ rfl trivial ?_
 refine Goes ?_
 refine B8.is (Jl t _ hF) rfl rfl ?_
 refine Goes ?_
 refine Aa.convAIs (Q9 t _ hF) ⟨a2Z rfl rfl,a65,trivial⟩ rfl trivial ?_
 refine Goes ?_
 refine B8.is (Gd b _ hf) rfl rfl ?_
 refine Goes ?_
 refine Aa.convAIs (N4 b _ hf) ⟨a64 rfl rfl,b0y,trivial⟩ rfl trivial ?_
 refine Goes ?_
 refine Aa.heapIs (M4 t.bits t.nodes 3 1 _ lz lA (by decide)) rfl ktA rfl ?_
 refine Goes ?_
 refine Aa.heapIs (Qf b.prev b.time b.bits b.nonce b.txs 5 (nNs 1 t.nodes) _ lB lC (by omega)) rfl ktA rfl ?_
 refine Goes ?_
 refine Aa.convAIs (Dc 0 t.nodes.length (D3 t b) _ lE) ⟨Wk rfl jM.symm,Te,trivial⟩ rfl trivial ?_
 refine Goes ?_
 refine Aa.heapIs (jJ 7 _) rfl ktA rfl ?_
 refine Goes ?_
 refine Aa.convAIs (E7 0 t.nodes.length t.bits (D3 t b).nodes 1 _ (by omega) lF (by decide)) ⟨Wk rfl (by rw [D5,jM]),Qt rfl,trivial⟩ rfl trivial ?_
 refine Goes ?_;repeat' first|apply W2.m|refine W1.m fun h=>?_
 refine Ia.is rfl (fun n=>Jl t n hF) ?_
 refine Goes ?_
 refine Ia.is rfl (fun n=>Gd b n hf) ?_
 refine Goes ?_
 refine Ia.is rfl (fun n=>fm n hF hf) ?_
 refine Goes ?_
 refine Aa.convAIs (Dc 0 t.nodes.length (D3 t b) _ lE) ⟨Te,Te,trivial⟩ rfl trivial ?_
 refine Goes ?_
 refine Aa.convAIs (E7 0 t.nodes.length t.bits (D3 t b).nodes 1 _ (by omega) lF (by decide)) ⟨Wk rfl (by rw [D5,jM]),Qt rfl,trivial⟩ rfl trivial ?_
 refine Goes ?_;repeat' first|apply W2.m|refine W1.m fun h=>?_
 exact Ab.pure rfl rfl rfl rfl
theorem a6u (t:Br) (b:B7) (n:Nat) (hf:∀ x∈t.nodes,B4 x.blk/\Du x.blk.bits) (hb:Du t.bits) (ae:t.nodes.length<=1048576) (d6:B4 b) (bO:Du b.bits) (h0:Rc t b=0):Ret Tryz.prog 19 [C5 t,Fy b] [] n true (Is (Uz t b) [] n) :=
 Ret.freeze (by
  rintro _ _ _ ⟨rfl,rfl,rfl⟩
  exact ⟨Uz t b,FrV.agg _ (iv 0::iv t.nodes.length::Hf (D3 t b)) ⟨.refl _ rfl (fun _ e=>by cases e),.refl _ rfl (fun _ e=>by cases e),.refl _ rfl (fun _ e=>by cases e),a5P (Ae _ _ _) (a2N _) (by simp),trivial⟩,rfl,rfl,rfl⟩) (Zl t b n hf hb ae d6 bO h0)
theorem a4L (t:Br) (b:B7) (n:Nat) (hm:a6a t) (cJ:Uk b):Ret Tryz.prog 4 [C5 t,Fy b] [] n true (fun r _ _=>r=bv true):=by
 have hb:=fun hF:F8 t=>fun x hx=>(⟨hF.nodes x hx,(hm.nodes x hx).bits⟩:B4 x.blk/\Du x.blk.bits)
 by_cases hA:Rc t b=0
 · by_cases h8:t.nodes.length<=8
   · exact a8Q t b n hm cJ (fun n hF hf=>a6r t b n hF hf hA) (fun n hF hf=>Zl t b n (hb hF) hm.bits hF.len hf cJ.bits hA) (fun n hF hf=>a6u t b n (hb hF) hm.bits hF.len hf cJ.bits hA) h8
   · exfalso
     obtain ⟨hz,_⟩:=a2Y hA
     unfold Gt at hz
     split at hz
     · rw [if_pos (by omega)] at hz; cases hz
     · cases hz
 · exact a6t t b _ n hm cJ (fun n hF hf=>a4J t b n hF hf hA) (fun n hF hf=>a4I t b n (hb hF) hm.bits hF.len hf cJ.bits hA)
end Go.Proofs.YtllhgcfacgiabaaGreat
