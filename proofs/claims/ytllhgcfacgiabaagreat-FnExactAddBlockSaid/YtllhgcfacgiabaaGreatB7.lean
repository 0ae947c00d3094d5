import Derived.Test.YtllhgcfacgiabaaGreatR9
import Derived.Test.YtllhgcfacgiabaaGreatR14
import Derived.Test.YtllhgcfacgiabaaGreatR5
namespace Go.Proofs.YtllhgcfacgiabaaGreat
open Go Go.Am Go.RowKit
set_option linter.unusedVariables false
set_option linter.unusedSimpArgs false
def Hy (bits:Int) (xs:List Ar) (b:B7):Int:=if Dn b≠0 then Dn b else match C1 xs b.prev with
 | none=>4
 | some k=>if 8 < xs.length then 2 else K3 bits xs (xs.getD k p0) b
def a6n (xs:List Ar) (b:B7):Int:=match C1 xs b.prev with
 | none=>-2
 | some k=>(k:Int) + -1
theorem Zk {xs:List Ar} {s:Int} {k:Nat} (h:C1 xs s=some k):k < xs.length:=by
 obtain ⟨p,hp,_⟩:=M2.1 h
 exact (List.getElem?_eq_some_iff.1 hp).1
set_option maxHeartbeats 2000000 in
theorem Td (bits:Int) (xs:List Ar) (b:B7) (i j n:Nat) (ah:i≠j) (aj:xs≠[]) (ae:xs.length<=9) (hf:B4 b) (hb:Du b.bits) (aZ:Og xs) :
 ∃ (u:Int) (ys:List Ar),(Hy bits xs b=0->u=a6n xs b)/\∀ n,Ret Tryz.prog 63 [.pt i 0 0,Fy b] (Ks bits i j xs) n false (Is (.tup [iv u,iv (Hy bits xs b)]) (Ks bits i j ys) n):=by
 by_cases h0:Dn b≠0
 · have hC:Hy bits xs b=Dn b:=if_pos h0
   refine ⟨0,xs,fun e=>absurd (hC ▸ e) h0,fun n=>?_⟩
   rw [hC]
   refine Ret.of_run (tt:=tt) Ad Tryz.func63 rfl Tryz.call63 [i,j] [.box [iv bits,.own 1 xs.length],.list 109 5 (xs.map Bd)] [.pt 0 0 0,Fy b] false n _ rfl (Bc ah) (by exact Nat.le_of_ble_eq_true rfl) rfl rfl ?_
   refine Goes ?_
   refine Aa.is (S3 b _ hf hb h0) rfl ?_
   refine Goes ?_;repeat' first|apply W2.m|refine W1.m fun h=>?_
   all_goals first
    | (exfalso; omega)
    | (refine Ab.mk' [] rfl rfl rfl rfl rfl rfl rfl ⟨?_,?_,rfl⟩
       · rfl
       · rfl)
 have hz:Dn b=0:=Decidable.not_not.1 h0
 have cI:=fun n=>Qe b n hf hb hz
 have aJ:=fun i j n ah=>Yr bits b.prev xs i j n ah ae aj
 unfold a3R at aJ
 cases hu:C1 xs b.prev with
 | none =>
   have hC:Hy bits xs b=4:=by unfold Hy; rw [if_neg h0,hu]
   refine ⟨0,xs,fun e=>(by rw [hC] at e; cases e),fun n=>?_⟩
   rw [hC]
   rw [hu] at aJ
   refine Ret.of_run (tt:=tt) Ad Tryz.func63 rfl Tryz.call63 [i,j] [.box [iv bits,.own 1 xs.length],.list 109 5 (xs.map Bd)] [.pt 0 0 0,Fy b] false n _ rfl (Bc ah) (by exact Nat.le_of_ble_eq_true rfl) rfl rfl ?_
   refine Goes ?_
   refine Aa.is (cI _) rfl ?_
   refine Goes ?_
   refine Aa.heapIs (aJ 0 1 _ (by decide)) rfl ktA rfl ?_
   refine Goes ?_
   all_goals first
    | (exfalso; omega)
    | (refine Ab.mk' [] rfl rfl rfl rfl rfl rfl rfl ⟨?_,?_,rfl⟩
       · rfl
       · rfl)
 | some k =>
   have hk:=Zk hu
   rw [hu] at aJ
   by_cases h8:8 < xs.length
   · have hC:Hy bits xs b=2:=by unfold Hy; rw [if_neg h0,hu]; exact if_pos h8
     refine ⟨0,xs,fun e=>(by rw [hC] at e; cases e),fun n=>?_⟩
     rw [hC]
     refine Ret.of_run (tt:=tt) Ad Tryz.func63 rfl Tryz.call63 [i,j] [.box [iv bits,.own 1 xs.length],.list 109 5 (xs.map Bd)] [.pt 0 0 0,Fy b] false n _ rfl (Bc ah) (by exact Nat.le_of_ble_eq_true rfl) rfl rfl ?_
     refine Goes ?_
     refine Aa.is (cI _) rfl ?_
     refine Goes ?_
     refine Aa.heapIs (aJ 0 1 _ (by decide)) rfl ktA rfl ?_
     refine Goes ?_;repeat' first|apply W2.m|refine W1.m fun h=>?_
     all_goals first
      | (exfalso; omega)
      | (refine Ab.mk' [] rfl rfl rfl rfl rfl rfl rfl ⟨?_,?_,rfl⟩
         · rfl
         · rfl)
   · have hg:xs.getD k p0=xs[k]:=by simp [List.getD_eq_getElem?_getD,hk]
     have hC:Hy bits xs b=K3 bits xs xs[k] b:=by unfold Hy; rw [if_neg h0,hu]; dsimp only; rw [if_neg h8,hg]
     obtain ⟨c1,c2,c3⟩:=aZ k _ (List.getElem?_eq_getElem hk)
     have bj:=fun i j n ah=>a61 bits xs k b i j n ah hk ae hf hz c1 ⟨c2,by omega⟩
     refine ⟨(k:Int) + -1,K4 bits xs k xs[k] b,fun _=>by unfold a6n; rw [hu],fun n=>?_⟩
     rw [hC]
     refine Ret.of_run (tt:=tt) Ad Tryz.func63 rfl Tryz.call63 [i,j] [.box [iv bits,.own 1 xs.length],.list 109 5 (xs.map Bd)] [.pt 0 0 0,Fy b] false n _ rfl (Bc ah) (by exact Nat.le_of_ble_eq_true rfl) rfl rfl ?_
     refine Goes ?_
     refine Aa.is (cI _) rfl ?_
     refine Goes ?_
     refine Aa.heapIs (aJ 0 1 _ (by decide)) rfl ktA rfl ?_
     refine Goes ?_;repeat' first|apply W2.m|refine W1.m fun h=>?_
     all_goals try (exfalso; omega)
     refine Aa.heapIs (bj 0 1 _ (by decide)) rfl ktA rfl ?_
     refine Goes ?_
     all_goals first
      | (exfalso; omega)
      | (refine Ab.mk' [] rfl rfl rfl rfl rfl rfl rfl ⟨?_,?_,rfl⟩
         · rfl
         · rfl)
abbrev Pt (c:Int):AV:=.agg [iv c,iv 0,iv 0,nl]
def Rc (t:Br) (b:B7):Int:=if Gt t≠0 then Gt t else Hy t.bits (Cz t) b
abbrev D3 (t:Br) (b:B7):Br:=⟨t.bits,t.nodes++[⟨a6n (Cz t) b,b⟩]⟩
theorem a4I (t:Br) (b:B7) (n:Nat) (hf:∀ x∈t.nodes,B4 x.blk/\Du x.blk.bits) (hb:Du t.bits) (ae:t.nodes.length<=1048576) (d6:B4 b) (bO:Du b.bits) (h0:Rc t b≠0):Ret Tryz.prog 19 [C5 t,Fy b] [] n true (Is (Pt (Rc t b)) [] n):=by
 by_cases hz:Gt t=0
 · have hA:Rc t b=Hy t.bits (Cz t) b:=if_neg (fun e=>e hz)
   rw [hA] at h0 ⊢
   have hu:=(Tc (fun x hx=>(hf x hx).1) hz).2
   have hl:=hu.len
   have h8:=hu.cap
   obtain ⟨u,ys,_,bj⟩:=Td t.bits (Cz t) b 4 3 0 (by decide) (fun e=>by rw [e] at hl; simp at hl) (by omega) d6 bO hu.good.ok
   refine Ret.fn Ad Tryz.func19 rfl Tryz.call19 rfl rfl ?_
   refine Goes ?_
   refine Aa.is (Tb t _ hf hb ae hz) rfl ?_
   refine Goes ?_
   refine Aa.heapIs (bj _) rfl ktA rfl ?_
   refine Goes ?_;repeat' first|apply W2.m|refine W1.m fun h=>?_
   all_goals first
    | (exfalso; omega)
    | (refine Ab.mk' [] rfl rfl rfl rfl rfl rfl rfl ⟨?_,?_,rfl⟩
       · rfl
       · rfl)
 · have hA:Rc t b=Gt t:=if_pos hz
   rw [hA]
   refine Ret.fn Ad Tryz.func19 rfl Tryz.call19 rfl rfl ?_
   refine Goes ?_
   refine Aa.is (a0o t _ hf hb ae hz) rfl ?_
   refine Goes ?_;repeat' first|apply W2.m|refine W1.m fun h=>?_
   all_goals first
    | (exfalso; omega)
    | (refine Ab.mk' [] rfl rfl rfl rfl rfl rfl rfl ⟨?_,?_,rfl⟩
       · rfl
       · rfl)
theorem a2Y {t:Br} {b:B7} (h:Rc t b=0):Gt t=0/\Hy t.bits (Cz t) b=0:=by
 unfold Rc at h
 by_cases hz:Gt t≠0
 · rw [if_pos hz] at h; exact absurd h hz
 · rw [if_neg hz] at h; exact ⟨Decidable.not_not.1 hz,h⟩
theorem a6o {bits:Int} {xs:List Ar} {b:B7} (h:Hy bits xs b=0):xs.length<=8:=by
 unfold Hy at h
 by_cases h0:Dn b≠0
 · rw [if_pos h0] at h; exact absurd h h0
 rw [if_neg h0] at h
 cases hn:C1 xs b.prev with
 | none=>rw [hn] at h; cases h
 | some k =>
   rw [hn] at h
   dsimp only at h
   by_cases h8:8 < xs.length
   · rw [if_pos h8] at h; cases h
   · omega
set_option maxHeartbeats 2000000 in
theorem Zl (t:Br) (b:B7) (n:Nat) (hf:∀ x∈t.nodes,B4 x.blk/\Du x.blk.bits) (hb:Du t.bits) (ae:t.nodes.length<=1048576) (d6:B4 b) (bO:Du b.bits) (h0:Rc t b=0):Ret Tryz.prog 19 [C5 t,Fy b] [] n true (Is (.agg [iv 0,iv t.nodes.length,iv t.bits,.own n (t.nodes.length + 1)]) [Hw n (D3 t b).nodes] (n + 1)):=by
 obtain ⟨hz,hp⟩:=a2Y h0
 have hu:=(Tc (fun x hx=>(hf x hx).1) hz).2
 have hl:=hu.len
 have h8:=hu.cap
 have oe:=a6o hp
 have hL:(t.nodes.map A4).length=t.nodes.length:=by simp
 have hT:F8 t:=⟨ae,fun x hx=>(hf x hx).1⟩
 obtain ⟨u,ys,kn,bj⟩:=Td t.bits (Cz t) b 4 3 0 (by decide) (fun e=>by rw [e] at hl; simp at hl) (by omega) d6 bO hu.good.ok
 rw [hp] at bj
 obtain rfl:=kn hp
 refine Ret.fn Ad Tryz.func19 rfl Tryz.call19 rfl rfl ?_
 refine Goes ?_
 refine Aa.is (Tb t _ hf hb ae hz) rfl ?_
 refine Goes ?_
 refine Aa.heapIs (bj _) rfl ktA rfl ?_
 refine Goes ?_
 refine Aa.is (a2X t _ hT) rfl ?_
 refine Goes ?_
 refine Aa.is (Qg b _ d6) rfl ?_
 refine Goes ?_
 all_goals
  refine ⟨⟨Az,Nat.le_refl 1,by show (t.nodes.length + 1) * 64<=_; omega,by show t.nodes.length + 1<=_; unfold maxLen; omega,fun c hc=>Sx (Ze _ c hc) 5,fun c hc=>by simp only [List.flatten_cons,List.flatten_nil,List.append_nil,List.mem_cons,List.not_mem_nil,or_false] at hc; rcases hc with rfl | rfl | rfl | rfl | rfl | rfl <;> simp [AV.idOf]⟩,?_⟩
  refine Goes ?_
 refine Ab.weak (s':=⟨[(4,.pt 2 0 0)],[(5,.nest (c:=true) 103 6 ((D3 t b).nodes.map Ef)),(2,.box [iv 0,iv (t.nodes.map A4).length,iv t.bits,.own 5 (t.nodes.length + 1)])],6⟩) ?_ ?_
 · refine Ac.plantN 5 _ 6 t.nodes.length 5 7 _ 3 b.txs.length _ _ _ (iv (a6n (Cz t) b)::a2M 7 b) rfl rfl (by simp) ?_ rfl ?_ (Ze _) (Ux _) rfl ⟨⟨rfl,rfl,rfl⟩,trivial⟩ ⟨⟨rfl,rfl⟩,trivial⟩
   · rw [List.take_of_length_le (by simp)]; exact Wc (by simp)
   · rw [List.take_of_length_le (by simp),Wd (by simp),List.map_append]; rfl
 · refine Ab.mk' [5] rfl rfl rfl rfl rfl rfl rfl ⟨?_,?_,rfl⟩
   · rw [hL]; rfl
   · rfl
theorem a1C (zs:List Int) (n:Nat) (hl:zs.length<=1048576):Ret Tryz.prog 205 [il zs] [] n true (Is (il zs) [] n):=Ret.frList (by simp) (Fg zs n hl)
set_option maxHeartbeats 2000000 in
theorem a6p (t:TxD) (n:Nat) (hF:Fits t):Ret Tryz.prog 168 [txV t] [] n true (Is (.agg [iv t.1,.own n t.2.1.length,.own (n + 1) t.2.2.length]) [(n,.list 201 3 (t.2.1.map A3)),(n + 1,.list 203 2 (t.2.2.map Ax))] (n + 2)):=by
 have hI:=hF.ins
 have hO:=hF.outs
 have hL:(t.2.1.map A3).length=t.2.1.length:=by simp
 have ca:(t.2.2.map Ax).length=t.2.2.length:=by simp
 refine Ret.fn Ad Tryz.func168 rfl Tryz.call168 rfl rfl ?_
 refine Goes ?_
 refine Ao.go (fun k:Nat=>k<=t.2.1.length) (fun k=>⟨[(1,.pt 0 0 0),(2,.pt 1 0 0),(3,.pt 2 0 0),(4,iv k)],[(0,.box (txC t)),(1,.box [iv 0,nl,nl]),(2,.box [iv t.1,.own 3 k,.own 4 0]),(3,.list 201 3 ((t.2.1.take k).map A3)),(4,.list 203 2 [])],5⟩) (fun k=>t.2.1.length - k) 0 (Nat.zero_le _) ?_ ?_
 · refine Ac.trans (Ac.of (tm':=[(1,.pt 0 0 0),(2,.pt 1 0 0),(3,.pt 2 0 0),(4,iv (0:Nat))]) (hp':=[(0,.box (txC t)),(1,.box [iv 0,nl,nl]),(2,.box [iv t.1,nl,nl])]) (nx':=3) rfl rfl ⟨⟨rfl,rfl⟩,⟨rfl,rfl⟩,⟨rfl,rfl⟩,⟨rfl,rfl⟩,trivial⟩ ⟨⟨rfl,rfl,rfl⟩,⟨rfl,rfl,rfl⟩,⟨rfl,rfl,rfl⟩,trivial⟩) ?_
   refine Ac.trans (Ac.name 2 1 201 3 _ (by decide) rfl rfl) ?_
   refine Ac.trans (Ac.name 2 2 203 2 _ (by decide) rfl rfl) ?_
   exact (Ac.of rfl rfl ktA ktA)
 intro k hk
 by_cases aa:k < t.2.1.length
 · refine Goes ?_;repeat' first|apply W2.m|refine W1.m fun h=>?_
   all_goals try (exfalso; omega)
   repeat'
    first
     | (rw [A1 A3 t.2.1 k aa]
        refine ⟨by rw [hL]; exact ⟨by omega,by omega,rfl⟩,?_⟩
        refine Goes ?_)
     | (refine B8.is (a1C t.2.1[k].2.2 _ (hF.proofs _ (List.getElem_mem aa))) rfl rfl ?_
        refine Goes ?_)
   refine ⟨⟨by simp; omega,by show (k + 1) * 40<=_; omega,by show k + 1<=_; unfold maxLen; omega,True.intro,fun r hr=>by rw [List.mem_singleton.1 (List.mem_of_mem_take hr)]; rfl⟩,?_⟩
   refine Goes ?_
   refine ⟨k + 1,by omega,by omega,Ac.of rfl rfl ⟨⟨rfl,rfl⟩,⟨rfl,rfl⟩,⟨rfl,rfl⟩,⟨Aw Cm,rfl⟩,trivial⟩ ⟨⟨rfl,rfl,rfl⟩,⟨rfl,rfl,rfl⟩,⟨rfl,rfl,rfl⟩,⟨Ch ?_,rfl,rfl⟩,⟨rfl,rfl,rfl⟩,trivial⟩⟩
   rw [Bo t.2.1 k aa,List.map_append,List.take_of_length_le (by simp; omega)]; rfl
 · obtain rfl:k=t.2.1.length:=by omega
   rw [List.take_length]
   refine Goes ?_;repeat' first|apply W2.m|refine W1.m fun h=>?_
   all_goals try (exfalso; omega)
   refine Ao.go (fun k:Nat=>k<=t.2.2.length) (fun k=>⟨[(1,.pt 0 0 0),(2,.pt 1 0 0),(3,.pt 2 0 0),(5,iv k)],[(0,.box (txC t)),(1,.box [iv 0,nl,nl]),(2,.box [iv t.1,.own 3 t.2.1.length,.own 4 k]),(3,.list 201 3 (t.2.1.map A3)),(4,.list 203 2 ((t.2.2.take k).map Ax))],5⟩) (fun k=>t.2.2.length - k) 0 (Nat.zero_le _) (Ac.of rfl rfl ktA ktA) ?_
   intro k hk
   by_cases aa:k < t.2.2.length
   · refine Goes ?_;repeat' first|apply W2.m|refine W1.m fun h=>?_
     all_goals try (exfalso; omega)
     repeat'
      first
       | (rw [A1 Ax t.2.2 k aa]
          refine ⟨by rw [ca]; exact ⟨by omega,by omega,rfl⟩,?_⟩
          refine Goes ?_)
       | (refine B8.is (a1C t.2.2[k].2 _ (hF.locks _ (List.getElem_mem aa))) rfl rfl ?_
          refine Goes ?_)
     refine ⟨⟨by simp; omega,by show (k + 1) * 32<=_; omega,by show k + 1<=_; unfold maxLen; omega,True.intro,fun r hr=>by rw [List.mem_singleton.1 (List.mem_of_mem_take hr)]; rfl⟩,?_⟩
     refine Goes ?_
     refine ⟨k + 1,by omega,by omega,Ac.of rfl rfl ⟨⟨rfl,rfl⟩,⟨rfl,rfl⟩,⟨rfl,rfl⟩,⟨Aw Cm,rfl⟩,trivial⟩ ⟨⟨rfl,rfl,rfl⟩,⟨rfl,rfl,rfl⟩,⟨rfl,rfl,rfl⟩,⟨rfl,rfl,rfl⟩,⟨Ch ?_,rfl,rfl⟩,trivial⟩⟩
     rw [Bo t.2.2 k aa,List.map_append,List.take_of_length_le (by simp; omega)]; rfl
   · obtain rfl:k=t.2.2.length:=by omega
     rw [List.take_length]
     refine Goes ?_;repeat' first|apply W2.m|refine W1.m fun h=>?_
     all_goals try (exfalso; omega)
     refine Ab.mk' [3,4] rfl rfl rfl rfl rfl rfl rfl ⟨?_,?_,rfl⟩
     · rfl
     · rfl
theorem a8N (t:TxD) (n:Nat) (hF:Fits t):Ret Tryz.prog 168 [txV t] [] n true (Is (txV t) [] n) :=
 Ret.freeze (by
  rintro _ _ _ ⟨rfl,rfl,rfl⟩
  exact ⟨txV t,FrV.agg _ (txC t) ⟨.refl _ rfl (fun _ e=>by cases e),Vg (Ae _ _ _) (by simp),Vg ((An _ _ (by omega)).trans (Ae _ _ _)) (by simp),trivial⟩,rfl,rfl,rfl⟩) (a6p t n hF)
theorem a8O (xs:List TxD) (n:Nat) (hl:xs.length<=1048576) (hx:∀ x∈xs,Fits x):Ret Tryz.prog 148 [Im xs] [] n true (Is (.own n xs.length) [(n,.list 133 3 (xs.map txC))] (n + 1)):=by
 have hL:(xs.map txC).length=xs.length:=by simp
 refine Ret.fn Ad Tryz.func148 rfl Tryz.call148 rfl rfl ?_
 refine Goes ?_
 refine Ao.go (fun k:Nat=>k<=xs.length) (fun k=>⟨[(0,Im xs),(3,.own 0 k),(4,iv k)],[(0,.list 133 3 ((xs.take k).map txC))],1⟩) (fun k=>xs.length - k) 0 (Nat.zero_le _) (Ac.of rfl rfl ktA ktA) ?_
 intro k hk
 by_cases aa:k < xs.length
 · refine Goes ?_;repeat' first|apply W2.m|refine W1.m fun h=>?_
   all_goals try (exfalso; omega)
   rw [A1 txC xs k aa]
   refine ⟨by rw [hL]; exact ⟨by omega,by omega,rfl⟩,?_⟩
   refine Goes ?_
   refine Aa.is (a8N xs[k] _ (hx _ (List.getElem_mem aa))) rfl ?_
   refine Goes ?_
   refine ⟨⟨by simp; omega,by show (k + 1) * 56<=_; omega,by show k + 1<=_; unfold maxLen; omega,Nat.le_refl 1,fun r hr=>by rw [List.mem_singleton.1 (List.mem_of_mem_take hr)]; rfl⟩,?_⟩
   refine Goes ?_
   refine ⟨k + 1,by omega,by omega,Ac.of rfl rfl ⟨⟨rfl,rfl⟩,⟨rfl,rfl⟩,⟨Aw Cm,rfl⟩,trivial⟩ ⟨⟨Ch ?_,rfl,rfl⟩,trivial⟩⟩
   rw [Bo xs k aa,List.map_append,List.take_of_length_le (by simp; omega)]; rfl
 · obtain rfl:k=xs.length:=by omega
   rw [List.take_length]
   refine Goes ?_;repeat' first|apply W2.m|refine W1.m fun h=>?_
   all_goals try (exfalso; omega)
   refine Ab.mk' [0] rfl rfl rfl rfl rfl rfl rfl ⟨?_,?_,rfl⟩
   · rfl
   · rfl
theorem b0w (xs:List TxD) (n:Nat) (hl:xs.length<=1048576) (hx:∀ x∈xs,Fits x):Ret Tryz.prog 148 [Im xs] [] n true (Is (Im xs) [] n):=Ret.frList (by simp) (a8O xs n hl hx)
theorem Oj (b:B7) (n:Nat) (hf:B4 b):Ret Tryz.prog 98 [Fy b] [] n true (Is (Fy b) [] n):=by
 refine Ret.fn Ad Tryz.func98 rfl Tryz.call98 rfl rfl ?_
 refine Goes ?_
 refine Aa.is (b0w b.txs _ hf.len hf.txs) rfl ?_
 refine Goes ?_
 refine Ab.pure rfl rfl rfl ⟨?_,rfl,rfl⟩
 rfl
end Go.Proofs.YtllhgcfacgiabaaGreat
