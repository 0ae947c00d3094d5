import Derived.Test.YtllhgcfacgiabaaGreatP3
namespace Go.Proofs.YtllhgcfacgiabaaGreat
open Go Go.Am Go.RowKit
set_option linter.unusedVariables false
set_option linter.unusedSimpArgs false
def E5 (i j:Nat) (t u:Int) (n:Nat) (x:Int × List Int):AV->Hp->Nat->Prop:=fun r ho m=>∃ s' e',r=iv x.1/\ho=mh i j s' e' t u/\m=n/\(x.1=0->s'=x.2)
theorem Ee {op:Int} {s:List Int} {t u:Int} (h:s.length < Cp op):step2 op s t u=(4,[]):=by unfold step2; rw [if_pos h]
theorem Ip {op:Int} (r:List Int) (x t u:Int) (h:Cp op=1):R8 op (r++[x]) t u=Gb op r x u:=by
 unfold R8
 rw [if_neg (by omega),if_pos h]
 have e1:(r++[x]).length - 1=r.length:=by simp
 rw [e1,List.take_left' rfl]
 simp [List.getD_eq_getElem?_getD]
theorem J7 {op:Int} (r:List Int) (y x t u:Int) (h:Cp op=2):R8 op (r++[y]++[x]) t u=Ii op r y x t:=by
 unfold R8
 rw [if_neg (by omega),if_neg (by omega)]
 have e1:(r++[y]++[x]).length - 1=(r++[y]).length:=by simp
 have e2:(r++[y]++[x]).length - 2=r.length:=by simp
 rw [e1,e2]
 have e3:(r++[y]++[x]).take r.length=r:=by rw [List.append_assoc,List.take_left' rfl]
 rw [e3]
 simp [List.getD_eq_getElem?_getD]
theorem a8l (i j n:Nat) (ah:i≠j) (s e:List Int) (op t u:Int) (hl:s.length<=8) (ho:100<=op/\op<=1099) :
 Ret Tryz.prog 268 [.pt i 0 0,iv op] (mh i j s e t u) n false (E5 i j t u n (step2 op s t u)):=by
 refine Ret.of_run (tt:=tt) Ad Tryz.func268 rfl Tryz.call268 [i,j] [.box [.own 1 (s).length,iv t,iv u],.list 2 1 (ivs ((s)++(e)))] [.pt 0 0 0,iv op] false n _ rfl (Bc ah) (by exact Nat.le_of_ble_eq_true rfl) rfl rfl ?_
 refine Goes ?_
 have hk:Eh op=1:=by unfold Eh; (repeat' split) <;> omega
 have hn:Cp op=0:=by unfold Cp; rw [if_neg (by omega),if_neg (by omega)]
 have ak:step2 op s t u=if s.length=8 then (10,[]) else (0,s++[op - 100]):=by
  unfold step2 R8
  rw [hn,if_neg (by omega),if_pos rfl]
  simp only [List.length_append,List.length_cons,List.length_nil,true_and]
  split <;> split <;> first | rfl | omega
 have aK:=Bm op
 rw [hk] at aK
 refine Aa.is (aK _) rfl ?_
 refine Goes ?_
 by_cases h8:s.length=8
 · have hf:=A6 0 1 2 (by decide) s e 1 t u hl (by decide)
   rw [show Bj 1 s.length=10 from by simp [Bj,h8]] at hf
   refine Aa.heapIs (hf) rfl ktA rfl ?_
   refine Goes ?_
   rw [ak,if_pos h8]
   exact Ab.mk' [] rfl rfl rfl rfl rfl rfl rfl ⟨s,e,rfl,rfl,rfl,fun h=>by cases h⟩
 · have hf:=A6 0 1 2 (by decide) s e 1 t u hl (by decide)
   rw [show Bj 1 s.length=0 from by simp [Bj,h8]] at hf
   refine Aa.heapIs (hf) rfl ktA rfl ?_
   refine Goes ?_
   rw [IntWalk.i64_in (op - 100) (by omega)]
   refine Aa.heapIs (G7 0 1 _ (by decide) (s) (e) (op - 100) t u (Az)) rfl ktA rfl ?_
   refine Goes ?_
   rw [ak,if_neg h8]
   exact Ab.mk' [] rfl rfl rfl rfl rfl rfl rfl ⟨s++[op - 100],[],rfl,rfl,rfl,fun _=>rfl⟩
theorem Ji {op:Int} {s:List Int} {t u:Int} {r:Int × List Int} (h:¬ s.length < Cp op) (ho:R8 op s t u=r):step2 op s t u=if r.1=0/\8 < r.2.length then (10,[]) else r:=by
 unfold step2; rw [if_neg h,ho]
theorem E2 {op:Int} {s:List Int} {t u:Int} {r:Int × List Int} (h:¬ s.length < Cp op) (ho:R8 op s t u=r) (hf:¬ (r.1=0/\8 < r.2.length)):step2 op s t u=r:=by
 rw [Ji h ho,if_neg hf]
theorem Cq {i j n:Nat} {t u:Int} {x:Int × List Int} {s' e':List Int} {c:Int} {l:List Int} (h:x=(c,l)) (hs:c=0->s'=l):E5 i j t u n x (iv c) (mh i j s' e' t u) n:=by
 subst h; exact ⟨s',e',rfl,rfl,rfl,hs⟩
theorem a8m (i j n:Nat) (ah:i≠j) (s e:List Int) (t u:Int) (hl:s.length < 1) :
 Ret Tryz.prog 268 [.pt i 0 0,iv 1] (mh i j s e t u) n false (E5 i j t u n (step2 1 s t u)):=by
 have dx:s.length<=8:=by omega
 refine Ret.of_run (tt:=tt) Ad Tryz.func268 rfl Tryz.call268 [i,j] [.box [.own 1 (s).length,iv t,iv u],.list 2 1 (ivs ((s)++(e)))] [.pt 0 0 0,iv 1] false n _ rfl (Bc ah) (by exact Nat.le_of_ble_eq_true rfl) rfl rfl ?_
 refine Goes ?_
 have aK:=Bm 1
 rw [show Eh 1=2 from rfl] at aK
 refine Aa.is (aK _) rfl ?_
 refine Goes ?_
 have hf:=A6 0 1 2 (by decide) s e 2 t u dx (by decide)
 rw [show Bj 2 s.length=4 from by unfold Bj; (repeat' split) <;> omega] at hf
 refine Aa.heapIs (hf) rfl ktA rfl ?_
 refine Goes ?_
 exact Ab.mk' [] rfl rfl rfl rfl rfl rfl rfl (Cq (Ee (by show _ < 1; exact hl)) (fun h=>by cases h))
theorem a8n (i j n:Nat) (ah:i≠j) (s e:List Int) (t u:Int) (hl:s.length < 1) :
 Ret Tryz.prog 268 [.pt i 0 0,iv 2] (mh i j s e t u) n false (E5 i j t u n (step2 2 s t u)):=by
 have dx:s.length<=8:=by omega
 refine Ret.of_run (tt:=tt) Ad Tryz.func268 rfl Tryz.call268 [i,j] [.box [.own 1 (s).length,iv t,iv u],.list 2 1 (ivs ((s)++(e)))] [.pt 0 0 0,iv 2] false n _ rfl (Bc ah) (by exact Nat.le_of_ble_eq_true rfl) rfl rfl ?_
 refine Goes ?_
 have aK:=Bm 2
 rw [show Eh 2=3 from rfl] at aK
 refine Aa.is (aK _) rfl ?_
 refine Goes ?_
 have hf:=A6 0 1 2 (by decide) s e 3 t u dx (by decide)
 rw [show Bj 3 s.length=4 from by unfold Bj; (repeat' split) <;> omega] at hf
 refine Aa.heapIs (hf) rfl ktA rfl ?_
 refine Goes ?_
 exact Ab.mk' [] rfl rfl rfl rfl rfl rfl rfl (Cq (Ee (by show _ < 1; exact hl)) (fun h=>by cases h))
theorem a8o (i j n:Nat) (ah:i≠j) (s e:List Int) (t u:Int) (hl:s.length < 1) :
 Ret Tryz.prog 268 [.pt i 0 0,iv 6] (mh i j s e t u) n false (E5 i j t u n (step2 6 s t u)):=by
 have dx:s.length<=8:=by omega
 refine Ret.of_run (tt:=tt) Ad Tryz.func268 rfl Tryz.call268 [i,j] [.box [.own 1 (s).length,iv t,iv u],.list 2 1 (ivs ((s)++(e)))] [.pt 0 0 0,iv 6] false n _ rfl (Bc ah) (by exact Nat.le_of_ble_eq_true rfl) rfl rfl ?_
 refine Goes ?_
 have aK:=Bm 6
 rw [show Eh 6=3 from rfl] at aK
 refine Aa.is (aK _) rfl ?_
 refine Goes ?_
 have hf:=A6 0 1 2 (by decide) s e 3 t u dx (by decide)
 rw [show Bj 3 s.length=4 from by unfold Bj; (repeat' split) <;> omega] at hf
 refine Aa.heapIs (hf) rfl ktA rfl ?_
 refine Goes ?_
 exact Ab.mk' [] rfl rfl rfl rfl rfl rfl rfl (Cq (Ee (by show _ < 1; exact hl)) (fun h=>by cases h))
theorem a8p (i j n:Nat) (ah:i≠j) (s e:List Int) (t u:Int) (hl:s.length < 1) :
 Ret Tryz.prog 268 [.pt i 0 0,iv 7] (mh i j s e t u) n false (E5 i j t u n (step2 7 s t u)):=by
 have dx:s.length<=8:=by omega
 refine Ret.of_run (tt:=tt) Ad Tryz.func268 rfl Tryz.call268 [i,j] [.box [.own 1 (s).length,iv t,iv u],.list 2 1 (ivs ((s)++(e)))] [.pt 0 0 0,iv 7] false n _ rfl (Bc ah) (by exact Nat.le_of_ble_eq_true rfl) rfl rfl ?_
 refine Goes ?_
 have aK:=Bm 7
 rw [show Eh 7=3 from rfl] at aK
 refine Aa.is (aK _) rfl ?_
 refine Goes ?_
 have hf:=A6 0 1 2 (by decide) s e 3 t u dx (by decide)
 rw [show Bj 3 s.length=4 from by unfold Bj; (repeat' split) <;> omega] at hf
 refine Aa.heapIs (hf) rfl ktA rfl ?_
 refine Goes ?_
 exact Ab.mk' [] rfl rfl rfl rfl rfl rfl rfl (Cq (Ee (by show _ < 1; exact hl)) (fun h=>by cases h))
theorem a8q (i j n:Nat) (ah:i≠j) (s e:List Int) (t u:Int) (hl:s.length < 1) :
 Ret Tryz.prog 268 [.pt i 0 0,iv 9] (mh i j s e t u) n false (E5 i j t u n (step2 9 s t u)):=by
 have dx:s.length<=8:=by omega
 refine Ret.of_run (tt:=tt) Ad Tryz.func268 rfl Tryz.call268 [i,j] [.box [.own 1 (s).length,iv t,iv u],.list 2 1 (ivs ((s)++(e)))] [.pt 0 0 0,iv 9] false n _ rfl (Bc ah) (by exact Nat.le_of_ble_eq_true rfl) rfl rfl ?_
 refine Goes ?_
 have aK:=Bm 9
 rw [show Eh 9=3 from rfl] at aK
 refine Aa.is (aK _) rfl ?_
 refine Goes ?_
 have hf:=A6 0 1 2 (by decide) s e 3 t u dx (by decide)
 rw [show Bj 3 s.length=4 from by unfold Bj; (repeat' split) <;> omega] at hf
 refine Aa.heapIs (hf) rfl ktA rfl ?_
 refine Goes ?_
 exact Ab.mk' [] rfl rfl rfl rfl rfl rfl rfl (Cq (Ee (by show _ < 1; exact hl)) (fun h=>by cases h))
theorem a1i (i j n:Nat) (ah:i≠j) (s e:List Int) (t u:Int) (hl:s.length < 2) :
 Ret Tryz.prog 268 [.pt i 0 0,iv 3] (mh i j s e t u) n false (E5 i j t u n (step2 3 s t u)):=by
 have dx:s.length<=8:=by omega
 refine Ret.of_run (tt:=tt) Ad Tryz.func268 rfl Tryz.call268 [i,j] [.box [.own 1 (s).length,iv t,iv u],.list 2 1 (ivs ((s)++(e)))] [.pt 0 0 0,iv 3] false n _ rfl (Bc ah) (by exact Nat.le_of_ble_eq_true rfl) rfl rfl ?_
 refine Goes ?_
 have aK:=Bm 3
 rw [show Eh 3=4 from rfl] at aK
 refine Aa.is (aK _) rfl ?_
 refine Goes ?_
 have hf:=A6 0 1 2 (by decide) s e 4 t u dx (by decide)
 rw [show Bj 4 s.length=4 from by unfold Bj; (repeat' split) <;> omega] at hf
 refine Aa.heapIs (hf) rfl ktA rfl ?_
 refine Goes ?_
 exact Ab.mk' [] rfl rfl rfl rfl rfl rfl rfl (Cq (Ee (by show _ < 2; exact hl)) (fun h=>by cases h))
theorem a1j (i j n:Nat) (ah:i≠j) (s e:List Int) (t u:Int) (hl:s.length < 2) :
 Ret Tryz.prog 268 [.pt i 0 0,iv 4] (mh i j s e t u) n false (E5 i j t u n (step2 4 s t u)):=by
 have dx:s.length<=8:=by omega
 refine Ret.of_run (tt:=tt) Ad Tryz.func268 rfl Tryz.call268 [i,j] [.box [.own 1 (s).length,iv t,iv u],.list 2 1 (ivs ((s)++(e)))] [.pt 0 0 0,iv 4] false n _ rfl (Bc ah) (by exact Nat.le_of_ble_eq_true rfl) rfl rfl ?_
 refine Goes ?_
 have aK:=Bm 4
 rw [show Eh 4=4 from rfl] at aK
 refine Aa.is (aK _) rfl ?_
 refine Goes ?_
 have hf:=A6 0 1 2 (by decide) s e 4 t u dx (by decide)
 rw [show Bj 4 s.length=4 from by unfold Bj; (repeat' split) <;> omega] at hf
 refine Aa.heapIs (hf) rfl ktA rfl ?_
 refine Goes ?_
 exact Ab.mk' [] rfl rfl rfl rfl rfl rfl rfl (Cq (Ee (by show _ < 2; exact hl)) (fun h=>by cases h))
theorem a1k (i j n:Nat) (ah:i≠j) (s e:List Int) (t u:Int) (hl:s.length < 2) :
 Ret Tryz.prog 268 [.pt i 0 0,iv 5] (mh i j s e t u) n false (E5 i j t u n (step2 5 s t u)):=by
 have dx:s.length<=8:=by omega
 refine Ret.of_run (tt:=tt) Ad Tryz.func268 rfl Tryz.call268 [i,j] [.box [.own 1 (s).length,iv t,iv u],.list 2 1 (ivs ((s)++(e)))] [.pt 0 0 0,iv 5] false n _ rfl (Bc ah) (by exact Nat.le_of_ble_eq_true rfl) rfl rfl ?_
 refine Goes ?_
 have aK:=Bm 5
 rw [show Eh 5=4 from rfl] at aK
 refine Aa.is (aK _) rfl ?_
 refine Goes ?_
 have hf:=A6 0 1 2 (by decide) s e 4 t u dx (by decide)
 rw [show Bj 4 s.length=4 from by unfold Bj; (repeat' split) <;> omega] at hf
 refine Aa.heapIs (hf) rfl ktA rfl ?_
 refine Goes ?_
 exact Ab.mk' [] rfl rfl rfl rfl rfl rfl rfl (Cq (Ee (by show _ < 2; exact hl)) (fun h=>by cases h))
theorem a1l (i j n:Nat) (ah:i≠j) (s e:List Int) (t u:Int) (hl:s.length < 2) :
 Ret Tryz.prog 268 [.pt i 0 0,iv 8] (mh i j s e t u) n false (E5 i j t u n (step2 8 s t u)):=by
 have dx:s.length<=8:=by omega
 refine Ret.of_run (tt:=tt) Ad Tryz.func268 rfl Tryz.call268 [i,j] [.box [.own 1 (s).length,iv t,iv u],.list 2 1 (ivs ((s)++(e)))] [.pt 0 0 0,iv 8] false n _ rfl (Bc ah) (by exact Nat.le_of_ble_eq_true rfl) rfl rfl ?_
 refine Goes ?_
 have aK:=Bm 8
 rw [show Eh 8=4 from rfl] at aK
 refine Aa.is (aK _) rfl ?_
 refine Goes ?_
 have hf:=A6 0 1 2 (by decide) s e 4 t u dx (by decide)
 rw [show Bj 4 s.length=4 from by unfold Bj; (repeat' split) <;> omega] at hf
 refine Aa.heapIs (hf) rfl ktA rfl ?_
 refine Goes ?_
 exact Ab.mk' [] rfl rfl rfl rfl rfl rfl rfl (Cq (Ee (by show _ < 2; exact hl)) (fun h=>by cases h))
theorem a8r (i j n:Nat) (ah:i≠j) (s e:List Int) (x t u:Int) (h8:s.length + 1=8) :
 Ret Tryz.prog 268 [.pt i 0 0,iv 1] (mh i j (s++[x]) e t u) n false (E5 i j t u n (step2 1 (s++[x]) t u)):=by
 have hl:(s++[x]).length<=8:=by simp; omega
 have fD:(s++[x]).length=8:=by simp; omega
 have ho:=Ip (op:=1) s x t u rfl
 refine Ret.of_run (tt:=tt) Ad Tryz.func268 rfl Tryz.call268 [i,j] [.box [.own 1 (s++[x]).length,iv t,iv u],.list 2 1 (ivs ((s++[x])++(e)))] [.pt 0 0 0,iv 1] false n _ rfl (Bc ah) (by exact Nat.le_of_ble_eq_true rfl) rfl rfl ?_
 refine Goes ?_
 have aK:=Bm 1
 rw [show Eh 1=2 from rfl] at aK
 refine Aa.is (aK _) rfl ?_
 refine Goes ?_
 have hf:=A6 0 1 2 (by decide) (s++[x]) (e) 2 t u hl (by decide)
 rw [show Bj 2 (s++[x]).length=10 from by unfold Bj; rw [fD]; rfl] at hf
 refine Aa.heapIs (hf) rfl ktA rfl ?_
 refine Goes ?_
 refine Ab.mk' [] rfl rfl rfl rfl rfl rfl rfl (Cq (l:=[]) ?_ (fun h=>by cases h))
 rw [Ji (by rw [fD]; decide) ho,if_pos (by refine ⟨rfl,?_⟩; simp [Gb]; omega)]
theorem b0d (i j n:Nat) (ah:i≠j) (s e:List Int) (x t u:Int) (hl:(s++[x]).length<=8) (h8:¬ s.length + 1=8) :
 Ret Tryz.prog 268 [.pt i 0 0,iv 1] (mh i j (s++[x]) e t u) n false (E5 i j t u n (step2 1 (s++[x]) t u)):=by
 have fY:s.length + 1<=8:=by simpa using hl
 have ho:=Ip (op:=1) s x t u rfl
 refine Ret.of_run (tt:=tt) Ad Tryz.func268 rfl Tryz.call268 [i,j] [.box [.own 1 (s++[x]).length,iv t,iv u],.list 2 1 (ivs ((s++[x])++(e)))] [.pt 0 0 0,iv 1] false n _ rfl (Bc ah) (by exact Nat.le_of_ble_eq_true rfl) rfl rfl ?_
 refine Goes ?_
 have aK:=Bm 1
 rw [show Eh 1=2 from rfl] at aK
 refine Aa.is (aK _) rfl ?_
 refine Goes ?_
 have hf:=A6 0 1 2 (by decide) (s++[x]) (e) 2 t u hl (by decide)
 rw [show Bj 2 (s++[x]).length=0 from by unfold Bj; simp only [List.length_append,List.length_cons,List.length_nil]; (repeat' split) <;> omega] at hf
 refine Aa.heapIs (hf) rfl ktA rfl ?_
 refine Goes ?_
 refine Aa.is (Cl _) rfl ?_
 refine Goes ?_
 refine Aa.heapIs (b0M 0 1 _ (by decide) s e x t u (by omega)) rfl ktA rfl ?_
 refine Goes ?_
 refine Ab.mk' [] rfl rfl rfl rfl rfl rfl rfl (Cq (l:=s++[x]++[x]) ?_ (fun _=>rfl))
 rw [E2 (by simp [Cp]) ho (by simp [Gb]; omega)]
 simp [Gb]
theorem a8s (i j n:Nat) (ah:i≠j) (s e:List Int) (x t u:Int) (hl:(s++[x]).length<=8) :
 Ret Tryz.prog 268 [.pt i 0 0,iv 2] (mh i j (s++[x]) e t u) n false (E5 i j t u n (step2 2 (s++[x]) t u)):=by
 have fY:s.length + 1<=8:=by simpa using hl
 have ho:=Ip (op:=2) s x t u rfl
 refine Ret.of_run (tt:=tt) Ad Tryz.func268 rfl Tryz.call268 [i,j] [.box [.own 1 (s++[x]).length,iv t,iv u],.list 2 1 (ivs ((s++[x])++(e)))] [.pt 0 0 0,iv 2] false n _ rfl (Bc ah) (by exact Nat.le_of_ble_eq_true rfl) rfl rfl ?_
 refine Goes ?_
 have aK:=Bm 2
 rw [show Eh 2=3 from rfl] at aK
 refine Aa.is (aK _) rfl ?_
 refine Goes ?_
 have hf:=A6 0 1 2 (by decide) (s++[x]) (e) 3 t u hl (by decide)
 rw [show Bj 3 (s++[x]).length=0 from by unfold Bj; simp only [List.length_append,List.length_cons,List.length_nil]; (repeat' split) <;> omega] at hf
 refine Aa.heapIs (hf) rfl ktA rfl ?_
 refine Goes ?_
 refine Aa.is (Cl _) rfl ?_
 refine Goes ?_
 refine Aa.heapIs (a9w 0 1 _ (by decide) s e x t u (by omega)) rfl ktA rfl ?_
 refine Goes ?_
 refine Ab.mk' [] rfl rfl rfl rfl rfl rfl rfl (Cq (l:=s) ?_ (fun _=>rfl))
 rw [E2 (by simp [Cp]) ho (by simp [Gb]; omega)]
 simp [Gb]
theorem a3Y (i j n:Nat) (ah:i≠j) (s e:List Int) (x t u:Int) (hl:(s++[x]).length<=8) :
 Ret Tryz.prog 268 [.pt i 0 0,iv 6] (mh i j (s++[x]) e t u) n false (E5 i j t u n (step2 6 (s++[x]) t u)):=by
 have fY:s.length + 1<=8:=by simpa using hl
 have ho:=Ip (op:=6) s x t u rfl
 refine Ret.of_run (tt:=tt) Ad Tryz.func268 rfl Tryz.call268 [i,j] [.box [.own 1 (s++[x]).length,iv t,iv u],.list 2 1 (ivs ((s++[x])++(e)))] [.pt 0 0 0,iv 6] false n _ rfl (Bc ah) (by exact Nat.le_of_ble_eq_true rfl) rfl rfl ?_
 refine Goes ?_
 have aK:=Bm 6
 rw [show Eh 6=3 from rfl] at aK
 refine Aa.is (aK _) rfl ?_
 refine Goes ?_
 have hf:=A6 0 1 2 (by decide) (s++[x]) (e) 3 t u hl (by decide)
 rw [show Bj 3 (s++[x]).length=0 from by unfold Bj; simp only [List.length_append,List.length_cons,List.length_nil]; (repeat' split) <;> omega] at hf
 refine Aa.heapIs (hf) rfl ktA rfl ?_
 refine Goes ?_
 refine Aa.is (Cl _) rfl ?_
 refine Goes ?_
 refine Aa.heapIs (a5p 0 1 _ (by decide) s e x t u (by omega)) rfl ktA rfl ?_
 refine Goes ?_
 refine Ab.mk' [] rfl rfl rfl rfl rfl rfl rfl (Cq (l:=if x=0 then [] else s) ?_ ?_)
 · rw [E2 (by simp [Cp]) ho (by by_cases hx:x=0 <;> simp [Gb,hx]; omega)]
   by_cases hx:x=0 <;> simp [Gb,hx]
 · intro h
   by_cases hx:x=0
   · rw [if_pos hx] at h; cases h
   · rw [if_neg hx]
theorem b0e (i j n:Nat) (ah:i≠j) (s e:List Int) (x t u:Int) (hl:(s++[x]).length<=8) (hx:inR 0 9999 x) :
 Ret Tryz.prog 268 [.pt i 0 0,iv 7] (mh i j (s++[x]) e t u) n false (E5 i j t u n (step2 7 (s++[x]) t u)):=by
 have fY:s.length + 1<=8:=by simpa using hl
 have ho:=Ip (op:=7) s x t u rfl
 refine Ret.of_run (tt:=tt) Ad Tryz.func268 rfl Tryz.call268 [i,j] [.box [.own 1 (s++[x]).length,iv t,iv u],.list 2 1 (ivs ((s++[x])++(e)))] [.pt 0 0 0,iv 7] false n _ rfl (Bc ah) (by exact Nat.le_of_ble_eq_true rfl) rfl rfl ?_
 refine Goes ?_
 have aK:=Bm 7
 rw [show Eh 7=3 from rfl] at aK
 refine Aa.is (aK _) rfl ?_
 refine Goes ?_
 have hf:=A6 0 1 2 (by decide) (s++[x]) (e) 3 t u hl (by decide)
 rw [show Bj 3 (s++[x]).length=0 from by unfold Bj; simp only [List.length_append,List.length_cons,List.length_nil]; (repeat' split) <;> omega] at hf
 refine Aa.heapIs (hf) rfl ktA rfl ?_
 refine Goes ?_
 refine Aa.is (Cl _) rfl ?_
 refine Goes ?_
 refine Aa.heapIs (b0O 0 1 _ (by decide) s e x t u (by omega) hx) rfl ktA rfl ?_
 refine Goes ?_
 refine Ab.mk' [] rfl rfl rfl rfl rfl rfl rfl (Cq (l:=s++[Mo [x] % 1000]) ?_ (fun _=>rfl))
 rw [E2 (by simp [Cp]) ho (by simp [Gb]; omega)]
 simp [Gb]
theorem a5U (i j n:Nat) (ah:i≠j) (s e:List Int) (x t u:Int) (hl:(s++[x]).length<=8) :
 Ret Tryz.prog 268 [.pt i 0 0,iv 9] (mh i j (s++[x]) e t u) n false (E5 i j t u n (step2 9 (s++[x]) t u)):=by
 have fY:s.length + 1<=8:=by simpa using hl
 have ho:=Ip (op:=9) s x t u rfl
 refine Ret.of_run (tt:=tt) Ad Tryz.func268 rfl Tryz.call268 [i,j] [.box [.own 1 (s++[x]).length,iv t,iv u],.list 2 1 (ivs ((s++[x])++(e)))] [.pt 0 0 0,iv 9] false n _ rfl (Bc ah) (by exact Nat.le_of_ble_eq_true rfl) rfl rfl ?_
 refine Goes ?_
 have aK:=Bm 9
 rw [show Eh 9=3 from rfl] at aK
 refine Aa.is (aK _) rfl ?_
 refine Goes ?_
 have hf:=A6 0 1 2 (by decide) (s++[x]) (e) 3 t u hl (by decide)
 rw [show Bj 3 (s++[x]).length=0 from by unfold Bj; simp only [List.length_append,List.length_cons,List.length_nil]; (repeat' split) <;> omega] at hf
 refine Aa.heapIs (hf) rfl ktA rfl ?_
 refine Goes ?_
 refine Aa.is (Cl _) rfl ?_
 refine Goes ?_
 refine Aa.heapIs (a7L 0 1 _ (by decide) s e x t u (by omega)) rfl ktA rfl ?_
 refine Goes ?_
 refine Ab.mk' [] rfl rfl rfl rfl rfl rfl rfl (Cq (l:=if u < x then [] else s) ?_ ?_)
 · rw [E2 (by simp [Cp]) ho (by by_cases hx:u < x <;> simp [Gb,hx]; omega)]
   by_cases hx:u < x <;> simp [Gb,hx]
 · intro h
   by_cases hx:u < x
   · rw [if_pos hx] at h; cases h
   · rw [if_neg hx]
theorem a8t (i j n:Nat) (ah:i≠j) (s e:List Int) (y x t u:Int) (hl:(s++[y]++[x]).length<=8) :
 Ret Tryz.prog 268 [.pt i 0 0,iv 3] (mh i j (s++[y]++[x]) e t u) n false (E5 i j t u n (step2 3 (s++[y]++[x]) t u)):=by
 have fY:s.length + 2<=8:=by simpa using hl
 have ho:=J7 (op:=3) s y x t u rfl
 refine Ret.of_run (tt:=tt) Ad Tryz.func268 rfl Tryz.call268 [i,j] [.box [.own 1 (s++[y]++[x]).length,iv t,iv u],.list 2 1 (ivs ((s++[y]++[x])++(e)))] [.pt 0 0 0,iv 3] false n _ rfl (Bc ah) (by exact Nat.le_of_ble_eq_true rfl) rfl rfl ?_
 refine Goes ?_
 have aK:=Bm 3
 rw [show Eh 3=4 from rfl] at aK
 refine Aa.is (aK _) rfl ?_
 refine Goes ?_
 have hf:=A6 0 1 2 (by decide) (s++[y]++[x]) (e) 4 t u hl (by decide)
 rw [show Bj 4 (s++[y]++[x]).length=0 from by unfold Bj; simp only [List.length_append,List.length_cons,List.length_nil]; (repeat' split) <;> omega] at hf
 refine Aa.heapIs (hf) rfl ktA rfl ?_
 refine Goes ?_
 refine Aa.is (Cl _) rfl ?_
 refine Goes ?_
 refine Aa.heapIs (a9x 0 1 _ (by decide) s e y x t u (by omega)) rfl ktA rfl ?_
 refine Goes ?_
 refine Ab.mk' [] rfl rfl rfl rfl rfl rfl rfl (Cq (l:=s++[x]++[y]) ?_ (fun _=>rfl))
 rw [E2 (by simp [Cp]) ho (by simp [Ii]; omega)]
 simp [Ii]
theorem a8u (i j n:Nat) (ah:i≠j) (s e:List Int) (y x t u:Int) (hl:(s++[y]++[x]).length<=8) (hx:inR 0 9999 x) (hy:inR 0 9999 y) (hs:¬ 9999 < x + y) :
 Ret Tryz.prog 268 [.pt i 0 0,iv 4] (mh i j (s++[y]++[x]) e t u) n false (E5 i j t u n (step2 4 (s++[y]++[x]) t u)):=by
 have fY:s.length + 2<=8:=by simpa using hl
 have ho:=J7 (op:=4) s y x t u rfl
 refine Ret.of_run (tt:=tt) Ad Tryz.func268 rfl Tryz.call268 [i,j] [.box [.own 1 (s++[y]++[x]).length,iv t,iv u],.list 2 1 (ivs ((s++[y]++[x])++(e)))] [.pt 0 0 0,iv 4] false n _ rfl (Bc ah) (by exact Nat.le_of_ble_eq_true rfl) rfl rfl ?_
 refine Goes ?_
 have aK:=Bm 4
 rw [show Eh 4=4 from rfl] at aK
 refine Aa.is (aK _) rfl ?_
 refine Goes ?_
 have hf:=A6 0 1 2 (by decide) (s++[y]++[x]) (e) 4 t u hl (by decide)
 rw [show Bj 4 (s++[y]++[x]).length=0 from by unfold Bj; simp only [List.length_append,List.length_cons,List.length_nil]; (repeat' split) <;> omega] at hf
 refine Aa.heapIs (hf) rfl ktA rfl ?_
 refine Goes ?_
 refine Aa.is (Cl _) rfl ?_
 refine Goes ?_
 refine Aa.heapIs (b0N 0 1 _ (by decide) s e y x t u (by omega) hx hy hs) rfl ktA rfl ?_
 refine Goes ?_
 refine Ab.mk' [] rfl rfl rfl rfl rfl rfl rfl (Cq (l:=s++[x + y]) ?_ (fun _=>rfl))
 have cq:¬ 9999 < y + x:=by omega
 rw [E2 (by simp [Cp]) ho (by simp [Ii,cq]; omega)]
 simp [Ii,cq,Int.add_comm]
theorem a8v (i j n:Nat) (ah:i≠j) (s e:List Int) (y x t u:Int) (hl:(s++[y]++[x]).length<=8) (hx:inR 0 9999 x) (hy:inR 0 9999 y) (hs:9999 < x + y) :
 Ret Tryz.prog 268 [.pt i 0 0,iv 4] (mh i j (s++[y]++[x]) e t u) n false (E5 i j t u n (step2 4 (s++[y]++[x]) t u)):=by
 have fY:s.length + 2<=8:=by simpa using hl
 have ho:=J7 (op:=4) s y x t u rfl
 refine Ret.of_run (tt:=tt) Ad Tryz.func268 rfl Tryz.call268 [i,j] [.box [.own 1 (s++[y]++[x]).length,iv t,iv u],.list 2 1 (ivs ((s++[y]++[x])++(e)))] [.pt 0 0 0,iv 4] false n _ rfl (Bc ah) (by exact Nat.le_of_ble_eq_true rfl) rfl rfl ?_
 refine Goes ?_
 have aK:=Bm 4
 rw [show Eh 4=4 from rfl] at aK
 refine Aa.is (aK _) rfl ?_
 refine Goes ?_
 have hf:=A6 0 1 2 (by decide) (s++[y]++[x]) (e) 4 t u hl (by decide)
 rw [show Bj 4 (s++[y]++[x]).length=0 from by unfold Bj; simp only [List.length_append,List.length_cons,List.length_nil]; (repeat' split) <;> omega] at hf
 refine Aa.heapIs (hf) rfl ktA rfl ?_
 refine Goes ?_
 refine Aa.is (Cl _) rfl ?_
 refine Goes ?_
 refine Aa.heapIs (b1y 0 1 _ (by decide) s e y x t u (by omega) hx hy hs) rfl ktA rfl ?_
 refine Goes ?_
 refine Ab.mk' [] rfl rfl rfl rfl rfl rfl rfl (Cq (l:=[]) ?_ (fun h=>by cases h))
 have cq:9999 < y + x:=by omega
 rw [E2 (by simp [Cp]) ho (by simp [Ii,cq])]
 simp [Ii,cq]
theorem a5V (i j n:Nat) (ah:i≠j) (s e:List Int) (y x t u:Int) (hl:(s++[y]++[x]).length<=8) :
 Ret Tryz.prog 268 [.pt i 0 0,iv 5] (mh i j (s++[y]++[x]) e t u) n false (E5 i j t u n (step2 5 (s++[y]++[x]) t u)):=by
 have fY:s.length + 2<=8:=by simpa using hl
 have ho:=J7 (op:=5) s y x t u rfl
 refine Ret.of_run (tt:=tt) Ad Tryz.func268 rfl Tryz.call268 [i,j] [.box [.own 1 (s++[y]++[x]).length,iv t,iv u],.list 2 1 (ivs ((s++[y]++[x])++(e)))] [.pt 0 0 0,iv 5] false n _ rfl (Bc ah) (by exact Nat.le_of_ble_eq_true rfl) rfl rfl ?_
 refine Goes ?_
 have aK:=Bm 5
 rw [show Eh 5=4 from rfl] at aK
 refine Aa.is (aK _) rfl ?_
 refine Goes ?_
 have hf:=A6 0 1 2 (by decide) (s++[y]++[x]) (e) 4 t u hl (by decide)
 rw [show Bj 4 (s++[y]++[x]).length=0 from by unfold Bj; simp only [List.length_append,List.length_cons,List.length_nil]; (repeat' split) <;> omega] at hf
 refine Aa.heapIs (hf) rfl ktA rfl ?_
 refine Goes ?_
 refine Aa.is (Cl _) rfl ?_
 refine Goes ?_
 refine Aa.heapIs (a7K 0 1 _ (by decide) s e y x t u (by omega)) rfl ktA rfl ?_
 refine Goes ?_
 refine Ab.mk' [] rfl rfl rfl rfl rfl rfl rfl (Cq (l:=s++[Kh (decide (x=y))]) ?_ (fun _=>rfl))
 have e1:decide (y=x)=decide (x=y):=by rw [decide_eq_decide]; exact eq_comm
 rw [E2 (by simp [Cp]) ho (by simp [Ii]; omega)]
 simp [Ii,e1]
theorem a8w (i j n:Nat) (ah:i≠j) (s e:List Int) (y x t u:Int) (hl:(s++[y]++[x]).length<=8) (ht:inR 0 2147483646 t) :
 Ret Tryz.prog 268 [.pt i 0 0,iv 8] (mh i j (s++[y]++[x]) e t u) n false (E5 i j t u n (step2 8 (s++[y]++[x]) t u)):=by
 have fY:s.length + 2<=8:=by simpa using hl
 have ho:=J7 (op:=8) s y x t u rfl
 refine Ret.of_run (tt:=tt) Ad Tryz.func268 rfl Tryz.call268 [i,j] [.box [.own 1 (s++[y]++[x]).length,iv t,iv u],.list 2 1 (ivs ((s++[y]++[x])++(e)))] [.pt 0 0 0,iv 8] false n _ rfl (Bc ah) (by exact Nat.le_of_ble_eq_true rfl) rfl rfl ?_
 refine Goes ?_
 have aK:=Bm 8
 rw [show Eh 8=4 from rfl] at aK
 refine Aa.is (aK _) rfl ?_
 refine Goes ?_
 have hf:=A6 0 1 2 (by decide) (s++[y]++[x]) (e) 4 t u hl (by decide)
 rw [show Bj 4 (s++[y]++[x]).length=0 from by unfold Bj; simp only [List.length_append,List.length_cons,List.length_nil]; (repeat' split) <;> omega] at hf
 refine Aa.heapIs (hf) rfl ktA rfl ?_
 refine Goes ?_
 refine Aa.is (Cl _) rfl ?_
 refine Goes ?_
 refine Aa.heapIs (a9y 0 1 _ (by decide) s e y x t u (by omega) ht) rfl ktA rfl ?_
 refine Goes ?_
 refine Ab.mk' [] rfl rfl rfl rfl rfl rfl rfl (Cq (l:=s++[Kh (decide (inR 0 899 x)&&decide (Ve x t=y))]) ?_ (fun _=>rfl))
 rw [E2 (by simp [Cp]) ho (by simp [Ii]; omega)]
 simp [Ii]
end Go.Proofs.YtllhgcfacgiabaaGreat
