import Derived.Test.YtllhgcfacgiabaaGreatP3
namespace Go.Proofs.YtllhgcfacgiabaaGreat
open Go Go.Am Go.RowKit
set_option linter.unusedVariables false
set_option linter.unusedSimpArgs false
def StepQ (i j:Nat) (t u:Int) (n:Nat) (x:Int × List Int):AV→Hp→Nat→Prop:=fun r ho m=>∃ s' e',r=iv x.1∧ho=mh i j s' e' t u∧m=n∧(x.1=0→s'=x.2)
theorem step2_few {op:Int} {s:List Int} {t u:Int} (h:s.length < needs op):step2 op s t u=(4,[]):=by unfold step2; rw [if_pos h]
theorem out2_one {op:Int} (r:List Int) (x t u:Int) (h:needs op=1):out2 op (r++[x]) t u=one2 op r x u:=by
 unfold out2
 rw [if_neg (by omega),if_pos h]
 have e1:(r++[x]).length - 1=r.length:=by simp
 rw [e1,List.take_left' rfl]
 simp [List.getD_eq_getElem?_getD]
theorem out2_two {op:Int} (r:List Int) (y x t u:Int) (h:needs op=2):out2 op (r++[y]++[x]) t u=two2 op r y x t:=by
 unfold out2
 rw [if_neg (by omega),if_neg (by omega)]
 have e1:(r++[y]++[x]).length - 1=(r++[y]).length:=by simp
 have e2:(r++[y]++[x]).length - 2=r.length:=by simp
 rw [e1,e2]
 have e3:(r++[y]++[x]).take r.length=r:=by rw [List.append_assoc,List.take_left' rfl]
 rw [e3]
 simp [List.getD_eq_getElem?_getD]
theorem step_push (i j n:Nat) (hij:i≠j) (s e:List Int) (op t u:Int) (hl:s.length≤8) (ho:100≤op∧op≤1099) :
 Ret Tryz.prog 268 [.pt i 0 0,iv op] (mh i j s e t u) n false (StepQ i j t u n (step2 op s t u)):=by
 refine Ret.of_run (tt:=tt) ttOk Tryz.func268 rfl Tryz.call268 [i,j] [.box [.own 1 (s).length,iv t,iv u],.list 2 1 (ivs ((s)++(e)))] [.pt 0 0 0,iv op] false n _ rfl (nodup2 hij) (by exact Nat.le_of_ble_eq_true rfl) rfl rfl ?_
 refine Goes ?_
 have hk:kindI op=1:=by unfold kindI; (repeat' split) <;> omega
 have hn:needs op=0:=by unfold needs; rw [if_neg (by omega),if_neg (by omega)]
 have hst:step2 op s t u=if s.length=8 then (10,[]) else (0,s++[op - 100]):=by
  unfold step2 out2
  rw [hn,if_neg (by omega),if_pos rfl]
  simp only [List.length_append,List.length_cons,List.length_nil,true_and]
  split <;> split <;> first | rfl | omega
 have hkr:=kindOf_ret op
 rw [hk] at hkr
 first | refine CallP.is (hkr _) rfl ?_ | refine CallQ.is (hkr _) rfl rfl ?_
 refine Goes ?_
 by_cases h8:s.length=8
 · have hf:=stepFault_ret 0 1 2 (by decide) s e 1 t u hl (by decide)
   rw [show faultI 1 s.length=10 from by simp [faultI,h8]] at hf
   refine CallP.heapIs (hf) rfl ktA rfl ?_
   refine Goes ?_
   rw [hst,if_pos h8]
   exact FinOk.mk' [] rfl rfl rfl rfl rfl rfl rfl ⟨s,e,rfl,rfl,rfl,fun h=>by cases h⟩
 · have hf:=stepFault_ret 0 1 2 (by decide) s e 1 t u hl (by decide)
   rw [show faultI 1 s.length=0 from by simp [faultI,h8]] at hf
   refine CallP.heapIs (hf) rfl ktA rfl ?_
   refine Goes ?_
   rw [IntWalk.i64_in (op - 100) (by omega)]
   refine CallP.heapIs (push_ret 0 1 _ (by decide) (s) (e) (op - 100) t u (lenA)) rfl ktA rfl ?_
   refine Goes ?_
   rw [hst,if_neg h8]
   exact FinOk.mk' [] rfl rfl rfl rfl rfl rfl rfl ⟨s++[op - 100],[],rfl,rfl,rfl,fun _=>rfl⟩
theorem step2_val {op:Int} {s:List Int} {t u:Int} {r:Int × List Int} (h:¬ s.length < needs op) (ho:out2 op s t u=r):step2 op s t u=if r.1=0∧8 < r.2.length then (10,[]) else r:=by
 unfold step2; rw [if_neg h,ho]
theorem step2_fit {op:Int} {s:List Int} {t u:Int} {r:Int × List Int} (h:¬ s.length < needs op) (ho:out2 op s t u=r) (hf:¬ (r.1=0∧8 < r.2.length)):step2 op s t u=r:=by
 rw [step2_val h ho,if_neg hf]
theorem stepQ_of {i j n:Nat} {t u:Int} {x:Int × List Int} {s' e':List Int} {c:Int} {l:List Int} (h:x=(c,l)) (hs:c=0→s'=l):StepQ i j t u n x (iv c) (mh i j s' e' t u) n:=by
 subst h; exact ⟨s',e',rfl,rfl,rfl,hs⟩
theorem step_few1 (i j n:Nat) (hij:i≠j) (s e:List Int) (t u:Int) (hl:s.length < 1) :
 Ret Tryz.prog 268 [.pt i 0 0,iv 1] (mh i j s e t u) n false (StepQ i j t u n (step2 1 s t u)):=by
 have hl8:s.length≤8:=by omega
 refine Ret.of_run (tt:=tt) ttOk Tryz.func268 rfl Tryz.call268 [i,j] [.box [.own 1 (s).length,iv t,iv u],.list 2 1 (ivs ((s)++(e)))] [.pt 0 0 0,iv 1] false n _ rfl (nodup2 hij) (by exact Nat.le_of_ble_eq_true rfl) rfl rfl ?_
 refine Goes ?_
 have hkr:=kindOf_ret 1
 rw [show kindI 1=2 from rfl] at hkr
 first | refine CallP.is (hkr _) rfl ?_ | refine CallQ.is (hkr _) rfl rfl ?_
 refine Goes ?_
 have hf:=stepFault_ret 0 1 2 (by decide) s e 2 t u hl8 (by decide)
 rw [show faultI 2 s.length=4 from by unfold faultI; (repeat' split) <;> omega] at hf
 refine CallP.heapIs (hf) rfl ktA rfl ?_
 refine Goes ?_
 exact FinOk.mk' [] rfl rfl rfl rfl rfl rfl rfl (stepQ_of (step2_few (by show _ < 1; exact hl)) (fun h=>by cases h))
theorem step_few2 (i j n:Nat) (hij:i≠j) (s e:List Int) (t u:Int) (hl:s.length < 1) :
 Ret Tryz.prog 268 [.pt i 0 0,iv 2] (mh i j s e t u) n false (StepQ i j t u n (step2 2 s t u)):=by
 have hl8:s.length≤8:=by omega
 refine Ret.of_run (tt:=tt) ttOk Tryz.func268 rfl Tryz.call268 [i,j] [.box [.own 1 (s).length,iv t,iv u],.list 2 1 (ivs ((s)++(e)))] [.pt 0 0 0,iv 2] false n _ rfl (nodup2 hij) (by exact Nat.le_of_ble_eq_true rfl) rfl rfl ?_
 refine Goes ?_
 have hkr:=kindOf_ret 2
 rw [show kindI 2=3 from rfl] at hkr
 first | refine CallP.is (hkr _) rfl ?_ | refine CallQ.is (hkr _) rfl rfl ?_
 refine Goes ?_
 have hf:=stepFault_ret 0 1 2 (by decide) s e 3 t u hl8 (by decide)
 rw [show faultI 3 s.length=4 from by unfold faultI; (repeat' split) <;> omega] at hf
 refine CallP.heapIs (hf) rfl ktA rfl ?_
 refine Goes ?_
 exact FinOk.mk' [] rfl rfl rfl rfl rfl rfl rfl (stepQ_of (step2_few (by show _ < 1; exact hl)) (fun h=>by cases h))
theorem step_few6 (i j n:Nat) (hij:i≠j) (s e:List Int) (t u:Int) (hl:s.length < 1) :
 Ret Tryz.prog 268 [.pt i 0 0,iv 6] (mh i j s e t u) n false (StepQ i j t u n (step2 6 s t u)):=by
 have hl8:s.length≤8:=by omega
 refine Ret.of_run (tt:=tt) ttOk Tryz.func268 rfl Tryz.call268 [i,j] [.box [.own 1 (s).length,iv t,iv u],.list 2 1 (ivs ((s)++(e)))] [.pt 0 0 0,iv 6] false n _ rfl (nodup2 hij) (by exact Nat.le_of_ble_eq_true rfl) rfl rfl ?_
 refine Goes ?_
 have hkr:=kindOf_ret 6
 rw [show kindI 6=3 from rfl] at hkr
 first | refine CallP.is (hkr _) rfl ?_ | refine CallQ.is (hkr _) rfl rfl ?_
 refine Goes ?_
 have hf:=stepFault_ret 0 1 2 (by decide) s e 3 t u hl8 (by decide)
 rw [show faultI 3 s.length=4 from by unfold faultI; (repeat' split) <;> omega] at hf
 refine CallP.heapIs (hf) rfl ktA rfl ?_
 refine Goes ?_
 exact FinOk.mk' [] rfl rfl rfl rfl rfl rfl rfl (stepQ_of (step2_few (by show _ < 1; exact hl)) (fun h=>by cases h))
theorem step_few7 (i j n:Nat) (hij:i≠j) (s e:List Int) (t u:Int) (hl:s.length < 1) :
 Ret Tryz.prog 268 [.pt i 0 0,iv 7] (mh i j s e t u) n false (StepQ i j t u n (step2 7 s t u)):=by
 have hl8:s.length≤8:=by omega
 refine Ret.of_run (tt:=tt) ttOk Tryz.func268 rfl Tryz.call268 [i,j] [.box [.own 1 (s).length,iv t,iv u],.list 2 1 (ivs ((s)++(e)))] [.pt 0 0 0,iv 7] false n _ rfl (nodup2 hij) (by exact Nat.le_of_ble_eq_true rfl) rfl rfl ?_
 refine Goes ?_
 have hkr:=kindOf_ret 7
 rw [show kindI 7=3 from rfl] at hkr
 first | refine CallP.is (hkr _) rfl ?_ | refine CallQ.is (hkr _) rfl rfl ?_
 refine Goes ?_
 have hf:=stepFault_ret 0 1 2 (by decide) s e 3 t u hl8 (by decide)
 rw [show faultI 3 s.length=4 from by unfold faultI; (repeat' split) <;> omega] at hf
 refine CallP.heapIs (hf) rfl ktA rfl ?_
 refine Goes ?_
 exact FinOk.mk' [] rfl rfl rfl rfl rfl rfl rfl (stepQ_of (step2_few (by show _ < 1; exact hl)) (fun h=>by cases h))
theorem step_few9 (i j n:Nat) (hij:i≠j) (s e:List Int) (t u:Int) (hl:s.length < 1) :
 Ret Tryz.prog 268 [.pt i 0 0,iv 9] (mh i j s e t u) n false (StepQ i j t u n (step2 9 s t u)):=by
 have hl8:s.length≤8:=by omega
 refine Ret.of_run (tt:=tt) ttOk Tryz.func268 rfl Tryz.call268 [i,j] [.box [.own 1 (s).length,iv t,iv u],.list 2 1 (ivs ((s)++(e)))] [.pt 0 0 0,iv 9] false n _ rfl (nodup2 hij) (by exact Nat.le_of_ble_eq_true rfl) rfl rfl ?_
 refine Goes ?_
 have hkr:=kindOf_ret 9
 rw [show kindI 9=3 from rfl] at hkr
 first | refine CallP.is (hkr _) rfl ?_ | refine CallQ.is (hkr _) rfl rfl ?_
 refine Goes ?_
 have hf:=stepFault_ret 0 1 2 (by decide) s e 3 t u hl8 (by decide)
 rw [show faultI 3 s.length=4 from by unfold faultI; (repeat' split) <;> omega] at hf
 refine CallP.heapIs (hf) rfl ktA rfl ?_
 refine Goes ?_
 exact FinOk.mk' [] rfl rfl rfl rfl rfl rfl rfl (stepQ_of (step2_few (by show _ < 1; exact hl)) (fun h=>by cases h))
theorem step_few3 (i j n:Nat) (hij:i≠j) (s e:List Int) (t u:Int) (hl:s.length < 2) :
 Ret Tryz.prog 268 [.pt i 0 0,iv 3] (mh i j s e t u) n false (StepQ i j t u n (step2 3 s t u)):=by
 have hl8:s.length≤8:=by omega
 refine Ret.of_run (tt:=tt) ttOk Tryz.func268 rfl Tryz.call268 [i,j] [.box [.own 1 (s).length,iv t,iv u],.list 2 1 (ivs ((s)++(e)))] [.pt 0 0 0,iv 3] false n _ rfl (nodup2 hij) (by exact Nat.le_of_ble_eq_true rfl) rfl rfl ?_
 refine Goes ?_
 have hkr:=kindOf_ret 3
 rw [show kindI 3=4 from rfl] at hkr
 first | refine CallP.is (hkr _) rfl ?_ | refine CallQ.is (hkr _) rfl rfl ?_
 refine Goes ?_
 have hf:=stepFault_ret 0 1 2 (by decide) s e 4 t u hl8 (by decide)
 rw [show faultI 4 s.length=4 from by unfold faultI; (repeat' split) <;> omega] at hf
 refine CallP.heapIs (hf) rfl ktA rfl ?_
 refine Goes ?_
 exact FinOk.mk' [] rfl rfl rfl rfl rfl rfl rfl (stepQ_of (step2_few (by show _ < 2; exact hl)) (fun h=>by cases h))
theorem step_few4 (i j n:Nat) (hij:i≠j) (s e:List Int) (t u:Int) (hl:s.length < 2) :
 Ret Tryz.prog 268 [.pt i 0 0,iv 4] (mh i j s e t u) n false (StepQ i j t u n (step2 4 s t u)):=by
 have hl8:s.length≤8:=by omega
 refine Ret.of_run (tt:=tt) ttOk Tryz.func268 rfl Tryz.call268 [i,j] [.box [.own 1 (s).length,iv t,iv u],.list 2 1 (ivs ((s)++(e)))] [.pt 0 0 0,iv 4] false n _ rfl (nodup2 hij) (by exact Nat.le_of_ble_eq_true rfl) rfl rfl ?_
 refine Goes ?_
 have hkr:=kindOf_ret 4
 rw [show kindI 4=4 from rfl] at hkr
 first | refine CallP.is (hkr _) rfl ?_ | refine CallQ.is (hkr _) rfl rfl ?_
 refine Goes ?_
 have hf:=stepFault_ret 0 1 2 (by decide) s e 4 t u hl8 (by decide)
 rw [show faultI 4 s.length=4 from by unfold faultI; (repeat' split) <;> omega] at hf
 refine CallP.heapIs (hf) rfl ktA rfl ?_
 refine Goes ?_
 exact FinOk.mk' [] rfl rfl rfl rfl rfl rfl rfl (stepQ_of (step2_few (by show _ < 2; exact hl)) (fun h=>by cases h))
theorem step_few5 (i j n:Nat) (hij:i≠j) (s e:List Int) (t u:Int) (hl:s.length < 2) :
 Ret Tryz.prog 268 [.pt i 0 0,iv 5] (mh i j s e t u) n false (StepQ i j t u n (step2 5 s t u)):=by
 have hl8:s.length≤8:=by omega
 refine Ret.of_run (tt:=tt) ttOk Tryz.func268 rfl Tryz.call268 [i,j] [.box [.own 1 (s).length,iv t,iv u],.list 2 1 (ivs ((s)++(e)))] [.pt 0 0 0,iv 5] false n _ rfl (nodup2 hij) (by exact Nat.le_of_ble_eq_true rfl) rfl rfl ?_
 refine Goes ?_
 have hkr:=kindOf_ret 5
 rw [show kindI 5=4 from rfl] at hkr
 first | refine CallP.is (hkr _) rfl ?_ | refine CallQ.is (hkr _) rfl rfl ?_
 refine Goes ?_
 have hf:=stepFault_ret 0 1 2 (by decide) s e 4 t u hl8 (by decide)
 rw [show faultI 4 s.length=4 from by unfold faultI; (repeat' split) <;> omega] at hf
 refine CallP.heapIs (hf) rfl ktA rfl ?_
 refine Goes ?_
 exact FinOk.mk' [] rfl rfl rfl rfl rfl rfl rfl (stepQ_of (step2_few (by show _ < 2; exact hl)) (fun h=>by cases h))
theorem step_few8 (i j n:Nat) (hij:i≠j) (s e:List Int) (t u:Int) (hl:s.length < 2) :
 Ret Tryz.prog 268 [.pt i 0 0,iv 8] (mh i j s e t u) n false (StepQ i j t u n (step2 8 s t u)):=by
 have hl8:s.length≤8:=by omega
 refine Ret.of_run (tt:=tt) ttOk Tryz.func268 rfl Tryz.call268 [i,j] [.box [.own 1 (s).length,iv t,iv u],.list 2 1 (ivs ((s)++(e)))] [.pt 0 0 0,iv 8] false n _ rfl (nodup2 hij) (by exact Nat.le_of_ble_eq_true rfl) rfl rfl ?_
 refine Goes ?_
 have hkr:=kindOf_ret 8
 rw [show kindI 8=4 from rfl] at hkr
 first | refine CallP.is (hkr _) rfl ?_ | refine CallQ.is (hkr _) rfl rfl ?_
 refine Goes ?_
 have hf:=stepFault_ret 0 1 2 (by decide) s e 4 t u hl8 (by decide)
 rw [show faultI 4 s.length=4 from by unfold faultI; (repeat' split) <;> omega] at hf
 refine CallP.heapIs (hf) rfl ktA rfl ?_
 refine Goes ?_
 exact FinOk.mk' [] rfl rfl rfl rfl rfl rfl rfl (stepQ_of (step2_few (by show _ < 2; exact hl)) (fun h=>by cases h))
theorem step_dup8 (i j n:Nat) (hij:i≠j) (s e:List Int) (x t u:Int) (h8:s.length + 1=8) :
 Ret Tryz.prog 268 [.pt i 0 0,iv 1] (mh i j (s++[x]) e t u) n false (StepQ i j t u n (step2 1 (s++[x]) t u)):=by
 have hl:(s++[x]).length≤8:=by simp; omega
 have h8':(s++[x]).length=8:=by simp; omega
 have ho:=out2_one (op:=1) s x t u rfl
 refine Ret.of_run (tt:=tt) ttOk Tryz.func268 rfl Tryz.call268 [i,j] [.box [.own 1 (s++[x]).length,iv t,iv u],.list 2 1 (ivs ((s++[x])++(e)))] [.pt 0 0 0,iv 1] false n _ rfl (nodup2 hij) (by exact Nat.le_of_ble_eq_true rfl) rfl rfl ?_
 refine Goes ?_
 have hkr:=kindOf_ret 1
 rw [show kindI 1=2 from rfl] at hkr
 first | refine CallP.is (hkr _) rfl ?_ | refine CallQ.is (hkr _) rfl rfl ?_
 refine Goes ?_
 have hf:=stepFault_ret 0 1 2 (by decide) (s++[x]) (e) 2 t u hl (by decide)
 rw [show faultI 2 (s++[x]).length=10 from by unfold faultI; rw [h8']; rfl] at hf
 refine CallP.heapIs (hf) rfl ktA rfl ?_
 refine Goes ?_
 refine FinOk.mk' [] rfl rfl rfl rfl rfl rfl rfl (stepQ_of (l:=[]) ?_ (fun h=>by cases h))
 rw [step2_val (by rw [h8']; decide) ho,if_pos (by refine ⟨rfl,?_⟩; simp [one2]; omega)]
theorem step_dup (i j n:Nat) (hij:i≠j) (s e:List Int) (x t u:Int) (hl:(s++[x]).length≤8) (h8:¬ s.length + 1=8) :
 Ret Tryz.prog 268 [.pt i 0 0,iv 1] (mh i j (s++[x]) e t u) n false (StepQ i j t u n (step2 1 (s++[x]) t u)):=by
 have hll:s.length + 1≤8:=by simpa using hl
 have ho:=out2_one (op:=1) s x t u rfl
 refine Ret.of_run (tt:=tt) ttOk Tryz.func268 rfl Tryz.call268 [i,j] [.box [.own 1 (s++[x]).length,iv t,iv u],.list 2 1 (ivs ((s++[x])++(e)))] [.pt 0 0 0,iv 1] false n _ rfl (nodup2 hij) (by exact Nat.le_of_ble_eq_true rfl) rfl rfl ?_
 refine Goes ?_
 have hkr:=kindOf_ret 1
 rw [show kindI 1=2 from rfl] at hkr
 first | refine CallP.is (hkr _) rfl ?_ | refine CallQ.is (hkr _) rfl rfl ?_
 refine Goes ?_
 have hf:=stepFault_ret 0 1 2 (by decide) (s++[x]) (e) 2 t u hl (by decide)
 rw [show faultI 2 (s++[x]).length=0 from by unfold faultI; simp only [List.length_append,List.length_cons,List.length_nil]; (repeat' split) <;> omega] at hf
 refine CallP.heapIs (hf) rfl ktA rfl ?_
 refine Goes ?_
 first | refine CallP.is (operations_ret _) rfl ?_ | refine CallQ.is (operations_ret _) rfl rfl ?_
 refine Goes ?_
 refine CallP.heapIs (dup_ret 0 1 _ (by decide) s e x t u (by omega)) rfl ktA rfl ?_
 refine Goes ?_
 refine FinOk.mk' [] rfl rfl rfl rfl rfl rfl rfl (stepQ_of (l:=s++[x]++[x]) ?_ (fun _=>rfl))
 rw [step2_fit (by simp [needs]) ho (by simp [one2]; omega)]
 simp [one2]
theorem step_drop (i j n:Nat) (hij:i≠j) (s e:List Int) (x t u:Int) (hl:(s++[x]).length≤8) :
 Ret Tryz.prog 268 [.pt i 0 0,iv 2] (mh i j (s++[x]) e t u) n false (StepQ i j t u n (step2 2 (s++[x]) t u)):=by
 have hll:s.length + 1≤8:=by simpa using hl
 have ho:=out2_one (op:=2) s x t u rfl
 refine Ret.of_run (tt:=tt) ttOk Tryz.func268 rfl Tryz.call268 [i,j] [.box [.own 1 (s++[x]).length,iv t,iv u],.list 2 1 (ivs ((s++[x])++(e)))] [.pt 0 0 0,iv 2] false n _ rfl (nodup2 hij) (by exact Nat.le_of_ble_eq_true rfl) rfl rfl ?_
 refine Goes ?_
 have hkr:=kindOf_ret 2
 rw [show kindI 2=3 from rfl] at hkr
 first | refine CallP.is (hkr _) rfl ?_ | refine CallQ.is (hkr _) rfl rfl ?_
 refine Goes ?_
 have hf:=stepFault_ret 0 1 2 (by decide) (s++[x]) (e) 3 t u hl (by decide)
 rw [show faultI 3 (s++[x]).length=0 from by unfold faultI; simp only [List.length_append,List.length_cons,List.length_nil]; (repeat' split) <;> omega] at hf
 refine CallP.heapIs (hf) rfl ktA rfl ?_
 refine Goes ?_
 first | refine CallP.is (operations_ret _) rfl ?_ | refine CallQ.is (operations_ret _) rfl rfl ?_
 refine Goes ?_
 refine CallP.heapIs (drop_ret 0 1 _ (by decide) s e x t u (by omega)) rfl ktA rfl ?_
 refine Goes ?_
 refine FinOk.mk' [] rfl rfl rfl rfl rfl rfl rfl (stepQ_of (l:=s) ?_ (fun _=>rfl))
 rw [step2_fit (by simp [needs]) ho (by simp [one2]; omega)]
 simp [one2]
theorem step_verify (i j n:Nat) (hij:i≠j) (s e:List Int) (x t u:Int) (hl:(s++[x]).length≤8) :
 Ret Tryz.prog 268 [.pt i 0 0,iv 6] (mh i j (s++[x]) e t u) n false (StepQ i j t u n (step2 6 (s++[x]) t u)):=by
 have hll:s.length + 1≤8:=by simpa using hl
 have ho:=out2_one (op:=6) s x t u rfl
 refine Ret.of_run (tt:=tt) ttOk Tryz.func268 rfl Tryz.call268 [i,j] [.box [.own 1 (s++[x]).length,iv t,iv u],.list 2 1 (ivs ((s++[x])++(e)))] [.pt 0 0 0,iv 6] false n _ rfl (nodup2 hij) (by exact Nat.le_of_ble_eq_true rfl) rfl rfl ?_
 refine Goes ?_
 have hkr:=kindOf_ret 6
 rw [show kindI 6=3 from rfl] at hkr
 first | refine CallP.is (hkr _) rfl ?_ | refine CallQ.is (hkr _) rfl rfl ?_
 refine Goes ?_
 have hf:=stepFault_ret 0 1 2 (by decide) (s++[x]) (e) 3 t u hl (by decide)
 rw [show faultI 3 (s++[x]).length=0 from by unfold faultI; simp only [List.length_append,List.length_cons,List.length_nil]; (repeat' split) <;> omega] at hf
 refine CallP.heapIs (hf) rfl ktA rfl ?_
 refine Goes ?_
 first | refine CallP.is (operations_ret _) rfl ?_ | refine CallQ.is (operations_ret _) rfl rfl ?_
 refine Goes ?_
 refine CallP.heapIs (verify_ret 0 1 _ (by decide) s e x t u (by omega)) rfl ktA rfl ?_
 refine Goes ?_
 refine FinOk.mk' [] rfl rfl rfl rfl rfl rfl rfl (stepQ_of (l:=if x=0 then [] else s) ?_ ?_)
 · rw [step2_fit (by simp [needs]) ho (by by_cases hx:x=0 <;> simp [one2,hx]; omega)]
   by_cases hx:x=0 <;> simp [one2,hx]
 · intro h
   by_cases hx:x=0
   · rw [if_pos hx] at h; cases h
   · rw [if_neg hx]
theorem step_sum (i j n:Nat) (hij:i≠j) (s e:List Int) (x t u:Int) (hl:(s++[x]).length≤8) (hx:inR 0 9999 x) :
 Ret Tryz.prog 268 [.pt i 0 0,iv 7] (mh i j (s++[x]) e t u) n false (StepQ i j t u n (step2 7 (s++[x]) t u)):=by
 have hll:s.length + 1≤8:=by simpa using hl
 have ho:=out2_one (op:=7) s x t u rfl
 refine Ret.of_run (tt:=tt) ttOk Tryz.func268 rfl Tryz.call268 [i,j] [.box [.own 1 (s++[x]).length,iv t,iv u],.list 2 1 (ivs ((s++[x])++(e)))] [.pt 0 0 0,iv 7] false n _ rfl (nodup2 hij) (by exact Nat.le_of_ble_eq_true rfl) rfl rfl ?_
 refine Goes ?_
 have hkr:=kindOf_ret 7
 rw [show kindI 7=3 from rfl] at hkr
 first | refine CallP.is (hkr _) rfl ?_ | refine CallQ.is (hkr _) rfl rfl ?_
 refine Goes ?_
 have hf:=stepFault_ret 0 1 2 (by decide) (s++[x]) (e) 3 t u hl (by decide)
 rw [show faultI 3 (s++[x]).length=0 from by unfold faultI; simp only [List.length_append,List.length_cons,List.length_nil]; (repeat' split) <;> omega] at hf
 refine CallP.heapIs (hf) rfl ktA rfl ?_
 refine Goes ?_
 first | refine CallP.is (operations_ret _) rfl ?_ | refine CallQ.is (operations_ret _) rfl rfl ?_
 refine Goes ?_
 refine CallP.heapIs (sum_ret 0 1 _ (by decide) s e x t u (by omega) hx) rfl ktA rfl ?_
 refine Goes ?_
 refine FinOk.mk' [] rfl rfl rfl rfl rfl rfl rfl (stepQ_of (l:=s++[sumI [x] % 1000]) ?_ (fun _=>rfl))
 rw [step2_fit (by simp [needs]) ho (by simp [one2]; omega)]
 simp [one2]
theorem step_after (i j n:Nat) (hij:i≠j) (s e:List Int) (x t u:Int) (hl:(s++[x]).length≤8) :
 Ret Tryz.prog 268 [.pt i 0 0,iv 9] (mh i j (s++[x]) e t u) n false (StepQ i j t u n (step2 9 (s++[x]) t u)):=by
 have hll:s.length + 1≤8:=by simpa using hl
 have ho:=out2_one (op:=9) s x t u rfl
 refine Ret.of_run (tt:=tt) ttOk Tryz.func268 rfl Tryz.call268 [i,j] [.box [.own 1 (s++[x]).length,iv t,iv u],.list 2 1 (ivs ((s++[x])++(e)))] [.pt 0 0 0,iv 9] false n _ rfl (nodup2 hij) (by exact Nat.le_of_ble_eq_true rfl) rfl rfl ?_
 refine Goes ?_
 have hkr:=kindOf_ret 9
 rw [show kindI 9=3 from rfl] at hkr
 first | refine CallP.is (hkr _) rfl ?_ | refine CallQ.is (hkr _) rfl rfl ?_
 refine Goes ?_
 have hf:=stepFault_ret 0 1 2 (by decide) (s++[x]) (e) 3 t u hl (by decide)
 rw [show faultI 3 (s++[x]).length=0 from by unfold faultI; simp only [List.length_append,List.length_cons,List.length_nil]; (repeat' split) <;> omega] at hf
 refine CallP.heapIs (hf) rfl ktA rfl ?_
 refine Goes ?_
 first | refine CallP.is (operations_ret _) rfl ?_ | refine CallQ.is (operations_ret _) rfl rfl ?_
 refine Goes ?_
 refine CallP.heapIs (after_ret 0 1 _ (by decide) s e x t u (by omega)) rfl ktA rfl ?_
 refine Goes ?_
 refine FinOk.mk' [] rfl rfl rfl rfl rfl rfl rfl (stepQ_of (l:=if u < x then [] else s) ?_ ?_)
 · rw [step2_fit (by simp [needs]) ho (by by_cases hx:u < x <;> simp [one2,hx]; omega)]
   by_cases hx:u < x <;> simp [one2,hx]
 · intro h
   by_cases hx:u < x
   · rw [if_pos hx] at h; cases h
   · rw [if_neg hx]
theorem step_swap (i j n:Nat) (hij:i≠j) (s e:List Int) (y x t u:Int) (hl:(s++[y]++[x]).length≤8) :
 Ret Tryz.prog 268 [.pt i 0 0,iv 3] (mh i j (s++[y]++[x]) e t u) n false (StepQ i j t u n (step2 3 (s++[y]++[x]) t u)):=by
 have hll:s.length + 2≤8:=by simpa using hl
 have ho:=out2_two (op:=3) s y x t u rfl
 refine Ret.of_run (tt:=tt) ttOk Tryz.func268 rfl Tryz.call268 [i,j] [.box [.own 1 (s++[y]++[x]).length,iv t,iv u],.list 2 1 (ivs ((s++[y]++[x])++(e)))] [.pt 0 0 0,iv 3] false n _ rfl (nodup2 hij) (by exact Nat.le_of_ble_eq_true rfl) rfl rfl ?_
 refine Goes ?_
 have hkr:=kindOf_ret 3
 rw [show kindI 3=4 from rfl] at hkr
 first | refine CallP.is (hkr _) rfl ?_ | refine CallQ.is (hkr _) rfl rfl ?_
 refine Goes ?_
 have hf:=stepFault_ret 0 1 2 (by decide) (s++[y]++[x]) (e) 4 t u hl (by decide)
 rw [show faultI 4 (s++[y]++[x]).length=0 from by unfold faultI; simp only [List.length_append,List.length_cons,List.length_nil]; (repeat' split) <;> omega] at hf
 refine CallP.heapIs (hf) rfl ktA rfl ?_
 refine Goes ?_
 first | refine CallP.is (operations_ret _) rfl ?_ | refine CallQ.is (operations_ret _) rfl rfl ?_
 refine Goes ?_
 refine CallP.heapIs (swap_ret 0 1 _ (by decide) s e y x t u (by omega)) rfl ktA rfl ?_
 refine Goes ?_
 refine FinOk.mk' [] rfl rfl rfl rfl rfl rfl rfl (stepQ_of (l:=s++[x]++[y]) ?_ (fun _=>rfl))
 rw [step2_fit (by simp [needs]) ho (by simp [two2]; omega)]
 simp [two2]
theorem step_addY (i j n:Nat) (hij:i≠j) (s e:List Int) (y x t u:Int) (hl:(s++[y]++[x]).length≤8) (hx:inR 0 9999 x) (hy:inR 0 9999 y) (hs:¬ 9999 < x + y) :
 Ret Tryz.prog 268 [.pt i 0 0,iv 4] (mh i j (s++[y]++[x]) e t u) n false (StepQ i j t u n (step2 4 (s++[y]++[x]) t u)):=by
 have hll:s.length + 2≤8:=by simpa using hl
 have ho:=out2_two (op:=4) s y x t u rfl
 refine Ret.of_run (tt:=tt) ttOk Tryz.func268 rfl Tryz.call268 [i,j] [.box [.own 1 (s++[y]++[x]).length,iv t,iv u],.list 2 1 (ivs ((s++[y]++[x])++(e)))] [.pt 0 0 0,iv 4] false n _ rfl (nodup2 hij) (by exact Nat.le_of_ble_eq_true rfl) rfl rfl ?_
 refine Goes ?_
 have hkr:=kindOf_ret 4
 rw [show kindI 4=4 from rfl] at hkr
 first | refine CallP.is (hkr _) rfl ?_ | refine CallQ.is (hkr _) rfl rfl ?_
 refine Goes ?_
 have hf:=stepFault_ret 0 1 2 (by decide) (s++[y]++[x]) (e) 4 t u hl (by decide)
 rw [show faultI 4 (s++[y]++[x]).length=0 from by unfold faultI; simp only [List.length_append,List.length_cons,List.length_nil]; (repeat' split) <;> omega] at hf
 refine CallP.heapIs (hf) rfl ktA rfl ?_
 refine Goes ?_
 first | refine CallP.is (operations_ret _) rfl ?_ | refine CallQ.is (operations_ret _) rfl rfl ?_
 refine Goes ?_
 refine CallP.heapIs (add_yes 0 1 _ (by decide) s e y x t u (by omega) hx hy hs) rfl ktA rfl ?_
 refine Goes ?_
 refine FinOk.mk' [] rfl rfl rfl rfl rfl rfl rfl (stepQ_of (l:=s++[x + y]) ?_ (fun _=>rfl))
 have hs':¬ 9999 < y + x:=by omega
 rw [step2_fit (by simp [needs]) ho (by simp [two2,hs']; omega)]
 simp [two2,hs',Int.add_comm]
theorem step_addN (i j n:Nat) (hij:i≠j) (s e:List Int) (y x t u:Int) (hl:(s++[y]++[x]).length≤8) (hx:inR 0 9999 x) (hy:inR 0 9999 y) (hs:9999 < x + y) :
 Ret Tryz.prog 268 [.pt i 0 0,iv 4] (mh i j (s++[y]++[x]) e t u) n false (StepQ i j t u n (step2 4 (s++[y]++[x]) t u)):=by
 have hll:s.length + 2≤8:=by simpa using hl
 have ho:=out2_two (op:=4) s y x t u rfl
 refine Ret.of_run (tt:=tt) ttOk Tryz.func268 rfl Tryz.call268 [i,j] [.box [.own 1 (s++[y]++[x]).length,iv t,iv u],.list 2 1 (ivs ((s++[y]++[x])++(e)))] [.pt 0 0 0,iv 4] false n _ rfl (nodup2 hij) (by exact Nat.le_of_ble_eq_true rfl) rfl rfl ?_
 refine Goes ?_
 have hkr:=kindOf_ret 4
 rw [show kindI 4=4 from rfl] at hkr
 first | refine CallP.is (hkr _) rfl ?_ | refine CallQ.is (hkr _) rfl rfl ?_
 refine Goes ?_
 have hf:=stepFault_ret 0 1 2 (by decide) (s++[y]++[x]) (e) 4 t u hl (by decide)
 rw [show faultI 4 (s++[y]++[x]).length=0 from by unfold faultI; simp only [List.length_append,List.length_cons,List.length_nil]; (repeat' split) <;> omega] at hf
 refine CallP.heapIs (hf) rfl ktA rfl ?_
 refine Goes ?_
 first | refine CallP.is (operations_ret _) rfl ?_ | refine CallQ.is (operations_ret _) rfl rfl ?_
 refine Goes ?_
 refine CallP.heapIs (add_no 0 1 _ (by decide) s e y x t u (by omega) hx hy hs) rfl ktA rfl ?_
 refine Goes ?_
 refine FinOk.mk' [] rfl rfl rfl rfl rfl rfl rfl (stepQ_of (l:=[]) ?_ (fun h=>by cases h))
 have hs':9999 < y + x:=by omega
 rw [step2_fit (by simp [needs]) ho (by simp [two2,hs'])]
 simp [two2,hs']
theorem step_equal (i j n:Nat) (hij:i≠j) (s e:List Int) (y x t u:Int) (hl:(s++[y]++[x]).length≤8) :
 Ret Tryz.prog 268 [.pt i 0 0,iv 5] (mh i j (s++[y]++[x]) e t u) n false (StepQ i j t u n (step2 5 (s++[y]++[x]) t u)):=by
 have hll:s.length + 2≤8:=by simpa using hl
 have ho:=out2_two (op:=5) s y x t u rfl
 refine Ret.of_run (tt:=tt) ttOk Tryz.func268 rfl Tryz.call268 [i,j] [.box [.own 1 (s++[y]++[x]).length,iv t,iv u],.list 2 1 (ivs ((s++[y]++[x])++(e)))] [.pt 0 0 0,iv 5] false n _ rfl (nodup2 hij) (by exact Nat.le_of_ble_eq_true rfl) rfl rfl ?_
 refine Goes ?_
 have hkr:=kindOf_ret 5
 rw [show kindI 5=4 from rfl] at hkr
 first | refine CallP.is (hkr _) rfl ?_ | refine CallQ.is (hkr _) rfl rfl ?_
 refine Goes ?_
 have hf:=stepFault_ret 0 1 2 (by decide) (s++[y]++[x]) (e) 4 t u hl (by decide)
 rw [show faultI 4 (s++[y]++[x]).length=0 from by unfold faultI; simp only [List.length_append,List.length_cons,List.length_nil]; (repeat' split) <;> omega] at hf
 refine CallP.heapIs (hf) rfl ktA rfl ?_
 refine Goes ?_
 first | refine CallP.is (operations_ret _) rfl ?_ | refine CallQ.is (operations_ret _) rfl rfl ?_
 refine Goes ?_
 refine CallP.heapIs (equal_ret 0 1 _ (by decide) s e y x t u (by omega)) rfl ktA rfl ?_
 refine Goes ?_
 refine FinOk.mk' [] rfl rfl rfl rfl rfl rfl rfl (stepQ_of (l:=s++[flagI (decide (x=y))]) ?_ (fun _=>rfl))
 have e1:decide (y=x)=decide (x=y):=by rw [decide_eq_decide]; exact eq_comm
 rw [step2_fit (by simp [needs]) ho (by simp [two2]; omega)]
 simp [two2,e1]
theorem step_sign (i j n:Nat) (hij:i≠j) (s e:List Int) (y x t u:Int) (hl:(s++[y]++[x]).length≤8) (ht:inR 0 2147483646 t) :
 Ret Tryz.prog 268 [.pt i 0 0,iv 8] (mh i j (s++[y]++[x]) e t u) n false (StepQ i j t u n (step2 8 (s++[y]++[x]) t u)):=by
 have hll:s.length + 2≤8:=by simpa using hl
 have ho:=out2_two (op:=8) s y x t u rfl
 refine Ret.of_run (tt:=tt) ttOk Tryz.func268 rfl Tryz.call268 [i,j] [.box [.own 1 (s++[y]++[x]).length,iv t,iv u],.list 2 1 (ivs ((s++[y]++[x])++(e)))] [.pt 0 0 0,iv 8] false n _ rfl (nodup2 hij) (by exact Nat.le_of_ble_eq_true rfl) rfl rfl ?_
 refine Goes ?_
 have hkr:=kindOf_ret 8
 rw [show kindI 8=4 from rfl] at hkr
 first | refine CallP.is (hkr _) rfl ?_ | refine CallQ.is (hkr _) rfl rfl ?_
 refine Goes ?_
 have hf:=stepFault_ret 0 1 2 (by decide) (s++[y]++[x]) (e) 4 t u hl (by decide)
 rw [show faultI 4 (s++[y]++[x]).length=0 from by unfold faultI; simp only [List.length_append,List.length_cons,List.length_nil]; (repeat' split) <;> omega] at hf
 refine CallP.heapIs (hf) rfl ktA rfl ?_
 refine Goes ?_
 first | refine CallP.is (operations_ret _) rfl ?_ | refine CallQ.is (operations_ret _) rfl rfl ?_
 refine Goes ?_
 refine CallP.heapIs (sign_ret 0 1 _ (by decide) s e y x t u (by omega) ht) rfl ktA rfl ?_
 refine Goes ?_
 refine FinOk.mk' [] rfl rfl rfl rfl rfl rfl rfl (stepQ_of (l:=s++[flagI (decide (inR 0 899 x)&&decide (signF x t=y))]) ?_ (fun _=>rfl))
 rw [step2_fit (by simp [needs]) ho (by simp [two2]; omega)]
 simp [two2]
end Go.Proofs.YtllhgcfacgiabaaGreat
