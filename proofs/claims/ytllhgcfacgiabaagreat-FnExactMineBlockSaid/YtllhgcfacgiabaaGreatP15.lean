import Derived.Test.YtllhgcfacgiabaaGreatP11
import Derived.Test.YtllhgcfacgiabaaGreatM1
namespace Go.Proofs.YtllhgcfacgiabaaGreat
open Go Go.Am Go.RowKit
set_option linter.unusedVariables false
set_option linter.unusedSimpArgs false
theorem valid_ret (v:Int) (n:Nat):Ret Tryz.prog 238 [.agg [iv v]] [] n true (Is (bv (decide (inR 0 1000000 v))) [] n):=by
 refine Ret.fn ttOk Tryz.func238 rfl Tryz.call238 rfl rfl ?_
 refine Goes ?_;repeat' first|apply W2.m|refine W1.m fun h=>?_
 all_goals (refine FinOk.pure rfl rfl rfl ⟨bvI ?_,rfl,rfl⟩; simp [inR, *] <;> omega)
theorem plus_ret (a b:Int) (n:Nat):Ret Tryz.prog 260 [.agg [iv a],.agg [iv b]] [] n true (Is (.agg [iv (IntKind.i64.wrap (a + b))]) [] n):=by
 refine Ret.fn ttOk Tryz.func260 rfl Tryz.call260 rfl rfl ?_
 refine Goes ?_
 refine FinOk.pure rfl rfl rfl ⟨?_,rfl,rfl⟩
 rfl
theorem l1Amount_ret (v:Int) (n:Nat):Ret Tryz.prog 190 [iv v] [] n true (Is (bv (decide (inR 0 1000000 v))) [] n):=by
 refine Ret.fn ttOk Tryz.func190 rfl Tryz.call190 rfl rfl ?_
 refine Goes ?_
 first | refine CallP.is (l1In_ret _ _ _ _) rfl ?_ | refine CallQ.is (l1In_ret _ _ _ _) rfl rfl ?_
 refine Goes ?_
 refine FinOk.pure rfl rfl rfl ⟨?_,rfl,rfl⟩
 rfl
theorem implTotalOf_ret (zs:List Int) (n:Nat) (hz:∀ z∈zs,inR 0 1000000 z) (hl:zs.length≤100):Ret Tryz.prog 240 [il zs] [] n true (Is (.agg (if inR 0 1000000 (sumV zs) then [iv 0,iv (sumV zs)] else [iv 7,iv 0])) [] n):=by
 have hL:(ivs zs).length=zs.length:=by simp
 refine Ret.fn ttOk Tryz.func240 rfl Tryz.call240 rfl rfl ?_
 refine Goes ?_;repeat' first|apply W2.m|refine W1.m fun h=>?_
 rw [hL]
 refine LoopP.go (fun k:Nat=>k≤zs.length) (fun k=>⟨[(11,il zs),(12,iv zs.length),(13,iv k),(3,.pt 1 0 0),(2,.pt 0 0 0)],[(1,.box [iv (sumV (zs.take k))]),(0,.box [iv 0,iv 0])],2⟩) (fun k=>zs.length - k) 0 (Nat.zero_le _) (Weak.of rfl rfl ktA ktA) ?_
 intro k hk
 have hb:=sumV_to zs hz k hk
 refine Goes ?_;repeat' first|apply W2.m|refine W1.m fun h=>?_
 · have hlt:k < zs.length:=by omega
   rw [rowK iv1 zs k (by omega)]
   refine ⟨by (first | exact ⟨by omega,by omega,rfl⟩ | (simp only [List.length_map]; exact ⟨by omega,by omega,rfl⟩)),?_⟩
   refine Goes ?_
   have hv:=hz zs[k] (List.getElem_mem hlt)
   have hvr:=valid_ret zs[k]
   rw [decide_eq_true hv] at hvr
   unfold inR at hv
   first | refine CallP.is (hvr _) rfl ?_ | refine CallQ.is (hvr _) rfl rfl ?_
   refine Goes ?_
   have hp:=plus_ret (sumV (zs.take k)) zs[k]
   rw [IntWalk.i64_in _ (by omega),← sumV_take zs k hlt] at hp
   first | refine CallP.is (hp _) rfl ?_ | refine CallQ.is (hp _) rfl rfl ?_
   refine Goes ?_
   exact ⟨k + 1,by omega,by omega,(Weak.of rfl rfl ktA ktA)⟩
 · obtain rfl:k=zs.length:=by omega
   rw [List.take_length] at hb ⊢
   first | refine CallP.is (valid_ret _ _) rfl ?_ | refine CallQ.is (valid_ret _ _) rfl rfl ?_
   refine Goes ?_;repeat' first|apply W2.m|refine W1.m fun h=>?_
   · refine FinOk.pure rfl rfl rfl ⟨?_,rfl,rfl⟩
     rw [if_neg h]
   · rw [if_pos (by assumption)]
     refine FinOk.pure rfl rfl rfl ⟨?_,rfl,rfl⟩
     rfl
theorem inFault_ret (e:List InD) (x:InD) (n:Nat) (hl:e.length≤1048576):Ret Tryz.prog 215 [insV e,.agg (inRow x)] [] n true (Is (iv (inC e x)) [] n):=by
 obtain ⟨x1,x2,x3⟩:=x
 have hL:(e.map inRow).length=e.length:=by simp
 refine Ret.fn ttOk Tryz.func215 rfl Tryz.call215 rfl rfl ?_
 refine Goes ?_
 first | refine CallP.is (isSum_ret _ _) rfl ?_ | refine CallQ.is (isSum_ret _ _) rfl rfl ?_
 refine Goes ?_;repeat' first|apply W2.m|refine W1.m fun h=>?_
 · refine FinOk.pure rfl rfl rfl ⟨?_,rfl,rfl⟩
   unfold inC; rw [if_pos h]
 have g1:¬ ¬ inR 0 2147483646 x1:=fun h'=>h' h
 first | refine CallP.is (isOut_ret _ _) rfl ?_ | refine CallQ.is (isOut_ret _ _) rfl rfl ?_
 refine Goes ?_;repeat' first|apply W2.m|refine W1.m fun h=>?_
 · refine FinOk.pure rfl rfl rfl ⟨?_,rfl,rfl⟩
   unfold inC; rw [if_neg g1,if_pos h]
 have g2:¬ ¬ inR 0 3 x2:=fun h'=>h' h
 first | refine CallP.is (stackFault_ret x3 _) rfl ?_ | refine CallQ.is (stackFault_ret x3 _) rfl rfl ?_
 refine Goes ?_;repeat' first|apply W2.m|refine W1.m fun h=>?_
 · refine FinOk.pure rfl rfl rfl ⟨?_,rfl,rfl⟩
   unfold inC; rw [if_neg g1,if_neg g2,if_pos h]
 have g3:¬ stackC x3≠0:=h
 rw [hL]
 refine LoopP.go (fun k:Nat=>k≤e.length∧dupB (e.take k) (x1,x2,x3)=false) (fun k=>⟨[(24,insV e),(25,iv e.length),(26,iv k),(3,.pt 0 0 0)],[(0,.box [iv x1,iv x2,il x3])],1⟩) (fun k=>e.length - k) 0 ⟨Nat.zero_le _,rfl⟩ (Weak.of rfl rfl ktA ktA) ?_
 intro k ⟨hk,hp⟩
 refine Goes ?_;repeat' first|apply W2.m|refine W1.m fun h=>?_
 · have hlt:k < e.length:=by omega
   rw [rowK inRow e k hlt]
   have hd:=dupB_take e (x1,x2,x3) k hlt
   have hy:=dupB_yes (x:=(x1,x2,x3)) hlt
   rw [hp] at hd
   generalize e[k]=y at *
   obtain ⟨y1,y2,y3⟩:=y
   dsimp only at hd hy
   refine ⟨by rw [hL]; exact ⟨by omega,by omega,rfl⟩,?_⟩
   refine Goes ?_;repeat' first|apply W2.m|refine W1.m fun h=>?_
   · have g5:y2=x2:=h
     have g4:y1=x1:=by assumption
     refine FinOk.pure rfl rfl rfl ⟨?_,rfl,rfl⟩
     unfold inC; rw [if_neg g1,if_neg g2,if_neg g3,if_pos (hy (by simp [g4,g5]))]
   · have g5:¬ y2=x2:=h
     exact ⟨k + 1,⟨by omega,by rw [hd]; simp [g5]⟩,by omega,(Weak.of rfl rfl ktA ktA)⟩
   · have g4:¬ y1=x1:=h
     exact ⟨k + 1,⟨by omega,by rw [hd]; simp [g4]⟩,by omega,(Weak.of rfl rfl ktA ktA)⟩
 · obtain rfl:k=e.length:=by omega
   rw [List.take_length] at hp
   refine FinOk.pure rfl rfl rfl ⟨?_,rfl,rfl⟩
   unfold inC; rw [if_neg g1,if_neg g2,if_neg g3,hp]; rfl
theorem outsFault_ret (ys:List OutD) (n:Nat) (hl:ys.length≤4):Ret Tryz.prog 216 [outsV ys] [] n true (Is (iv (outsC 0 ys)) [] n):=by
 have hL:(ys.map outRow).length=ys.length:=by simp
 have hV:(valsL ys).length=ys.length:=by simp [valsL]
 refine Ret.fn ttOk Tryz.func216 rfl Tryz.call216 rfl rfl ?_
 refine Goes ?_
 rw [hL]
 refine LoopP.go (fun k:Nat=>k≤ys.length∧(∀ z∈(valsL ys).take k,inR 0 1000000 z)∧outsC 0 ys=outsC (sumV ((valsL ys).take k)) (ys.drop k)) (fun k=>⟨[(9,outsV ys),(10,iv ys.length),(11,iv k),(3,.own 0 k)],[(0,.list 2 1 (ivs ((valsL ys).take k)))],1⟩) (fun k=>ys.length - k) 0 ⟨Nat.zero_le _,by simp,by simp [sumV]⟩ (Weak.of rfl rfl ktA ktA) ?_
 intro k ⟨hk,ha,hp⟩
 refine Goes ?_;repeat' first|apply W2.m|refine W1.m fun h=>?_
 · have hlt:k < ys.length:=by omega
   have hlv:k < (valsL ys).length:=by omega
   have hgv:(valsL ys)[k]=ys[k].1:=by simp [valsL]
   have hst:=sumV_take (valsL ys) k hlv
   have htk:=takeS (valsL ys) k hlv
   have hat:=outsC_at (sumV ((valsL ys).take k)) ys k hlt
   have htl:((valsL ys).take k).length=k:=by rw [List.length_take]; omega
   rw [hgv] at hst htk
   rw [rowK outRow ys k hlt]
   generalize ys[k]=y at *
   obtain ⟨y1,y2⟩:=y
   dsimp only at hst htk hat
   refine ⟨by rw [hL]; exact ⟨by omega,by omega,rfl⟩,?_⟩
   refine Goes ?_
   first | refine CallP.is (valid_ret _ _) rfl ?_ | refine CallQ.is (valid_ret _ _) rfl rfl ?_
   refine Goes ?_;repeat' first|apply W2.m|refine W1.m fun h=>?_
   · refine FinOk.pure rfl rfl rfl ⟨?_,rfl,rfl⟩
     rw [hp,hat,if_pos h]
   have g1:inR 0 1000000 y1:=h
   first | refine CallP.is (implProgramFault_ret y2 _) rfl ?_ | refine CallQ.is (implProgramFault_ret y2 _) rfl rfl ?_
   refine Goes ?_;repeat' first|apply W2.m|refine W1.m fun h=>?_
   · have g2:progC y2≠0:=h
     refine FinOk.pure rfl rfl rfl ⟨?_,rfl,rfl⟩
     rw [hp,hat,if_neg (fun h'=>h' g1),if_pos g2]
   · have g2:¬ progC y2≠0:=h
     refine ⟨⟨lenA,lenA,lenA,lenA,rwsA⟩,?_⟩
     refine Goes ?_
     refine ⟨k + 1,⟨by omega,?_,by rw [hp,hat,if_neg (fun h'=>h' g1),if_neg g2,hst]⟩,by omega,Weak.of rfl rfl ktA ⟨⟨leafO ?_,rfl,rfl⟩,trivial⟩⟩
     · rw [htk]; exact fun z hz=>(List.mem_append.1 hz).elim (ha z) (fun h'=>by simp at h'; subst h'; exact g1)
     · rw [takeM _ htl,htk]; simp
 · obtain rfl:k=ys.length:=by omega
   have ht:(valsL ys).take ys.length=valsL ys:=List.take_of_length_le (by omega)
   rw [ht] at ha hp ⊢
   rw [List.drop_length,outsC] at hp
   have htot:=fun n=>implTotalOf_ret (valsL ys) n ha (by omega)
   by_cases hm:inR 0 1000000 (sumV (valsL ys))
   · rw [if_pos hm] at hp
     simp only [if_pos hm] at htot
     refine CallP.convAIs (htot _) cvargsA rfl (by first | exact trivial | exact ⟨flat_ivs _,trivial⟩) ?_
     refine Goes ?_
     refine FinOk.pure rfl rfl rfl ⟨?_,rfl,rfl⟩
     rw [hp]
   · rw [if_neg hm] at hp
     simp only [if_neg hm] at htot
     refine CallP.convAIs (htot _) cvargsA rfl (by first | exact trivial | exact ⟨flat_ivs _,trivial⟩) ?_
     refine Goes ?_
     refine FinOk.pure rfl rfl rfl ⟨?_,rfl,rfl⟩
     rw [hp]
theorem implTxFault_ret (t:TxD) (n:Nat) (hl:t.2.1.length≤1048576) (hl2:t.2.2.length≤1048576):Ret Tryz.prog 173 [txV t] [] n true (Is (iv (faultC t)) [] n):=by
 obtain ⟨t1,xs,ys⟩:=t
 dsimp only at hl hl2
 have hL:(xs.map inRow).length=xs.length:=by simp
 have hL2:(ys.map outRow).length=ys.length:=by simp
 have hL3:(List.map inRow (t1,xs,ys).2.1).length=xs.length:=hL
 have hL4:(List.map outRow (t1,xs,ys).2.2).length=ys.length:=hL2
 by_cases hv:inR 0 65535 t1
 case neg =>
  refine Ret.fn ttOk Tryz.func173 rfl Tryz.call173 rfl rfl ?_
  refine Goes ?_
  first | refine CallP.is (isVar_ret _ _) rfl ?_ | refine CallQ.is (isVar_ret _ _) rfl rfl ?_
  refine Goes ?_;repeat' first|apply W2.m|refine W1.m fun h=>?_
  refine FinOk.pure rfl rfl rfl ⟨?_,rfl,rfl⟩
  unfold faultC; rw [if_pos hv]
 have hvr:=isVar_ret t1
 rw [decide_eq_true hv] at hvr
 have g1:¬ ¬ inR 0 65535 t1:=fun h'=>h' hv
 refine Ret.fn ttOk Tryz.func173 rfl Tryz.call173 rfl rfl ?_
 refine Goes ?_
 first | refine CallP.is (hvr _) rfl ?_ | refine CallQ.is (hvr _) rfl rfl ?_
 refine Goes ?_;repeat' first|apply W2.m|refine W1.m fun h=>?_
 · refine FinOk.pure rfl rfl rfl ⟨?_,rfl,rfl⟩
   unfold faultC; rw [if_neg g1,if_pos (by dsimp only; omega)]
 · refine FinOk.pure rfl rfl rfl ⟨?_,rfl,rfl⟩
   unfold faultC; rw [if_neg g1,if_neg (by dsimp only; omega),if_pos (by dsimp only; omega)]
 · refine FinOk.pure rfl rfl rfl ⟨?_,rfl,rfl⟩
   unfold faultC; rw [if_neg g1,if_neg (by dsimp only; omega),if_neg (by dsimp only; omega),if_pos (by dsimp only; omega)]
 have g2:faultC (t1,xs,ys)=if insC [] xs≠0 then insC [] xs else outsC 0 ys:=by
  unfold faultC; rw [if_neg g1,if_neg (by dsimp only; omega),if_neg (by dsimp only; omega),if_neg (by dsimp only; omega)]
 rw [hL3]
 have e0:insC [] xs=insC (xs.take 0) (xs.drop 0):=by simp
 refine LoopP.go (fun k:Nat=>k≤xs.length∧insC [] xs=insC (xs.take k) (xs.drop k)) (fun k=>⟨[(27,insV xs),(28,iv xs.length),(29,iv k),(1,.pt 0 0 0)],[(0,.box (txC (t1,xs,ys)))],1⟩) (fun k=>xs.length - k) 0 ⟨Nat.zero_le _,e0⟩ (Weak.of rfl rfl ktA ktA) ?_
 intro k ⟨hk,hp⟩
 refine Goes ?_;repeat' first|apply W2.m|refine W1.m fun h=>?_
 · have hlt:k < xs.length:=by omega
   have hat:=insC_at xs k hlt
   have hir:=fun n=>inFault_ret (xs.take k) xs[k] n (by rw [List.length_take]; omega)
   rw [rowK inRow xs k hlt]
   generalize xs[k]=x at *
   obtain ⟨x1,x2,x3⟩:=x
   refine ⟨by rw [hL]; exact ⟨by omega,by omega,rfl⟩,?_⟩
   refine Goes ?_
   rw [show List.take (Int.toNat (k:Int) - Int.toNat 0) (List.drop (Int.toNat 0) (List.map inRow (t1,xs,ys).2.1))=(xs.take k).map inRow from by simp [List.map_take]]
   first | refine CallP.is (hir _) rfl ?_ | refine CallQ.is (hir _) rfl rfl ?_
   refine Goes ?_;repeat' first|apply W2.m|refine W1.m fun h=>?_
   · have g3:inC (xs.take k) (x1,x2,x3)≠0:=h
     rw [if_pos g3] at hat
     refine FinOk.pure rfl rfl rfl ⟨?_,rfl,rfl⟩
     rw [g2,hp,hat,if_pos g3]
   · have g3:¬ inC (xs.take k) (x1,x2,x3)≠0:=h
     rw [if_neg g3] at hat
     exact ⟨k + 1,⟨by omega,by rw [hp,hat]⟩,by omega,(Weak.of rfl rfl ktA ktA)⟩
 · obtain rfl:k=xs.length:=by omega
   rw [insC_end] at hp
   rw [g2,hp,if_neg (by decide)]
   first | refine CallP.is (outsFault_ret ys _ (by omega)) rfl ?_ | refine CallQ.is (outsFault_ret ys _ (by omega)) rfl rfl ?_
   refine Goes ?_
   refine FinOk.pure rfl rfl rfl ⟨?_,rfl,rfl⟩
   rfl
theorem l3In_ret (xs:List InD) (k:Nat) (x:InD) (n:Nat) (hl:xs.length≤1048576) (hk:k < xs.length) (hx:xs[k]=x):Ret Tryz.prog 156 [insV xs,iv k] [] n true (Is (iv (inC (xs.take k) x)) [] n):=by
 obtain ⟨x1,x2,x3⟩:=x
 have hL:(xs.map inRow).length=xs.length:=by simp
 have hL3:(ivs (x1,x2,x3).2.2).length=x3.length:=by simp
 have hL4:(ivs x3).length=x3.length:=by simp
 refine Ret.fn ttOk Tryz.func156 rfl Tryz.call156 rfl rfl ?_
 refine Goes ?_
 rw [rowK inRow xs k hk,hx]
 refine ⟨by rw [hL]; exact ⟨by omega,by omega,rfl⟩,?_⟩
 refine Goes ?_
 first | refine CallP.is (l1In_ret _ _ _ _) rfl ?_ | refine CallQ.is (l1In_ret _ _ _ _) rfl rfl ?_
 refine Goes ?_;repeat' first|apply W2.m|refine W1.m fun h=>?_
 · refine FinOk.pure rfl rfl rfl ⟨?_,rfl,rfl⟩
   unfold inC; rw [if_pos h]
 have g1:¬ ¬ inR 0 2147483646 x1:=fun h'=>h' h
 first | refine CallP.is (l1In_ret _ _ _ _) rfl ?_ | refine CallQ.is (l1In_ret _ _ _ _) rfl rfl ?_
 refine Goes ?_;repeat' first|apply W2.m|refine W1.m fun h=>?_
 · refine FinOk.pure rfl rfl rfl ⟨?_,rfl,rfl⟩
   unfold inC; rw [if_neg g1,if_pos h]
 · have g2:¬ ¬ inR 0 3 x2:=fun h'=>h' (by assumption)
   refine FinOk.pure rfl rfl rfl ⟨?_,rfl,rfl⟩
   unfold inC; rw [if_neg g1,if_neg g2,if_pos (by unfold stackC; rw [if_pos (by dsimp only; omega)]; decide)]; unfold stackC; rw [if_pos (by dsimp only; omega)]
 have g2:¬ ¬ inR 0 3 x2:=fun h'=>h' (by assumption)
 have g3:¬ 8 < x3.length:=by omega
 first | refine CallP.is (l1All_ret x3 0 9999 _ (by omega)) rfl ?_ | refine CallQ.is (l1All_ret x3 0 9999 _ (by omega)) rfl rfl ?_
 refine Goes ?_
 cases hA:allB 0 9999 x3 with
 | false =>
   refine Goes ?_
   refine FinOk.pure rfl rfl rfl ⟨?_,rfl,rfl⟩
   unfold inC stackC; rw [if_neg g1,if_neg g2]; simp [g3,hA]
 | true =>
   have g4:¬ stackC x3≠0:=by unfold stackC; simp [g3,hA]
   refine Goes ?_
   refine LoopP.go (fun j:Nat=>j≤k∧dupB (xs.take j) (x1,x2,x3)=false) (fun j=>⟨[(0,insV xs),(1,iv k),(5,.rp (inRow (x1,x2,x3))),(6,iv j)],[],0⟩) (fun j=>k - j) 0 ⟨Nat.zero_le _,rfl⟩ (Weak.of rfl rfl ktA ktA) ?_
   intro j ⟨hj,hp⟩
   refine Goes ?_;repeat' first|apply W2.m|refine W1.m fun h=>?_
   · have hlt:j < xs.length:=by omega
     rw [rowK inRow xs j hlt]
     have hd:=dupB_take xs (x1,x2,x3) j hlt
     have hlt2:j < (xs.take k).length:=by rw [List.length_take]; omega
     have hy:=dupB_yes (x:=(x1,x2,x3)) hlt2
     rw [List.getElem_take] at hy
     rw [hp] at hd
     generalize hxy:xs[j]=y at *
     obtain ⟨y1,y2,y3⟩:=y
     dsimp only at hd hy
     refine ⟨by rw [hL]; exact ⟨by omega,by omega,rfl⟩,?_⟩
     refine Goes ?_;repeat' first|apply W2.m|refine W1.m fun h=>?_
     · have g5:y1=x1:=h
       rw [rowK inRow xs j hlt,hxy]
       refine ⟨by rw [hL]; exact ⟨by omega,by omega,rfl⟩,?_⟩
       refine Goes ?_;repeat' first|apply W2.m|refine W1.m fun h=>?_
       · have g6:y2=x2:=h
         refine FinOk.pure rfl rfl rfl ⟨?_,rfl,rfl⟩
         unfold inC; rw [if_neg g1,if_neg g2,if_neg g4,if_pos (hy (by simp [g5,g6]))]
       · have g6:¬ y2=x2:=h
         exact ⟨j + 1,⟨by omega,by rw [hd]; simp [g6]⟩,by omega,(Weak.of rfl rfl ktA ktA)⟩
     · have g5:¬ y1=x1:=h
       exact ⟨j + 1,⟨by omega,by rw [hd]; simp [g5]⟩,by omega,(Weak.of rfl rfl ktA ktA)⟩
   · obtain rfl:j=k:=by omega
     refine FinOk.pure rfl rfl rfl ⟨?_,rfl,rfl⟩
     unfold inC; rw [if_neg g1,if_neg g2,if_neg g4,hp]; rfl
theorem l3Outs_ret (ys:List OutD) (n:Nat) (hl:ys.length≤4):Ret Tryz.prog 157 [outsV ys] [] n true (Is (iv (outsC 0 ys)) [] n):=by
 have hL:(ys.map outRow).length=ys.length:=by simp
 have hV:(valsL ys).length=ys.length:=by simp [valsL]
 refine Ret.fn ttOk Tryz.func157 rfl Tryz.call157 rfl rfl ?_
 refine Goes ?_
 refine LoopP.go (fun k:Nat=>k≤ys.length∧(∀ z∈(valsL ys).take k,inR 0 1000000 z)∧outsC 0 ys=outsC (sumV ((valsL ys).take k)) (ys.drop k)) (fun k=>⟨[(0,outsV ys),(3,iv (sumV ((valsL ys).take k))),(4,iv k)],[],0⟩) (fun k=>ys.length - k) 0 ⟨Nat.zero_le _,by simp,by simp [sumV]⟩ (Weak.of rfl rfl ktA ktA) ?_
 intro k ⟨hk,ha,hp⟩
 have hbd:=sumV_bd _ ha
 have htl:((valsL ys).take k).length=k:=by rw [List.length_take]; omega
 rw [htl] at hbd
 refine Goes ?_;repeat' first|apply W2.m|refine W1.m fun h=>?_
 · have hlt:k < ys.length:=by omega
   have hlv:k < (valsL ys).length:=by omega
   have hgv:(valsL ys)[k]=ys[k].1:=by simp [valsL]
   have hst:=sumV_take (valsL ys) k hlv
   have htk:=takeS (valsL ys) k hlv
   have hat:=outsC_at (sumV ((valsL ys).take k)) ys k hlt
   rw [hgv] at hst htk
   rw [rowK outRow ys k hlt]
   generalize hxy:ys[k]=y at *
   obtain ⟨y1,y2⟩:=y
   dsimp only at hst htk hat
   refine ⟨by rw [hL]; exact ⟨by omega,by omega,rfl⟩,?_⟩
   refine Goes ?_
   first | refine CallP.is (l1Amount_ret _ _) rfl ?_ | refine CallQ.is (l1Amount_ret _ _) rfl rfl ?_
   refine Goes ?_;repeat' first|apply W2.m|refine W1.m fun h=>?_
   · refine FinOk.pure rfl rfl rfl ⟨?_,rfl,rfl⟩
     rw [hp,hat,if_pos h]
   have g1:inR 0 1000000 y1:=h
   have g1':=g1
   unfold inR at g1'
   rw [rowK outRow ys k hlt,hxy]
   refine ⟨by rw [hL]; exact ⟨by omega,by omega,rfl⟩,?_⟩
   refine Goes ?_
   first | refine CallP.is (l2Fault_ret y2 _) rfl ?_ | refine CallQ.is (l2Fault_ret y2 _) rfl rfl ?_
   refine Goes ?_;repeat' first|apply W2.m|refine W1.m fun h=>?_
   · have g2:progC y2≠0:=h
     refine FinOk.pure rfl rfl rfl ⟨?_,rfl,rfl⟩
     rw [hp,hat,if_neg (fun h'=>h' g1),if_pos g2]
   · have g2:¬ progC y2≠0:=h
     rw [rowK outRow ys k hlt,hxy]
     refine ⟨by rw [hL]; exact ⟨by omega,by omega,rfl⟩,?_⟩
     refine Goes ?_
     refine ⟨k + 1,⟨by omega,?_,by rw [hp,hat,if_neg (fun h'=>h' g1),if_neg g2,hst]⟩,by omega,Weak.of rfl rfl ⟨⟨rfl,rfl⟩,⟨leafI (by rw [hst,IntWalk.i64_in _ (by dsimp only; omega)]),rfl⟩,⟨leafI numA,rfl⟩,trivial⟩ trivial⟩
     rw [htk]; exact fun z hz=>(List.mem_append.1 hz).elim (ha z) (fun h'=>by simp at h'; subst h'; exact g1)
 · obtain rfl:k=ys.length:=by omega
   have ht:(valsL ys).take ys.length=valsL ys:=List.take_of_length_le (by omega)
   rw [ht] at ha hp ⊢
   rw [List.drop_length,outsC] at hp
   first | refine CallP.is (l1Amount_ret _ _) rfl ?_ | refine CallQ.is (l1Amount_ret _ _) rfl rfl ?_
   refine Goes ?_;repeat' first|apply W2.m|refine W1.m fun h=>?_
   · have hm:¬ inR 0 1000000 (sumV (valsL ys)):=h
     rw [if_neg hm] at hp
     refine FinOk.pure rfl rfl rfl ⟨?_,rfl,rfl⟩
     rw [hp]
   · have hm:inR 0 1000000 (sumV (valsL ys)):=h
     rw [if_pos hm] at hp
     refine FinOk.pure rfl rfl rfl ⟨?_,rfl,rfl⟩
     rw [hp]
end Go.Proofs.YtllhgcfacgiabaaGreat
