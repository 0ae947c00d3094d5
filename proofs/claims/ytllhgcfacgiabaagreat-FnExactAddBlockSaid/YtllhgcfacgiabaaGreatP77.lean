import Derived.Test.YtllhgcfacgiabaaGreatP74
import Derived.Test.YtllhgcfacgiabaaGreatP54
namespace Go.Proofs.YtllhgcfacgiabaaGreat
open Go Go.Am Go.RowKit
set_option linter.unusedVariables false
set_option linter.unusedSimpArgs false
abbrev Ez (l:List Ah):List (List KV × AV):=l.map fun c=>(kvC c,Gr c)
abbrev keyB (t o:Int):Ah->Bool:=fun c=>decide (c.tx=t/\c.out=o)
theorem a2z (t o:Int):∀ l:List Ah,Gi [.int t,.int o] (Ez l)=(atC l t o).map Gr
 | []=>rfl
 | c::r=>by
   have ih:=a2z t o r
   unfold atC at *
   rw [Ez,List.map_cons,Gi]
   by_cases h:c.tx=t/\c.out=o
   · rw [if_pos (by simp [kvC,h]),List.find?_cons_of_pos (by simpa using h)]; rfl
   · rw [if_neg (by simpa [kvC] using h),List.find?_cons_of_neg (by simpa using h),ih]
theorem a34 (t o:Int):∀ l:List Ah,Wq [.int t,.int o] (Ez l)=Ez (l.eraseP (keyB t o))
 | []=>rfl
 | c::r=>by
   have ih:=a34 t o r
   rw [Ez,List.map_cons,Wq]
   by_cases h:c.tx=t/\c.out=o
   · rw [if_pos (by simp [kvC,h]),List.eraseP_cons_of_pos (by simpa using h)]
   · rw [if_neg (by simpa [kvC] using h),List.eraseP_cons_of_neg (by simpa using h),ih]; rfl
theorem a35 (k:List KV) (a:AV):∀ rows:List (List KV × AV),(∀ r∈rows,r.1≠k)->Rk k a rows=rows++[(k,a)]
 | [],_=>rfl
 | r::rs,h=>by
   rw [Rk,if_neg (h r (List.mem_cons_self ..)),a35 k a rs fun x hx=>h x (List.mem_cons_of_mem _ hx)]; rfl
theorem a1m {l:List Ah} (h:l.Pairwise Bz):∀ k,k<=l.length->Lr (l.take k)=Ez (l.take k)
 | 0,_=>by simp [Lr]
 | k + 1,hk=>by
   rw [Ur l k hk,a1m h k (by omega),a35,Bo l k hk]
   · rw [Ez,Ez,List.map_append]; rfl
   · intro r hr
     obtain ⟨x,hx,rfl⟩:=List.mem_map.1 hr
     obtain ⟨i,hi,rfl⟩:=List.mem_iff_getElem.1 hx
     rw [List.length_take] at hi
     rw [List.getElem_take]
     have:=List.pairwise_iff_getElem.1 h i k (by omega) hk (by omega)
     unfold Bz at this
     simp only [kvC,ne_eq,List.cons.injEq,KV.int.injEq,and_true]
     omega
theorem Us {l:List Ah} (h:A5 l=0):Lr l=Ez l:=by
 have:=a1m (Pj l none (Dp h).2.1).2 l.length (Nat.le_refl _)
 rwa [List.take_length] at this
def B6 (l:List Ah) (xs:List InD):List Ah:=xs.foldl (fun m x=>m.eraseP (keyB x.1 x.2.1)) l
theorem Q3 (l:List Ah) (xs:List InD) (k:Nat) (h:k < xs.length):B6 l (xs.take (k + 1))=(B6 l (xs.take k)).eraseP (keyB xs[k].1 xs[k].2.1):=by
 unfold B6; rw [Bo xs k h,List.foldl_append]; rfl
theorem a36 (l cs:List Ah) (xs:List InD) (i n:Nat) (hl:xs.length<=1048576) (hc:cs.length=xs.length) (hp:∀ c∈cs,J3 c<=1048576) (ha:∀ (k:Nat) (h:k < xs.length),atC (B6 l (xs.take k)) xs[k].1 xs[k].2.1=cs[k]?) :
 Ret Tryz.prog 225 [.mp i,Et xs] [(i,.map kks (Ez l))] n true (Is (.own n xs.length) [(i,.map kks (Ez (B6 l xs))),(n,.nest (c:=true) 184 6 (cs.map Fj))] (n + 1)):=by
 have hL:(xs.map A3).length=xs.length:=by simp
 refine Ret.of_run (tt:=tt) Ad Tryz.func225 rfl Tryz.call225 [i] [.map kks (Ez l)] [.mp 0,Et xs] true n _ rfl (Cj i) (by exact Nat.le_of_ble_eq_true rfl) rfl rfl ?_
 refine Goes ?_
 rw [hL]
 refine ⟨⟨by omega,by omega,by omega,by show _ * 64<=_; omega⟩,?_⟩
 refine Goes ?_
 refine Ao.go (fun k:Nat=>k<=xs.length) (fun k=>⟨[(0,.mp 0),(5,.own 1 k),(12,Et xs),(13,iv xs.length),(14,iv k)],[(1,.nest (c:=true) 184 6 ((cs.take k).map Fj)),(0,.map kks (Ez (B6 l (xs.take k))))],2⟩) (fun k=>xs.length - k) 0 (Nat.zero_le _) ?_ ?_
 · refine (Ac.nest 1 _ _ _ rfl).trans ?_
   rw [hL]
   exact Ac.of rfl rfl ⟨⟨rfl,rfl⟩,⟨rfl,rfl⟩,⟨rfl,rfl⟩,⟨rfl,rfl⟩,⟨rfl,rfl⟩,trivial⟩ ⟨⟨rfl,rfl,rfl⟩,⟨rfl,rfl,rfl⟩,trivial⟩
 intro k hk
 refine Goes ?_;repeat' first|apply W2.m|refine W1.m fun h=>?_
 · have aa:k < xs.length:=by omega
   have dc:=List.getElem?_eq_getElem (show k < cs.length by omega)
   have nD:=(ha k aa).trans dc
   rw [A1 A3 xs k aa]
   refine ⟨by rw [hL]; exact ⟨by omega,by omega,rfl⟩,?_⟩
   refine Goes ?_
   refine Aa.is (Od xs[k] _) rfl ?_
   refine Goes ?_
   rw [a2z,nD]
   refine ⟨True.intro,?_⟩
   refine Goes ?_
   refine Aa.is (Mx cs[k] _ (hp _ (List.getElem_mem _))) rfl ?_
   refine Goes ?_
   refine ⟨⟨by simp; omega,Nat.le_refl 1,by show (k + 1) * 64<=_; omega,by unfold maxLen; omega,fun c hc=>Sx (Pi _ c hc) 1,fun c hc=>by simp only [List.flatten_cons,List.flatten_nil,List.append_nil,List.mem_cons,List.not_mem_nil,or_false] at hc; rcases hc with rfl | rfl | rfl | rfl | rfl | rfl <;> simp [AV.idOf]⟩,?_⟩
   refine Goes ?_
   rw [a34]
   refine ⟨True.intro,?_⟩
   refine Goes ?_
   refine ⟨k + 1,by omega,by omega,?_⟩
   rw [show ((cs.take k).map Fj).take k=(cs.take k).map Fj from List.take_of_length_le (by simp; omega),Q3 l xs k aa]
   refine Ac.plant 1 _ 6 k 3 4 _ 1 cs[k].lock.length _ _ _ [iv cs[k].tx,iv cs[k].out,iv cs[k].val,.own 4 cs[k].lock.length,iv cs[k].h,bv cs[k].base] rfl rfl (by simp) (Wc (by simp; omega)) rfl ?_ (Pi _) (Mw _) rfl ⟨⟨rfl,rfl,rfl⟩,⟨rfl,rfl,rfl⟩,⟨rfl,rfl,rfl⟩,⟨rfl,rfl,rfl⟩,⟨Aw Cm,rfl,rfl⟩,trivial⟩ ⟨⟨rfl,rfl⟩,trivial⟩
   rw [Wd (by simp; omega),Bo cs k (by omega),List.map_append]; rfl
 · obtain rfl:k=xs.length:=by omega
   rw [List.take_length,List.take_of_length_le (by omega)]
   refine Ab.mk' [1] rfl rfl rfl rfl rfl rfl rfl ⟨?_,?_,rfl⟩
   · rfl
   · rfl
theorem a37 {xs ys zs:List Ah} (hp:ys.Perm xs) (hs:∀ (i j:Nat) (h:i<=j) (hj:j < ys.length),¬ Bz ys[j] (ys[i]'(Nat.lt_of_le_of_lt h hj))) (hz:zs.Pairwise Bz) (jV:zs.Perm xs):ys=zs:=by
 refine a1f (a8k hs ?_) hz (hp.trans jV.symm)
 refine ((hp.trans jV.symm).pairwise_iff (fun {a b} h e=>h ⟨e.1.symm,e.2.symm⟩)).2 ?_
 exact hz.imp fun {a b} h e=>by unfold Bz at h; omega
theorem Y7:∀ (l:List Ah) (j:Nat),Ez (l.eraseIdx j)=(Ez l).eraseIdx j
 | [],j=>rfl
 | c::r,0=>rfl
 | c::r,j + 1=>congrArg _ (Y7 r j)
theorem Q4:∀ {l:List Ah} {j:Nat} (h:j < l.length),(l[j]::l.eraseIdx j).Perm l
 | c::r,0,_=>List.Perm.refl _
 | c::r,j + 1,h=>(List.Perm.swap c _ _).trans ((Q4 (l:=r) (j:=j) (by simpa using h)).cons c)
def b2b (zs:List Ah) (i n T:Nat):AV->Hp->Nat->Prop:=fun r ho m=>∃ x,r=.own n zs.length/\ho=[(i,x),(n,.nest (c:=true) T 6 (zs.map Fj))]/\m=n + 1
abbrev b1m (c:Ah) (i:Nat):List AV:=[iv c.tx,iv c.out,iv c.val,.own i c.lock.length,iv c.h,bv c.base]
theorem Sz (l ms zs:List Ah) (i n:Nat) (k7:l.length + ms.length<=60) (cm:∀ c∈l,J3 c<=1048576) (iw:∀ c∈ms,J3 c<=1048576) (hz:zs.Pairwise Bz) (jV:zs.Perm (l++ms)) :
 Ret Tryz.prog 226 [.mp i,A0 ms] [(i,.map kks (Ez l))] n false (b2b zs i n 184):=by
 have hL:(ms.map Ai).length=ms.length:=by simp
 have hM:(Ez l).length=l.length:=by simp [Ez]
 have hw:IntKind.i64.wrap ((l.length:Int) + ms.length)=((l.length + ms.length:Nat):Int):=by rw [IntWalk.i64_in _ (by omega)]; omega
 refine Ret.of_runX (tt:=tt) Ad Tryz.func226 rfl Tryz.call226 [i] [.map kks (Ez l)] [.mp 0,A0 ms] false n _ rfl (Cj i) (by exact Nat.le_of_ble_eq_true rfl) rfl rfl ?_
 refine Goes ?_
 rw [hL,hM,hw]
 refine ⟨⟨by omega,by omega,by omega,by show _ * 64<=_; omega⟩,?_⟩
 refine Goes ?_
 refine Ao.go (fun y:Option (List KV × AV) × List Ah × List Ah=>(y.2.1++y.2.2).Perm l) (fun y=>⟨[(1,A0 ms),(5,.own 2 y.2.2.length),(17,.pt 0 0 0)],[(2,.nest (c:=true) 184 6 (y.2.2.map Fj)),(0,.ranged kks y.1 (Ez y.2.1))],3⟩) (fun y=>y.2.1.length) (none,l,[]) (by dsimp only; rw [List.append_nil]) ?_ ?_
 · refine (Ac.nest 2 _ _ _ rfl).trans ?_
   exact Ac.of rfl rfl ⟨⟨rfl,rfl⟩,⟨rfl,rfl⟩,⟨rfl,rfl⟩,trivial⟩ ⟨⟨rfl,rfl,rfl⟩,⟨rfl,rfl,rfl⟩,trivial⟩
 rintro ⟨cur,lf,ys⟩ hp
 dsimp only at hp ⊢
 have oc:∀ c∈ys,J3 c<=1048576:=fun c hc=>cm c (hp.mem_iff.1 (List.mem_append_right _ hc))
 have ae:=hp.length_eq
 rw [List.length_append] at ae
 refine Goes ?_
 refine ⟨fun h0=>?_,fun j hj=>?_⟩
 · obtain rfl:lf=[]:=List.map_eq_nil_iff.1 h0
   rw [List.nil_append] at hp
   rw [List.length_nil,Nat.zero_add] at ae
   refine Goes ?_
   refine Ao.go (fun k:Nat=>k<=ms.length) (fun k=>⟨[(5,.own 2 (ys++ms.take k).length),(27,A0 ms),(28,iv ms.length),(29,iv k)],[(2,.nest (c:=true) 184 6 ((ys++ms.take k).map Fj)),(0,.ranged kks cur (Ez []))],3⟩) (fun k=>ms.length - k) 0 (Nat.zero_le _) ?_ ?_
   · rw [hL,show ys++ms.take 0=ys by simp]
     exact (Ac.of rfl rfl ktA ktA)
   intro k hk
   have cU:(ys++ms.take k).length=ys.length + k:=by simp; omega
   refine Goes ?_;repeat' first|apply W2.m|refine W1.m fun h=>?_
   · have aa:k < ms.length:=by omega
     have eD:=iw ms[k] (List.getElem_mem aa)
     rw [A1 Ai ms k aa]
     refine ⟨by rw [hL]; exact ⟨by omega,by omega,rfl⟩,?_⟩
     obtain ⟨c,hc⟩:∃ c,c=ms[k]:=⟨_,rfl⟩
     rw [<- hc] at eD ⊢
     refine Goes ?_
     refine Aa.is (Mx c _ eD) rfl ?_
     refine Goes ?_
     refine ⟨⟨by simp,Nat.le_refl 1,by show ((ys++ms.take k).length + 1) * 64<=_; rw [cU]; omega,by unfold maxLen; rw [cU]; omega,fun c hc=>Sx (Pi _ c hc) 2,fun c hc=>by simp only [List.flatten_cons,List.flatten_nil,List.append_nil,List.mem_cons,List.not_mem_nil,or_false] at hc; rcases hc with rfl | rfl | rfl | rfl | rfl | rfl <;> simp [AV.idOf]⟩,?_⟩
     refine Goes ?_
     refine ⟨k + 1,by omega,by omega,?_⟩
     rw [show ys++ms.take (k + 1)=ys++ms.take k++[c] by rw [Bo ms k aa,hc,List.append_assoc],show (ys++ms.take k++[c]).length=(ys++ms.take k).length + 1 from List.length_append]
     generalize ys++ms.take k=vs
     rw [show (vs.map Fj).take vs.length=vs.map Fj from List.take_of_length_le (by simp)]
     refine Ac.plant 2 _ 6 vs.length 3 4 _ 1 c.lock.length _ _ _ (b1m c 4) rfl rfl (by simp) (Wc (by simp)) rfl ?_ (Pi _) (Mw _) rfl ⟨⟨rfl,rfl,rfl⟩,⟨rfl,rfl,rfl⟩,⟨rfl,rfl,rfl⟩,⟨Aw Cm,rfl,rfl⟩,trivial⟩ ⟨⟨rfl,rfl⟩,trivial⟩
     rw [Wd (by simp),List.map_append]; rfl
   · obtain rfl:k=ms.length:=by omega
     rw [List.take_length]
     refine Aa.heap (a0d (ys++ms) 2 _ (by rw [List.length_append]; omega)) rfl ktA rfl ?_
     rintro _ _ _ ⟨rfl,rfl,us,f5,dC,rfl⟩
     have hU:us=zs:=a37 (f5.trans (hp.append_right ms)) dC hz jV
     subst hU
     refine Goes ?_
     refine Ab.mk' [2] rfl rfl rfl rfl rfl rfl rfl ⟨_,?_,rfl,rfl⟩
     rw [f5.length_eq]; rfl
 · have aN:j < lf.length:=by simpa [Ez] using hj
   obtain ⟨c,hc⟩:∃ c,c=lf[j]:=⟨_,rfl⟩
   rw [show (Ez lf)[j]=(kvC c,Gr c) from by rw [hc]; exact List.getElem_map _]
   have eD:J3 c<=1048576:=cm c (hp.mem_iff.1 (List.mem_append_left _ (hc ▸ List.getElem_mem aN)))
   refine Goes ?_
   refine Aa.is (Mx c _ eD) rfl ?_
   refine Goes ?_
   refine ⟨⟨by simp,Nat.le_refl 1,by show (ys.length + 1) * 64<=_; omega,by unfold maxLen; omega,fun c hc=>Sx (Pi _ c hc) 2,fun c hc=>by simp only [List.flatten_cons,List.flatten_nil,List.append_nil,List.mem_cons,List.not_mem_nil,or_false] at hc; rcases hc with rfl | rfl | rfl | rfl | rfl | rfl <;> simp [AV.idOf]⟩,?_⟩
   refine Goes ?_
   refine ⟨(some (kvC c,Gr c),lf.eraseIdx j,ys++[c]),?_,?_,?_⟩
   · dsimp only
     refine List.Perm.trans ?_ hp
     have h1:=(Q4 aN).append_right ys
     rw [<- hc] at h1
     refine List.Perm.trans ?_ h1
     rw [<- List.append_assoc]
     exact List.perm_append_comm
   · dsimp only
     have:=(Q4 aN).length_eq
     simp only [List.length_cons] at this
     omega
   · dsimp only
     rw [Y7,show (ys++[c]).length=ys.length + 1 by simp,show (ys.map Fj).take ys.length=ys.map Fj from List.take_of_length_le (by simp)]
     refine Ac.plant 2 _ 6 ys.length 3 4 _ 1 c.lock.length _ _ _ (b1m c 4) rfl rfl (by simp) (Wc (by simp)) rfl ?_ (Pi _) (Mw _) rfl ⟨⟨rfl,rfl,rfl⟩,⟨rfl,rfl,rfl⟩,⟨rfl,rfl,rfl⟩,trivial⟩ ⟨⟨rfl,rfl⟩,trivial⟩
     rw [Wd (by simp),List.map_append]; rfl
def B0 (t:TxD) (hg:Int):List Ah:=t.2.2.mapIdx fun i y=>⟨textOf t,i,y.1,y.2,hg,decide (t.2.1.length=0)⟩
theorem C2 (t:TxD) (hg:Int):(B0 t hg).length=t.2.2.length:=by simp [B0]
theorem G9 (t:TxD) (hg:Int) (k:Nat) (h:k < t.2.2.length):(B0 t hg)[k]'(by rw [C2]; exact h)=⟨textOf t,k,t.2.2[k].1,t.2.2[k].2,hg,decide (t.2.1.length=0)⟩:=by simp [B0]
theorem a2A (t:TxD) (hg:Int):(B0 t hg).Pairwise Bz:=by
 rw [List.pairwise_iff_getElem]
 intro i j hi hj ah
 rw [C2] at hi hj
 rw [G9 t hg i hi,G9 t hg j hj]
 unfold Bz
 dsimp only
 omega
theorem a0f (t:TxD) (hg:Int) (n:Nat) (hz:A7 t=0) (hf:Fits t):Ret Tryz.prog 220 [txV t,iv hg] [] n true (Is (.own n (B0 t hg).length) [(n,.list 184 6 ((B0 t hg).map Ai))] (n + 1)):=by
 have aZ:=Ev hz
 have dJ:=aZ.2.2.1
 have ca:(t.2.2.map Ax).length=t.2.2.length:=by simp
 have eX:=fun n=>Kz t n hf
 have jE:a2l t=[iv 0,iv (textOf t)]:=by unfold a2l; rw [if_pos hz]
 rw [jE] at eX
 have ae:=C2 t hg
 have ai:=G9 t hg
 refine Ret.fn Ad Tryz.func220 rfl Tryz.call220 rfl rfl ?_
 refine Goes ?_
 refine Aa.is (eX _) rfl ?_
 refine Goes ?_
 rw [ca]
 refine ⟨⟨by omega,by omega,by omega,by show _ * 64<=_; omega⟩,?_⟩
 refine Goes ?_
 rw [ca]
 refine Ao.go (fun k:Nat=>k<=t.2.2.length) (fun k=>⟨[(1,iv hg),(2,.pt 0 0 0),(5,iv (textOf t)),(6,.own 1 t.2.2.length),(17,Dh t.2.2),(18,iv t.2.2.length),(19,iv k)],[(1,.list 184 6 (C4 Ai Yy (B0 t hg) k)),(0,.box (txC t))],2⟩) (fun k=>t.2.2.length - k) 0 (Nat.zero_le _) ?_ ?_
 · refine Ac.of rfl rfl ktA ⟨⟨Ch ?_,rfl,rfl⟩,⟨rfl,rfl,rfl⟩,trivial⟩
   unfold C4; rw [ae]; simp
 intro k hk
 have bh:=Ft Ai Yy (B0 t hg) k (by omega)
 refine Goes ?_;repeat' first|apply W2.m|refine W1.m fun h=>?_
 · have aa:k < t.2.2.length:=by omega
   rw [A1 Ax t.2.2 k aa]
   refine ⟨by rw [ca]; exact ⟨by omega,by omega,rfl⟩,?_⟩
   refine Goes ?_
   all_goals
    refine B8.is (J0 t _) rfl rfl ?_
    refine Goes ?_
   all_goals
    refine ⟨k + 1,by omega,by omega,Ac.of rfl rfl ktA ⟨⟨Ch ?_,rfl,rfl⟩,⟨rfl,rfl,rfl⟩,trivial⟩⟩
    exact Sg Ai Yy (B0 t hg) k (by omega) _ (by rw [ai k aa]; rfl) _ rfl
 · obtain rfl:k=t.2.2.length:=by omega
   rw [<- ae,Fu]
   refine Ab.mk' [1] rfl rfl rfl rfl rfl rfl rfl ⟨?_,?_,rfl⟩
   · rfl
   · rfl
theorem b04 (l:List Ah) (c:Ah) (i n:Nat):Ret Tryz.prog 224 [.mp i,Gr c] [(i,.map kks (Ez l))] n true (Is (bv (atC l c.tx c.out).isSome) [(i,.map kks (Ez l))] n):=by
 refine Ret.of_run (tt:=tt) Ad Tryz.func224 rfl Tryz.call224 [i] [.map kks (Ez l)] [.mp 0,Gr c] true n _ rfl (Cj i) (by exact Nat.le_of_ble_eq_true rfl) rfl rfl ?_
 refine Goes ?_
 refine Aa.is (Qb c _) rfl ?_
 refine Goes ?_
 rw [a2z]
 cases atC l c.tx c.out with
 | none =>
   refine ⟨True.intro,?_⟩
   refine Goes ?_
   refine Ab.mk' [] rfl rfl rfl rfl rfl rfl rfl ⟨?_,?_,rfl⟩
   · rfl
   · rfl
 | some d =>
   refine ⟨True.intro,?_⟩
   refine Goes ?_
   refine Ab.mk' [] rfl rfl rfl rfl rfl rfl rfl ⟨?_,?_,rfl⟩
   · rfl
   · rfl
def S0 (l:List Ah):List Ah->Nat->Int
 | [],_=>-1
 | c::r,k=>if (atC l c.tx c.out).isSome then k else S0 l r (k + 1)
theorem a2B (l ms:List Ah) (q i n:Nat) (k8:q≠i) (hl:ms.length<=1048576):Ret Tryz.prog 249 [A0 ms,.clo q] [(q,.clo 224 [.mp i] []),(i,.map kks (Ez l))] n true (Is (iv (S0 l ms 0)) [(q,.clo 224 [.mp i] []),(i,.map kks (Ez l))] n):=by
 have hL:(ms.map Ai).length=ms.length:=by simp
 refine Ret.of_run (tt:=tt) Ad Tryz.func249 rfl Tryz.call249 [q,i] [.clo 224 [.mp 1] [],.map kks (Ez l)] [A0 ms,.clo 0] true n _ rfl (Bc k8) (by exact Nat.le_of_ble_eq_true rfl) rfl rfl ?_
 refine Goes ?_
 refine Ao.go (fun k:Nat=>k<=ms.length/\S0 l ms 0=S0 l (ms.drop k) k) (fun k=>⟨[(0,A0 ms),(1,.clo 0),(6,A0 ms),(7,iv ms.length),(8,iv k)],[(0,.clo 224 [.mp 1] []),(1,.map kks (Ez l))],2⟩) (fun k=>ms.length - k) 0 ⟨Nat.zero_le _,rfl⟩ ?_ ?_
 · rw [hL]
   exact (Ac.of rfl rfl ktA ktA)
 intro k ⟨hk,hp⟩
 refine Goes ?_;repeat' first|apply W2.m|refine W1.m fun h=>?_
 · have aa:k < ms.length:=by omega
   rw [List.drop_eq_getElem_cons aa,S0] at hp
   rw [A1 Ai ms k aa]
   refine ⟨by rw [hL]; exact ⟨by omega,by omega,rfl⟩,?_⟩
   refine Goes ?_
   refine Aa.heapIs (b04 l ms[k] 1 _) rfl ktA rfl ?_
   refine Goes ?_
   cases hb:(atC l ms[k].tx ms[k].out).isSome with
   | true =>
     rw [hb,if_pos rfl] at hp
     refine Goes ?_
     rw [hp]
     refine Ab.mk' [] rfl rfl rfl rfl rfl rfl rfl ⟨?_,?_,rfl⟩
     · rfl
     · rfl
   | false =>
     rw [hb,if_neg (by simp)] at hp
     refine Goes ?_
     exact ⟨k + 1,⟨by omega,hp⟩,by omega,(Ac.of rfl rfl ktA ktA)⟩
 · obtain rfl:k=ms.length:=by omega
   rw [List.drop_length,S0] at hp
   rw [hp]
   refine Ab.mk' [] rfl rfl rfl rfl rfl rfl rfl ⟨?_,?_,rfl⟩
   · rfl
   · rfl
theorem a38 (l:List Ah):∀ (ms:List Ah) (k:Nat),decide (0<=S0 l ms k)=ms.any fun c=>(atC l c.tx c.out).isSome
 | [],k=>by simp [S0]
 | c::r,k=>by
   rw [S0,List.any_cons]
   cases hb:(atC l c.tx c.out).isSome with
   | true=>simp
   | false=>simpa using a38 l r (k + 1)
theorem M9 (l ms:List Ah) (q i n:Nat) (k8:q≠i) (hl:ms.length<=1048576):Ret Tryz.prog 223 [A0 ms,.clo q] [(q,.clo 224 [.mp i] []),(i,.map kks (Ez l))] n true (Is (bv (ms.any fun c=>(atC l c.tx c.out).isSome)) [(q,.clo 224 [.mp i] []),(i,.map kks (Ez l))] n):=by
 refine Ret.of_run (tt:=tt) Ad Tryz.func223 rfl Tryz.call223 [q,i] [.clo 224 [.mp 1] [],.map kks (Ez l)] [A0 ms,.clo 0] true n _ rfl (Bc k8) (by exact Nat.le_of_ble_eq_true rfl) rfl rfl ?_
 refine Goes ?_
 refine Aa.heapIs (a2B l ms 0 1 _ (by decide) hl) rfl ktA rfl ?_
 refine Goes ?_
 rw [<- a38 l ms 0]
 refine Ab.mk' [] rfl rfl rfl rfl rfl rfl rfl ⟨?_,?_,rfl⟩
 · rfl
 · rfl
end Go.Proofs.YtllhgcfacgiabaaGreat
