import Derived.Test.YtllhgcfacgiabaaGreatP88
import Derived.Test.YtllhgcfacgiabaaGreatP62
import Derived.Test.YtllhgcfacgiabaaGreatP41
namespace Go.Proofs.YtllhgcfacgiabaaGreat
open Go Go.Am Go.RowKit
set_option linter.unusedVariables false
set_option linter.unusedSimpArgs false
theorem a55 {l:List Ah} (h:A5 l=0):Qa l:=⟨by have:=(Dp h).1; omega,fun c hc=>by
 have h1:=a2D _ _ (Dp h).2.1 c hc
 unfold Ed at h1
 split at h1
 · have:=(a3C h1).1; show c.lock.length<=1048576; omega
 · cases h1⟩
theorem Q7 {l:List Ah} {t:TxD} {hg:Int} (h:Bf l t hg=0):A5 (newC l t hg)=0/\0<=Gx l t/\Gx l t<=4000000:=by
 obtain ⟨h0,hz,hh⟩:=a2F h
 unfold Bf at h
 rw [if_neg (fun e=>e h0),if_neg (fun e=>e hz),if_neg (fun e=>e hh)] at h
 by_cases h1:¬ t.2.1.length=0/\Dj l t hg≠0
 · rw [if_pos h1] at h; exact absurd h h1.2
 rw [if_neg h1] at h
 by_cases h2:((B0 t hg).any fun c=>(atC l c.tx c.out).isSome)=true
 · rw [if_pos h2] at h; cases h
 rw [if_neg h2] at h
 refine ⟨h,?_⟩
 unfold Gx
 by_cases hb:t.2.1.length=0
 · rw [if_pos hb]; exact ⟨Int.le_refl _,by decide⟩
 rw [if_neg hb]
 have hs:Dj l t hg=0:=Decidable.not_not.1 fun e=>h1 ⟨hb,e⟩
 have aZ:=Ev hz
 have b1:=Ey 1000000 (F6 l t.2.1) (fun z hz=>by obtain ⟨x,_,rfl⟩:=List.mem_map.1 hz; exact Y4 h0 x) (F6 l t.2.1).length (Nat.le_refl _)
 have b2:=Ey 2147483646 (Di t.2.2) (fun z hz=>by obtain ⟨y,hy,rfl⟩:=List.mem_map.1 hz; exact (aZ.2.2.2.2 y hy).1) (Di t.2.2).length (Nat.le_refl _)
 rw [List.take_length] at b1 b2
 have l1:(F6 l t.2.1).length=t.2.1.length:=by simp
 rw [l1] at b1
 have l2:=aZ.2.1
 unfold Dj at hs
 split at hs
 · rename_i e; exact absurd hs e
 · split at hs
   · cases hs
   · omega
def runT (hg:Int):List Ah->List TxD->Int × List Ah × Int
 | l,[]=>(0,l,0)
 | l,x::r=>if Bf l x hg=0 then ((runT hg (newC l x hg) r).1,(runT hg (newC l x hg) r).2.1,Gx l x + (runT hg (newC l x hg) r).2.2) else (Bf l x hg,[],0)
abbrev a4e (f:Int) (y:Int × List Ah × Int):Int × List Ah × Int:=(y.1,y.2.1,f + y.2.2)
theorem a60 (hg:Int) (m:List Ah) (xs:List TxD) (k:Nat) (h:k < xs.length):runT hg m (xs.drop k)=if Bf m xs[k] hg=0 then a4e (Gx m xs[k]) (runT hg (newC m xs[k] hg) (xs.drop (k + 1))) else (Bf m xs[k] hg,[],0):=by
 rw [List.drop_eq_getElem_cons h,runT]
theorem a1v (f g:Int) (y:Int × List Ah × Int):a4e f (a4e g y)=a4e (f + g) y:=by
 show (y.1,y.2.1,f + (g + y.2.2))=(y.1,y.2.1,f + g + y.2.2)
 rw [Int.add_assoc]
theorem Wg (hg:Int):∀ (xs:List TxD) (l:List Ah),A5 l=0->(runT hg l xs).1=0->A5 (runT hg l xs).2.1=0/\0<=(runT hg l xs).2.2/\(runT hg l xs).2.2<=4000000 * xs.length
 | [],l,h0,_=>⟨h0,Int.le_refl _,by show (0:Int)<=_; omega⟩
 | x::r,l,h0,h=>by
   rw [runT] at h ⊢
   by_cases hA:Bf l x hg=0
   · rw [if_pos hA] at h ⊢
     obtain ⟨k1,k2,k3⟩:=Q7 hA
     obtain ⟨g1,g2,g3⟩:=Wg hg r (newC l x hg) k1 h
     refine ⟨g1,?_,?_⟩
     · show 0<=Gx l x + (runT hg (newC l x hg) r).2.2; omega
     · show Gx l x + (runT hg (newC l x hg) r).2.2<=4000000 * ((r.length + 1:Nat):Int)
       push_cast; omega
   · rw [if_neg hA] at h; exact absurd h hA
set_option maxHeartbeats 2000000 in
theorem a4f (l:List Ah) (b:B7) (hg:Int) (n:Nat) (h0:A5 l=0) (hf:B4 b) (dY:b.txs.length<=4) (hz:Ha b.txs=0) (hh:inR 0 9999 hg) :
 Ret Tryz.prog 127 [A0 l,.rp (Ix b),iv hg] [] n true (Is (.tup (if (runT hg l b.txs).1=0 then [A0 (runT hg l b.txs).2.1,iv (runT hg l b.txs).2.2,iv 0] else [nl,iv 0,iv (runT hg l b.txs).1])) [] n):=by
 have hL:(b.txs.map txC).length=b.txs.length:=by simp
 refine Ret.fn Ad Tryz.func127 rfl Tryz.call127 rfl rfl ?_
 refine Goes ?_
 refine Ao.go (fun y:Nat × List Ah × Int=>y.1<=b.txs.length/\A5 y.2.1=0/\0<=y.2.2/\y.2.2<=4000000 * y.1/\runT hg l b.txs=a4e y.2.2 (runT hg y.2.1 (b.txs.drop y.1))) (fun y=>⟨[(0,A0 y.2.1),(1,.rp (Ix b)),(2,iv hg),(9,iv y.2.2),(10,iv y.1)],[],0⟩) (fun y=>b.txs.length - y.1) (0,l,0) ⟨Nat.zero_le _,h0,Int.le_refl _,by show (0:Int)<=_; omega,by show _=((runT hg l b.txs).1,(runT hg l b.txs).2.1,0 + (runT hg l b.txs).2.2); rw [Int.zero_add]⟩ (Ac.of rfl rfl ktA trivial) ?_
 rintro ⟨k,m,f⟩ ⟨g1,g2,g3,g4,g5⟩
 dsimp only at g1 g2 g3 g4 g5 ⊢
 by_cases aa:k < b.txs.length
 · have ai:=a60 hg m b.txs k aa
   have hx:=Lw hz _ (List.getElem_mem aa)
   have gl:=fun n=>a51 m b.txs[k] hg n (a55 g2) (hf.txs _ (List.getElem_mem aa)) g2 hx hh
   rw [ai] at g5
   by_cases hA:Bf m b.txs[k] hg=0
   · rw [if_pos hA] at g5
     simp only [if_pos hA] at gl
     obtain ⟨k1,k2,k3⟩:=Q7 hA
     rw [a1v] at g5
     refine Goes ?_;repeat' first|apply W2.m|refine W1.m fun h=>?_
     rw [A1 txC b.txs k aa]
     refine ⟨by rw [hL]; exact ⟨by omega,by omega,rfl⟩,?_⟩
     refine Goes ?_
     refine Aa.is (gl _) rfl ?_
     refine Goes ?_
     rw [show IntKind.i64.wrap (f + Gx m b.txs[k])=f + Gx m b.txs[k] from IntWalk.i64_in _ (by omega)]
     exact ⟨(k + 1,newC m b.txs[k] hg,f + Gx m b.txs[k]),⟨by show k + 1<=_; omega,k1,by show 0<=f + _; omega,by show f + _<=4000000 * ((k + 1:Nat):Int); push_cast; omega,g5⟩,by show _ - (k + 1) < _; omega,Ac.of rfl rfl ⟨⟨rfl,rfl⟩,⟨rfl,rfl⟩,⟨rfl,rfl⟩,⟨rfl,rfl⟩,⟨Aw Cm,rfl⟩,trivial⟩ trivial⟩
   · rw [if_neg hA] at g5
     simp only [if_neg hA] at gl
     rw [g5,if_neg (show ¬ (a4e f (Bf m b.txs[k] hg,[],0)).1=0 from hA)]
     refine Goes ?_;repeat' first|apply W2.m|refine W1.m fun h=>?_
     rw [A1 txC b.txs k aa]
     refine ⟨by rw [hL]; exact ⟨by omega,by omega,rfl⟩,?_⟩
     refine Goes ?_
     refine Aa.is (gl _) rfl ?_
     refine Goes ?_;repeat' first|apply W2.m|refine W1.m fun h=>?_
     all_goals
      refine Ab.mk' [] rfl rfl rfl rfl rfl rfl rfl ⟨?_,?_,rfl⟩
      · rfl
      · rfl
 · obtain rfl:k=b.txs.length:=by omega
   rw [List.drop_length,runT] at g5
   rw [g5,if_pos (show (a4e f (0,m,0)).1=0 from rfl)]
   refine Goes ?_;repeat' first|apply W2.m|refine W1.m fun h=>?_
   refine Ab.mk' [] rfl rfl rfl rfl rfl rfl rfl ⟨?_,?_,rfl⟩
   · show AV.tup [A0 m,iv f,iv 0]=AV.tup [A0 m,iv (f + 0),iv 0]
     rw [Int.add_zero]
   · rfl
theorem a56 (t:TxD) (n:Nat) (aZ:okT t):Ret Tryz.prog 233 [txV t] [] n true (Is (iv (Cf (Di t.2.2))) [] n):=by
 obtain ⟨_,bW,dJ,_,fw⟩:=aZ
 have ca:(t.2.2.map Ax).length=t.2.2.length:=by simp
 have a8:=Ey 2147483646 (Di t.2.2) (fun z hz=>by obtain ⟨y,hy,rfl⟩:=List.mem_map.1 hz; exact (fw y hy).1)
 refine Ret.fn Ad Tryz.func233 rfl Tryz.call233 rfl rfl ?_
 refine Goes ?_
 refine Ao.go (fun k:Nat=>k<=t.2.2.length) (fun k=>⟨[(3,iv (Cf ((Di t.2.2).take k))),(7,Dh t.2.2),(8,iv t.2.2.length),(9,iv k)],[],0⟩) (fun k=>t.2.2.length - k) 0 (Nat.zero_le _) ?_ ?_
 · rw [ca]; exact (Ac.of rfl rfl ktA trivial)
 intro j hj
 by_cases aa:j < t.2.2.length
 · have c1:=a8 j (by simpa using hj)
   have c2:=a8 (j + 1) (by simp; omega)
   have gT:=Eb (Di t.2.2) j (by simpa using aa)
   rw [List.getElem_map] at gT
   refine Goes ?_;repeat' first|apply W2.m|refine W1.m fun h=>?_
   rw [A1 Ax t.2.2 j aa]
   refine ⟨by rw [ca]; exact ⟨by omega,by omega,rfl⟩,?_⟩
   refine Goes ?_
   exact ⟨j + 1,by omega,by omega,Ac.of rfl rfl ⟨⟨Aw (by rw [IntWalk.i64_in _ (by omega)]; omega),rfl⟩,⟨rfl,rfl⟩,⟨rfl,rfl⟩,⟨Aw Cm,rfl⟩,trivial⟩ trivial⟩
 · obtain rfl:j=t.2.2.length:=by omega
   refine Goes ?_;repeat' first|apply W2.m|refine W1.m fun h=>?_
   refine Ab.pure rfl rfl rfl ⟨?_,rfl,rfl⟩
   rw [List.take_of_length_le (by simp)]
theorem a4g (b:B7) (x:TxD) (r:List TxD) (n:Nat) (h:b.txs=x::r):Ret Tryz.prog 195 [.agg (Vr b)] [] n true (Is (txV x) [] n):=by
 refine Ret.fn Ad Tryz.func195 rfl Tryz.call195 rfl rfl ?_
 refine Goes ?_
 rw [h]
 refine ⟨⟨by omega,by simp,rfl⟩,?_⟩
 refine Goes ?_
 refine Ab.pure rfl rfl rfl ⟨?_,rfl,rfl⟩
 rfl
def Iy (b:B7) (l:List Ah) (hg:Int):Int :=
 if (runT hg l b.txs).1≠0 then (runT hg l b.txs).1 else if Iw hg + (runT hg l b.txs).2.2 < Cf (Di (b.txs.headD (0,[],[])).2.2) then 7 else 0
theorem a4h (l:List Ah) (b:B7) (hg:Int) (n:Nat) (h0:A5 l=0) (hf:B4 b) (hb:Dn b=0) (hh:inR 1 9999 hg) :
 Ret Tryz.prog 196 [.agg (Vr b),A0 l,iv hg] [] n true (Is (.tup (if Iy b l hg=0 then [A0 (runT hg l b.txs).2.1,iv 0] else [nl,iv (Iy b l hg)])) [] n):=by
 obtain ⟨_,bW,dY,hz⟩:=Hb hb
 have hL:(b.txs.map txC).length=b.txs.length:=by simp
 obtain ⟨x,r,iE⟩:∃ x r,b.txs=x::r:=by
  cases h:b.txs with
  | nil=>rw [h] at bW; simp at bW
  | cons x r=>exact ⟨x,r,rfl⟩
 have lr:okT x:=Ev (Lw hz x (by rw [iE]; exact List.mem_cons_self ..))
 have hs:=fun n=>Sp hg n
 have mj:a5I hg=[iv 0,iv (Iw hg)]:=by unfold a5I; rw [if_pos hh]
 rw [mj] at hs
 have nG:0<=Iw hg/\Iw hg<=50:=by
  unfold Iw
  exact ⟨Int.ediv_nonneg (by decide) (by exact Int.le_of_lt (Int.pow_pos (by decide))),Int.ediv_le_self _ (by decide)⟩
 have od:inR 0 9999 hg:=⟨by have:=hh.1; omega,hh.2⟩
 have cY:=fun n=>a4g b x r n iE
 have gp:=fun n=>a56 x n lr
 unfold Iy
 have ii:b.txs.headD (0,[],[])=x:=by rw [iE]; rfl
 rw [ii]
 refine Ret.fn Ad Tryz.func196 rfl Tryz.call196 rfl rfl ?_
 refine Goes ?_
 refine Aa.is (hs _) rfl ?_
 refine Goes ?_
 rw [hL]
 refine Ao.go (fun y:Nat × List Ah × Int=>y.1<=b.txs.length/\A5 y.2.1=0/\0<=y.2.2/\y.2.2<=4000000 * y.1/\runT hg l b.txs=a4e y.2.2 (runT hg y.2.1 (b.txs.drop y.1))) (fun y=>⟨[(1,A0 y.2.1),(2,iv hg),(3,.pt 0 0 0),(8,iv (Iw hg + y.2.2)),(16,Im b.txs),(17,iv b.txs.length),(18,iv y.1)],[(0,.box (Vr b))],1⟩) (fun y=>b.txs.length - y.1) (0,l,0) ⟨Nat.zero_le _,h0,Int.le_refl _,by show (0:Int)<=_; omega,by show _=((runT hg l b.txs).1,(runT hg l b.txs).2.1,0 + (runT hg l b.txs).2.2); rw [Int.zero_add]⟩ ?_ ?_
 · exact Ac.of rfl rfl ⟨⟨rfl,rfl⟩,⟨rfl,rfl⟩,⟨rfl,rfl⟩,⟨Aw (by show _=Iw hg + 0; rw [Int.add_zero]),rfl⟩,⟨rfl,rfl⟩,⟨rfl,rfl⟩,⟨rfl,rfl⟩,trivial⟩ ⟨⟨rfl,rfl,rfl⟩,trivial⟩
 rintro ⟨k,m,f⟩ ⟨g1,g2,g3,g4,g5⟩
 dsimp only at g1 g2 g3 g4 g5 ⊢
 by_cases aa:k < b.txs.length
 · have ai:=a60 hg m b.txs k aa
   have ml:=hf.txs _ (List.getElem_mem aa)
   rw [ai] at g5
   by_cases hA:Bf m b.txs[k] hg=0
   · rw [if_pos hA] at g5
     have gl:=fun n=>a2G m b.txs[k] hg n (a55 g2) ml hA
     obtain ⟨k1,k2,k3⟩:=Q7 hA
     rw [a1v] at g5
     refine Goes ?_;repeat' first|apply W2.m|refine W1.m fun h=>?_
     rw [A1 txC b.txs k aa]
     refine ⟨⟨by omega,by omega,rfl⟩,?_⟩
     refine Goes ?_
     refine Aa.is (gl _) rfl ?_
     refine Goes ?_
     rw [show IntKind.i64.wrap (Iw hg + f + Gx m b.txs[k])=Iw hg + (f + Gx m b.txs[k]) from by rw [IntWalk.i64_in _ (by omega)]; omega]
     exact ⟨(k + 1,newC m b.txs[k] hg,f + Gx m b.txs[k]),⟨by show k + 1<=_; omega,k1,by show 0<=f + _; omega,by show f + _<=4000000 * ((k + 1:Nat):Int); push_cast; omega,g5⟩,by show _ - (k + 1) < _; omega,Ac.of rfl rfl ⟨⟨rfl,rfl⟩,⟨rfl,rfl⟩,⟨rfl,rfl⟩,⟨rfl,rfl⟩,⟨rfl,rfl⟩,⟨rfl,rfl⟩,⟨Aw Cm,rfl⟩,trivial⟩ ⟨⟨rfl,rfl,rfl⟩,trivial⟩⟩
   · rw [if_neg hA] at g5
     have gl:=fun n=>a0g m b.txs[k] hg n (a55 g2) ml hA
     have hB:(if (runT hg l b.txs).1≠0 then (runT hg l b.txs).1 else if Iw hg + (runT hg l b.txs).2.2 < Cf (Di x.2.2) then 7 else 0)=Bf m b.txs[k] hg:=by rw [g5]; exact if_pos hA
     rw [hB,if_neg hA]
     refine Goes ?_;repeat' first|apply W2.m|refine W1.m fun h=>?_
     rw [A1 txC b.txs k aa]
     refine ⟨⟨by omega,by omega,rfl⟩,?_⟩
     refine Goes ?_
     refine Aa.is (gl _) rfl ?_
     refine Goes ?_;repeat' first|apply W2.m|refine W1.m fun h=>?_
     all_goals
      refine Ab.mk' [] rfl rfl rfl rfl rfl rfl rfl ⟨?_,?_,rfl⟩
      · rfl
      · rfl
 · obtain rfl:k=b.txs.length:=by omega
   rw [List.drop_length,runT] at g5
   have g6:runT hg l b.txs=(0,m,f):=by rw [g5]; show (0,m,f + 0)=_; rw [Int.add_zero]
   rw [g6]
   by_cases hp:Iw hg + f < Cf (Di x.2.2)
   · have hB:(if ((0:Int),m,f).1≠0 then ((0:Int),m,f).1 else if Iw hg + ((0:Int),m,f).2.2 < Cf (Di x.2.2) then 7 else 0)=7:=by
      rw [if_neg (fun e=>e rfl)]; exact if_pos hp
     rw [hB,if_neg (by decide)]
     refine Goes ?_;repeat' first|apply W2.m|refine W1.m fun h=>?_
     refine Aa.is (cY _) rfl ?_
     refine Goes ?_
     refine Aa.is (gp _) rfl ?_
     refine Goes ?_;repeat' first|apply W2.m|refine W1.m fun h=>?_
     all_goals
      refine Ab.mk' [] rfl rfl rfl rfl rfl rfl rfl ⟨?_,?_,rfl⟩
      · rfl
      · rfl
   · have hB:(if ((0:Int),m,f).1≠0 then ((0:Int),m,f).1 else if Iw hg + ((0:Int),m,f).2.2 < Cf (Di x.2.2) then 7 else 0)=0:=by
      rw [if_neg (fun e=>e rfl)]; exact if_neg hp
     rw [hB,if_pos rfl]
     refine Goes ?_;repeat' first|apply W2.m|refine W1.m fun h=>?_
     refine Aa.is (cY _) rfl ?_
     refine Goes ?_
     refine Aa.is (gp _) rfl ?_
     refine Goes ?_;repeat' first|apply W2.m|refine W1.m fun h=>?_
     all_goals
      refine Ab.mk' [] rfl rfl rfl rfl rfl rfl rfl ⟨?_,?_,rfl⟩
      · rfl
      · rfl
abbrev nH (b:B7):List AV:=[iv b.prev,iv (S2 b),iv b.time,iv b.bits,iv b.nonce]
def Q8 (b:Int):Int:=tgF (b / 256) (b % 256)
theorem a4i {b:B7} (h:Dn b=0):Du b.bits/\E4 b.bits=true:=by
 have h1:=(Hb h).1.2.2.1
 refine ⟨?_,h1⟩
 unfold E4 at h1
 simp only [decide_eq_true_eq] at h1
 unfold Du; omega
theorem a2I (b:B7) (n:Nat) (h:Dn b=0):Ret Tryz.prog 103 [.agg (nH b)] [] n true (Is (bv (decide (E9 b<=Q8 b.bits))) [] n):=by
 obtain ⟨hb,a8⟩:=a4i h
 have hs:=fun n=>Za b.prev (S2 b) b.time b.bits b.nonce n (a1u h)
 have ht:=fun n=>Ln b.bits n hb
 have e:P8 b.bits=[iv 0,iv (Q8 b.bits)]:=by unfold P8; rw [if_pos a8]; rfl
 rw [e] at ht
 refine Ret.fn Ad Tryz.func103 rfl Tryz.call103 rfl rfl ?_
 refine Goes ?_
 refine B8.is (hs _) rfl rfl ?_
 refine Goes ?_
 refine Aa.is (ht _) rfl ?_
 refine Goes ?_
 refine Ab.pure rfl rfl rfl ⟨?_,rfl,rfl⟩
 rfl
theorem a2J (b:Int) (n:Nat) (hb:E4 b=true):Ret Tryz.prog 100 [iv b] [] n true (Is (iv (Q8 b)) [] n):=by
 unfold E4 at hb
 simp only [decide_eq_true_eq] at hb
 have hr:b.tmod 256=b % 256:=Int.tmod_eq_emod_of_nonneg (by omega)
 unfold Q8 tgF
 obtain ⟨e,he⟩:∃ e,e=b / 256:=⟨_,rfl⟩
 have hq:IntKind.i64.wrap (b.tdiv 256)=e:=by rw [Int.tdiv_eq_ediv_of_nonneg (by omega),IntWalk.i64_in _ (by omega),he]
 rw [<- he]
 rcases (by omega:e=0∨e=1∨e=2∨e=3) with rfl | rfl | rfl | rfl
 all_goals
  refine Ret.fn Ad Tryz.func100 rfl Tryz.call100 rfl rfl ?_
  refine Goes ?_
  rw [hq]
  refine ⟨by decide,?_⟩
  refine Goes ?_
  refine Ab.pure rfl rfl rfl ⟨?_,rfl,rfl⟩
  refine ivI ?_
  rw [hr]
  simp (disch:=omega) [IntKind.bits,IntWalk.i64_in,IntWalk.u64_in]
  try (simp (disch:=omega) [IntWalk.i64_in])
  try rw [Int.add_mul]
  try rw [Int.one_mul]
abbrev Ks (bits:Int) (i j:Nat) (xs:List Ar):Hp:=[(i,.box [iv bits,.own j xs.length]),(j,.list 109 5 (xs.map Bd))]
theorem b0l (bits up:Int) (xs:List Ar) (i j n:Nat) (ah:i≠j) (ae:xs.length<=9):Ret Tryz.prog 126 [.pt i 0 0,iv up] (Ks bits i j xs) n true (Is (bv (decide (-1<=up/\up + 1 < xs.length))) (Ks bits i j xs) n):=by
 refine Ret.of_run (tt:=tt) Ad Tryz.func126 rfl Tryz.call126 [i,j] [.box [iv bits,.own 1 xs.length],.list 109 5 (xs.map Bd)] [.pt 0 0 0,iv up] true n _ rfl (Bc ah) (by exact Nat.le_of_ble_eq_true rfl) rfl rfl ?_
 refine Goes ?_;repeat' first|apply W2.m|refine W1.m fun h=>?_
 · rw [show IntKind.i64.wrap ((xs.length:Int) + -1)=(xs.length:Int) + -1 from IntWalk.i64_in _ (by omega)]
   refine Ab.mk' [] rfl rfl rfl rfl rfl rfl rfl ⟨?_,?_,rfl⟩
   · refine bvI ?_
     simp only [decide_eq_decide]
     omega
   · rfl
 · refine Ab.mk' [] rfl rfl rfl rfl rfl rfl rfl ⟨?_,?_,rfl⟩
   · refine bvI ?_
     rw [decide_eq_false (by omega)]
   · rfl
theorem a57 (bits:Int) (xs:List Ar) (k i j n:Nat) (ah:i≠j) (hk:k < xs.length) (ae:xs.length<=9):Ret Tryz.prog 73 [.pt i 0 0,iv ((k:Int) + -1)] (Ks bits i j xs) n true (Is (.agg (Bd xs[k])) (Ks bits i j xs) n):=by
 have hL:(xs.map Bd).length=xs.length:=by simp
 refine Ret.of_run (tt:=tt) Ad Tryz.func73 rfl Tryz.call73 [i,j] [.box [iv bits,.own 1 xs.length],.list 109 5 (xs.map Bd)] [.pt 0 0 0,iv ((k:Int) + -1)] true n _ rfl (Bc ah) (by exact Nat.le_of_ble_eq_true rfl) rfl rfl ?_
 refine Goes ?_
 have hw:IntKind.i64.wrap ((k:Int) + -1 - -1)=(k:Int):=by rw [IntWalk.i64_in _ (by omega)]; omega
 rw [hw]
 refine ⟨⟨by omega,by omega⟩,?_⟩
 refine Goes ?_
 rw [A1 Bd xs k hk]
 refine Goes ?_
 refine Ab.mk' [] rfl rfl rfl rfl rfl rfl rfl ⟨?_,?_,rfl⟩
 · rfl
 · rfl
def E6 (bits:Int) (p:Ar) (b:B7):Int :=
 if b.bits≠bits∨b.time<=p.time then 9 else if ¬ E9 b<=Q8 b.bits then 8 else if (b.txs.headD (0,[],[])).1≠p.h + 1 then 1 else Iy b p.coins (p.h + 1)
def I0 (p:Ar) (up:Int) (b:B7):Ar:=⟨up,E9 b,b.time,p.h + 1,(runT (p.h + 1) p.coins b.txs).2.1⟩
abbrev b1M (p:Ar):AV:=.agg (Bd p)
abbrev b1N:AV:=.agg [iv 0,iv 0,iv 0,iv 0,nl]
set_option maxHeartbeats 2000000 in
theorem a0h (bits:Int) (xs:List Ar) (k:Nat) (b:B7) (i j n:Nat) (ah:i≠j) (hk:k < xs.length) (ae:xs.length<=9) (hf:B4 b) (hb:Dn b=0) (hc:A5 xs[k].coins=0) (hh:inR 0 8 xs[k].h) :
 Ret Tryz.prog 161 [.pt i 0 0,iv ((k:Int) + -1),.agg (Vr b)] (Ks bits i j xs) n true (Is (.tup (if E6 bits xs[k] b=0 then [b1M (I0 xs[k] ((k:Int) + -1) b),iv 0] else [b1N,iv (E6 bits xs[k] b)])) (Ks bits i j xs) n):=by
 obtain ⟨_,bW,dY,hz⟩:=Hb hb
 obtain ⟨x,r,iE⟩:∃ x r,b.txs=x::r:=by
  cases h:b.txs with
  | nil=>rw [h] at bW; simp at bW
  | cons x r=>exact ⟨x,r,rfl⟩
 have ii:b.txs.headD (0,[],[])=x:=by rw [iE]; rfl
 have cY:=fun n=>a4g b x r n iE
 have jW:inR 1 9999 (xs[k].h + 1):=by unfold inR at hh ⊢; omega
 have f7:=fun n=>a4h xs[k].coins b (xs[k].h + 1) n hc hf hb jW
 have dB:=fun n=>a2I b n hb
 have cu:=fun n=>Za b.prev (S2 b) b.time b.bits b.nonce n (a1u hb)
 have ai:=fun i j n ah=>a57 bits xs k i j n ah hk ae
 have hw:IntKind.i64.wrap (xs[k].h + 1)=xs[k].h + 1:=by unfold inR at hh; exact IntWalk.i64_in _ (by omega)
 have hC:E6 bits xs[k] b=if b.bits≠bits∨b.time<=xs[k].time then 9 else if ¬ E9 b<=Q8 b.bits then 8 else if x.1≠xs[k].h + 1 then 1 else Iy b xs[k].coins (xs[k].h + 1):=by unfold E6; rw [ii]
 refine Ret.of_run (tt:=tt) Ad Tryz.func161 rfl Tryz.call161 [i,j] [.box [iv bits,.own 1 xs.length],.list 109 5 (xs.map Bd)] [.pt 0 0 0,iv ((k:Int) + -1),.agg (Vr b)] true n _ rfl (Bc ah) (by exact Nat.le_of_ble_eq_true rfl) rfl rfl ?_
 by_cases h9:b.bits≠bits∨b.time<=xs[k].time
 · rw [if_pos h9] at hC
   rw [hC,if_neg (by decide)]
   refine Goes ?_
   refine Aa.heapIs (ai 0 1 _ (by decide)) rfl ktA rfl ?_
   refine Goes ?_;repeat' first|apply W2.m|refine W1.m fun h=>?_
   all_goals first
    | (exfalso; omega)
    | (refine Ab.mk' [] rfl rfl rfl rfl rfl rfl rfl ⟨?_,?_,rfl⟩
       · rfl
       · rfl)
 rw [if_neg h9] at hC
 have nI:b.bits=bits:=Decidable.not_not.1 fun e=>h9 (.inl e)
 have nJ:¬ b.time<=xs[k].time:=fun e=>h9 (.inr e)
 by_cases h8:E9 b<=Q8 b.bits
 case neg =>
  rw [if_pos h8] at hC
  rw [hC,if_neg (by decide)]
  refine Goes ?_
  refine Aa.heapIs (ai 0 1 _ (by decide)) rfl ktA rfl ?_
  refine Goes ?_;repeat' first|apply W2.m|refine W1.m fun h=>?_
  refine Aa.is (dB _) rfl ?_
  refine Goes ?_;repeat' first|apply W2.m|refine W1.m fun h=>?_
  all_goals first
   | (exfalso; omega)
   | (refine Ab.mk' [] rfl rfl rfl rfl rfl rfl rfl ⟨?_,?_,rfl⟩
      · rfl
      · rfl)
 rw [if_neg (show ¬ ¬ E9 b<=Q8 b.bits from fun e=>e h8)] at hC
 by_cases h1:x.1≠xs[k].h + 1
 · rw [if_pos h1] at hC
   rw [hC,if_neg (by decide)]
   refine Goes ?_
   refine Aa.heapIs (ai 0 1 _ (by decide)) rfl ktA rfl ?_
   refine Goes ?_;repeat' first|apply W2.m|refine W1.m fun h=>?_
   refine Aa.is (dB _) rfl ?_
   refine Goes ?_;repeat' first|apply W2.m|refine W1.m fun h=>?_
   refine Aa.is (cY _) rfl ?_
   refine Goes ?_;repeat' first|apply W2.m|refine W1.m fun h=>?_
   all_goals first
    | (exfalso; omega)
    | (refine Ab.mk' [] rfl rfl rfl rfl rfl rfl rfl ⟨?_,?_,rfl⟩
       · rfl
       · rfl)
 rw [if_neg h1] at hC
 by_cases h0:Iy b xs[k].coins (xs[k].h + 1)=0
 · rw [h0] at hC
   rw [hC,if_pos rfl]
   simp only [if_pos h0] at f7
   refine Goes ?_
   refine Aa.heapIs (ai 0 1 _ (by decide)) rfl ktA rfl ?_
   refine Goes ?_;repeat' first|apply W2.m|refine W1.m fun h=>?_
   refine Aa.is (dB _) rfl ?_
   refine Goes ?_;repeat' first|apply W2.m|refine W1.m fun h=>?_
   refine Aa.is (cY _) rfl ?_
   refine Goes ?_;repeat' first|apply W2.m|refine W1.m fun h=>?_
   rw [hw]
   refine Aa.is (f7 _) rfl ?_
   refine Goes ?_
   refine B8.is (cu _) rfl rfl ?_
   refine Goes ?_
   all_goals
    refine Ab.mk' [] rfl rfl rfl rfl rfl rfl rfl ⟨?_,?_,rfl⟩
    · rfl
    · rfl
 · rw [hC,if_neg h0]
   simp only [if_neg h0] at f7
   refine Goes ?_
   refine Aa.heapIs (ai 0 1 _ (by decide)) rfl ktA rfl ?_
   refine Goes ?_;repeat' first|apply W2.m|refine W1.m fun h=>?_
   refine Aa.is (dB _) rfl ?_
   refine Goes ?_;repeat' first|apply W2.m|refine W1.m fun h=>?_
   refine Aa.is (cY _) rfl ?_
   refine Goes ?_;repeat' first|apply W2.m|refine W1.m fun h=>?_
   rw [hw]
   refine Aa.is (f7 _) rfl ?_
   refine Goes ?_;repeat' first|apply W2.m|refine W1.m fun h=>?_
   all_goals first
    | (exfalso; omega)
    | (refine Ab.mk' [] rfl rfl rfl rfl rfl rfl rfl ⟨?_,?_,rfl⟩
       · rfl
       · rfl)
def K3 (bits:Int) (xs:List Ar) (p:Ar) (b:B7):Int:=if E6 bits p b≠0 then E6 bits p b else if (C1 xs (E9 b)).isSome=true then 6 else 0
def K4 (bits:Int) (xs:List Ar) (k:Nat) (p:Ar) (b:B7):List Ar:=if K3 bits xs p b=0 then xs++[I0 p ((k:Int) + -1) b] else xs
set_option maxHeartbeats 2000000 in
theorem a61 (bits:Int) (xs:List Ar) (k:Nat) (b:B7) (i j n:Nat) (ah:i≠j) (hk:k < xs.length) (ae:xs.length<=9) (hf:B4 b) (hb:Dn b=0) (hc:A5 xs[k].coins=0) (hh:inR 0 8 xs[k].h) :
 Ret Tryz.prog 121 [.pt i 0 0,iv ((k:Int) + -1),.agg (Vr b)] (Ks bits i j xs) n false (Is (iv (K3 bits xs xs[k] b)) (Ks bits i j (K4 bits xs k xs[k] b)) n):=by
 have aj:xs≠[]:=fun e=>by rw [e] at hk; exact absurd hk (Nat.not_lt_zero _)
 have hL:(xs.map Bd).length=xs.length:=by simp
 have jK:=fun i j n ah=>a0h bits xs k b i j n ah hk ae hf hb hc hh
 have cw:=fun i j n ah=>Yr bits (E9 b) xs i j n ah ae aj
 refine Ret.of_run (tt:=tt) Ad Tryz.func121 rfl Tryz.call121 [i,j] [.box [iv bits,.own 1 xs.length],.list 109 5 (xs.map Bd)] [.pt 0 0 0,iv ((k:Int) + -1),.agg (Vr b)] false n _ rfl (Bc ah) (by exact Nat.le_of_ble_eq_true rfl) rfl rfl ?_
 by_cases h0:E6 bits xs[k] b=0
 case neg =>
  have hA:K3 bits xs xs[k] b=E6 bits xs[k] b:=if_pos h0
  have hG:K4 bits xs k xs[k] b=xs:=by unfold K4; rw [hA,if_neg h0]
  rw [hA,hG]
  simp only [if_neg h0] at jK
  refine Goes ?_
  refine Aa.heapIs (jK 0 1 _ (by decide)) rfl ktA rfl ?_
  refine Goes ?_;repeat' first|apply W2.m|refine W1.m fun h=>?_
  refine Ab.mk' [] rfl rfl rfl rfl rfl rfl rfl ⟨?_,?_,rfl⟩
  · rfl
  · rfl
 simp only [if_pos h0] at jK
 unfold a3R at cw
 cases hn:C1 xs (E9 b) with
 | some m =>
   have hA:K3 bits xs xs[k] b=6:=by unfold K3; rw [if_neg (fun e=>e h0),hn]; rfl
   have hG:K4 bits xs k xs[k] b=xs:=by unfold K4; rw [hA,if_neg (by decide)]
   rw [hA,hG]
   rw [hn] at cw
   refine Goes ?_
   refine Aa.heapIs (jK 0 1 _ (by decide)) rfl ktA rfl ?_
   refine Goes ?_
   refine Aa.heapIs (cw 0 1 _ (by decide)) rfl ktA rfl ?_
   refine Goes ?_
   refine Ab.mk' [] rfl rfl rfl rfl rfl rfl rfl ⟨?_,?_,rfl⟩
   · rfl
   · rfl
 | none =>
   have hA:K3 bits xs xs[k] b=0:=by unfold K3; rw [if_neg (fun e=>e h0),hn]; rfl
   have hG:K4 bits xs k xs[k] b=xs++[I0 xs[k] ((k:Int) + -1) b]:=by unfold K4; rw [hA,if_pos rfl]
   rw [hA,hG]
   rw [hn] at cw
   refine Goes ?_
   refine Aa.heapIs (jK 0 1 _ (by decide)) rfl ktA rfl ?_
   refine Goes ?_
   refine Aa.heapIs (cw 0 1 _ (by decide)) rfl ktA rfl ?_
   refine Goes ?_
   refine ⟨⟨Az,Az,Az,Az,Ky⟩,?_⟩
   refine Goes ?_
   all_goals
    refine Ab.mk' [] rfl rfl rfl rfl rfl rfl rfl ⟨?_,?_,rfl⟩
    · rfl
    · rw [List.take_of_length_le (show (xs.map Bd).length<=xs.length by simp)]
      show [(i,A2.box [iv bits,.own j (xs.length + 1)]),(j,A2.list 109 5 (xs.map Bd++[Bd (I0 xs[k] ((k:Int) + -1) b)]))]=[(i,A2.box [iv bits,.own j (xs++[I0 xs[k] ((k:Int) + -1) b]).length]),(j,A2.list 109 5 ((xs++[I0 xs[k] ((k:Int) + -1) b]).map Bd))]
      rw [List.length_append,List.map_append]
      rfl
end Go.Proofs.YtllhgcfacgiabaaGreat
