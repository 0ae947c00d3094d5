import Derived.Test.YtllhgcfacgiabaaGreatP70
namespace Go.Proofs.YtllhgcfacgiabaaGreat
open Go Go.Am Go.RowKit
set_option linter.unusedVariables false
set_option linter.unusedSimpArgs false
section
variable {α:Type} {C:Bw α} {f g u:Nat->α} {a b n s:Nat}
def Bl (C:Bw α) (u:Nat->α) (s n:Nat):Prop:=∀ i j,i<=j->j < n->i / s=j / s->C.le (u i) (u j)
structure Pm (f u:Nat->α) (n:Nat):Prop where
 out:∀ k,n<=k->u k=f k
 perm:(seg u 0 n).Perm (seg f 0 n)
theorem Pm.refl:Pm f f n:=⟨fun _ _=>rfl,List.Perm.refl _⟩
theorem Pm.step (h:Pm f u n) (k:Srt C u g a b) (h1:a<=b) (h2:b<=n):Pm f g n:=by
 refine ⟨fun q hq=>by rw [k.out q (by omega)]; exact h.out q hq,List.Perm.trans ?_ h.perm⟩
 rw [Pe g (Nat.zero_le a) (show a<=n by omega),Pe g h1 h2,Pe u (Nat.zero_le a) (show a<=n by omega),Pe u h1 h2,
  Pd (f:=u) (g:=g) (a:=0) (b:=a) (fun q _ q2=>k.out q (by omega)),Pd (f:=u) (g:=g) (a:=b) (b:=n) (fun q q1 _=>k.out q (by omega))]
 exact (List.Perm.refl _).append (k.perm.append (List.Perm.refl _))
end
set_option maxHeartbeats 2000000 in
theorem a5M {α:Type} (C:Bw α) (f:Nat->α) (n i nx:Nat) (hn:n<=60) :
 Ret Tryz.prog 263 [.own i n,iv n,F0] [(i,.list 184 6 (C.rows f n))] nx true (a2q C f n i nx 0 n 184):=by
 refine Ret.of_run (tt:=tt) Ad Tryz.func263 rfl Tryz.call263 [i] [.list 184 6 (C.rows f n)] [.own 0 n,iv n,F0] true nx _ rfl (Cj i) (by exact Nat.le_of_ble_eq_true rfl) rfl rfl ?_
 refine Goes ?_
 refine Ao.go (fun y:Nat × (Nat->α)=>20 * y.1<=n/\(∀ i j,i<=j->j < 20 * y.1->i / 20=j / 20->C.le (y.2 i) (y.2 j))/\Pm f y.2 n) (fun y=>⟨[(0,.own 0 n),(1,iv n),(2,F0),(6,iv 20),(7,iv ((20 * y.1:Nat):Int)),(8,iv ((20 * y.1 + 20:Nat):Int))],[(0,.list 184 6 (C.rows y.2 n))],1⟩) (fun y=>n + 20 - 20 * y.1) (0,f) ⟨by dsimp only; omega,fun i j i1 i2=>by dsimp only at i2; omega,.refl⟩ (Ac.of rfl rfl ktA ktA) ?_
 rintro ⟨k,u⟩ ⟨g1,g2,g3⟩
 dsimp only at g1 g2 g3 ⊢
 by_cases hk:20 * k + 20<=n
 · have e1:IntKind.i64.wrap (((20 * k + 20:Nat):Int) + 20)=((20 * (k + 1) + 20:Nat):Int):=by rw [IntWalk.i64_in _ (by omega)]; omega
   refine Goes ?_;repeat' first|apply W2.m|refine W1.m fun h=>?_
   refine Aa.heap (Vn C u n 0 (20 * k) (20 * k + 20) _ (by omega) (by omega) hk) rfl ktA rfl ?_
   rintro _ _ _ ⟨rfl,rfl,v,rfl,hv⟩
   refine Goes ?_
   refine ⟨(k + 1,v),⟨by dsimp only; omega,fun i j i1 i2 i3=>?_,g3.step hv (by omega) hk⟩,by dsimp only; omega,(Ac.of rfl rfl ktA ktA)⟩
   dsimp only at i2
   show C.le (v i) (v j)
   by_cases hj:j < 20 * k
   · rw [hv.out i (by omega),hv.out j (by omega)]; exact g2 i j i1 hj i3
   · exact hv.srt i j (by omega) i1 (by omega)
 · refine Goes ?_;repeat' first|apply W2.m|refine W1.m fun h=>?_
   refine Aa.heap (Vn C u n 0 (20 * k) n _ (by omega) g1 (Nat.le_refl _)) rfl ktA rfl ?_
   rintro _ _ _ ⟨rfl,rfl,v,rfl,hv⟩
   refine Goes ?_
   have hB:Bl C v 20 n:=fun i j i1 i2 i3=>by
    by_cases hj:j < 20 * k
    · rw [hv.out i (by omega),hv.out j (by omega)]; exact g2 i j i1 hj i3
    · exact hv.srt i j (by omega) i1 (by omega)
   have hP:=g3.step hv g1 (Nat.le_refl _)
   refine Ao.go (fun y:Nat × (Nat->α)=>(y.1=20∨y.1=40∨y.1=80)/\Bl C y.2 y.1 n/\Pm f y.2 n) (fun y=>⟨[(0,.own 0 n),(1,iv n),(2,F0),(6,iv y.1)],[(0,.list 184 6 (C.rows y.2 n))],1⟩) (fun y=>100 - y.1) (20,v) ⟨.inl rfl,hB,hP⟩ (Ac.of rfl rfl ktA ktA) ?_
   clear hB hP hv
   rintro ⟨s,w⟩ ⟨hs,hB,hP⟩
   dsimp only at hs hB hP ⊢
   by_cases n0:s < n
   · rcases hs with rfl | rfl | rfl
     · refine Goes ?_;repeat' first|apply W2.m|refine W1.m fun h=>?_
       refine Ao.go (fun z:Nat × (Nat->α)=>(z.1=0∨z.1=40)/\z.1<=n/\(∀ i j,i<=j->j < z.1->i / 40=j / 40->C.le (z.2 i) (z.2 j))/\(∀ i j,z.1<=i->i<=j->j < n->i / 20=j / 20->C.le (z.2 i) (z.2 j))/\Pm f z.2 n) (fun z=>⟨[(0,.own 0 n),(1,iv n),(2,F0),(6,iv ((20:Nat):Int)),(7,iv z.1),(8,iv ((z.1 + 40:Nat):Int))],[(0,.list 184 6 (C.rows z.2 n))],1⟩) (fun z=>n + 40 - z.1) (0,w) ⟨.inl rfl,Nat.zero_le _,fun i j i1 i2=>by dsimp only at i2; omega,fun i j _ i2 i3 i4=>hB i j i2 i3 i4,hP⟩ (Ac.of rfl rfl ktA ktA) ?_
       clear hB hP
       rintro ⟨a,x⟩ ⟨h1,h2,h3,h4,h5⟩
       dsimp only at h1 h2 h3 h4 h5 ⊢
       have e2:IntKind.i64.wrap ((a:Int) + ((20:Nat):Int))=((a + 20:Nat):Int):=by rw [IntWalk.i64_in _ (by omega)]; omega
       by_cases ha:a + 40<=n
       · have e3:IntKind.i64.wrap (((a + 40:Nat):Int) + IntKind.i64.wrap (2 * ((20:Nat):Int)))=((a + 40 + 40:Nat):Int):=by rw [show IntKind.i64.wrap (2 * ((20:Nat):Int))=40 from rfl,IntWalk.i64_in _ (by omega)]; omega
         refine Goes ?_;repeat' first|apply W2.m|refine W1.m fun h=>?_
         rw [e2]
         refine Aa.heap (Mu C x n 0 a (a + 20) (a + 40) _ (by omega) (by omega) (by omega) ha (fun i j i1 i2 i3=>h4 i j i1 i2 (by omega) (by omega)) (fun i j i1 i2 i3=>h4 i j (by omega) i2 (by omega) (by omega))) rfl ktA rfl ?_
         rintro _ _ _ ⟨rfl,rfl,x2,rfl,hx⟩
         refine Goes ?_
         refine ⟨(a + 40,x2),⟨by dsimp only; omega,ha,fun i j i1 i2 i3=>?_,fun i j i1 i2 i3 i4=>?_,h5.step hx (by omega) ha⟩,by dsimp only; omega,(Ac.of rfl rfl ktA ktA)⟩
         · dsimp only at i2
           show C.le (x2 i) (x2 j)
           by_cases hj:j < a
           · rw [hx.out i (by omega),hx.out j (by omega)]; exact h3 i j i1 hj i3
           · exact hx.srt i j (by omega) i1 (by omega)
         · dsimp only at i1
           show C.le (x2 i) (x2 j)
           rw [hx.out i (by omega),hx.out j (by omega)]; exact h4 i j (by omega) i2 i3 i4
       · by_cases hm:a + 20 < n
         · refine Goes ?_;repeat' first|apply W2.m|refine W1.m fun h=>?_
           simp only [e2]
           refine Aa.heap (Mu C x n 0 a (a + 20) n _ (by omega) (by omega) hm (Nat.le_refl _) (fun i j i1 i2 i3=>h4 i j i1 i2 (by omega) (by omega)) (fun i j i1 i2 i3=>h4 i j (by omega) i2 (by omega) (by omega))) rfl ktA rfl ?_
           rintro _ _ _ ⟨rfl,rfl,x2,rfl,hx⟩
           refine Goes ?_
           refine ⟨(40,x2),⟨.inr (.inl rfl),fun i j i1 i2 i3=>?_,h5.step hx (by omega) (Nat.le_refl _)⟩,by dsimp only; omega,(Ac.of rfl rfl ktA ktA)⟩
           show C.le (x2 i) (x2 j)
           by_cases hj:j < a
           · rw [hx.out i (by omega),hx.out j (by omega)]; exact h3 i j i1 hj i3
           · exact hx.srt i j (by dsimp only at i3; omega) i1 (by omega)
         · refine Goes ?_;repeat' first|apply W2.m|refine W1.m fun h=>?_
           refine ⟨(40,x),⟨.inr (.inl rfl),fun i j i1 i2 i3=>?_,h5⟩,by dsimp only; omega,(Ac.of rfl rfl ktA ktA)⟩
           dsimp only at i3
           show C.le (x i) (x j)
           by_cases hj:j < a
           · exact h3 i j i1 hj i3
           · exact h4 i j (by omega) i1 i2 (by omega)
     · refine Goes ?_;repeat' first|apply W2.m|refine W1.m fun h=>?_
       refine Ao.go (fun _:Unit=>True) (fun _=>⟨[(0,.own 0 n),(1,iv n),(2,F0),(6,iv ((40:Nat):Int)),(7,iv 0),(8,iv 80)],[(0,.list 184 6 (C.rows w n))],1⟩) (fun _=>0) () trivial (Ac.of rfl rfl ktA ktA) ?_
       intro _ _
       have e2:IntKind.i64.wrap (0 + ((40:Nat):Int))=40:=rfl
       by_cases hm:40 < n
       · refine Goes ?_;repeat' first|apply W2.m|refine W1.m fun h=>?_
         refine Aa.heap (Mu C w n 0 0 40 n _ (by omega) (by omega) hm (Nat.le_refl _) (fun i j i1 i2 i3=>hB i j i2 (by omega) (by omega)) (fun i j i1 i2 i3=>hB i j i2 (by omega) (by omega))) rfl ktA rfl ?_
         rintro _ _ _ ⟨rfl,rfl,x2,rfl,hx⟩
         refine Goes ?_
         refine ⟨(80,x2),⟨.inr (.inr rfl),fun i j i1 i2 i3=>hx.srt i j (Nat.zero_le _) i1 i2,hP.step hx (by omega) (Nat.le_refl _)⟩,by dsimp only; omega,(Ac.of rfl rfl ktA ktA)⟩
       · omega
     · omega
   · refine Goes ?_;repeat' first|apply W2.m|refine W1.m fun h=>?_
     refine Ab.mk' [] rfl rfl rfl rfl rfl rfl rfl ⟨rfl,rfl,w,rfl,fun q hq=>hP.out q (by omega),hP.perm,fun i j _ i2 i3=>hB i j i2 i3 ?_⟩
     rw [Nat.div_eq_of_lt (by omega),Nat.div_eq_of_lt (by omega)]
theorem a92 {α:Type} (C:Bw α) (f:Nat->α) (n i nx:Nat) (hn:n<=60) :
 Ret Tryz.prog 251 [.own i n,F0] [(i,.list 184 6 (C.rows f n))] nx true (a2q C f n i nx 0 n 184):=by
 refine Ret.of_run (tt:=tt) Ad Tryz.func251 rfl Tryz.call251 [i] [.list 184 6 (C.rows f n)] [.own 0 n,F0] true nx _ rfl (Cj i) (by exact Nat.le_of_ble_eq_true rfl) rfl rfl ?_
 refine Goes ?_
 refine Aa.heap (a5M C f n 0 _ hn) rfl ktA rfl ?_
 rintro _ _ _ ⟨rfl,rfl,g,rfl,hg⟩
 refine Goes ?_
 exact Ab.mk' [] rfl rfl rfl rfl rfl rfl rfl ⟨rfl,rfl,g,rfl,hg⟩
end Go.Proofs.YtllhgcfacgiabaaGreat
