import Derived.Test.YtllhgcfacgiabaaGreatP68
namespace Go.Proofs.YtllhgcfacgiabaaGreat
open Go Go.Am Go.RowKit
set_option linter.unusedVariables false
set_option linter.unusedSimpArgs false
structure Mid {α:Type} (C:Bw α) (f:Nat->α) (a m b c s e:Nat):Prop where
 ge:a<=s
 sm:s<=m
 me:m<=e
 eb:e<=b
 mid:s + (e - m)=c
 x:a < s->e < b->C.le (f (s - 1)) (f e)
 y:s < m->m < e->C.lt (f (e - 1)) (f s)
section
variable {α:Type} {C:Bw α} {f u g v:Nat->α} {a m b c s e:Nat}
theorem Mid.left (h:Mid C f a m b c s e) (h1:Sd C f a m):Sd C (Ca f s m e) a s:=fun i j i1 i2 i3=>by
 have:=h.sm
 rw [a2r (by omega),a2r i3]; exact h1 i j i1 i2 (by omega)
theorem Mid.left2 (h:Mid C f a m b c s e) (h2:Sd C f m b):Sd C (Ca f s m e) s c:=fun i j i1 i2 i3=>by
 have:=h.mid
 have:=h.eb
 rw [a8e i1 (by omega),a8e (by omega) (by omega)]; exact h2 _ _ (by omega) (by omega) (by omega)
theorem Mid.right (h:Mid C f a m b c s e) (h1:Sd C f a m):Sd C (Ca f s m e) c e:=fun i j i1 i2 i3=>by
 have:=h.mid
 have:=h.ge
 rw [a5L (by omega) (by omega),a5L (by omega) i3]; exact h1 _ _ (by omega) (by omega) (by omega)
theorem Mid.right2 (h:Mid C f a m b c s e) (h2:Sd C f m b):Sd C (Ca f s m e) e b:=fun i j i1 i2 i3=>by
 have:=h.me
 rw [a0a h.sm h.me i1,a0a h.sm h.me (by omega)]; exact h2 _ _ (by omega) (by omega) (by omega)
theorem Sd.nil (h:b<=a):Sd C f a b:=fun i j i1 i2 i3=>by omega
theorem Mid.allL (h:Mid C f a m b c s e) (h1:Sd C f a m) (h2:Sd C f m b) (hn:¬ (a < s/\s < c)):Srt C (Ca f s m e) (Ca f s m e) a c:=by
 have:=h.ge
 have:=h.mid
 by_cases k:s=a
 · subst k; exact .same (h.left2 h2)
 · obtain rfl:s=c:=by omega
   exact .same (h.left h1)
theorem Mid.allR (h:Mid C f a m b c s e) (h1:Sd C f a m) (h2:Sd C f m b) (hn:¬ (c < e/\e < b)):Srt C (Ca f s m e) (Ca f s m e) c b:=by
 have:=h.sm
 have:=h.me
 have:=h.mid
 have:=h.eb
 by_cases k:e=b
 · subst k; exact .same (h.right h1)
 · obtain rfl:e=c:=by omega
   exact .same (h.right2 h2)
theorem Srt.keep (h:Srt C u g a c) (h0:a<=c) (k:Sd C u c b):Sd C g c b:=fun i j i1 i2 i3=>by
 rw [h.out i (by omega),h.out j (by omega)]; exact k i j i1 i2 i3
theorem Sd.cut (h:Sd C f a b) (h1:c<=b):Sd C f a c:=fun i j i1 i2 i3=>h i j i1 i2 (by omega)
theorem Mid.fin (h:Mid C f a m b c s e) (h1:Sd C f a m) (h2:Sd C f m b) (hu:u=Ca f s m e) (hg:Srt C u g a c) (hv:Srt C g v c b):Srt C f v a b:=by
 have:=h.ge
 have:=h.sm
 have:=h.me
 have:=h.eb
 have:=h.mid
 subst hu
 refine Yu (c:=c) (by omega) (by omega) (fun k hk=>?_) (Yt h.ge h.sm h.me h.eb) (h.mid ▸ Un h1 h2 h.ge h.sm h.me h.eb h.x h.y) hg hv
 rcases hk with hk | hk
 · exact a2r (by omega)
 · exact a0a h.sm h.me (by omega)
end
def a91 {α:Type} (C:Bw α) (N d T:Nat):Prop:=∀ (f:Nat->α) (i a m b n:Nat),b - a<=d->a < m->m < b->b<=N->Sd C f a m->Sd C f m b ->
    Ret Tryz.prog 270 [.own i N,iv a,iv m,iv b,F0] [(i,.list T 6 (C.rows f N))] n true (a2q C f N i n a b T)
set_option maxHeartbeats 4000000 in
theorem a2v {α:Type} (C:Bw α) (N:Nat) (hN:N<=1048576) (d:Nat) (ih:a91 C N d 184) (f:Nat->α) (i a m b n c:Nat) (hd:b - a<=d + 1) (h1:a < m) (h2:m < b) (h3:b<=N) (s1:Sd C f a m) (s2:Sd C f m b) (c1:¬ a + 1=m) (c2:¬ m + 1=b) (hc:c=(a + b) / 2) (k1:c < m) :
 Ret Tryz.prog 270 [.own i N,iv a,iv m,iv b,F0] [(i,.list 184 6 (C.rows f N))] n true (a2q C f N i n a b 184):=by
 have w1:=Pf a b (by omega)
 rw [<- hc] at w1
 have w2:IntKind.i64.wrap (IntKind.i64.wrap (Int.fdiv (IntKind.u64.wrap (IntKind.i64.wrap ((a:Int) + b))) (2 ^ min (Int.toNat 1) IntKind.u64.bits)) + m)=((c + m:Nat):Int):=by rw [w1,IntWalk.i64_in _ (by omega)]; omega
 have w3:IntKind.i64.wrap (IntKind.i64.wrap (IntKind.i64.wrap (Int.fdiv (IntKind.u64.wrap (IntKind.i64.wrap ((a:Int) + b))) (2 ^ min (Int.toNat 1) IntKind.u64.bits)) + m) - 1)=((c + m - 1:Nat):Int):=by rw [w2,IntWalk.i64_in _ (by omega)]; omega
 have w4:IntKind.i64.wrap ((m:Int) - a)=((m - a:Nat):Int):=by rw [IntWalk.i64_in _ (by omega)]; omega
 have w5:IntKind.i64.wrap ((b:Int) - m)=((b - m:Nat):Int):=by rw [IntWalk.i64_in _ (by omega)]; omega
 obtain ⟨lo,hi,k2,k3⟩:∃ lo hi,lo=c + m - b/\hi=c:=⟨_,_,rfl,rfl⟩
 have w6:IntKind.i64.wrap (IntKind.i64.wrap (IntKind.i64.wrap (Int.fdiv (IntKind.u64.wrap (IntKind.i64.wrap ((a:Int) + b))) (2 ^ min (Int.toNat 1) IntKind.u64.bits)) + m) - b)=(lo:Int):=by rw [w2,IntWalk.i64_in _ (by omega)]; omega
 have b1:a<=lo/\lo<=hi/\hi<=m/\hi<=c/\c + m<=lo + b/\(lo=a∨lo + b=c + m)/\(hi=m∨hi=c)/\a < c/\c < b:=by omega
 obtain ⟨l1,l2,l3,l4,l5,l6,l7,l8,l9⟩:=b1
 refine Ret.of_run (tt:=tt) Ad Tryz.func270 rfl Tryz.call270 [i] [.list 184 6 (C.rows f N)] [.own 0 N,iv a,iv m,iv b,F0] true n _ rfl (Cj i) (by exact Nat.le_of_ble_eq_true rfl) rfl rfl ?_
 refine Goes ?_;repeat' first|apply W2.m|refine W1.m fun h=>?_
 refine Ao.go (fun y:Nat × Nat=>lo<=y.1/\y.1<=y.2/\y.2<=hi/\(∀ k,lo<=k->k < y.1->C.le (f k) (f (c + m - 1 - k)))/\∀ k,y.2<=k->k < hi->C.lt (f (c + m - 1 - k)) (f k)) (fun y=>⟨[(0,.own 0 N),(1,iv a),(2,iv m),(3,iv b),(4,F0),(18,iv c),(19,iv ((c + m:Nat):Int)),(20,iv y.1),(21,iv y.2),(22,iv ((c + m - 1:Nat):Int))],[(0,.list 184 6 (C.rows f N))],1⟩) (fun y=>y.2 - y.1) (lo,hi) ⟨Nat.le_refl _,by dsimp only; omega,Nat.le_refl _,fun k k1 k2=>by omega,fun k k1 k2=>by omega⟩ (Ac.of rfl rfl ktA ktA) ?_
 rintro ⟨s,q⟩ ⟨g1,g2,g3,g4,g5⟩
 dsimp only at g1 g2 g3 g4 g5 ⊢
 by_cases g8:s < q
 · refine Goes ?_;repeat' first|apply W2.m|refine W1.m fun h=>?_
   rw [Pf s q (by omega)]
   obtain ⟨z,hz⟩:∃ z,z=(s + q) / 2:=⟨_,rfl⟩
   try rw [<- hz]
   have e2:IntKind.i64.wrap ((z:Int) + 1)=((z + 1:Nat):Int):=by rw [IntWalk.i64_in _ (by omega)]; omega
   have e5:IntKind.i64.wrap (((c + m - 1:Nat):Int) - z)=((c + m - 1 - z:Nat):Int):=by rw [IntWalk.i64_in _ (by omega)]; omega
   try rw [e5]
   by_cases hl:C.lt (f (c + m - 1 - z)) (f z)
   · have bp:=(C.cmp_lt _ _).2 hl
     refine And.intro (by omega) ?_
     refine Goes ?_
     rw [C.rowsK f (c + m - 1 - z) (by omega)]
     refine And.intro (by rw [C.rows_len]; omega) ?_
     refine Goes ?_
     rw [C.rowsK f z (by omega)]
     refine And.intro (by rw [C.rows_len]; omega) ?_
     refine Goes ?_
     refine Aa.is (D2 C (f (c + m - 1 - z)) (f z) _) rfl ?_
     refine Goes ?_;repeat' first|apply W2.m|refine W1.m fun h=>?_
     exact ⟨(s,z),⟨g1,by dsimp only; omega,by dsimp only; omega,g4,fun k k1 k2=>C.le_lt (s2 (c + m - 1 - k) (c + m - 1 - z) (by omega) (by omega) (by omega)) (C.lt_le_trans hl (s1 z k (by omega) k1 (by omega)))⟩,by dsimp only; omega,(Ac.of rfl rfl ktA ktA)⟩
   · have bp:¬ C.cmp (f (c + m - 1 - z)) (f z) < 0:=fun h=>hl ((C.cmp_lt _ _).1 h)
     refine And.intro (by omega) ?_
     refine Goes ?_
     rw [C.rowsK f (c + m - 1 - z) (by omega)]
     refine And.intro (by rw [C.rows_len]; omega) ?_
     refine Goes ?_
     rw [C.rowsK f z (by omega)]
     refine And.intro (by rw [C.rows_len]; omega) ?_
     refine Goes ?_
     refine Aa.is (D2 C (f (c + m - 1 - z)) (f z) _) rfl ?_
     refine Goes ?_;repeat' first|apply W2.m|refine W1.m fun h=>?_
     rw [e2]
     exact ⟨(z + 1,q),⟨by dsimp only; omega,by dsimp only; omega,g3,fun k k1 k2=>C.le_trans (s1 k z (by omega) (by dsimp only at k2; omega) (by omega)) (C.le_trans hl (s2 (c + m - 1 - z) (c + m - 1 - k) (by omega) (by dsimp only at k2; omega) (by omega))),g5⟩,by dsimp only; omega,(Ac.of rfl rfl ktA ktA)⟩
 · obtain rfl:s=q:=by omega
   have e6:IntKind.i64.wrap (((c + m:Nat):Int) - s)=((c + m - s:Nat):Int):=by rw [IntWalk.i64_in _ (by omega)]; omega
   have hM:Mid C f a m b c s (c + m - s):=⟨by omega,by omega,by omega,by omega,by omega,fun x1 x2=>by
    have:=g4 (s - 1) (by omega) (by omega)
    rwa [show c + m - 1 - (s - 1)=c + m - s by omega] at this,fun y1 y2=>by
    have:=g5 s (Nat.le_refl _) (by omega)
    rwa [show c + m - 1 - s=c + m - s - 1 by omega] at this⟩
   by_cases hr:s < m/\m < c + m - s
   · have hU:Ca f s m (c + m - s)=Ca f s m (c + m - s):=rfl
     have q1:Sd C (Ca f s m (c + m - s)) a s:=by rw [hU]; exact hM.left s1
     have q2:Sd C (Ca f s m (c + m - s)) s c:=by rw [hU]; exact hM.left2 s2
     have q3:Sd C (Ca f s m (c + m - s)) c (c + m - s):=by rw [hU]; exact hM.right s1
     have q4:Sd C (Ca f s m (c + m - s)) (c + m - s) b:=by rw [hU]; exact hM.right2 s2
     have q5:¬ (a < s/\s < c)->Srt C (Ca f s m (c + m - s)) (Ca f s m (c + m - s)) a c:=fun hn=>by rw [hU]; exact hM.allL s1 s2 hn
     have q6:¬ (c < c + m - s/\c + m - s < b)->Srt C (Ca f s m (c + m - s)) (Ca f s m (c + m - s)) c b:=fun hn=>by rw [hU]; exact hM.allR s1 s2 hn
     by_cases hl:a < s/\s < c
     · by_cases hg:c < c + m - s/\c + m - s < b
       · first
          | exfalso; omega
          | refine Goes ?_;repeat' first|apply W2.m|refine W1.m fun h=>?_
            try simp only [e6]
            first
             | refine Aa.heapIs (Cg C f N 0 s m (c + m - s) _ hN (by omega) (by omega) (by omega)) rfl ktA rfl ?_
               refine Goes ?_;repeat' first|apply W2.m|refine W1.m fun h=>?_
             | skip
            try simp only [e6]
            refine Aa.heap (ih (Ca f s m (c + m - s)) 0 a s c 1 (by omega) hl.1 hl.2 (by omega) q1 q2) rfl ktA rfl ?_
            rintro _ _ _ ⟨rfl,rfl,u1,rfl,aH⟩
            refine Goes ?_;repeat' first|apply W2.m|refine W1.m fun h=>?_
            try simp only [e6]
            refine Aa.heap (ih u1 0 c (c + m - s) b 1 (by omega) hg.1 hg.2 (by omega) (fun i j i1 i2 i3=>by rw [aH.out i (by omega),aH.out j (by omega)]; exact q3 i j i1 i2 i3) (fun i j i1 i2 i3=>by rw [aH.out i (by omega),aH.out j (by omega)]; exact q4 i j i1 i2 i3)) rfl ktA rfl ?_
            rintro _ _ _ ⟨rfl,rfl,u2,rfl,bV⟩
            refine Goes ?_
            refine Ab.mk' [] rfl rfl rfl rfl rfl rfl rfl ⟨rfl,rfl,u2,rfl,hM.fin s1 s2 hU aH bV⟩
       · first
          | exfalso; omega
          | refine Goes ?_;repeat' first|apply W2.m|refine W1.m fun h=>?_
            try simp only [e6]
            first
             | refine Aa.heapIs (Cg C f N 0 s m (c + m - s) _ hN (by omega) (by omega) (by omega)) rfl ktA rfl ?_
               refine Goes ?_;repeat' first|apply W2.m|refine W1.m fun h=>?_
             | skip
            try simp only [e6]
            refine Aa.heap (ih (Ca f s m (c + m - s)) 0 a s c 1 (by omega) hl.1 hl.2 (by omega) q1 q2) rfl ktA rfl ?_
            rintro _ _ _ ⟨rfl,rfl,u1,rfl,aH⟩
            refine Goes ?_;repeat' first|apply W2.m|refine W1.m fun h=>?_
            refine Ab.mk' [] rfl rfl rfl rfl rfl rfl rfl ⟨rfl,rfl,u1,rfl,hM.fin s1 s2 hU aH (.same (aH.keep (by omega) (q6 hg).srt))⟩
     · by_cases hg:c < c + m - s/\c + m - s < b
       · first
          | exfalso; omega
          | refine Goes ?_
            try simp only [e6]
            first
             | refine Aa.heapIs (Cg C f N 0 s m (c + m - s) _ hN (by omega) (by omega) (by omega)) rfl ktA rfl ?_
               refine Goes ?_
             | skip
            try simp only [e6]
            refine Aa.heap (ih (Ca f s m (c + m - s)) 0 c (c + m - s) b 1 (by omega) hg.1 hg.2 (by omega) q3 q4) rfl ktA rfl ?_
            rintro _ _ _ ⟨rfl,rfl,u2,rfl,bV⟩
            refine Goes ?_
            refine Ab.mk' [] rfl rfl rfl rfl rfl rfl rfl ⟨rfl,rfl,u2,rfl,hM.fin s1 s2 hU (q5 hl) bV⟩
       · first
          | exfalso; omega
          | refine Goes ?_;repeat' first|apply W2.m|refine W1.m fun h=>?_
            try simp only [e6]
            first
             | refine Aa.heapIs (Cg C f N 0 s m (c + m - s) _ hN (by omega) (by omega) (by omega)) rfl ktA rfl ?_
               refine Goes ?_;repeat' first|apply W2.m|refine W1.m fun h=>?_
             | skip
            refine Ab.mk' [] rfl rfl rfl rfl rfl rfl rfl ⟨rfl,rfl,Ca f s m (c + m - s),rfl,hM.fin s1 s2 hU (q5 hl) (q6 hg)⟩
   · have hU:f=Ca f s m (c + m - s):=(a2s (by omega) (by omega) (by omega)).symm
     have q1:Sd C (f) a s:=by rw [hU]; exact hM.left s1
     have q2:Sd C (f) s c:=by rw [hU]; exact hM.left2 s2
     have q3:Sd C (f) c (c + m - s):=by rw [hU]; exact hM.right s1
     have q4:Sd C (f) (c + m - s) b:=by rw [hU]; exact hM.right2 s2
     have q5:¬ (a < s/\s < c)->Srt C (f) (f) a c:=fun hn=>by rw [hU]; exact hM.allL s1 s2 hn
     have q6:¬ (c < c + m - s/\c + m - s < b)->Srt C (f) (f) c b:=fun hn=>by rw [hU]; exact hM.allR s1 s2 hn
     by_cases hl:a < s/\s < c
     · by_cases hg:c < c + m - s/\c + m - s < b
       · first
          | exfalso; omega
          | refine Goes ?_
            try simp only [e6]
            first
             | refine Aa.heapIs (Cg C f N 0 s m (c + m - s) _ hN (by omega) (by omega) (by omega)) rfl ktA rfl ?_
               refine Goes ?_
             | skip
            try simp only [e6]
            refine Aa.heap (ih (f) 0 a s c 1 (by omega) hl.1 hl.2 (by omega) q1 q2) rfl ktA rfl ?_
            rintro _ _ _ ⟨rfl,rfl,u1,rfl,aH⟩
            refine Goes ?_
            try simp only [e6]
            refine Aa.heap (ih u1 0 c (c + m - s) b 1 (by omega) hg.1 hg.2 (by omega) (fun i j i1 i2 i3=>by rw [aH.out i (by omega),aH.out j (by omega)]; exact q3 i j i1 i2 i3) (fun i j i1 i2 i3=>by rw [aH.out i (by omega),aH.out j (by omega)]; exact q4 i j i1 i2 i3)) rfl ktA rfl ?_
            rintro _ _ _ ⟨rfl,rfl,u2,rfl,bV⟩
            refine Goes ?_
            refine Ab.mk' [] rfl rfl rfl rfl rfl rfl rfl ⟨rfl,rfl,u2,rfl,hM.fin s1 s2 hU aH bV⟩
       · first
          | exfalso; omega
          | refine Goes ?_
            try simp only [e6]
            first
             | refine Aa.heapIs (Cg C f N 0 s m (c + m - s) _ hN (by omega) (by omega) (by omega)) rfl ktA rfl ?_
               refine Goes ?_
             | skip
            try simp only [e6]
            refine Aa.heap (ih (f) 0 a s c 1 (by omega) hl.1 hl.2 (by omega) q1 q2) rfl ktA rfl ?_
            rintro _ _ _ ⟨rfl,rfl,u1,rfl,aH⟩
            refine Goes ?_
            refine Ab.mk' [] rfl rfl rfl rfl rfl rfl rfl ⟨rfl,rfl,u1,rfl,hM.fin s1 s2 hU aH (.same (aH.keep (by omega) (q6 hg).srt))⟩
     · by_cases hg:c < c + m - s/\c + m - s < b
       · first
          | exfalso; omega
          | refine Goes ?_;repeat' first|apply W2.m|refine W1.m fun h=>?_
            try simp only [e6]
            first
             | refine Aa.heapIs (Cg C f N 0 s m (c + m - s) _ hN (by omega) (by omega) (by omega)) rfl ktA rfl ?_
               refine Goes ?_
             | skip
            try simp only [e6]
            refine Aa.heap (ih (f) 0 c (c + m - s) b 1 (by omega) hg.1 hg.2 (by omega) q3 q4) rfl ktA rfl ?_
            rintro _ _ _ ⟨rfl,rfl,u2,rfl,bV⟩
            refine Goes ?_
            refine Ab.mk' [] rfl rfl rfl rfl rfl rfl rfl ⟨rfl,rfl,u2,rfl,hM.fin s1 s2 hU (q5 hl) bV⟩
       · first
          | exfalso; omega
          | refine Goes ?_
            try simp only [e6]
            first
             | refine Aa.heapIs (Cg C f N 0 s m (c + m - s) _ hN (by omega) (by omega) (by omega)) rfl ktA rfl ?_
               refine Goes ?_
             | skip
            refine Ab.mk' [] rfl rfl rfl rfl rfl rfl rfl ⟨rfl,rfl,f,rfl,hM.fin s1 s2 hU (q5 hl) (q6 hg)⟩
end Go.Proofs.YtllhgcfacgiabaaGreat
