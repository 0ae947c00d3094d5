import Derived.Test.YtllhgcfacgiabaaGreatP69
namespace Go.Proofs.YtllhgcfacgiabaaGreat
open Go Go.Am Go.RowKit
set_option linter.unusedVariables false
set_option linter.unusedSimpArgs false
set_option maxHeartbeats 4000000 in
theorem a0c {α:Type} (C:Bw α) (N:Nat) (hN:N<=1048576) (d:Nat) (ih:a91 C N d 184) (f:Nat->α) (i a m b n c:Nat) (hd:b - a<=d + 1) (h1:a < m) (h2:m < b) (h3:b<=N) (s1:Sd C f a m) (s2:Sd C f m b) (c1:¬ a + 1=m) (c2:¬ m + 1=b) (hc:c=(a + b) / 2) (k1:m<=c) :
 Ret Tryz.prog 270 [.own i N,iv a,iv m,iv b,F0] [(i,.list 184 6 (C.rows f N))] n true (a2q C f N i n a b 184):=by
 have w1:=Pf a b (by omega)
 rw [<- hc] at w1
 have w2:IntKind.i64.wrap (IntKind.i64.wrap (Int.fdiv (IntKind.u64.wrap (IntKind.i64.wrap ((a:Int) + b))) (2 ^ min (Int.toNat 1) IntKind.u64.bits)) + m)=((c + m:Nat):Int):=by rw [w1,IntWalk.i64_in _ (by omega)]; omega
 have w3:IntKind.i64.wrap (IntKind.i64.wrap (IntKind.i64.wrap (Int.fdiv (IntKind.u64.wrap (IntKind.i64.wrap ((a:Int) + b))) (2 ^ min (Int.toNat 1) IntKind.u64.bits)) + m) - 1)=((c + m - 1:Nat):Int):=by rw [w2,IntWalk.i64_in _ (by omega)]; omega
 have w4:IntKind.i64.wrap ((m:Int) - a)=((m - a:Nat):Int):=by rw [IntWalk.i64_in _ (by omega)]; omega
 have w5:IntKind.i64.wrap ((b:Int) - m)=((b - m:Nat):Int):=by rw [IntWalk.i64_in _ (by omega)]; omega
 obtain ⟨lo,hi,k2,k3⟩:∃ lo hi,lo=a/\hi=m:=⟨_,_,rfl,rfl⟩
 have b1:a<=lo/\lo<=hi/\hi<=m/\hi<=c/\c + m<=lo + b/\(lo=a∨lo + b=c + m)/\(hi=m∨hi=c)/\a < c/\c < b:=by omega
 obtain ⟨l1,l2,l3,l4,l5,l6,l7,l8,l9⟩:=b1
 refine Ret.of_run (tt:=tt) Ad Tryz.func270 rfl Tryz.call270 [i] [.list 184 6 (C.rows f N)] [.own 0 N,iv a,iv m,iv b,F0] true n _ rfl (Cj i) (by exact Nat.le_of_ble_eq_true rfl) rfl rfl ?_
 refine Goes ?_;repeat' first|apply W2.m|refine W1.m fun h=>?_
 refine Ao.go (fun y:Nat × Nat=>lo<=y.1/\y.1<=y.2/\y.2<=hi/\(∀ k,lo<=k->k < y.1->C.le (f k) (f (c + m - 1 - k)))/\∀ k,y.2<=k->k < hi->C.lt (f (c + m - 1 - k)) (f k)) (fun y=>⟨[(0,.own 0 N),(1,iv a),(2,iv m),(3,iv b),(4,F0),(18,iv c),(19,iv ((c + m:Nat):Int)),(20,iv y.1),(21,iv y.2),(22,iv ((c + m - 1:Nat):Int))],[(0,.list 184 6 (C.rows f N))],1⟩) (fun y=>y.2 - y.1) (lo,hi) ⟨Nat.le_refl _,by dsimp only; omega,Nat.le_refl _,fun k k1 k2=>by omega,fun k k1 k2=>by omega⟩ (Ac.of rfl rfl ktA ktA) ?_
 rintro ⟨s,q⟩ ⟨g1,g2,g3,g4,g5⟩
 dsimp only at g1 g2 g3 g4 g5 ⊢
 by_cases g8:s < q
 · refine Goes ?_;repeat' first|apply W2.m|refine W1.m fun h=>?_
   rw [Pf s q (by omega)]
   obtain ⟨z,hz⟩:∃ z,z=(s + q) / 2:=⟨_,rfl⟩
   try rw [<- hz]
   have e2:IntKind.i64.wrap ((z:Int) + 1)=((z + 1:Nat):Int):=by rw [IntWalk.i64_in _ (by omega)]; omega
   have e5:IntKind.i64.wrap (((c + m - 1:Nat):Int) - z)=((c + m - 1 - z:Nat):Int):=by rw [IntWalk.i64_in _ (by omega)]; omega
   try rw [e5]
   by_cases hl:C.lt (f (c + m - 1 - z)) (f z)
   · have bp:=(C.cmp_lt _ _).2 hl
     refine And.intro (by omega) ?_
     refine Goes ?_
     rw [C.rowsK f (c + m - 1 - z) (by omega)]
     refine And.intro (by rw [C.rows_len]; omega) ?_
     refine Goes ?_
     rw [C.rowsK f z (by omega)]
     refine And.intro (by rw [C.rows_len]; omega) ?_
     refine Goes ?_
     refine Aa.is (D2 C (f (c + m - 1 - z)) (f z) _) rfl ?_
     refine Goes ?_;repeat' first|apply W2.m|refine W1.m fun h=>?_
     exact ⟨(s,z),⟨g1,by dsimp only; omega,by dsimp only; omega,g4,fun k k1 k2=>C.le_lt (s2 (c + m - 1 - k) (c + m - 1 - z) (by omega) (by omega) (by omega)) (C.lt_le_trans hl (s1 z k (by omega) k1 (by omega)))⟩,by dsimp only; omega,(Ac.of rfl rfl ktA ktA)⟩
   · have bp:¬ C.cmp (f (c + m - 1 - z)) (f z) < 0:=fun h=>hl ((C.cmp_lt _ _).1 h)
     refine And.intro (by omega) ?_
     refine Goes ?_
     rw [C.rowsK f (c + m - 1 - z) (by omega)]
     refine And.intro (by rw [C.rows_len]; omega) ?_
     refine Goes ?_
     rw [C.rowsK f z (by omega)]
     refine And.intro (by rw [C.rows_len]; omega) ?_
     refine Goes ?_
     refine Aa.is (D2 C (f (c + m - 1 - z)) (f z) _) rfl ?_
     refine Goes ?_;repeat' first|apply W2.m|refine W1.m fun h=>?_
     rw [e2]
     exact ⟨(z + 1,q),⟨by dsimp only; omega,by dsimp only; omega,g3,fun k k1 k2=>C.le_trans (s1 k z (by omega) (by dsimp only at k2; omega) (by omega)) (C.le_trans hl (s2 (c + m - 1 - z) (c + m - 1 - k) (by omega) (by dsimp only at k2; omega) (by omega))),g5⟩,by dsimp only; omega,(Ac.of rfl rfl ktA ktA)⟩
 · obtain rfl:s=q:=by omega
   have e6:IntKind.i64.wrap (((c + m:Nat):Int) - s)=((c + m - s:Nat):Int):=by rw [IntWalk.i64_in _ (by omega)]; omega
   have hM:Mid C f a m b c s (c + m - s):=⟨by omega,by omega,by omega,by omega,by omega,fun x1 x2=>by
    have:=g4 (s - 1) (by omega) (by omega)
    rwa [show c + m - 1 - (s - 1)=c + m - s by omega] at this,fun y1 y2=>by
    have:=g5 s (Nat.le_refl _) (by omega)
    rwa [show c + m - 1 - s=c + m - s - 1 by omega] at this⟩
   by_cases hr:s < m/\m < c + m - s
   · have hU:Ca f s m (c + m - s)=Ca f s m (c + m - s):=rfl
     have q1:Sd C (Ca f s m (c + m - s)) a s:=by rw [hU]; exact hM.left s1
     have q2:Sd C (Ca f s m (c + m - s)) s c:=by rw [hU]; exact hM.left2 s2
     have q3:Sd C (Ca f s m (c + m - s)) c (c + m - s):=by rw [hU]; exact hM.right s1
     have q4:Sd C (Ca f s m (c + m - s)) (c + m - s) b:=by rw [hU]; exact hM.right2 s2
     have q5:¬ (a < s/\s < c)->Srt C (Ca f s m (c + m - s)) (Ca f s m (c + m - s)) a c:=fun hn=>by rw [hU]; exact hM.allL s1 s2 hn
     have q6:¬ (c < c + m - s/\c + m - s < b)->Srt C (Ca f s m (c + m - s)) (Ca f s m (c + m - s)) c b:=fun hn=>by rw [hU]; exact hM.allR s1 s2 hn
     by_cases hl:a < s/\s < c
     · by_cases hg:c < c + m - s/\c + m - s < b
       · first
          | exfalso; omega
          | refine Goes ?_;repeat' first|apply W2.m|refine W1.m fun h=>?_
            try simp only [e6]
            first
             | refine Aa.heapIs (Cg C f N 0 s m (c + m - s) _ hN (by omega) (by omega) (by omega)) rfl ktA rfl ?_
               refine Goes ?_;repeat' first|apply W2.m|refine W1.m fun h=>?_
             | skip
            try simp only [e6]
            refine Aa.heap (ih (Ca f s m (c + m - s)) 0 a s c 1 (by omega) hl.1 hl.2 (by omega) q1 q2) rfl ktA rfl ?_
            rintro _ _ _ ⟨rfl,rfl,u1,rfl,aH⟩
            refine Goes ?_;repeat' first|apply W2.m|refine W1.m fun h=>?_
            try simp only [e6]
            refine Aa.heap (ih u1 0 c (c + m - s) b 1 (by omega) hg.1 hg.2 (by omega) (fun i j i1 i2 i3=>by rw [aH.out i (by omega),aH.out j (by omega)]; exact q3 i j i1 i2 i3) (fun i j i1 i2 i3=>by rw [aH.out i (by omega),aH.out j (by omega)]; exact q4 i j i1 i2 i3)) rfl ktA rfl ?_
            rintro _ _ _ ⟨rfl,rfl,u2,rfl,bV⟩
            refine Goes ?_
            refine Ab.mk' [] rfl rfl rfl rfl rfl rfl rfl ⟨rfl,rfl,u2,rfl,hM.fin s1 s2 hU aH bV⟩
       · first
          | exfalso; omega
          | refine Goes ?_
            try simp only [e6]
            first
             | refine Aa.heapIs (Cg C f N 0 s m (c + m - s) _ hN (by omega) (by omega) (by omega)) rfl ktA rfl ?_
               refine Goes ?_
             | skip
            try simp only [e6]
            refine Aa.heap (ih (Ca f s m (c + m - s)) 0 a s c 1 (by omega) hl.1 hl.2 (by omega) q1 q2) rfl ktA rfl ?_
            rintro _ _ _ ⟨rfl,rfl,u1,rfl,aH⟩
            refine Goes ?_
            refine Ab.mk' [] rfl rfl rfl rfl rfl rfl rfl ⟨rfl,rfl,u1,rfl,hM.fin s1 s2 hU aH (.same (aH.keep (by omega) (q6 hg).srt))⟩
     · by_cases hg:c < c + m - s/\c + m - s < b
       · first
          | exfalso; omega
          | refine Goes ?_;repeat' first|apply W2.m|refine W1.m fun h=>?_
            try simp only [e6]
            first
             | refine Aa.heapIs (Cg C f N 0 s m (c + m - s) _ hN (by omega) (by omega) (by omega)) rfl ktA rfl ?_
               refine Goes ?_;repeat' first|apply W2.m|refine W1.m fun h=>?_
             | skip
            try simp only [e6]
            refine Aa.heap (ih (Ca f s m (c + m - s)) 0 c (c + m - s) b 1 (by omega) hg.1 hg.2 (by omega) q3 q4) rfl ktA rfl ?_
            rintro _ _ _ ⟨rfl,rfl,u2,rfl,bV⟩
            refine Goes ?_
            refine Ab.mk' [] rfl rfl rfl rfl rfl rfl rfl ⟨rfl,rfl,u2,rfl,hM.fin s1 s2 hU (q5 hl) bV⟩
       · first
          | exfalso; omega
          | refine Goes ?_;repeat' first|apply W2.m|refine W1.m fun h=>?_
            try simp only [e6]
            first
             | refine Aa.heapIs (Cg C f N 0 s m (c + m - s) _ hN (by omega) (by omega) (by omega)) rfl ktA rfl ?_
               refine Goes ?_;repeat' first|apply W2.m|refine W1.m fun h=>?_
             | skip
            refine Ab.mk' [] rfl rfl rfl rfl rfl rfl rfl ⟨rfl,rfl,Ca f s m (c + m - s),rfl,hM.fin s1 s2 hU (q5 hl) (q6 hg)⟩
   · have hU:f=Ca f s m (c + m - s):=(a2s (by omega) (by omega) (by omega)).symm
     have q1:Sd C (f) a s:=by rw [hU]; exact hM.left s1
     have q2:Sd C (f) s c:=by rw [hU]; exact hM.left2 s2
     have q3:Sd C (f) c (c + m - s):=by rw [hU]; exact hM.right s1
     have q4:Sd C (f) (c + m - s) b:=by rw [hU]; exact hM.right2 s2
     have q5:¬ (a < s/\s < c)->Srt C (f) (f) a c:=fun hn=>by rw [hU]; exact hM.allL s1 s2 hn
     have q6:¬ (c < c + m - s/\c + m - s < b)->Srt C (f) (f) c b:=fun hn=>by rw [hU]; exact hM.allR s1 s2 hn
     by_cases hl:a < s/\s < c
     · by_cases hg:c < c + m - s/\c + m - s < b
       · first
          | exfalso; omega
          | refine Goes ?_
            try simp only [e6]
            first
             | refine Aa.heapIs (Cg C f N 0 s m (c + m - s) _ hN (by omega) (by omega) (by omega)) rfl ktA rfl ?_
               refine Goes ?_
             | skip
            try simp only [e6]
            refine Aa.heap (ih (f) 0 a s c 1 (by omega) hl.1 hl.2 (by omega) q1 q2) rfl ktA rfl ?_
            rintro _ _ _ ⟨rfl,rfl,u1,rfl,aH⟩
            refine Goes ?_
            try simp only [e6]
            refine Aa.heap (ih u1 0 c (c + m - s) b 1 (by omega) hg.1 hg.2 (by omega) (fun i j i1 i2 i3=>by rw [aH.out i (by omega),aH.out j (by omega)]; exact q3 i j i1 i2 i3) (fun i j i1 i2 i3=>by rw [aH.out i (by omega),aH.out j (by omega)]; exact q4 i j i1 i2 i3)) rfl ktA rfl ?_
            rintro _ _ _ ⟨rfl,rfl,u2,rfl,bV⟩
            refine Goes ?_
            refine Ab.mk' [] rfl rfl rfl rfl rfl rfl rfl ⟨rfl,rfl,u2,rfl,hM.fin s1 s2 hU aH bV⟩
       · first
          | exfalso; omega
          | refine Goes ?_;repeat' first|apply W2.m|refine W1.m fun h=>?_
            try simp only [e6]
            first
             | refine Aa.heapIs (Cg C f N 0 s m (c + m - s) _ hN (by omega) (by omega) (by omega)) rfl ktA rfl ?_
               refine Goes ?_
             | skip
            try simp only [e6]
            refine Aa.heap (ih (f) 0 a s c 1 (by omega) hl.1 hl.2 (by omega) q1 q2) rfl ktA rfl ?_
            rintro _ _ _ ⟨rfl,rfl,u1,rfl,aH⟩
            refine Goes ?_;repeat' first|apply W2.m|refine W1.m fun h=>?_
            refine Ab.mk' [] rfl rfl rfl rfl rfl rfl rfl ⟨rfl,rfl,u1,rfl,hM.fin s1 s2 hU aH (.same (aH.keep (by omega) (q6 hg).srt))⟩
     · by_cases hg:c < c + m - s/\c + m - s < b
       · first
          | exfalso; omega
          | refine Goes ?_
            try simp only [e6]
            first
             | refine Aa.heapIs (Cg C f N 0 s m (c + m - s) _ hN (by omega) (by omega) (by omega)) rfl ktA rfl ?_
               refine Goes ?_
             | skip
            try simp only [e6]
            refine Aa.heap (ih (f) 0 c (c + m - s) b 1 (by omega) hg.1 hg.2 (by omega) q3 q4) rfl ktA rfl ?_
            rintro _ _ _ ⟨rfl,rfl,u2,rfl,bV⟩
            refine Goes ?_
            refine Ab.mk' [] rfl rfl rfl rfl rfl rfl rfl ⟨rfl,rfl,u2,rfl,hM.fin s1 s2 hU (q5 hl) bV⟩
       · first
          | exfalso; omega
          | refine Goes ?_;repeat' first|apply W2.m|refine W1.m fun h=>?_
            try simp only [e6]
            first
             | refine Aa.heapIs (Cg C f N 0 s m (c + m - s) _ hN (by omega) (by omega) (by omega)) rfl ktA rfl ?_
               refine Goes ?_
             | skip
            refine Ab.mk' [] rfl rfl rfl rfl rfl rfl rfl ⟨rfl,rfl,f,rfl,hM.fin s1 s2 hU (q5 hl) (q6 hg)⟩
theorem a2w {α:Type} (C:Bw α) (N:Nat) (hN:N<=1048576):∀ d,a91 C N d 184:=by
 intro d
 induction d with
 | zero=>intro f i a m b n hd h1 h2; omega
 | succ d ih =>
   intro f i a m b n hd h1 h2 h3 s1 s2
   by_cases c1:a + 1=m
   · subst c1; exact a2u C f N i a b n hN h2 h3 s2
   by_cases c2:m + 1=b
   · subst c2; exact a0b C f N i a m n hN (by omega) h3 s1
   by_cases k:(a + b) / 2 < m
   · exact a2v C N hN d ih f i a m b n _ hd h1 h2 h3 s1 s2 c1 c2 rfl k
   · exact a0c C N hN d ih f i a m b n _ hd h1 h2 h3 s1 s2 c1 c2 rfl (by omega)
theorem Mu {α:Type} (C:Bw α) (f:Nat->α) (N i a m b n:Nat) (hN:N<=1048576) (h1:a < m) (h2:m < b) (h3:b<=N) (s1:Sd C f a m) (s2:Sd C f m b) :
 Ret Tryz.prog 270 [.own i N,iv a,iv m,iv b,F0] [(i,.list 184 6 (C.rows f N))] n true (a2q C f N i n a b 184) :=
 a2w C N hN _ f i a m b n (Nat.le_refl _) h1 h2 h3 s1 s2
end Go.Proofs.YtllhgcfacgiabaaGreat
