import Derived.Test.YtllhgcfacgiabaaGreatP66
namespace Go.Proofs.YtllhgcfacgiabaaGreat
open Go Go.Am Go.RowKit
set_option linter.unusedVariables false
set_option linter.unusedSimpArgs false
theorem Pf (p q:Nat) (h:p + q<=4194304):IntKind.i64.wrap (Int.fdiv (IntKind.u64.wrap (IntKind.i64.wrap ((p:Int) + q))) (2 ^ min (Int.toNat 1) IntKind.u64.bits))=(((p + q) / 2:Nat):Int):=by
 have w1:IntKind.i64.wrap ((p:Int) + q)=p + q:=IntWalk.i64_in _ (by omega)
 have w2:IntKind.u64.wrap ((p:Int) + q)=p + q:=IntWalk.u64_in _ (by omega)
 rw [w1,w2,show (2:Int) ^ min (Int.toNat 1) IntKind.u64.bits=2 from rfl,Int.fdiv_eq_ediv_of_nonneg _ (by omega)]
 have w3:IntKind.i64.wrap (((p:Int) + q) / 2)=((p:Int) + q) / 2:=IntWalk.i64_in _ (by omega)
 rw [w3]
 omega
set_option maxHeartbeats 2000000 in
theorem a2u {α:Type} (C:Bw α) (f:Nat->α) (N i a b n:Nat) (hN:N<=1048576) (h2:a + 1 < b) (h3:b<=N) (s2:Sd C f (a + 1) b) :
 Ret Tryz.prog 270 [.own i N,iv a,iv ((a + 1:Nat):Int),iv b,F0] [(i,.list 184 6 (C.rows f N))] n true (a2q C f N i n a b 184):=by
 have e1:IntKind.i64.wrap (((a + 1:Nat):Int) - a)=1:=by rw [IntWalk.i64_in _ (by omega)]; omega
 refine Ret.of_run (tt:=tt) Ad Tryz.func270 rfl Tryz.call270 [i] [.list 184 6 (C.rows f N)] [.own 0 N,iv a,iv ((a + 1:Nat):Int),iv b,F0] true n _ rfl (Cj i) (by exact Nat.le_of_ble_eq_true rfl) rfl rfl ?_
 refine Goes ?_;repeat' first|apply W2.m|refine W1.m fun h=>?_
 refine Ao.go (fun y:Nat × Nat=>a + 1<=y.1/\y.1<=y.2/\y.2<=b/\(∀ k,a + 1<=k->k < y.1->C.lt (f k) (f a))/\∀ k,y.2<=k->k < b->C.le (f a) (f k)) (fun y=>⟨[(0,.own 0 N),(1,iv a),(4,F0),(10,iv y.1),(11,iv y.2)],[(0,.list 184 6 (C.rows f N))],1⟩) (fun y=>y.2 - y.1) (a + 1,b) ⟨Nat.le_refl _,by dsimp only; omega,Nat.le_refl _,fun k k1 k2=>by omega,fun k k1 k2=>by omega⟩ (Ac.of rfl rfl ktA ktA) ?_
 rintro ⟨p,q⟩ ⟨g1,g2,g3,g4,g5⟩
 dsimp only at g1 g2 g3 g4 g5 ⊢
 by_cases g8:p < q
 · refine Goes ?_;repeat' first|apply W2.m|refine W1.m fun h=>?_
   rw [Pf p q (by omega)]
   obtain ⟨c,hc⟩:∃ c,c=(p + q) / 2:=⟨_,rfl⟩
   rw [<- hc]
   have e2:IntKind.i64.wrap ((c:Int) + 1)=((c + 1:Nat):Int):=by rw [IntWalk.i64_in _ (by omega)]; omega
   by_cases hl:C.lt (f c) (f a)
   · have bp:=(C.cmp_lt _ _).2 hl
     refine And.intro (by omega) ?_
     refine Goes ?_
     rw [C.rowsK f c (by omega)]
     refine And.intro (by rw [C.rows_len]; omega) ?_
     refine Goes ?_
     rw [C.rowsK f a (by omega)]
     refine And.intro (by rw [C.rows_len]; omega) ?_
     refine Goes ?_
     refine Aa.is (D2 C (f c) (f a) _) rfl ?_
     refine Goes ?_;repeat' first|apply W2.m|refine W1.m fun h=>?_
     rw [e2]
     exact ⟨(c + 1,q),⟨by dsimp only; omega,by dsimp only; omega,g3,fun k k1 k2=>C.le_lt (s2 k c k1 (by dsimp only at k2; omega) (by omega)) hl,g5⟩,by dsimp only; omega,(Ac.of rfl rfl ktA ktA)⟩
   · have bp:¬ C.cmp (f c) (f a) < 0:=fun h=>hl ((C.cmp_lt _ _).1 h)
     refine And.intro (by omega) ?_
     refine Goes ?_
     rw [C.rowsK f c (by omega)]
     refine And.intro (by rw [C.rows_len]; omega) ?_
     refine Goes ?_
     rw [C.rowsK f a (by omega)]
     refine And.intro (by rw [C.rows_len]; omega) ?_
     refine Goes ?_
     refine Aa.is (D2 C (f c) (f a) _) rfl ?_
     refine Goes ?_;repeat' first|apply W2.m|refine W1.m fun h=>?_
     exact ⟨(p,c),⟨g1,by dsimp only; omega,by dsimp only; omega,g4,fun k k1 k2=>C.le_trans hl (s2 c k (by omega) k1 k2)⟩,by dsimp only; omega,(Ac.of rfl rfl ktA ktA)⟩
 · obtain rfl:p=q:=by omega
   have e3:IntKind.i64.wrap ((p:Int) - 1)=((p - 1:Nat):Int):=by rw [IntWalk.i64_in _ (by omega)]; omega
   refine Goes ?_;repeat' first|apply W2.m|refine W1.m fun h=>?_
   refine Ao.go (fun k:Nat=>a<=k/\k<=p - 1) (fun k=>⟨[(0,.own 0 N),(10,iv p),(13,iv k)],[(0,.list 184 6 (C.rows (Ca f a (a + 1) (k + 1)) N))],1⟩) (fun k=>p - k) a ⟨Nat.le_refl _,by omega⟩ ?_ ?_
   · refine Ac.of rfl rfl ktA ⟨⟨Ch ?_,rfl,rfl⟩,trivial⟩
     rw [a2s (by omega) (by omega) (.inr rfl)]
   intro k ⟨k1,k2⟩
   obtain ⟨u,hu⟩:∃ u,u=Ca f a (a + 1) (k + 1):=⟨_,rfl⟩
   rw [<- hu]
   have e4:IntKind.i64.wrap ((k:Int) + 1)=((k + 1:Nat):Int):=by rw [IntWalk.i64_in _ (by omega)]; omega
   by_cases hk:k < p - 1
   · refine Goes ?_;repeat' first|apply W2.m|refine W1.m fun h=>?_
     all_goals try rw [e4]
     all_goals repeat' first
      | (first | rw [C.rowsK u (k) (by omega)] | rw [C.rowsK u (k + 1) (by omega)])
        refine And.intro (by first | (rw [C.rows_len]; omega) | (rw [C.set_len]; omega)) ?_
        refine Goes ?_
      | refine And.intro (by first | (rw [C.rows_len]; omega) | (rw [C.set_len]; omega)) ?_
        refine Goes ?_
     all_goals
      refine ⟨k + 1,⟨by omega,by omega⟩,by omega,Ac.of rfl rfl ⟨⟨rfl,rfl⟩,⟨rfl,rfl⟩,⟨Aw Cm,rfl⟩,trivial⟩ ⟨⟨Ch ?_,rfl,rfl⟩,trivial⟩⟩
      have hs:=C.rows_swap u (i:=k) (j:=k + 1) (N:=N) (by omega) (by omega) 6 rfl
      rw [C.rowsK u (k) (by omega)] at hs
      refine hs.trans (C.rows_congr fun k hk=>?_)
      rw [hu]
      simp only [Ca]
      repeat' split
      all_goals first | (exfalso; omega) | (congr 1; omega) | rfl
   · obtain rfl:k=p - 1:=by omega
     refine Goes ?_;repeat' first|apply W2.m|refine W1.m fun h=>?_
     refine Ab.mk' [] rfl rfl rfl rfl rfl rfl rfl ⟨rfl,rfl,u,rfl,?_⟩
     rw [hu,show p - 1 + 1=p by omega]
     have h1:Sd C f a (a + 1):=fun i j i1 i2 i3=>(show i=j by omega) ▸ C.le_refl _
     have hX:=Un (s:=a) (e:=p) h1 s2 (Nat.le_refl _) (by omega) g1 g3 (fun h=>by omega) (fun _ h=>g4 (p - 1) (by omega) (by omega))
     rw [show a + (p - (a + 1))=p - 1 by omega] at hX
     refine Yu (c:=p - 1) (by omega) (by omega) (fun k hk=>?_) (Yt (Nat.le_refl _) (by omega) g1 g3) hX (Srt.same fun i j i1 i2 i3=>?_) (Srt.same fun i j i1 i2 i3=>?_)
     · rcases hk with hk | hk
       · exact a2r hk
       · exact a0a (by omega) g1 (by omega)
     · rw [a8e i1 (by omega),a8e (by omega) (by omega)]
       exact s2 _ _ (by omega) (by omega) (by omega)
     · by_cases hi:i=p - 1
       · by_cases hj:j=p - 1
         · rw [hi,hj]; exact C.le_refl _
         · rw [a5L (by omega) (by omega),a0a (by omega) g1 (by omega),show i - (p - (a + 1))=a by omega]
           exact g5 j (by omega) i3
       · rw [a0a (by omega) g1 (by omega),a0a (by omega) g1 (by omega)]
         exact s2 _ _ (by omega) i2 i3
end Go.Proofs.YtllhgcfacgiabaaGreat
