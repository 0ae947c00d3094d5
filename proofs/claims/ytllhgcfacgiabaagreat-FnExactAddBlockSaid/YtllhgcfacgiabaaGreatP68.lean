import Derived.Test.YtllhgcfacgiabaaGreatP67
namespace Go.Proofs.YtllhgcfacgiabaaGreat
open Go Go.Am Go.RowKit
set_option linter.unusedVariables false
set_option linter.unusedSimpArgs false
set_option maxHeartbeats 2000000 in
theorem a0b {α:Type} (C:Bw α) (f:Nat->α) (N i a m n:Nat) (hN:N<=1048576) (h1:a + 1 < m) (h3:m + 1<=N) (s1:Sd C f a m) :
 Ret Tryz.prog 270 [.own i N,iv a,iv m,iv ((m + 1:Nat):Int),F0] [(i,.list 184 6 (C.rows f N))] n true (a2q C f N i n a (m + 1) 184):=by
 have e0:IntKind.i64.wrap ((m:Int) - a)=((m - a:Nat):Int):=by rw [IntWalk.i64_in _ (by omega)]; omega
 have e1:IntKind.i64.wrap (((m + 1:Nat):Int) - m)=1:=by rw [IntWalk.i64_in _ (by omega)]; omega
 refine Ret.of_run (tt:=tt) Ad Tryz.func270 rfl Tryz.call270 [i] [.list 184 6 (C.rows f N)] [.own 0 N,iv a,iv m,iv ((m + 1:Nat):Int),F0] true n _ rfl (Cj i) (by exact Nat.le_of_ble_eq_true rfl) rfl rfl ?_
 refine Goes ?_;repeat' first|apply W2.m|refine W1.m fun h=>?_
 refine Ao.go (fun y:Nat × Nat=>a<=y.1/\y.1<=y.2/\y.2<=m/\(∀ k,a<=k->k < y.1->C.le (f k) (f m))/\∀ k,y.2<=k->k < m->C.lt (f m) (f k)) (fun y=>⟨[(0,.own 0 N),(2,iv m),(4,F0),(14,iv y.1),(15,iv y.2)],[(0,.list 184 6 (C.rows f N))],1⟩) (fun y=>y.2 - y.1) (a,m) ⟨Nat.le_refl _,by dsimp only; omega,Nat.le_refl _,fun k k1 k2=>by omega,fun k k1 k2=>by omega⟩ (Ac.of rfl rfl ktA ktA) ?_
 rintro ⟨p,q⟩ ⟨g1,g2,g3,g4,g5⟩
 dsimp only at g1 g2 g3 g4 g5 ⊢
 by_cases g8:p < q
 · refine Goes ?_;repeat' first|apply W2.m|refine W1.m fun h=>?_
   rw [Pf p q (by omega)]
   obtain ⟨c,hc⟩:∃ c,c=(p + q) / 2:=⟨_,rfl⟩
   try rw [<- hc]
   have e2:IntKind.i64.wrap ((c:Int) + 1)=((c + 1:Nat):Int):=by rw [IntWalk.i64_in _ (by omega)]; omega
   by_cases hl:C.lt (f m) (f c)
   · have bp:=(C.cmp_lt _ _).2 hl
     rw [C.rowsK f m (by omega)]
     refine And.intro (by rw [C.rows_len]; omega) ?_
     refine Goes ?_
     rw [C.rowsK f c (by omega)]
     refine And.intro (by rw [C.rows_len]; omega) ?_
     refine Goes ?_
     refine Aa.is (D2 C (f m) (f c) _) rfl ?_
     refine Goes ?_;repeat' first|apply W2.m|refine W1.m fun h=>?_
     exact ⟨(p,c),⟨g1,by dsimp only; omega,by dsimp only; omega,g4,fun k k1 k2=>C.lt_le_trans hl (s1 c k (by omega) k1 k2)⟩,by dsimp only; omega,(Ac.of rfl rfl ktA ktA)⟩
   · have bp:¬ C.cmp (f m) (f c) < 0:=fun h=>hl ((C.cmp_lt _ _).1 h)
     rw [C.rowsK f m (by omega)]
     refine And.intro (by rw [C.rows_len]; omega) ?_
     refine Goes ?_
     rw [C.rowsK f c (by omega)]
     refine And.intro (by rw [C.rows_len]; omega) ?_
     refine Goes ?_
     refine Aa.is (D2 C (f m) (f c) _) rfl ?_
     refine Goes ?_;repeat' first|apply W2.m|refine W1.m fun h=>?_
     rw [e2]
     exact ⟨(c + 1,q),⟨by dsimp only; omega,by dsimp only; omega,g3,fun k k1 k2=>C.le_trans (s1 k c k1 (by dsimp only at k2; omega) (by omega)) hl,g5⟩,by dsimp only; omega,(Ac.of rfl rfl ktA ktA)⟩
 · obtain rfl:p=q:=by omega
   refine Goes ?_;repeat' first|apply W2.m|refine W1.m fun h=>?_
   refine Ao.go (fun k:Nat=>p<=k/\k<=m) (fun k=>⟨[(0,.own 0 N),(14,iv p),(17,iv k)],[(0,.list 184 6 (C.rows (Ca f k m (m + 1)) N))],1⟩) (fun k=>k) m ⟨g3,Nat.le_refl _⟩ ?_ ?_
   · refine Ac.of rfl rfl ktA ⟨⟨Ch ?_,rfl,rfl⟩,trivial⟩
     rw [a2s (by omega) (by omega) (.inl rfl)]
   intro k ⟨k1,k2⟩
   obtain ⟨u,hu⟩:∃ u,u=Ca f k m (m + 1):=⟨_,rfl⟩
   rw [<- hu]
   by_cases hk:p < k
   · have e4:IntKind.i64.wrap ((k:Int) - 1)=((k - 1:Nat):Int):=by rw [IntWalk.i64_in _ (by omega)]; omega
     refine Goes ?_;repeat' first|apply W2.m|refine W1.m fun h=>?_
     all_goals try rw [e4]
     all_goals repeat' first
      | (first | rw [C.rowsK u (k) (by omega)] | rw [C.rowsK u (k - 1) (by omega)])
        refine And.intro (by first | (rw [C.rows_len]; omega) | (rw [C.set_len]; omega)) ?_
        refine Goes ?_
      | refine And.intro (by first | (rw [C.rows_len]; omega) | (rw [C.set_len]; omega)) ?_
        refine Goes ?_
     all_goals
      refine ⟨k - 1,⟨by omega,by omega⟩,by omega,Ac.of rfl rfl ⟨⟨rfl,rfl⟩,⟨rfl,rfl⟩,⟨Aw Cm,rfl⟩,trivial⟩ ⟨⟨Ch ?_,rfl,rfl⟩,trivial⟩⟩
      have hs:=C.rows_swap u (i:=k) (j:=k - 1) (N:=N) (by omega) (by omega) 6 rfl
      rw [C.rowsK u (k) (by omega)] at hs
      refine hs.trans (C.rows_congr fun k hk=>?_)
      rw [hu]
      simp only [Ca]
      repeat' split
      all_goals first | (exfalso; omega) | (congr 1; omega) | rfl
   · obtain rfl:k=p:=by omega
     refine Goes ?_;repeat' first|apply W2.m|refine W1.m fun h=>?_
     refine Ab.mk' [] rfl rfl rfl rfl rfl rfl rfl ⟨rfl,rfl,u,rfl,?_⟩
     rw [hu]
     have s2:Sd C f m (m + 1):=fun i j i1 i2 i3=>(show i=j by omega) ▸ C.le_refl _
     have hX:=Un (s:=k) (e:=m + 1) s1 s2 g1 g3 (by omega) (Nat.le_refl _) (fun _ h=>by omega) (fun h _=>g5 k (Nat.le_refl _) h)
     rw [show k + (m + 1 - m)=k + 1 by omega] at hX
     refine Yu (c:=k + 1) (by omega) (by omega) (fun x hx=>?_) (Yt g1 g3 (by omega) (Nat.le_refl _)) hX (Srt.same fun i j i1 i2 i3=>?_) (Srt.same fun i j i1 i2 i3=>?_)
     · rcases hx with hx | hx
       · exact a2r (by omega)
       · exact a0a g3 (by omega) (by omega)
     · by_cases hj:j=k
       · by_cases hi:i=k
         · rw [hi,hj]; exact C.le_refl _
         · rw [a2r (by omega),a8e (by omega) (by omega),show j - k + m=m by omega]
           exact g4 i i1 (by omega)
       · rw [a2r (by omega),a2r (by omega)]
         exact s1 i j i1 i2 (by omega)
     · rw [a5L (by omega) (by omega),a5L (by omega) (by omega)]
       exact s1 _ _ (by omega) (by omega) (by omega)
end Go.Proofs.YtllhgcfacgiabaaGreat
