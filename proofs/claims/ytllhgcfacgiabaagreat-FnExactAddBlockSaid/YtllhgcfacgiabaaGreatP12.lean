import Derived.Test.YtllhgcfacgiabaaGreatP15
namespace Go.Proofs.YtllhgcfacgiabaaGreat
open Go Go.Am Go.RowKit
set_option linter.unusedVariables false
set_option linter.unusedSimpArgs false
theorem b1B (i n:Nat) (t:TxD) (h:okT t) :
 Ret Tryz.prog 217 [.pt i 0 0,txV t] [(i,.box [nl])] n false (Is (.tup []) (pkh i n (E3 t)) (n + 1)):=by
 obtain ⟨h1,h2,h3,h4,h5⟩:=h
 have bu:=(Cd t.1).2
 have a8:=(Cd t.2.1.length).2
 have fA:=(Cd t.2.2.length).2
 refine Ret.of_run (tt:=tt) Ad Tryz.func217 rfl Tryz.call217 [i] [.box [nl]] [.pt 0 0 0,txV t] false n _ rfl (Cj i) (by exact Nat.le_of_ble_eq_true rfl) rfl rfl ?_
 refine Goes ?_
 refine Aa.heapIs (a5r 0 _ t.1 h1) rfl ktA rfl ?_
 refine Goes ?_
 rw [List.length_map]
 refine Aa.heapIs (Gc 0 2 _ (by decide) (A8 t.1) t.2.1.length ⟨by omega,by omega⟩ (by omega)) rfl ktA rfl ?_
 refine Goes ?_
 rw [List.length_map]
 refine Ao.go (fun k:Nat=>k<=t.2.1.length) (fun k=>⟨[(0,.pt 0 0 0),(3,.pt 1 0 0),(18,Et t.2.1),(19,iv t.2.1.length),(20,iv k)],(1,.box (txC t))::pkh 0 2 (A8 t.1++A8 t.2.1.length++Ff (t.2.1.take k)),3⟩) (fun k=>t.2.1.length - k) 0 (Nat.zero_le _) ?_ ?_
 · refine Ac.of rfl rfl ktA ?_
   simp only [List.take_zero]
   rw [show A8 t.1++A8 t.2.1.length++Ff []=A8 t.1++A8 t.2.1.length from by simp [Ff]]
   exact ktA
 · intro k hk
   have hi:=X4 (xs:=t.2.1.take k) fun x hx=>h4 x (List.mem_of_mem_take hx)
   rw [List.length_take] at hi
   refine Goes ?_;repeat' first|apply W2.m|refine W1.m fun h=>?_
   · have aa:k < t.2.1.length:=by omega
     rw [A1 A3 t.2.1 k aa]
     have hx:=h4 _ (List.getElem_mem aa)
     generalize ht:t.2.1[k]=x at hx ⊢
     obtain ⟨x1,x2,x3⟩:=x
     refine ⟨by simp only [List.length_map]; exact ⟨by omega,by omega,rfl⟩,?_⟩
     refine Goes ?_
     have g1:=Lj x1
     have g2:=(Cd x2).2
     refine Aa.heapIs (Yc 0 2 _ (by decide) (A8 t.1++A8 t.2.1.length++Ff (t.2.1.take k)) x1 hx.1 (by simp only [List.length_append]; omega)) rfl ktA rfl ?_
     refine Goes ?_
     have ix:inR 0 65535 x2:=by have:=hx.2.1; unfold inR at this ⊢; dsimp only at this; omega
     refine Aa.heapIs (Gc 0 2 _ (by decide) (A8 t.1++A8 t.2.1.length++Ff (t.2.1.take k)++Mq x1) x2 ix (by simp only [List.length_append]; omega)) rfl ktA rfl ?_
     refine Goes ?_
     refine Aa.heapIs (Vh 0 2 _ (by decide) (A8 t.1++A8 t.2.1.length++Ff (t.2.1.take k)++Mq x1++A8 x2) x3 ⟨Nat.le_trans hx.2.2.1 (by decide),hx.2.2.2⟩ (by simp only [List.length_append]; omega)) rfl ktA rfl ?_
     refine Goes ?_
     refine ⟨k + 1,by omega,by omega,Ac.of rfl rfl ktA ?_⟩
     rw [a7C aa,ht]
     show a3u _ _ ((1,.box (txC t))::pkh 0 2 (A8 t.1++A8 t.2.1.length++(Ff (t.2.1.take k)++M6 (x1,x2,x3))))
     rw [show A8 t.1++A8 t.2.1.length++(Ff (t.2.1.take k)++M6 (x1,x2,x3))=A8 t.1++A8 t.2.1.length++Ff (t.2.1.take k)++Mq x1++A8 x2++Kj x3 from by simp [M6]]
     exact ktA
   · obtain rfl:k=t.2.1.length:=by omega
     rw [List.take_length] at hi ⊢
     rw [Nat.min_self] at hi
     rw [List.length_map]
     refine Aa.heapIs (Gc 0 2 _ (by decide) (A8 t.1++A8 t.2.1.length++Ff t.2.1) t.2.2.length ⟨by omega,by omega⟩ (by simp only [List.length_append]; omega)) rfl ktA rfl ?_
     refine Goes ?_
     rw [List.length_map]
     have hb:(A8 t.1++A8 t.2.1.length++Ff t.2.1++A8 t.2.2.length).length<=200:=by simp only [List.length_append]; omega
     have hT:E3 t=A8 t.1++A8 t.2.1.length++Ff t.2.1++A8 t.2.2.length++Eu t.2.2:=rfl
     rw [hT]
     clear hT hi bu a8 fA h
     generalize A8 t.1++A8 t.2.1.length++Ff t.2.1++A8 t.2.2.length=s0 at *
     refine Ao.go (fun k:Nat=>k<=t.2.2.length) (fun k=>⟨[(0,.pt 0 0 0),(43,Dh t.2.2),(44,iv t.2.2.length),(45,iv k)],pkh 0 2 (s0++Eu (t.2.2.take k)),3⟩) (fun k=>t.2.2.length - k) 0 (Nat.zero_le _) ?_ ?_
     · refine Ac.of rfl rfl ktA ?_
       simp only [List.take_zero]
       rw [show s0++Eu []=s0 from by simp [Eu]]
       exact ktA
     · intro k hk
       have hi:=Uf (ys:=t.2.2.take k) fun x hx=>h5 x (List.mem_of_mem_take hx)
       rw [List.length_take] at hi
       refine Goes ?_;repeat' first|apply W2.m|refine W1.m fun h=>?_
       · have aa:k < t.2.2.length:=by omega
         rw [A1 Ax t.2.2 k aa]
         have hx:=h5 _ (List.getElem_mem aa)
         generalize ht:t.2.2[k]=x at hx ⊢
         obtain ⟨x1,x3⟩:=x
         refine ⟨by simp only [List.length_map]; exact ⟨by omega,by omega,rfl⟩,?_⟩
         refine Goes ?_
         have g1:=Lj x1
         refine Aa.heapIs (Yc 0 2 _ (by decide) (s0++Eu (t.2.2.take k)) x1 hx.1 (by simp only [List.length_append]; omega)) rfl ktA rfl ?_
         refine Goes ?_
         refine Aa.heapIs (Vh 0 2 _ (by decide) (s0++Eu (t.2.2.take k)++Mq x1) x3 hx.2 (by simp only [List.length_append]; omega)) rfl ktA rfl ?_
         refine Goes ?_
         refine ⟨k + 1,by omega,by omega,Ac.of rfl rfl ktA ?_⟩
         rw [X6 aa,ht]
         show a3u _ _ (pkh 0 2 (s0++(Eu (t.2.2.take k)++P5 (x1,x3))))
         rw [show s0++(Eu (t.2.2.take k)++P5 (x1,x3))=s0++Eu (t.2.2.take k)++Mq x1++Kj x3 from by simp [P5]]
         exact ktA
       · obtain rfl:k=t.2.2.length:=by omega
         rw [List.take_length]
         refine Ab.mk' [2] rfl rfl rfl rfl rfl rfl rfl ⟨?_,?_,rfl⟩
         · rfl
         · rfl
end Go.Proofs.YtllhgcfacgiabaaGreat
