import Derived.Test.YtllhgcfacgiabaaGreatP11
namespace Go.Proofs.YtllhgcfacgiabaaGreat
open Go Go.Am Go.RowKit
set_option linter.unusedVariables false
set_option linter.unusedSimpArgs false
theorem tx_ret (i n:Nat) (t:TxD) (h:okT t) :
 Ret Tryz.prog 217 [.pt i 0 0,txV t] [(i,.box [nl])] n false (Is (.tup []) (pkh i n (packT t)) (n + 1)):=by
 obtain ⟨h1,h2,h3,h4,h5⟩:=h
 have hb1:=(putN_len t.1).2
 have hb2:=(putN_len t.2.1.length).2
 have hb3:=(putN_len t.2.2.length).2
 refine Ret.of_run (tt:=tt) ttOk Tryz.func217 rfl Tryz.call217 [i] [.box [nl]] [.pt 0 0 0,txV t] false n _ rfl (nodup1 i) (by exact Nat.le_of_ble_eq_true rfl) rfl rfl ?_
 refine Goes ?_
 refine CallP.heapIs (number_nil 0 _ t.1 h1) rfl ktA rfl ?_
 refine Goes ?_
 rw [List.length_map]
 refine CallP.heapIs (number_ret 0 2 _ (by decide) (putN t.1) t.2.1.length ⟨by omega,by omega⟩ (by omega)) rfl ktA rfl ?_
 refine Goes ?_
 rw [List.length_map]
 refine LoopP.go (fun k:Nat=>k≤t.2.1.length) (fun k=>⟨[(0,.pt 0 0 0),(3,.pt 1 0 0),(18,insV t.2.1),(19,iv t.2.1.length),(20,iv k)],(1,.box (txC t))::pkh 0 2 (putN t.1++putN t.2.1.length++insN (t.2.1.take k)),3⟩) (fun k=>t.2.1.length - k) 0 (Nat.zero_le _) ?_ ?_
 · refine Weak.of rfl rfl ktA ?_
   simp only [List.take_zero]
   rw [show putN t.1++putN t.2.1.length++insN []=putN t.1++putN t.2.1.length from by simp [insN]]
   exact ktA
 · intro k hk
   have hi:=insN_len (xs:=t.2.1.take k) fun x hx=>h4 x (List.mem_of_mem_take hx)
   rw [List.length_take] at hi
   refine Goes ?_;repeat' first|apply W2.m|refine W1.m fun h=>?_
   · have hlt:k < t.2.1.length:=by omega
     rw [rowK inRow t.2.1 k hlt]
     have hx:=h4 _ (List.getElem_mem hlt)
     generalize ht:t.2.1[k]=x at hx ⊢
     obtain ⟨x1,x2,x3⟩:=x
     refine ⟨by simp only [List.length_map]; exact ⟨by omega,by omega,rfl⟩,?_⟩
     refine Goes ?_
     have g1:=bigN_len x1
     have g2:=(putN_len x2).2
     refine CallP.heapIs (halves_ret 0 2 _ (by decide) (putN t.1++putN t.2.1.length++insN (t.2.1.take k)) x1 hx.1 (by simp only [List.length_append]; omega)) rfl ktA rfl ?_
     refine Goes ?_
     have hx2:inR 0 65535 x2:=by have:=hx.2.1; unfold inR at this ⊢; dsimp only at this; omega
     refine CallP.heapIs (number_ret 0 2 _ (by decide) (putN t.1++putN t.2.1.length++insN (t.2.1.take k)++bigN x1) x2 hx2 (by simp only [List.length_append]; omega)) rfl ktA rfl ?_
     refine Goes ?_
     refine CallP.heapIs (numbers_ret 0 2 _ (by decide) (putN t.1++putN t.2.1.length++insN (t.2.1.take k)++bigN x1++putN x2) x3 ⟨Nat.le_trans hx.2.2.1 (by decide),hx.2.2.2⟩ (by simp only [List.length_append]; omega)) rfl ktA rfl ?_
     refine Goes ?_
     refine ⟨k + 1,by omega,by omega,Weak.of rfl rfl ktA ?_⟩
     rw [insN_take hlt,ht]
     show keepH _ _ ((1,.box (txC t))::pkh 0 2 (putN t.1++putN t.2.1.length++(insN (t.2.1.take k)++packI (x1,x2,x3))))
     rw [show putN t.1++putN t.2.1.length++(insN (t.2.1.take k)++packI (x1,x2,x3))=putN t.1++putN t.2.1.length++insN (t.2.1.take k)++bigN x1++putN x2++listN x3 from by simp [packI]]
     exact ktA
   · obtain rfl:k=t.2.1.length:=by omega
     rw [List.take_length] at hi ⊢
     rw [Nat.min_self] at hi
     rw [List.length_map]
     refine CallP.heapIs (number_ret 0 2 _ (by decide) (putN t.1++putN t.2.1.length++insN t.2.1) t.2.2.length ⟨by omega,by omega⟩ (by simp only [List.length_append]; omega)) rfl ktA rfl ?_
     refine Goes ?_
     rw [List.length_map]
     have hb:(putN t.1++putN t.2.1.length++insN t.2.1++putN t.2.2.length).length≤200:=by simp only [List.length_append]; omega
     have hT:packT t=putN t.1++putN t.2.1.length++insN t.2.1++putN t.2.2.length++outsN t.2.2:=rfl
     rw [hT]
     clear hT hi hb1 hb2 hb3 h
     generalize putN t.1++putN t.2.1.length++insN t.2.1++putN t.2.2.length=s0 at *
     refine LoopP.go (fun k:Nat=>k≤t.2.2.length) (fun k=>⟨[(0,.pt 0 0 0),(43,outsV t.2.2),(44,iv t.2.2.length),(45,iv k)],pkh 0 2 (s0++outsN (t.2.2.take k)),3⟩) (fun k=>t.2.2.length - k) 0 (Nat.zero_le _) ?_ ?_
     · refine Weak.of rfl rfl ktA ?_
       simp only [List.take_zero]
       rw [show s0++outsN []=s0 from by simp [outsN]]
       exact ktA
     · intro k hk
       have hi:=outsN_len (ys:=t.2.2.take k) fun x hx=>h5 x (List.mem_of_mem_take hx)
       rw [List.length_take] at hi
       refine Goes ?_;repeat' first|apply W2.m|refine W1.m fun h=>?_
       · have hlt:k < t.2.2.length:=by omega
         rw [rowK outRow t.2.2 k hlt]
         have hx:=h5 _ (List.getElem_mem hlt)
         generalize ht:t.2.2[k]=x at hx ⊢
         obtain ⟨x1,x3⟩:=x
         refine ⟨by simp only [List.length_map]; exact ⟨by omega,by omega,rfl⟩,?_⟩
         refine Goes ?_
         have g1:=bigN_len x1
         refine CallP.heapIs (halves_ret 0 2 _ (by decide) (s0++outsN (t.2.2.take k)) x1 hx.1 (by simp only [List.length_append]; omega)) rfl ktA rfl ?_
         refine Goes ?_
         refine CallP.heapIs (numbers_ret 0 2 _ (by decide) (s0++outsN (t.2.2.take k)++bigN x1) x3 hx.2 (by simp only [List.length_append]; omega)) rfl ktA rfl ?_
         refine Goes ?_
         refine ⟨k + 1,by omega,by omega,Weak.of rfl rfl ktA ?_⟩
         rw [outsN_take hlt,ht]
         show keepH _ _ (pkh 0 2 (s0++(outsN (t.2.2.take k)++packO (x1,x3))))
         rw [show s0++(outsN (t.2.2.take k)++packO (x1,x3))=s0++outsN (t.2.2.take k)++bigN x1++listN x3 from by simp [packO]]
         exact ktA
       · obtain rfl:k=t.2.2.length:=by omega
         rw [List.take_length]
         refine FinOk.mk' [2] rfl rfl rfl rfl rfl rfl rfl ⟨?_,?_,rfl⟩
         · rfl
         · rfl
end Go.Proofs.YtllhgcfacgiabaaGreat
