import Derived.Test.YtllhgcfacgiabaaGreatB5
import Derived.Test.YtllhgcfacgiabaaGreatB6
namespace Go.Proofs.YtllhgcfacgiabaaGreat
open Go Go.Am Go.RowKit
set_option linter.unusedVariables false
set_option linter.unusedSimpArgs false
theorem l1Ints_fr (zs:List Int) (n:Nat) (hl:zs.length≤1048576):Ret Tryz.prog 205 [il zs] [] n true (Is (il zs) [] n):=Ret.frList (by simp) (l1Ints_ret zs n hl)
set_option maxHeartbeats 2000000 in
theorem l3Copy_ret (t:TxD) (n:Nat) (hF:Fits t):Ret Tryz.prog 168 [txV t] [] n true (Is (.agg [iv t.1,.own n t.2.1.length,.own (n + 1) t.2.2.length]) [(n,.list 201 3 (t.2.1.map inRow)),(n + 1,.list 203 2 (t.2.2.map outRow))] (n + 2)):=by
 have hI:=hF.ins
 have hO:=hF.outs
 have hL:(t.2.1.map inRow).length=t.2.1.length:=by simp
 have hL2:(t.2.2.map outRow).length=t.2.2.length:=by simp
 refine Ret.fn ttOk Tryz.func168 rfl Tryz.call168 rfl rfl ?_
 refine Goes ?_;repeat' first|apply W2.m|refine W1.m fun h=>?_
 refine LoopP.go (fun k:Nat=>k≤t.2.1.length) (fun k=>⟨[(1,.pt 0 0 0),(2,.pt 1 0 0),(3,.pt 2 0 0),(4,iv k)],[(0,.box (txC t)),(1,.box [iv 0,nl,nl]),(2,.box [iv t.1,.own 3 k,.own 4 0]),(3,.list 201 3 ((t.2.1.take k).map inRow)),(4,.list 203 2 [])],5⟩) (fun k=>t.2.1.length - k) 0 (Nat.zero_le _) ?_ ?_
 · refine Weak.trans (Weak.of (tm':=[(1,.pt 0 0 0),(2,.pt 1 0 0),(3,.pt 2 0 0),(4,iv (0:Nat))]) (hp':=[(0,.box (txC t)),(1,.box [iv 0,nl,nl]),(2,.box [iv t.1,nl,nl])]) (nx':=3) rfl rfl ⟨⟨rfl,rfl⟩,⟨rfl,rfl⟩,⟨rfl,rfl⟩,⟨rfl,rfl⟩,trivial⟩ ⟨⟨rfl,rfl,rfl⟩,⟨rfl,rfl,rfl⟩,⟨rfl,rfl,rfl⟩,trivial⟩) ?_
   refine Weak.trans (Weak.name 2 1 201 3 _ (by decide) rfl rfl) ?_
   refine Weak.trans (Weak.name 2 2 203 2 _ (by decide) rfl rfl) ?_
   exact (Weak.of rfl rfl ktA ktA)
 intro k hk
 by_cases hlt:k < t.2.1.length
 · refine Goes ?_;repeat' first|apply W2.m|refine W1.m fun h=>?_
   all_goals try (exfalso; omega)
   repeat'
    first
     | (rw [rowK inRow t.2.1 k hlt]
        refine ⟨by rw [hL]; exact ⟨by omega,by omega,rfl⟩,?_⟩
        refine Goes ?_;repeat' first|apply W2.m|refine W1.m fun h=>?_)
     | (first | refine CallQ.is (l1Ints_fr t.2.1[k].2.2 _ (hF.proofs _ (List.getElem_mem hlt))) rfl rfl ?_ | refine CallP.is (l1Ints_fr t.2.1[k].2.2 _ (hF.proofs _ (List.getElem_mem hlt))) rfl ?_
        refine Goes ?_;repeat' first|apply W2.m|refine W1.m fun h=>?_)
   refine ⟨⟨by simp; omega,by show (k + 1) * 40≤_; omega,by show k + 1≤_; unfold maxLen; omega,True.intro,fun r hr=>by rw [List.mem_singleton.1 (List.mem_of_mem_take hr)]; rfl⟩,?_⟩
   refine Goes ?_;repeat' first|apply W2.m|refine W1.m fun h=>?_
   refine ⟨k + 1,by omega,by omega,Weak.of rfl rfl ⟨⟨rfl,rfl⟩,⟨rfl,rfl⟩,⟨rfl,rfl⟩,⟨leafI numA,rfl⟩,trivial⟩ ⟨⟨rfl,rfl,rfl⟩,⟨rfl,rfl,rfl⟩,⟨rfl,rfl,rfl⟩,⟨leafO ?_,rfl,rfl⟩,⟨rfl,rfl,rfl⟩,trivial⟩⟩
   rw [takeS t.2.1 k hlt,List.map_append,List.take_of_length_le (by simp; omega)]; rfl
 · obtain rfl:k=t.2.1.length:=by omega
   rw [List.take_length]
   refine Goes ?_;repeat' first|apply W2.m|refine W1.m fun h=>?_
   all_goals try (exfalso; omega)
   refine LoopP.go (fun k:Nat=>k≤t.2.2.length) (fun k=>⟨[(1,.pt 0 0 0),(2,.pt 1 0 0),(3,.pt 2 0 0),(5,iv k)],[(0,.box (txC t)),(1,.box [iv 0,nl,nl]),(2,.box [iv t.1,.own 3 t.2.1.length,.own 4 k]),(3,.list 201 3 (t.2.1.map inRow)),(4,.list 203 2 ((t.2.2.take k).map outRow))],5⟩) (fun k=>t.2.2.length - k) 0 (Nat.zero_le _) (Weak.of rfl rfl ktA ktA) ?_
   intro k hk
   by_cases hlt:k < t.2.2.length
   · refine Goes ?_;repeat' first|apply W2.m|refine W1.m fun h=>?_
     all_goals try (exfalso; omega)
     repeat'
      first
       | (rw [rowK outRow t.2.2 k hlt]
          refine ⟨by rw [hL2]; exact ⟨by omega,by omega,rfl⟩,?_⟩
          refine Goes ?_;repeat' first|apply W2.m|refine W1.m fun h=>?_)
       | (first | refine CallQ.is (l1Ints_fr t.2.2[k].2 _ (hF.locks _ (List.getElem_mem hlt))) rfl rfl ?_ | refine CallP.is (l1Ints_fr t.2.2[k].2 _ (hF.locks _ (List.getElem_mem hlt))) rfl ?_
          refine Goes ?_;repeat' first|apply W2.m|refine W1.m fun h=>?_)
     refine ⟨⟨by simp; omega,by show (k + 1) * 32≤_; omega,by show k + 1≤_; unfold maxLen; omega,True.intro,fun r hr=>by rw [List.mem_singleton.1 (List.mem_of_mem_take hr)]; rfl⟩,?_⟩
     refine Goes ?_;repeat' first|apply W2.m|refine W1.m fun h=>?_
     refine ⟨k + 1,by omega,by omega,Weak.of rfl rfl ⟨⟨rfl,rfl⟩,⟨rfl,rfl⟩,⟨rfl,rfl⟩,⟨leafI numA,rfl⟩,trivial⟩ ⟨⟨rfl,rfl,rfl⟩,⟨rfl,rfl,rfl⟩,⟨rfl,rfl,rfl⟩,⟨rfl,rfl,rfl⟩,⟨leafO ?_,rfl,rfl⟩,trivial⟩⟩
     rw [takeS t.2.2 k hlt,List.map_append,List.take_of_length_le (by simp; omega)]; rfl
   · obtain rfl:k=t.2.2.length:=by omega
     rw [List.take_length]
     refine Goes ?_;repeat' first|apply W2.m|refine W1.m fun h=>?_
     all_goals try (exfalso; omega)
     refine FinOk.mk' [3,4] rfl rfl rfl rfl rfl rfl rfl ⟨?_,?_,rfl⟩
     · rfl
     · rfl
theorem l3Copy_fr (t:TxD) (n:Nat) (hF:Fits t):Ret Tryz.prog 168 [txV t] [] n true (Is (txV t) [] n) :=
 Ret.freeze (by
  rintro _ _ _ ⟨rfl,rfl,rfl⟩
  exact ⟨txV t,FrV.agg _ (txC t) ⟨.refl _ rfl (fun _ e=>by cases e),frOwn (look_cons_eq _ _ _) (by simp),frOwn ((look_cons_ne _ _ (by omega)).trans (look_cons_eq _ _ _)) (by simp),trivial⟩,rfl,rfl,rfl⟩) (l3Copy_ret t n hF)
theorem l3Txs_ret (xs:List TxD) (n:Nat) (hl:xs.length≤1048576) (hx:∀ x∈xs,Fits x):Ret Tryz.prog 148 [txsV xs] [] n true (Is (.own n xs.length) [(n,.list 133 3 (xs.map txC))] (n + 1)):=by
 have hL:(xs.map txC).length=xs.length:=by simp
 refine Ret.fn ttOk Tryz.func148 rfl Tryz.call148 rfl rfl ?_
 refine Goes ?_;repeat' first|apply W2.m|refine W1.m fun h=>?_
 refine LoopP.go (fun k:Nat=>k≤xs.length) (fun k=>⟨[(0,txsV xs),(3,.own 0 k),(4,iv k)],[(0,.list 133 3 ((xs.take k).map txC))],1⟩) (fun k=>xs.length - k) 0 (Nat.zero_le _) (Weak.of rfl rfl ktA ktA) ?_
 intro k hk
 by_cases hlt:k < xs.length
 · refine Goes ?_;repeat' first|apply W2.m|refine W1.m fun h=>?_
   all_goals try (exfalso; omega)
   rw [rowK txC xs k hlt]
   refine ⟨by rw [hL]; exact ⟨by omega,by omega,rfl⟩,?_⟩
   refine Goes ?_;repeat' first|apply W2.m|refine W1.m fun h=>?_
   first | refine CallP.is (l3Copy_fr xs[k] _ (hx _ (List.getElem_mem hlt))) rfl ?_ | refine CallQ.is (l3Copy_fr xs[k] _ (hx _ (List.getElem_mem hlt))) rfl rfl ?_
   refine Goes ?_;repeat' first|apply W2.m|refine W1.m fun h=>?_
   refine ⟨⟨by simp; omega,by show (k + 1) * 56≤_; omega,by show k + 1≤_; unfold maxLen; omega,Nat.le_refl 1,fun r hr=>by rw [List.mem_singleton.1 (List.mem_of_mem_take hr)]; rfl⟩,?_⟩
   refine Goes ?_;repeat' first|apply W2.m|refine W1.m fun h=>?_
   refine ⟨k + 1,by omega,by omega,Weak.of rfl rfl ⟨⟨rfl,rfl⟩,⟨rfl,rfl⟩,⟨leafI numA,rfl⟩,trivial⟩ ⟨⟨leafO ?_,rfl,rfl⟩,trivial⟩⟩
   rw [takeS xs k hlt,List.map_append,List.take_of_length_le (by simp; omega)]; rfl
 · obtain rfl:k=xs.length:=by omega
   rw [List.take_length]
   refine Goes ?_;repeat' first|apply W2.m|refine W1.m fun h=>?_
   all_goals try (exfalso; omega)
   refine FinOk.mk' [0] rfl rfl rfl rfl rfl rfl rfl ⟨?_,?_,rfl⟩
   · rfl
   · rfl
theorem l3Txs_fr (xs:List TxD) (n:Nat) (hl:xs.length≤1048576) (hx:∀ x∈xs,Fits x):Ret Tryz.prog 148 [txsV xs] [] n true (Is (txsV xs) [] n):=Ret.frList (by simp) (l3Txs_ret xs n hl hx)
theorem l6CopyBlock_fr (b:BlkD) (n:Nat) (hf:FitsB b):Ret Tryz.prog 98 [blkV b] [] n true (Is (blkV b) [] n):=by
 refine Ret.fn ttOk Tryz.func98 rfl Tryz.call98 rfl rfl ?_
 refine Goes ?_;repeat' first|apply W2.m|refine W1.m fun h=>?_
 first | refine CallP.is (l3Txs_fr b.txs _ hf.len hf.txs) rfl ?_ | refine CallQ.is (l3Txs_fr b.txs _ hf.len hf.txs) rfl rfl ?_
 refine Goes ?_;repeat' first|apply W2.m|refine W1.m fun h=>?_
 refine FinOk.pure rfl rfl rfl ⟨?_,rfl,rfl⟩
 rfl
end Go.Proofs.YtllhgcfacgiabaaGreat
namespace Go.Proofs.YtllhgcfacgiabaaGreat
open Go Go.Am Go.RowKit
set_option linter.unusedVariables false
set_option linter.unusedSimpArgs false
def mineV (b:BlkD) (t:Int):List AV:=match mineN b t.toNat b.nonce with
 | some z=>iv 0::blkC (atN b z)
 | none=>[iv 8,iv 0,iv 0,iv 0,iv 0,nl]
theorem specMine_fault (b:BlkD) (t:Int) (n:Nat) (hf:FitsB b) (h0:blkF b≠0):Ret Tryz.prog 50 [blkV b,iv t] [] n true (Is (mineBad (blkF b)) [] n):=by
 have hc:=fun n=>l6Fault_rp b n hf
 refine Ret.fn ttOk Tryz.func50 rfl Tryz.call50 rfl rfl ?_
 refine Goes ?_;repeat' first|apply W2.m|refine W1.m fun h=>?_
 refine CallP.convAIs (hc _) cvargsA rfl (by first | exact trivial | exact ⟨flat_ivs _,trivial⟩) ?_
 refine Goes ?_;repeat' first|apply W2.m|refine W1.m fun h=>?_
 all_goals first
  | (exfalso; omega)
  | (refine FinOk.pure rfl rfl rfl ⟨?_,rfl,rfl⟩
     rfl)
theorem specMine_range (b:BlkD) (t:Int) (n:Nat) (hf:FitsB b) (h0:blkF b=0) (ht:¬ inR 1 200 t):Ret Tryz.prog 50 [blkV b,iv t] [] n true (Is (mineBad 3) [] n):=by
 have hc:=fun n=>l6Fault_rp b n hf
 have hI:=fun n=>l1In_ret t 1 200 n
 rw [h0] at hc
 rw [decide_eq_false ht] at hI
 refine Ret.fn ttOk Tryz.func50 rfl Tryz.call50 rfl rfl ?_
 refine Goes ?_;repeat' first|apply W2.m|refine W1.m fun h=>?_
 refine CallP.convAIs (hc _) cvargsA rfl (by first | exact trivial | exact ⟨flat_ivs _,trivial⟩) ?_
 refine Goes ?_;repeat' first|apply W2.m|refine W1.m fun h=>?_
 first | refine CallP.is (hI _) rfl ?_ | refine CallQ.is (hI _) rfl rfl ?_
 refine Goes ?_;repeat' first|apply W2.m|refine W1.m fun h=>?_
 all_goals first
  | (exfalso; omega)
  | (refine FinOk.pure rfl rfl rfl ⟨?_,rfl,rfl⟩
     rfl)
set_option maxHeartbeats 2000000 in
theorem specMine_ret (b:BlkD) (t:Int) (n:Nat) (hf:FitsB b) (h0:blkF b=0) (ht:inR 1 200 t):Ret Tryz.prog 50 [blkV b,iv t] [] n true (Is (.agg (mineV b t)) [] n):=by
 have hc:=fun n=>l6Fault_rp b n hf
 have hI:=fun n=>l1In_ret t 1 200 n
 rw [h0] at hc
 rw [decide_eq_true ht] at hI
 obtain ⟨hh,hl1,hl4,htx⟩:=blkF_ok h0
 have hno:=hh.2.2.2
 have hbits:=hh.2.2.1
 unfold inR at ht hno
 obtain ⟨q,rfl⟩:∃ q:Nat,t=(q:Int):=⟨t.toNat,by omega⟩
 have hT:=fun n=>l1Target_ret b.bits n hbits
 refine Ret.fn ttOk Tryz.func50 rfl Tryz.call50 rfl rfl ?_
 refine Goes ?_;repeat' first|apply W2.m|refine W1.m fun h=>?_
 refine CallP.convAIs (hc _) cvargsA rfl (by first | exact trivial | exact ⟨flat_ivs _,trivial⟩) ?_
 refine Goes ?_;repeat' first|apply W2.m|refine W1.m fun h=>?_
 first | refine CallP.is (hI _) rfl ?_ | refine CallQ.is (hI _) rfl rfl ?_
 refine Goes ?_;repeat' first|apply W2.m|refine W1.m fun h=>?_
 first | refine CallP.is (l6CopyBlock_fr b _ hf) rfl ?_ | refine CallQ.is (l6CopyBlock_fr b _ hf) rfl rfl ?_
 refine Goes ?_;repeat' first|apply W2.m|refine W1.m fun h=>?_
 refine LoopP.go (fun y:Nat × Int=>y.1≤q∧b.nonce≤y.2∧y.2 + y.1=b.nonce + q∧mineN b q b.nonce=mineN b y.1 y.2) (fun y=>⟨[(1,iv q),(2,.pt 0 0 0),(4,.pt 1 0 0),(6,.pt 2 0 0),(7,iv (y.2 - b.nonce))],[(0,.box (blkC b)),(1,.box [iv 0,iv 0,iv 0,iv 0,iv 0,nl]),(2,.box [iv b.prev,iv b.time,iv b.bits,iv y.2,txsV b.txs])],3⟩) (fun y=>y.1) (q,b.nonce) ⟨Nat.le_refl _,Int.le_refl _,rfl,rfl⟩ ?_ ?_
 · exact Weak.of rfl rfl ⟨⟨rfl,rfl⟩,⟨rfl,rfl⟩,⟨rfl,rfl⟩,⟨rfl,rfl⟩,⟨leafI (by show (0:Int)=b.nonce - b.nonce; omega),rfl⟩,trivial⟩ ⟨⟨rfl,rfl,rfl⟩,⟨rfl,rfl,rfl⟩,⟨rfl,rfl,rfl⟩,trivial⟩
 rintro ⟨k,z⟩ ⟨h1,h2,h3,h4⟩
 dsimp only at h1 h2 h3 h4 ⊢
 have hfin:mineN b q b.nonce=none→mineV b (q:Int)=[iv 8,iv 0,iv 0,iv 0,iv 0,nl]:=fun hn=>by
  unfold mineV
  rw [Int.toNat_natCast,hn]
 cases k with
 | zero =>
   rw [hfin h4]
   refine Goes ?_;repeat' first|apply W2.m|refine W1.m fun h=>?_
   all_goals try (exfalso; omega)
   refine FinOk.pure rfl rfl rfl ⟨?_,rfl,rfl⟩
   rfl
 | succ k =>
   rw [mineN] at h4
   by_cases hz:inR 0 65535 z
   · rw [if_pos hz] at h4
     have hH:=fun n=>l6Header_rp (atN b z) n hl1 hl4 htx
     unfold inR at hz
     by_cases hp:hdrB (atN b z)≤tgtB b.bits
     · rw [if_pos hp] at h4
       have hv:mineV b (q:Int)=iv 0::blkC (atN b z):=by
        unfold mineV
        rw [Int.toNat_natCast,h4]
       rw [hv]
       refine Goes ?_;repeat' first|apply W2.m|refine W1.m fun h=>?_
       all_goals try (exfalso; omega)
       repeat' first
        | (refine CallP.convAIs (hH _) cvargsA rfl (by first | exact trivial | exact ⟨flat_ivs _,trivial⟩) ?_
           refine Goes ?_;repeat' first|apply W2.m|refine W1.m fun h=>?_)
        | (first | refine CallQ.is (hT _) rfl rfl ?_ | refine CallP.is (hT _) rfl ?_
           refine Goes ?_;repeat' first|apply W2.m|refine W1.m fun h=>?_)
       all_goals try (exfalso; omega)
       all_goals
        refine FinOk.pure rfl rfl rfl ⟨?_,rfl,rfl⟩
        rfl
     · rw [if_neg hp] at h4
       refine Goes ?_;repeat' first|apply W2.m|refine W1.m fun h=>?_
       all_goals try (exfalso; omega)
       repeat' first
        | (refine CallP.convAIs (hH _) cvargsA rfl (by first | exact trivial | exact ⟨flat_ivs _,trivial⟩) ?_
           refine Goes ?_;repeat' first|apply W2.m|refine W1.m fun h=>?_)
        | (first | refine CallQ.is (hT _) rfl rfl ?_ | refine CallP.is (hT _) rfl ?_
           refine Goes ?_;repeat' first|apply W2.m|refine W1.m fun h=>?_)
       all_goals try (exfalso; exact hp (by assumption))
       all_goals exact ⟨(k,z + 1),⟨by omega,by omega,by omega,h4⟩,by show k < k + 1; omega,Weak.of rfl rfl ⟨⟨rfl,rfl⟩,⟨rfl,rfl⟩,⟨rfl,rfl⟩,⟨rfl,rfl⟩,⟨leafI (by rw [IntWalk.i64_in _ (by omega)]; omega),rfl⟩,trivial⟩ ⟨⟨rfl,rfl,rfl⟩,⟨rfl,rfl,rfl⟩,⟨by show some (AObj.box _)=some (AObj.box _); rw [IntWalk.i64_in _ (by omega)],rfl,rfl⟩,trivial⟩⟩
   · rw [if_neg hz] at h4
     rw [hfin h4]
     unfold inR at hz
     refine Goes ?_;repeat' first|apply W2.m|refine W1.m fun h=>?_
     all_goals try (exfalso; omega)
     refine FinOk.pure rfl rfl rfl ⟨?_,rfl,rfl⟩
     rfl
end Go.Proofs.YtllhgcfacgiabaaGreat
