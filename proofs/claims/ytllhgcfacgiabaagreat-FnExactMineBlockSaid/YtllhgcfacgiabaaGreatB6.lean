import Derived.Test.YtllhgcfacgiabaaGreatP61
import Derived.Test.YtllhgcfacgiabaaGreatB5
namespace Go.Proofs.YtllhgcfacgiabaaGreat
open Go Go.Am Go.RowKit
set_option linter.unusedVariables false
set_option linter.unusedSimpArgs false
theorem rootB_sum {b:BlkD} (h1:1≤b.txs.length) (h2:b.txs.length≤4):isSumI (rootB b):=by
 obtain ⟨g1,g2,g3⟩:=askC_ok.1 (sumsX_ask h1 h2)
 exact topW_sum _ ⟨g1,g2,g3⟩
theorem hdr_sumIR {b:BlkD} (h:blkF b=0):sumIR [b.prev,rootB b,b.time,b.bits,b.nonce]=[iv 0,iv (hdrB b)]:=by
 obtain ⟨⟨a1,a2,a3,a4⟩,h1,h2,_⟩:=blkF_ok h
 have hr:=rootB_sum h1 h2
 unfold isSumI at hr
 unfold inR at a1 a2 a4
 unfold bitsB at a3
 simp only [decide_eq_true_eq] at a3
 unfold sumIR
 rw [if_neg (by simp),if_pos]
 · rfl
 · rw [allB_iff]
   intro z hz
   simp only [List.mem_cons,List.not_mem_nil,or_false] at hz
   rcases hz with rfl | rfl | rfl | rfl | rfl <;> omega
end Go.Proofs.YtllhgcfacgiabaaGreat
namespace Go.Proofs.YtllhgcfacgiabaaGreat
open Go Go.Am Go.RowKit
set_option linter.unusedVariables false
set_option linter.unusedSimpArgs false
abbrev hdC (b:BlkD):List AV:=[iv b.prev,iv (rootB b),iv b.time,iv b.bits,iv b.nonce]
def tgtB (b:Int):Int:=tgF (b / 256) (b % 256)
theorem bits_i64 {b:BlkD} (h:blkF b=0):isI64 b.bits∧bitsB b.bits=true:=by
 have h1:=(blkF_ok h).1.2.2.1
 refine ⟨?_,h1⟩
 unfold bitsB at h1
 simp only [decide_eq_true_eq] at h1
 unfold isI64; omega
theorem isProven_ret (b:BlkD) (n:Nat) (h:blkF b=0):Ret Tryz.prog 103 [.agg (hdC b)] [] n true (Is (bv (decide (hdrB b≤tgtB b.bits))) [] n):=by
 obtain ⟨hb,hb2⟩:=bits_i64 h
 have hs:=fun n=>header_sum b.prev (rootB b) b.time b.bits b.nonce n (hdr_sumIR h)
 have ht:=fun n=>implTargetOf_ret b.bits n hb
 have e:targR b.bits=[iv 0,iv (tgtB b.bits)]:=by unfold targR; rw [if_pos hb2]; rfl
 rw [e] at ht
 refine Ret.fn ttOk Tryz.func103 rfl Tryz.call103 rfl rfl ?_
 refine Goes ?_
 first | refine CallQ.is (hs _) rfl rfl ?_ | refine CallP.is (hs _) rfl ?_
 refine Goes ?_
 first | refine CallQ.is (ht _) rfl rfl ?_ | refine CallP.is (ht _) rfl ?_
 refine Goes ?_
 refine FinOk.pure rfl rfl rfl ⟨?_,rfl,rfl⟩
 rfl
theorem l1Target_ret (b:Int) (n:Nat) (hb:bitsB b=true):Ret Tryz.prog 100 [iv b] [] n true (Is (iv (tgtB b)) [] n):=by
 unfold bitsB at hb
 simp only [decide_eq_true_eq] at hb
 have hr:b.tmod 256=b % 256:=Int.tmod_eq_emod_of_nonneg (by omega)
 unfold tgtB tgF
 obtain ⟨e,he⟩:∃ e,e=b / 256:=⟨_,rfl⟩
 have hq:IntKind.i64.wrap (b.tdiv 256)=e:=by rw [Int.tdiv_eq_ediv_of_nonneg (by omega),IntWalk.i64_in _ (by omega),he]
 rw [← he]
 rcases (by omega:e=0∨e=1∨e=2∨e=3) with rfl | rfl | rfl | rfl
 all_goals
  refine Ret.fn ttOk Tryz.func100 rfl Tryz.call100 rfl rfl ?_
  refine Goes ?_
  rw [hq]
  refine ⟨by decide,?_⟩
  refine Goes ?_
  refine FinOk.pure rfl rfl rfl ⟨?_,rfl,rfl⟩
  refine ivI ?_
  rw [hr]
  simp (disch:=omega) [IntKind.bits,IntWalk.i64_in,IntWalk.u64_in]
  try (simp (disch:=omega) [IntWalk.i64_in])
  try rw [Int.add_mul]
  try rw [Int.one_mul]
end Go.Proofs.YtllhgcfacgiabaaGreat
namespace Go.Proofs.YtllhgcfacgiabaaGreat
open Go Go.Am Go.RowKit
set_option linter.unusedVariables false
set_option linter.unusedSimpArgs false
abbrev atN (b:BlkD) (z:Int):BlkD:=⟨b.prev,b.time,b.bits,z,b.txs⟩
theorem blkF_at {b:BlkD} {z:Int} (h:blkF b=0) (hz:inR 0 65535 z):blkF (atN b z)=0:=by
 obtain ⟨⟨h1,h2,h3,_⟩,_⟩:=blkF_ok h
 have hh:headB (atN b z):=⟨h1,h2,h3,hz⟩
 have e:headB b:=(blkF_ok h).1
 unfold blkF at h ⊢
 rw [if_pos hh]
 rw [if_pos e] at h
 exact h
def mineN (b:BlkD):Nat→Int→Option Int
 | 0,_=>none
 | k + 1,z=>if inR 0 65535 z then (if hdrB (atN b z)≤tgtB b.bits then some z else mineN b k (z + 1)) else none
def MineQ (n:Nat) (b:BlkD) (t:Int):AV→Hp→Nat→Prop:=fun r ho m =>
 match mineN b t.toNat b.nonce with
 | some z=>r=.agg (iv 0::blkO n (atN b z))∧ho=[txsO n b.txs]∧m=n + 1
 | none=>r=.agg [iv 8,iv 0,iv 0,iv 0,iv 0,nl]∧ho=[]∧m=n
abbrev mineBad (c:Int):AV:=.agg [iv c,iv 0,iv 0,iv 0,iv 0,nl]
theorem implMine_fault (b:BlkD) (t:Int) (n:Nat) (hf:FitsB b) (hb:isI64 b.bits) (h0:blkF b≠0):Ret Tryz.prog 51 [blkV b,iv t] [] n true (Is (mineBad (blkF b)) [] n):=by
 refine Ret.fn ttOk Tryz.func51 rfl Tryz.call51 rfl rfl ?_
 refine Goes ?_;repeat' first|apply W2.m|refine W1.m fun h=>?_
 first | refine CallP.is (sealBlock_no b _ hf hb h0) rfl ?_ | refine CallQ.is (sealBlock_no b _ hf hb h0) rfl rfl ?_
 refine Goes ?_;repeat' first|apply W2.m|refine W1.m fun h=>?_
 all_goals first
  | (exfalso; omega)
  | (refine FinOk.mk' [] rfl rfl rfl rfl rfl rfl rfl ⟨?_,?_,rfl⟩
     · rfl
     · rfl)
theorem implMine_range (b:BlkD) (t:Int) (n:Nat) (hf:FitsB b) (hb:isI64 b.bits) (h0:blkF b=0) (ht:¬ inR 1 200 t):Ret Tryz.prog 51 [blkV b,iv t] [] n true (Is (mineBad 3) [] n):=by
 unfold inR at ht
 refine Ret.fn ttOk Tryz.func51 rfl Tryz.call51 rfl rfl ?_
 refine Goes ?_;repeat' first|apply W2.m|refine W1.m fun h=>?_
 first | refine CallP.is (sealBlock_ret b _ hf hb h0) rfl ?_ | refine CallQ.is (sealBlock_ret b _ hf hb h0) rfl rfl ?_
 refine Goes ?_;repeat' first|apply W2.m|refine W1.m fun h=>?_
 all_goals first
  | (exfalso; omega)
  | (refine FinOk.mk' [] rfl rfl rfl rfl rfl rfl rfl ⟨?_,?_,rfl⟩
     · rfl
     · rfl)
set_option maxHeartbeats 2000000 in
theorem implMine_ret (b:BlkD) (t:Int) (n:Nat) (hf:FitsB b) (hb:isI64 b.bits) (h0:blkF b=0) (ht:inR 1 200 t):Ret Tryz.prog 51 [blkV b,iv t] [] n true (MineQ n b t):=by
 have hno:=(blkF_ok h0).1.2.2.2
 unfold inR at ht hno
 obtain ⟨q,rfl⟩:∃ q:Nat,t=(q:Int):=⟨t.toNat,by omega⟩
 refine Ret.fn ttOk Tryz.func51 rfl Tryz.call51 rfl rfl ?_
 refine Goes ?_;repeat' first|apply W2.m|refine W1.m fun h=>?_
 first | refine CallP.is (sealBlock_ret b _ hf hb h0) rfl ?_ | refine CallQ.is (sealBlock_ret b _ hf hb h0) rfl rfl ?_
 refine Goes ?_;repeat' first|apply W2.m|refine W1.m fun h=>?_
 all_goals try (exfalso; omega)
 refine LoopP.go (fun y:Nat × Int=>y.1≤q∧0≤y.2∧y.2 + y.1≤b.nonce + q∧mineN b q b.nonce=mineN b y.1 y.2) (fun y=>⟨[(1,iv y.1),(2,.pt 0 0 0),(4,.pt 1 0 0),(5,.pt 2 0 0)],[(0,.box (blkC b)),(1,.box [iv 0,iv 0,iv 0,iv 0,iv 0,nl]),(2,.box [iv b.prev,iv (rootB b),iv b.time,iv b.bits,iv y.2,txsV b.txs])],3⟩) (fun y=>y.1) (q,b.nonce) ⟨Nat.le_refl _,hno.1,Int.le_refl _,rfl⟩ (Weak.of rfl rfl ktA ktA) ?_
 rintro ⟨k,z⟩ ⟨h1,h2,h3,h4⟩
 dsimp only at h1 h2 h3 h4 ⊢
 have hfin:mineN b q b.nonce=none→MineQ n b (q:Int) (mineBad 8) [] n:=fun hn=>by
  unfold MineQ
  rw [Int.toNat_natCast,hn]
  exact ⟨rfl,rfl,rfl⟩
 cases k with
 | zero =>
   refine Goes ?_;repeat' first|apply W2.m|refine W1.m fun h=>?_
   exact FinOk.pure rfl rfl rfl (hfin h4)
 | succ k =>
   rw [mineN] at h4
   have hN:=fun n=>isNonce_ret z n
   by_cases hz:inR 0 65535 z
   · rw [if_pos hz] at h4
     rw [decide_eq_true hz] at hN
     have hP:=fun n=>isProven_ret (atN b z) n (blkF_at h0 hz)
     unfold inR at hz
     by_cases hp:hdrB (atN b z)≤tgtB b.bits
     · rw [if_pos hp] at h4
       rw [show decide (hdrB (atN b z)≤tgtB (atN b z).bits)=true from decide_eq_true hp] at hP
       refine Goes ?_;repeat' first|apply W2.m|refine W1.m fun h=>?_
       first | refine CallP.is (hN _) rfl ?_ | refine CallQ.is (hN _) rfl rfl ?_
       refine Goes ?_;repeat' first|apply W2.m|refine W1.m fun h=>?_
       first | refine CallP.is (hP _) rfl ?_ | refine CallQ.is (hP _) rfl rfl ?_
       refine Goes ?_;repeat' first|apply W2.m|refine W1.m fun h=>?_
       first | refine CallP.is (copyBlock_own b _ hf) rfl ?_ | refine CallQ.is (copyBlock_own b _ hf) rfl rfl ?_
       refine Goes ?_;repeat' first|apply W2.m|refine W1.m fun h=>?_
       refine FinOk.mk' [3] rfl rfl rfl rfl rfl rfl rfl ?_
       unfold MineQ
       rw [Int.toNat_natCast,h4]
       exact ⟨rfl,rfl,rfl⟩
     · rw [if_neg hp] at h4
       rw [show decide (hdrB (atN b z)≤tgtB (atN b z).bits)=false from decide_eq_false hp] at hP
       refine Goes ?_;repeat' first|apply W2.m|refine W1.m fun h=>?_
       first | refine CallP.is (hN _) rfl ?_ | refine CallQ.is (hN _) rfl rfl ?_
       refine Goes ?_;repeat' first|apply W2.m|refine W1.m fun h=>?_
       first | refine CallP.is (hP _) rfl ?_ | refine CallQ.is (hP _) rfl rfl ?_
       refine Goes ?_;repeat' first|apply W2.m|refine W1.m fun h=>?_
       exact ⟨(k,z + 1),⟨by omega,by omega,by omega,h4⟩,by show k < k + 1; omega,Weak.of rfl rfl ⟨⟨leafI (by rw [IntWalk.i64_in _ (by omega)]; omega),rfl⟩,⟨rfl,rfl⟩,⟨rfl,rfl⟩,⟨rfl,rfl⟩,trivial⟩ ⟨⟨rfl,rfl,rfl⟩,⟨rfl,rfl,rfl⟩,⟨by show some (AObj.box _)=some (AObj.box _); rw [IntWalk.i64_in _ (by omega)],rfl,rfl⟩,trivial⟩⟩
   · rw [if_neg hz] at h4
     rw [decide_eq_false hz] at hN
     refine Goes ?_;repeat' first|apply W2.m|refine W1.m fun h=>?_
     first | refine CallP.is (hN _) rfl ?_ | refine CallQ.is (hN _) rfl rfl ?_
     refine Goes ?_;repeat' first|apply W2.m|refine W1.m fun h=>?_
     exact FinOk.pure rfl rfl rfl (hfin h4)
end Go.Proofs.YtllhgcfacgiabaaGreat
