import Derived.Test.YtllhgcfacgiabaaGreatM9
import Derived.Test.YtllhgcfacgiabaaGreatP1
import Derived.Test.YtllhgcfacgiabaaGreatAmC
import Derived.Test.YtllhgcfacgiabaaGreatAmG
namespace Go.Proofs.YtllhgcfacgiabaaGreat
open Go Go.Am Go.RowKit
set_option linter.unusedVariables false
set_option linter.unusedSimpArgs false
theorem sumIR2_yes {a b:Int} (ha:isSumI a) (hb:isSumI b):sumIR [a,b]=[iv 0,iv (joinF a b)]:=by
 unfold sumIR
 rw [if_neg (by simp),if_pos ((allB_iff _ _ _).2 (by intro z hz; simp at hz; rcases hz with rfl | rfl <;> assumption))]
 rfl
theorem sumIR2_no {a b:Int} (h:¬ (isSumI a∧isSumI b)):sumIR [a,b]=[iv 3,iv 0]:=by
 unfold sumIR
 rw [if_neg (by simp),if_neg (fun e=>h ⟨(allB_iff _ _ _).1 e a (by simp),(allB_iff _ _ _).1 e b (by simp)⟩)]
theorem implJoinSums_ret (a b:Int) (n:Nat):Ret Tryz.prog 256 [iv a,iv b] [] n true (Is (.agg (sumIR [a,b])) [] n):=by
 refine Ret.fn ttOk Tryz.func256 rfl Tryz.call256 rfl rfl ?_
 refine Goes ?_
 have h:=implSumInts_ret [a,b] (0 + 1 + 1) (by simp)
 by_cases hs:isSumI a∧isSumI b
 · rw [sumIR2_yes hs.1 hs.2] at h ⊢
   refine CallP.convAIs (h) cvargsA rfl (by first | exact trivial | exact ⟨flat_ivs _,trivial⟩) ?_
   refine Goes ?_
   refine FinOk.pure rfl rfl rfl ⟨?_,rfl,rfl⟩
   rfl
 · rw [sumIR2_no hs] at h ⊢
   refine CallP.convAIs (h) cvargsA rfl (by first | exact trivial | exact ⟨flat_ivs _,trivial⟩) ?_
   refine Goes ?_
   refine FinOk.pure rfl rfl rfl ⟨?_,rfl,rfl⟩
   rfl
theorem l4Join_ret (a b:Int) (n:Nat):Ret Tryz.prog 192 [iv a,iv b] [] n true (Is (iv (joinF a b)) [] n):=by
 refine Ret.fn ttOk Tryz.func192 rfl Tryz.call192 rfl rfl ?_
 refine Goes ?_
 refine CallP.convAIs (l1SumInts_ret [a,b] _ (by simp)) cvargsA rfl (by first | exact trivial | exact ⟨flat_ivs _,trivial⟩) ?_
 refine Goes ?_
 refine FinOk.pure rfl rfl rfl ⟨?_,rfl,rfl⟩
 rfl
theorem l4Sum_ret (v:Int) (n:Nat):Ret Tryz.prog 112 [iv v] [] n true (Is (bv (decide (inR 0 2147483646 v))) [] n):=by
 refine Ret.fn ttOk Tryz.func112 rfl Tryz.call112 rfl rfl ?_
 refine Goes ?_
 first | refine CallP.is (l1In_ret _ _ _ _) rfl ?_ | refine CallQ.is (l1In_ret _ _ _ _) rfl rfl ?_
 refine Goes ?_
 refine FinOk.pure rfl rfl rfl ⟨?_,rfl,rfl⟩
 rfl
theorem l4Mate_ret (l:List Int) (k n:Nat) (hk:k < l.length) (hl:l.length≤1048576):Ret Tryz.prog 193 [il l,iv k] [] n true (Is (iv (mateI l k)) [] n):=by
 have hL:(ivs l).length=l.length:=by simp
 have e1:IntKind.i64.wrap ((k:Int) + 1)=(k:Int) + 1:=IntWalk.i64_in _ (by omega)
 have e2:IntKind.i64.wrap ((k:Int) - 1)=(k:Int) - 1:=IntWalk.i64_in _ (by omega)
 have e3:(k:Int).tmod 2=(k:Int) % 2:=IntWalk.rem_in _ _ (by omega)
 have fin:∀ j:Nat,parN k l.length=j→(hj:j < l.length)→mateI l k=l[j]:=by
  intro j h hj; unfold mateI; rw [h]; simp [List.getD_eq_getElem?_getD,hj]
 refine Ret.fn ttOk Tryz.func193 rfl Tryz.call193 rfl rfl ?_
 refine Goes ?_;repeat' first|apply W2.m|refine W1.m fun h=>?_
 · have e4:IntKind.i64.wrap ((k:Int) - 1)=((k - 1:Nat):Int):=by rw [e2]; omega
   rw [e4]
   rw [rowK iv1 l (k - 1) (by omega)]
   refine ⟨by (first | exact ⟨by omega,by omega,rfl⟩ | (simp only [List.length_map]; exact ⟨by omega,by omega,rfl⟩)),?_⟩
   refine Goes ?_
   refine FinOk.pure rfl rfl rfl ⟨?_,rfl,rfl⟩
   rw [fin (k - 1) (by unfold parN; rw [if_pos (by omega)]) (by omega)]
 · rw [rowK iv1 l k (by omega)]
   refine ⟨by (first | exact ⟨by omega,by omega,rfl⟩ | (simp only [List.length_map]; exact ⟨by omega,by omega,rfl⟩)),?_⟩
   refine Goes ?_
   refine FinOk.pure rfl rfl rfl ⟨?_,rfl,rfl⟩
   rw [fin k (by unfold parN; rw [if_neg (by omega),if_neg (by omega)]) (by omega)]
 · have e4:IntKind.i64.wrap ((k:Int) + 1)=((k + 1:Nat):Int):=by rw [e1]; omega
   rw [e4]
   rw [rowK iv1 l (k + 1) (by omega)]
   refine ⟨by (first | exact ⟨by omega,by omega,rfl⟩ | (simp only [List.length_map]; exact ⟨by omega,by omega,rfl⟩)),?_⟩
   refine Goes ?_
   refine FinOk.pure rfl rfl rfl ⟨?_,rfl,rfl⟩
   rw [fin (k + 1) (by unfold parN; rw [if_neg (by omega),if_pos (by omega)]) (by omega)]
theorem l4Above_ret (l:List Int) (n:Nat) (hl:l.length≤1000):Ret Tryz.prog 158 [il l] [] n true (Is (.own n (aboveF l).length) [(n,.list 2 1 (ivs (aboveF l)))] (n + 1)):=by
 have hL:(ivs l).length=l.length:=by simp
 refine Ret.fn ttOk Tryz.func158 rfl Tryz.call158 rfl rfl ?_
 refine Goes ?_
 refine LoopP.go (fun k:Nat=>k≤(l.length + 1) / 2) (fun k=>⟨[(0,il l),(3,.own 0 k),(4,iv ((2 * k:Nat):Int))],[(0,.list 2 1 (ivs (abP l k)))],1⟩) (fun k=>l.length - k) 0 (by omega) (Weak.of rfl rfl ktA ktA) ?_
 intro k hk
 have hlk:=abP_len l k
 refine Goes ?_;repeat' first|apply W2.m|refine W1.m fun h=>?_
 · have hlt:2 * k < l.length:=by omega
   have e4:IntKind.i64.wrap (((2 * k:Nat):Int) + 2)=((2 * (k + 1):Nat):Int):=by rw [IntWalk.i64_in _ (by omega)]; omega
   rw [rowK iv1 l (2 * k) (by omega)]
   refine ⟨by (first | exact ⟨by omega,by omega,rfl⟩ | (simp only [List.length_map]; exact ⟨by omega,by omega,rfl⟩)),?_⟩
   refine Goes ?_
   first | refine CallQ.is (l4Mate_ret l (2 * k) _ hlt (by omega)) rfl rfl ?_ | refine CallP.is (l4Mate_ret l (2 * k) _ hlt (by omega)) rfl ?_
   refine Goes ?_
   first | refine CallQ.is (l4Join_ret _ _ _) rfl rfl ?_ | refine CallP.is (l4Join_ret _ _ _) rfl ?_
   refine Goes ?_
   refine ⟨⟨lenA,lenA,lenA,lenA,rwsA⟩,?_⟩
   refine Goes ?_
   refine ⟨k + 1,by omega,by omega,Weak.of rfl rfl ⟨⟨rfl,rfl⟩,⟨leafW lenA,rfl⟩,⟨leafI e4,rfl⟩,trivial⟩ ⟨⟨leafO ?_,rfl,rfl⟩,trivial⟩⟩
   rw [takeM _ hlk,abP_snoc]
   unfold pairF
   simp [List.getD_eq_getElem?_getD,hlt]
 · obtain rfl:k=(l.length + 1) / 2:=by omega
   refine FinOk.mk' [0] rfl rfl rfl rfl rfl rfl rfl ⟨?_,?_,rfl⟩
   · exact ownI (aboveF_len l).symm
   · rfl
theorem l4Above_fr (l:List Int) (n:Nat) (hl:l.length≤1000):Ret Tryz.prog 158 [il l] [] n true (Is (il (aboveF l)) [] n):=Ret.frList (by simp) (l4Above_ret l n hl)
theorem get0 {l:List Int} (h:1≤l.length):(ivs l).getD (Int.toNat 0) []=[iv (l.getD 0 0)]:=by
 cases l with
 | nil=>simp at h
 | cons=>rfl
theorem l4Root_ret (l:List Int) (n:Nat) (hl:1≤l.length) (hm:l.length≤1000):Ret Tryz.prog 150 [il l] [] n true (Is (iv (topW l)) [] n):=by
 have hL:(ivs l).length=l.length:=by simp
 refine Ret.fn ttOk Tryz.func150 rfl Tryz.call150 rfl rfl ?_
 refine Goes ?_
 refine LoopP.go (fun x:List Int=>1≤x.length∧x.length≤1000∧topW x=topW l) (fun x=>⟨[(3,il x)],[],0⟩) (fun x=>x.length) l ⟨hl,hm,rfl⟩ (Weak.of rfl rfl ktA trivial) ?_
 rintro x ⟨h1,h2,h3⟩
 have hX:(ivs x).length=x.length:=by simp
 refine Goes ?_;repeat' first|apply W2.m|refine W1.m fun h=>?_
 · first | refine CallP.is (l4Above_fr x _ h2) rfl ?_ | refine CallQ.is (l4Above_fr x _ h2) rfl rfl ?_
   refine Goes ?_
   exact ⟨aboveF x,⟨by rw [aboveF_len]; omega,by rw [aboveF_len]; omega,by rw [← h3,topW_next (l:=x) (by omega)]⟩,by rw [aboveF_len]; omega,(Weak.of rfl rfl ktA trivial)⟩
 · rw [get0 h1]
   refine ⟨⟨by omega,by omega,rfl⟩,?_⟩
   refine Goes ?_
   refine FinOk.pure rfl rfl rfl ⟨?_,rfl,rfl⟩
   rw [← h3,topW_end (by omega)]
def rootR (l:List Int):List AV:=if askC l=0 then [iv 0,iv (topW l)] else [iv (askC l),iv 0]
theorem twinB_false {l:List Int} (h:∀ i,i < l.length / 2→l.getD (2 * i) 0≠l.getD (2 * i + 1) 0):twinB l=false:=by
 unfold twinB
 rw [List.any_eq_false]
 intro i hi
 have:=h i (by simpa using hi)
 simpa using this
theorem twinB_true {l:List Int} {i:Nat} (hi:i < l.length / 2) (h:l.getD (2 * i) 0=l.getD (2 * i + 1) 0):twinB l=true:=by
 unfold twinB
 rw [List.any_eq_true]
 exact ⟨i,by simpa using hi,by simpa using h⟩
theorem getDat (l:List Int) {k:Nat} (h:k < l.length):l.getD k 0=l[k]:=by simp [List.getD_eq_getElem?_getD,h]
theorem l4Twin_ret (l:List Int) (n:Nat) (hm:l.length≤1000):Ret Tryz.prog 115 [il l] [] n true (Is (bv ((rowsW l).any twinB)) [] n):=by
 have hL:(ivs l).length=l.length:=by simp
 refine Ret.fn ttOk Tryz.func115 rfl Tryz.call115 rfl rfl ?_
 refine Goes ?_
 refine LoopP.go (fun x:List Int=>x.length≤1000∧(rowsW x).any twinB=(rowsW l).any twinB) (fun x=>⟨[(3,il x)],[],0⟩) (fun x=>x.length) l ⟨hm,rfl⟩ (Weak.of rfl rfl ktA trivial) ?_
 rintro x ⟨h2,h3⟩
 have hX:(ivs x).length=x.length:=by simp
 refine Goes ?_;repeat' first|apply W2.m|refine W1.m fun h=>?_
 · refine LoopP.go (fun i:Nat=>i≤x.length / 2∧∀ j,j < i→x.getD (2 * j) 0≠x.getD (2 * j + 1) 0) (fun i=>⟨[(3,il x),(4,iv ((2 * i:Nat):Int))],[],0⟩) (fun i=>x.length - i) 0 ⟨by omega,by omega⟩ (Weak.of rfl rfl ktA trivial) ?_
   rintro i ⟨hi,hp⟩
   have e4:IntKind.i64.wrap (((2 * i:Nat):Int) + 1)=((2 * i + 1:Nat):Int):=by rw [IntWalk.i64_in _ (by omega)]; omega
   have e5:IntKind.i64.wrap (((2 * i:Nat):Int) + 2)=((2 * (i + 1):Nat):Int):=by rw [IntWalk.i64_in _ (by omega)]; omega
   refine Goes ?_;repeat' first|apply W2.m|refine W1.m fun h=>?_
   · rw [e4] at h
     rw [rowK iv1 x (2 * i) (by omega)]
     refine ⟨by (first | exact ⟨by omega,by omega,rfl⟩ | (simp only [List.length_map]; exact ⟨by omega,by omega,rfl⟩)),?_⟩
     refine Goes ?_
     rw [e4]
     rw [rowK iv1 x (2 * i + 1) (by omega)]
     refine ⟨by (first | exact ⟨by omega,by omega,rfl⟩ | (simp only [List.length_map]; exact ⟨by omega,by omega,rfl⟩)),?_⟩
     refine Goes ?_;repeat' first|apply W2.m|refine W1.m fun h=>?_
     · have:twinB x=true:=twinB_true (i:=i) (by omega) (by rw [getDat x (by omega),getDat x (by omega)]; exact h)
       refine FinOk.pure rfl rfl rfl ⟨?_,rfl,rfl⟩
       rw [← h3,rowsW_next (by omega),List.any_cons,this,Bool.true_or]
     · refine ⟨i + 1,⟨by omega,fun j hj=>?_⟩,by omega,(Weak.of rfl rfl ktA trivial)⟩
       by_cases hji:j < i
       · exact hp j hji
       · obtain rfl:j=i:=by omega
         rw [getDat x (by omega),getDat x (by omega)]; exact h
   · first | refine CallP.is (l4Above_fr x _ h2) rfl ?_ | refine CallQ.is (l4Above_fr x _ h2) rfl rfl ?_
     refine Goes ?_
     have:twinB x=false:=twinB_false fun j hj=>hp j (by rw [e4] at h; omega)
     exact ⟨aboveF x,⟨by rw [aboveF_len]; omega,by rw [← h3,rowsW_next (l:=x) (by omega),List.any_cons,this,Bool.false_or]⟩,by rw [aboveF_len]; omega,(Weak.of rfl rfl ktA trivial)⟩
 · refine FinOk.pure rfl rfl rfl ⟨?_,rfl,rfl⟩
   rw [← h3,rowsW_end (by omega)]
   rfl
def twinR (l:List Int):Bool:=decide (askC l=0)&&(rowsW l).any twinB
end Go.Proofs.YtllhgcfacgiabaaGreat
namespace Go.Proofs.YtllhgcfacgiabaaGreat
open Go Go.Am Go.RowKit
set_option linter.unusedVariables false
set_option linter.unusedSimpArgs false
theorem sumsFault_ret (l:List Int) (a b:Int) (n:Nat) (hl:l.length≤1048576):Ret Tryz.prog 229 [il l,iv a,iv b] [] n true (Is (iv (if (l.length:Int) < a∨b < l.length then 2 else if allB 0 2147483646 l then 0 else 3)) [] n):=by
 have hL:(ivs l).length=l.length:=by simp
 refine Ret.fn ttOk Tryz.func229 rfl Tryz.call229 rfl rfl ?_
 refine Goes ?_;repeat' first|apply W2.m|refine W1.m fun h=>?_
 · rw [if_pos (by omega)]
   refine FinOk.pure rfl rfl rfl ⟨?_,rfl,rfl⟩
   rfl
 · rw [if_pos (by omega)]
   refine FinOk.pure rfl rfl rfl ⟨?_,rfl,rfl⟩
   rfl
 · rw [if_neg (by omega)]
   refine LoopP.go (fun k:Nat=>k≤l.length∧allB 0 2147483646 (l.take k)=true) (fun k=>⟨[(19,il l),(20,iv l.length),(21,iv k)],[],0⟩) (fun k=>l.length - k) 0 ⟨Nat.zero_le _,rfl⟩ (Weak.of rfl rfl ⟨⟨rfl,rfl⟩,⟨leafI (by omega),rfl⟩,⟨rfl,rfl⟩,trivial⟩ trivial) ?_
   rintro k ⟨hk,hp⟩
   refine Goes ?_;repeat' first|apply W2.m|refine W1.m fun h=>?_
   · have hlt:k < l.length:=by omega
     rw [rowK iv1 l k (by omega)]
     refine ⟨by (first | exact ⟨by omega,by omega,rfl⟩ | (simp only [List.length_map]; exact ⟨by omega,by omega,rfl⟩)),?_⟩
     refine Goes ?_
     first | refine CallP.is (isSum_ret _ _) rfl ?_ | refine CallQ.is (isSum_ret _ _) rfl rfl ?_
     refine Goes ?_;repeat' first|apply W2.m|refine W1.m fun h=>?_
     · refine FinOk.pure rfl rfl rfl ⟨?_,rfl,rfl⟩
       rw [allB_no hlt (by simpa [inR] using h)]; rfl
     · exact ⟨k + 1,⟨by omega,by rw [allB_take hlt,hp]; simpa [inR] using h⟩,by omega,(Weak.of rfl rfl ktA trivial)⟩
   · refine FinOk.pure rfl rfl rfl ⟨?_,rfl,rfl⟩
     rw [List.take_of_length_le (by omega)] at hp; rw [hp]; rfl
theorem leavesFault_ret (l:List Int) (n:Nat) (hl:l.length≤1048576):Ret Tryz.prog 185 [il l] [] n true (Is (iv (askC l)) [] n):=by
 refine Ret.fn ttOk Tryz.func185 rfl Tryz.call185 rfl rfl ?_
 refine Goes ?_
 first | refine CallP.is (sumsFault_ret l 1 8 _ hl) rfl ?_ | refine CallQ.is (sumsFault_ret l 1 8 _ hl) rfl rfl ?_
 refine Goes ?_
 refine FinOk.pure rfl rfl rfl ⟨?_,rfl,rfl⟩
 unfold askC
 by_cases h:l.length < 1∨8 < l.length
 · rw [if_pos h,if_pos (by omega)]
 · rw [if_neg h,if_neg (by omega)]
end Go.Proofs.YtllhgcfacgiabaaGreat
