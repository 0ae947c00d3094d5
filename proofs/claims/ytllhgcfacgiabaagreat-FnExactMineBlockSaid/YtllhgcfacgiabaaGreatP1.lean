import Derived.Test.YtllhgcfacgiabaaGreatAmT
import Derived.Test.YtllhgcfacgiabaaGreatM1
namespace Go.Proofs.YtllhgcfacgiabaaGreat
open Go Go.Am Go.RowKit
set_option linter.unusedVariables false
set_option linter.unusedSimpArgs false
theorem l1In_ret (v lo hi:Int) (n:Nat):Ret Tryz.prog 97 [iv v,iv lo,iv hi] [] n true (Is (bv (decide (inR lo hi v))) [] n):=by
 refine Ret.fn ttOk Tryz.func97 rfl Tryz.call97 rfl rfl ?_
 refine Goes ?_;repeat' first|apply W2.m|refine W1.m fun h=>?_
 all_goals (refine FinOk.pure rfl rfl rfl ⟨bvI ?_,rfl,rfl⟩; simp [inR, *])
theorem isSum_ret (v:Int) (n:Nat):Ret Tryz.prog 182 [iv v] [] n true (Is (bv (decide (inR 0 2147483646 v))) [] n):=by
 refine Ret.fn ttOk Tryz.func182 rfl Tryz.call182 rfl rfl ?_
 refine Goes ?_;repeat' first|apply W2.m|refine W1.m fun h=>?_
 all_goals (refine FinOk.pure rfl rfl rfl ⟨bvI ?_,rfl,rfl⟩; simp [inR, *])
theorem l1Four_ret (z:Int) (n:Nat):Ret Tryz.prog 181 [iv z] [] n true (Is (.own n 4) [(n,.list 5 1 (uvs (four z)))] (n + 1)):=by
 refine Ret.fn ttOk Tryz.func181 rfl Tryz.call181 rfl rfl ?_
 refine Goes ?_
 refine FinOk.mk' [0] rfl rfl rfl rfl rfl rfl rfl ⟨rfl,?_,rfl⟩
 simp only [IntKind.wrap_u8]
 rfl
theorem eqInt64S_ret (a b:List Int) (n:Nat) (hl:a.length≤1048576):Ret Tryz.prog 82 [il a,il b] [] n true (Is (bv (decide (a=b))) [] n):=by
 refine Ret.fn ttOk Tryz.func82 rfl Tryz.call82 rfl rfl ?_
 refine Goes ?_;repeat' first|apply W2.m|refine W1.m fun h=>?_
 · refine FinOk.pure rfl rfl rfl ⟨?_,rfl,rfl⟩
   refine bvI ?_
   have:a≠b:=fun e=>h (by rw [e])
   simp [this]
 · simp only [List.length_map] at h
   have hab:a.length=b.length:=by omega
   refine LoopP.go (fun k:Nat=>k≤a.length∧a.take k=b.take k) (fun k=>⟨[(0,il a),(1,il b),(5,iv k)],[],0⟩) (fun k=>a.length - k) 0 ⟨Nat.zero_le _,rfl⟩ (Weak.of rfl rfl ktA trivial) ?_
   intro k ⟨hk,hp⟩
   refine Goes ?_;repeat' first|apply W2.m|refine W1.m fun h=>?_
   · simp only [List.length_map] at h
     have hka:k < a.length:=by omega
     have hkb:k < b.length:=by omega
     rw [rowK iv1 a k (by omega)]
     refine ⟨by (first | exact ⟨by omega,by omega,rfl⟩ | (simp only [List.length_map]; exact ⟨by omega,by omega,rfl⟩)),?_⟩
     refine Goes ?_
     rw [rowK iv1 b k (by omega)]
     refine ⟨by (first | exact ⟨by omega,by omega,rfl⟩ | (simp only [List.length_map]; exact ⟨by omega,by omega,rfl⟩)),?_⟩
     refine Goes ?_;repeat' first|apply W2.m|refine W1.m fun h=>?_
     · refine FinOk.pure rfl rfl rfl ⟨?_,rfl,rfl⟩
       refine bvI ?_
       have:a≠b:=fun e=>h (by subst e; rfl)
       simp [this]
     · have he:a[k]=b[k]:=by omega
       exact ⟨k + 1,⟨by omega,by rw [takeS a k hka,takeS b k hkb,hp,he]⟩,by omega,(Weak.of rfl rfl ktA trivial)⟩
   · simp only [List.length_map] at h
     refine FinOk.pure rfl rfl rfl ⟨?_,rfl,rfl⟩
     refine bvI ?_
     rw [List.take_of_length_le (by omega),List.take_of_length_le (by omega)] at hp
     simp [hp]
theorem l1Sum_ret (zs:List Int) (n:Nat) (hz:∀ z∈zs,isU8 z) (hl:zs.length≤1048576):Ret Tryz.prog 169 [ul zs] [] n true (Is (iv (sumF zs)) [] n):=by
 refine Ret.fn ttOk Tryz.func169 rfl Tryz.call169 rfl rfl ?_
 refine Goes ?_
 refine LoopP.go (fun k:Nat=>k≤zs.length) (fun k=>⟨[(0,ul zs),(3,iv (sumF (zs.take k))),(4,iv k)],[],0⟩) (fun k=>zs.length - k) 0 (Nat.zero_le _) (Weak.of rfl rfl ktA trivial) ?_
 intro k hk
 have hb:=sumF_bd (zs.take k)
 refine Goes ?_;repeat' first|apply W2.m|refine W1.m fun h=>?_
 · simp only [List.length_map] at h
   have hlt:k < zs.length:=by omega
   have hu:=hz zs[k] (List.getElem_mem hlt)
   unfold isU8 at hu
   rw [rowK uv1 zs k (by omega)]
   refine ⟨by (first | exact ⟨by omega,by omega,rfl⟩ | (simp only [List.length_map]; exact ⟨by omega,by omega,rfl⟩)),?_⟩
   refine Goes ?_
   exact ⟨k + 1,by omega,by omega,Weak.of rfl rfl ⟨⟨rfl,rfl⟩,⟨leafI (by rw [sumF_take zs k hlt]; exact numA),rfl⟩,⟨leafI numA,rfl⟩,trivial⟩ trivial⟩
 · simp only [List.length_map] at h
   refine FinOk.pure rfl rfl rfl ⟨?_,rfl,rfl⟩
   rw [List.take_of_length_le (by omega)]
theorem implSumOf_ret (zs:List Int) (n:Nat) (hz:∀ z∈zs,isU8 z) (hl:zs.length≤4000):Ret Tryz.prog 176 [ul zs] [] n true (Is (.agg [iv 0,iv (sumF zs)]) [] n):=by
 refine Ret.fn ttOk Tryz.func176 rfl Tryz.call176 rfl rfl ?_
 refine Goes ?_;repeat' first|apply W2.m|refine W1.m fun h=>?_
 · simp only [List.length_map] at h; omega
 rw [List.length_map]
 refine LoopP.go (fun k:Nat=>k≤zs.length) (fun k=>⟨[(0,ul zs),(3,.val (.int .u64 (sumF (zs.take k)))),(12,iv k),(10,ul zs),(11,iv zs.length),(2,.pt 0 0 0)],[(0,.box [iv 0,iv 0])],1⟩) (fun k=>zs.length - k) 0 (Nat.zero_le _) (Weak.of rfl rfl ktA ktA) ?_
 intro k hk
 have hb:=sumF_bd (zs.take k)
 refine Goes ?_;repeat' first|apply W2.m|refine W1.m fun h=>?_
 · have hlt:k < zs.length:=by omega
   have hu:=hz zs[k] (List.getElem_mem hlt)
   unfold isU8 at hu
   rw [rowK uv1 zs k (by omega)]
   refine ⟨by (first | exact ⟨by omega,by omega,rfl⟩ | (simp only [List.length_map]; exact ⟨by omega,by omega,rfl⟩)),?_⟩
   refine Goes ?_
   exact ⟨k + 1,by omega,by omega,Weak.of rfl rfl ⟨⟨rfl,rfl⟩,⟨leafI (by rw [sumF_take zs k hlt]; exact numA),rfl⟩,⟨leafI numA,rfl⟩,⟨rfl,rfl⟩,⟨rfl,rfl⟩,⟨rfl,rfl⟩,trivial⟩ ktA⟩
 · refine FinOk.pure rfl rfl rfl ⟨?_,rfl,rfl⟩
   rw [List.take_of_length_le (by omega),IntWalk.i64_in _ (by have:=sumF_bd zs; omega)]
theorem l1SumInts_ret (zs:List Int) (n:Nat) (hl:zs.length≤200):Ret Tryz.prog 149 [il zs] [] n true (Is (iv (sumI zs)) [] n):=by
 refine Ret.fn ttOk Tryz.func149 rfl Tryz.call149 rfl rfl ?_
 refine Goes ?_
 refine LoopP.go (fun k:Nat=>k≤zs.length) (fun k=>⟨[(0,il zs),(3,.own 0 (4 * k)),(4,iv k)],[(0,.list 5 1 (uvs (fours (zs.take k))))],1⟩) (fun k=>zs.length - k) 0 (Nat.zero_le _) (Weak.of rfl rfl ktA ktA) ?_
 intro k hk
 have hlt4:(fours (zs.take k)).length=4 * k:=by rw [fours_len,List.length_take]; omega
 refine Goes ?_;repeat' first|apply W2.m|refine W1.m fun h=>?_
 · simp only [List.length_map] at h
   have hlt:k < zs.length:=by omega
   rw [rowK iv1 zs k (by omega)]
   refine ⟨by (first | exact ⟨by omega,by omega,rfl⟩ | (simp only [List.length_map]; exact ⟨by omega,by omega,rfl⟩)),?_⟩
   refine Goes ?_
   first | refine CallP.is (l1Four_ret _ _) rfl ?_ | refine CallQ.is (l1Four_ret _ _) rfl rfl ?_
   refine Goes ?_
   refine ⟨⟨lenA,lenA,lenA,lenA,rwsA⟩,?_⟩
   refine Goes ?_
   refine ⟨k + 1,by omega,by omega,Weak.of rfl rfl ⟨⟨rfl,rfl⟩,⟨leafW lenA,rfl⟩,⟨leafI numA,rfl⟩,trivial⟩ ⟨⟨leafO ?_,rfl,rfl⟩,trivial⟩⟩
   rw [takeM _ hlt4,takeM _ (four_len _),← List.map_append,takeS zs k hlt,fours_snoc]
 · simp only [List.length_map] at h
   obtain rfl:k=zs.length:=by omega
   rw [List.take_length] at hlt4 ⊢
   refine CallP.convIs (l1Sum_ret (fours zs) _ (fours_u8 _) (by omega)) (by show [AV.lst (List.take _ (uvs (fours zs)))]=_; rw [takeM _ hlt4]) ⟨by show _≤(uvs (fours zs)).length; exact lenA,trivial⟩ rfl trivial ?_
   refine Goes ?_
   refine FinOk.pure rfl rfl rfl ⟨?_,rfl,rfl⟩
   rfl
def sumIR (zs:List Int):List AV:=if 200 < zs.length then [iv 2,iv 0] else if allB 0 2147483646 zs then [iv 0,iv (sumI zs)] else [iv 3,iv 0]
theorem l1All_ret (zs:List Int) (lo hi:Int) (n:Nat) (hl:zs.length≤1048576):Ret Tryz.prog 189 [il zs,iv lo,iv hi] [] n true (Is (bv (allB lo hi zs)) [] n):=by
 refine Ret.fn ttOk Tryz.func189 rfl Tryz.call189 rfl rfl ?_
 refine Goes ?_
 refine LoopP.go (fun k:Nat=>k≤zs.length∧allB lo hi (zs.take k)=true) (fun k=>⟨[(0,il zs),(1,iv lo),(2,iv hi),(7,iv k)],[],0⟩) (fun k=>zs.length - k) 0 ⟨Nat.zero_le _,rfl⟩ (Weak.of rfl rfl ktA trivial) ?_
 intro k ⟨hk,hp⟩
 refine Goes ?_;repeat' first|apply W2.m|refine W1.m fun h=>?_
 · simp only [List.length_map] at h
   have hlt:k < zs.length:=by omega
   rw [rowK iv1 zs k (by omega)]
   refine ⟨by (first | exact ⟨by omega,by omega,rfl⟩ | (simp only [List.length_map]; exact ⟨by omega,by omega,rfl⟩)),?_⟩
   refine Goes ?_
   first | refine CallP.is (l1In_ret _ _ _ _) rfl ?_ | refine CallQ.is (l1In_ret _ _ _ _) rfl rfl ?_
   refine Goes ?_;repeat' first|apply W2.m|refine W1.m fun h=>?_
   · refine FinOk.pure rfl rfl rfl ⟨?_,rfl,rfl⟩
     rw [allB_no hlt (by simpa [inR] using h)]
   · exact ⟨k + 1,⟨by omega,by rw [allB_take hlt,hp]; simpa [inR] using h⟩,by omega,(Weak.of rfl rfl ktA trivial)⟩
 · simp only [List.length_map] at h
   refine FinOk.pure rfl rfl rfl ⟨?_,rfl,rfl⟩
   rw [List.take_of_length_le (by omega)] at hp; rw [hp]
theorem l1Ints_ret (zs:List Int) (n:Nat) (hl:zs.length≤1048576):Ret Tryz.prog 205 [il zs] [] n true (Is (.own n zs.length) [(n,.list 2 1 (ivs zs))] (n + 1)):=by
 refine Ret.fn ttOk Tryz.func205 rfl Tryz.call205 rfl rfl ?_
 refine Goes ?_
 refine ⟨⟨lenA,lenA,lenA,lenA,rwsA⟩,?_⟩
 refine Goes ?_
 refine FinOk.mk' [0] rfl rfl rfl rfl rfl rfl rfl ⟨?_,?_,rfl⟩
 · exact ownI lenA
 · exact objI rfl
theorem implSumInts_ret (zs:List Int) (n:Nat) (hl:zs.length≤1048576):Ret Tryz.prog 187 [il zs] [] n true (Is (.agg (sumIR zs)) [] n):=by
 refine Ret.fn ttOk Tryz.func187 rfl Tryz.call187 rfl rfl ?_
 refine Goes ?_;repeat' first|apply W2.m|refine W1.m fun h=>?_
 · simp only [List.length_map] at h
   refine FinOk.pure rfl rfl rfl ⟨?_,rfl,rfl⟩
   unfold sumIR; rw [if_pos (by omega)]
 simp only [List.length_map] at h ⊢
 refine ⟨by rw [IntWalk.i64_in _ (by omega)]; refine ⟨by omega,by omega,by omega,?_⟩; show _ * 1≤_; omega,?_⟩
 refine Goes ?_
 refine LoopP.go (fun k:Nat=>k≤zs.length∧allB 0 2147483646 (zs.take k)=true) (fun k=>⟨[(3,.own 1 (4 * k)),(15,il zs),(16,iv zs.length),(17,iv k),(2,.pt 0 0 0)],[(1,.list 5 1 (uvs (fours (zs.take k)))),(0,.box [iv 0,iv 0])],2⟩) (fun k=>zs.length - k) 0 ⟨Nat.zero_le _,rfl⟩ ?_ ?_
 · rw [List.length_map]; exact (Weak.of rfl rfl ktA ktA)
 intro k ⟨hk,hp⟩
 have hlt4:(fours (zs.take k)).length=4 * k:=by rw [fours_len,List.length_take]; omega
 refine Goes ?_;repeat' first|apply W2.m|refine W1.m fun h=>?_
 · have hlt:k < zs.length:=by omega
   rw [rowK iv1 zs k (by omega)]
   refine ⟨by (first | exact ⟨by omega,by omega,rfl⟩ | (simp only [List.length_map]; exact ⟨by omega,by omega,rfl⟩)),?_⟩
   refine Goes ?_
   first | refine CallP.is (isSum_ret _ _) rfl ?_ | refine CallQ.is (isSum_ret _ _) rfl rfl ?_
   refine Goes ?_;repeat' first|apply W2.m|refine W1.m fun h=>?_
   · refine FinOk.pure rfl rfl rfl ⟨?_,rfl,rfl⟩
     unfold sumIR
     rw [if_neg (by omega),allB_no hlt (by simpa [inR] using h)]; rfl
   · have hr:inR 0 2147483646 zs[k]:=by simpa using h
     unfold inR at hr
     refine ⟨⟨lenA,lenA,lenA,lenA,rwsA⟩,?_⟩
     refine Goes ?_
     refine ⟨k + 1,⟨by omega,by rw [allB_take hlt,hp]; simpa [inR] using h⟩,by omega,Weak.of rfl rfl ⟨⟨leafW lenA,rfl⟩,⟨rfl,rfl⟩,⟨rfl,rfl⟩,⟨leafI numA,rfl⟩,⟨rfl,rfl⟩,trivial⟩ ⟨⟨leafO ?_,rfl,rfl⟩,⟨rfl,rfl,rfl⟩,trivial⟩⟩
     rw [takeM _ hlt4,takeS zs k hlt,fours_snoc]
     show _=uvs _
     rw [show uvs (fours (zs.take k)++four zs[k])=uvs (fours (zs.take k))++uvs (four zs[k]) from List.map_append ..]
     congr 1
     rw [IntWalk.u32_in _ (by omega)]
     simp only [IntKind.wrap_u8]
     rfl
 · obtain rfl:k=zs.length:=by omega
   rw [List.take_length] at hlt4 hp ⊢
   refine CallP.convIs (implSumOf_ret (fours zs) _ (fours_u8 _) (by omega)) ?_ ?_ rfl trivial ?_
   · show [AV.lst (List.take _ (uvs (fours zs)))]=_; rw [takeM _ hlt4]
   · exact ⟨by show _≤(uvs (fours zs)).length; exact lenA,trivial⟩
   refine Goes ?_
   refine FinOk.pure rfl rfl rfl ⟨?_,rfl,rfl⟩
   unfold sumIR
   rw [if_neg (by omega),if_pos hp]; rfl
theorem toInt64S_ret (zs:List Int) (n:Nat) (hl:zs.length≤1048576):Ret Tryz.prog 213 [il zs] [] n true (Is (.own n zs.length) [(n,.list 2 1 (ivs zs))] (n + 1)):=by
 refine Ret.fn ttOk Tryz.func213 rfl Tryz.call213 rfl rfl ?_
 refine Goes ?_
 rw [List.length_map]
 refine ⟨⟨by omega,by omega,by omega,by show _ * 8≤_; omega⟩,?_⟩
 refine Goes ?_
 refine LoopP.go (fun k:Nat=>k≤zs.length) (fun k=>⟨[(0,il zs),(3,.own 0 zs.length),(4,iv k)],[(0,.list 2 1 (ivs (fillZ zs k)))],1⟩) (fun k=>zs.length - k) 0 (Nat.zero_le _) ?_ ?_
 · refine Weak.of rfl rfl ktA ⟨⟨leafO ?_,rfl,rfl⟩,trivial⟩
   rw [fillZ_zero]; exact replM iv1 _ _
 intro k hk
 have hfl:=fillZ_len zs k hk
 refine Goes ?_;repeat' first|apply W2.m|refine W1.m fun h=>?_
 · simp only [List.length_map] at h
   have hlt:k < zs.length:=by omega
   rw [rowK iv1 zs k (by omega)]
   refine ⟨by (first | exact ⟨by omega,by omega,rfl⟩ | (simp only [List.length_map]; exact ⟨by omega,by omega,rfl⟩)),?_⟩
   refine Goes ?_
   refine ⟨by simp only [List.length_map]; omega,?_⟩
   refine Goes ?_
   refine ⟨k + 1,by omega,by omega,Weak.of rfl rfl ktA ⟨⟨leafO ?_,rfl,rfl⟩,trivial⟩⟩
   rw [setRow _ _ _ (by omega) _ rfl,fillZ_set zs k hlt]
 · simp only [List.length_map] at h
   obtain rfl:k=zs.length:=by omega
   rw [fillZ_all]
   refine FinOk.mk' [0] rfl rfl rfl rfl rfl rfl rfl ⟨?_,?_,rfl⟩
   · rfl
   · rfl
theorem markInt64S_ret (zs:List Int) (i k0 n:Nat) (hl:zs.length≤1048576) (hk:k0≤1099511627776):Ret Tryz.prog 83 [.own i zs.length,iv k0] [(i,.list 2 1 (ivs zs))] n true (Is (iv ((k0 + zs.length:Nat):Int)) [(i,.list 2 1 (ivs (marks k0 zs.length)))] n):=by
 refine Ret.of_run (tt:=tt) ttOk Tryz.func83 rfl Tryz.call83 [i] [.list 2 1 (ivs zs)] [.own 0 zs.length,iv k0] true n _ rfl (nodup1 i) (by exact Nat.le_of_ble_eq_true rfl) rfl rfl ?_
 refine Goes ?_;repeat' first|apply W2.m|refine W1.m fun h=>?_
 refine LoopP.go (fun k:Nat=>k≤zs.length) (fun k=>⟨[(0,.own 0 zs.length),(1,iv ((k0 + k:Nat):Int)),(5,iv k)],[(0,.list 2 1 (ivs (markP k0 zs k)))],1⟩) (fun k=>zs.length - k) 0 (Nat.zero_le _) ?_ ?_
 · exact (Weak.of rfl rfl ktA ktA)
 intro k hk'
 have hml:=markP_len k0 zs k hk'
 refine Goes ?_;repeat' first|apply W2.m|refine W1.m fun h=>?_
 · have hlt:k < zs.length:=by omega
   refine ⟨by simp only [List.length_map]; omega,?_⟩
   refine Goes ?_;repeat' first|apply W2.m|refine W1.m fun h=>?_
   refine ⟨k + 1,by omega,by omega,Weak.of rfl rfl ktA ⟨⟨leafO ?_,rfl,rfl⟩,trivial⟩⟩
   rw [setRow _ _ _ (by omega) _ rfl,markP_set k0 zs k hlt]
 · obtain rfl:k=zs.length:=by omega
   rw [markP_all]
   refine FinOk.mk' [] rfl rfl rfl rfl rfl rfl rfl ⟨rfl,rfl,rfl⟩
end Go.Proofs.YtllhgcfacgiabaaGreat
namespace Go.Proofs.YtllhgcfacgiabaaGreat
open Go Go.Am Go.RowKit
set_option linter.unusedVariables false
set_option linter.unusedSimpArgs false
end Go.Proofs.YtllhgcfacgiabaaGreat
