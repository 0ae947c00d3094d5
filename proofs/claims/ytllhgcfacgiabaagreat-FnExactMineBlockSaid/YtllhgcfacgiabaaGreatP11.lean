import Derived.Test.YtllhgcfacgiabaaGreatP3
import Derived.Test.YtllhgcfacgiabaaGreatM1
import Derived.Test.YtllhgcfacgiabaaGreatAmG
namespace Go.Proofs.YtllhgcfacgiabaaGreat
open Go Go.Am Go.RowKit
set_option linter.unusedVariables false
set_option linter.unusedSimpArgs false
theorem flat_vals {α:Type} (g:α→Value) (zs:List α):∀ r∈zs.map (fun z=>[AV.val (g z)]),∀ c∈r,∃ u,c=AV.val u:=by
 intro r hr c hc
 obtain ⟨z,_,rfl⟩:=List.mem_map.1 hr
 simp at hc
 exact ⟨_,hc⟩
theorem isVar_ret (v:Int) (n:Nat):Ret Tryz.prog 214 [iv v] [] n true (Is (bv (decide (inR 0 65535 v))) [] n):=by
 refine Ret.fn ttOk Tryz.func214 rfl Tryz.call214 rfl rfl ?_
 refine Goes ?_;repeat' first|apply W2.m|refine W1.m fun h=>?_
 all_goals (refine FinOk.pure rfl rfl rfl ⟨bvI ?_,rfl,rfl⟩; simp [inR, *])
theorem isOut_ret (v:Int) (n:Nat):Ret Tryz.prog 236 [iv v] [] n true (Is (bv (decide (inR 0 3 v))) [] n):=by
 refine Ret.fn ttOk Tryz.func236 rfl Tryz.call236 rfl rfl ?_
 refine Goes ?_;repeat' first|apply W2.m|refine W1.m fun h=>?_
 all_goals (refine FinOk.pure rfl rfl rfl ⟨bvI ?_,rfl,rfl⟩; simp [inR, *] <;> omega)
theorem l3Put_ret (v:Int) (n:Nat) (h:inR 0 65535 v):Ret Tryz.prog 210 [iv v] [] n true (Is (.own n (putN v).length) [(n,.list 5 1 (uvs (putN v)))] (n + 1)):=by
 unfold inR at h
 refine Ret.fn ttOk Tryz.func210 rfl Tryz.call210 rfl rfl ?_
 refine Goes ?_;repeat' first|apply W2.m|refine W1.m fun h=>?_
 · rw [show putN v=[v] from by unfold putN; rw [if_pos h]]
   refine FinOk.mk' [0] rfl rfl rfl rfl rfl rfl rfl ⟨?_,?_,rfl⟩
   · rfl
   · refine objI ?_
     show [[uv _]]=[[uv _]]
     rw [IntWalk.u8_in _ (by omega)]
 · rw [show putN v=[253,v % 256,v / 256] from by unfold putN; rw [if_neg (by omega)]]
   refine FinOk.mk' [0] rfl rfl rfl rfl rfl rfl rfl ⟨?_,?_,rfl⟩
   · rfl
   · refine objI ?_
     show [[uv _],[uv _],[uv _]]=[[uv _],[uv _],[uv _]]
     have e1:v.tmod 256=v % 256:=Int.tmod_eq_emod_of_nonneg (by omega)
     have e2:IntKind.i64.wrap (v.tdiv 256)=v / 256:=by rw [Int.tdiv_eq_ediv_of_nonneg (by omega)]; exact IntWalk.i64_in _ (by omega)
     rw [e1,e2,IntWalk.u8_in _ (by omega),IntWalk.u8_in _ (by omega)]
abbrev pkh (i j:Nat) (s:List Int):Hp:=[(i,.box [.own j s.length]),(j,.list 5 1 (uvs s))]
theorem takeU (s:List Int):List.take s.length (uvs s)=uvs s:=List.take_of_length_le (by simp)
theorem put_ret (i j n:Nat) (hij:i≠j) (s y:List Int) (hl:s.length + y.length≤1048576) :
 Ret Tryz.prog 261 [.pt i 0 0,ul y] (pkh i j s) n false (Is (.tup []) (pkh i j (s++y)) n):=by
 refine Ret.of_run (tt:=tt) ttOk Tryz.func261 rfl Tryz.call261 [i,j] [.box [.own 1 s.length],.list 5 1 (uvs s)] [.pt 0 0 0,ul y] false n _ rfl (nodup2 hij) (by exact Nat.le_of_ble_eq_true rfl) rfl rfl ?_
 refine Goes ?_
 refine ⟨⟨lenA,lenA,lenA,lenA,rwsA⟩,?_⟩
 refine Goes ?_
 refine FinOk.mk' [] rfl rfl rfl rfl rfl rfl rfl ⟨?_,?_,rfl⟩
 · rfl
 · show [(i,AObj.box [.own j (s.length + (uvs y).length)]),(j,.list 5 1 (List.take s.length (uvs s)++uvs y))]=_
   unfold pkh
   rw [takeU,← List.map_append,List.length_map,List.length_append]
theorem put_nil (i n:Nat) (y:List Int) (hl:y.length≤1048576) :
 Ret Tryz.prog 261 [.pt i 0 0,ul y] [(i,.box [nl])] n false (Is (.tup []) (pkh i n y) (n + 1)):=by
 refine Ret.of_run (tt:=tt) ttOk Tryz.func261 rfl Tryz.call261 [i] [.box [nl]] [.pt 0 0 0,ul y] false n _ rfl (nodup1 i) (by exact Nat.le_of_ble_eq_true rfl) rfl rfl ?_
 refine Goes ?_
 refine ⟨⟨lenA,lenA,lenA,rwsA⟩,?_⟩
 refine Goes ?_
 refine FinOk.mk' [1] rfl rfl rfl rfl rfl rfl rfl ⟨?_,?_,rfl⟩
 · rfl
 · show [(i,AObj.box [.own n (uvs y).length]),(n,.list 5 1 (uvs y))]=_
   unfold pkh
   rw [List.length_map]
theorem number_ret (i j n:Nat) (hij:i≠j) (s:List Int) (v:Int) (hv:inR 0 65535 v) (hl:s.length≤1048000) :
 Ret Tryz.prog 241 [.pt i 0 0,iv v] (pkh i j s) n false (Is (.tup []) (pkh i j (s++putN v)) n):=by
 unfold inR at hv
 refine Ret.of_run (tt:=tt) ttOk Tryz.func241 rfl Tryz.call241 [i,j] [.box [.own 1 s.length],.list 5 1 (uvs s)] [.pt 0 0 0,iv v] false n _ rfl (nodup2 hij) (by exact Nat.le_of_ble_eq_true rfl) rfl rfl ?_
 refine Goes ?_;repeat' first|apply W2.m|refine W1.m fun h=>?_
 · rw [show putN v=[v] from by unfold putN; rw [if_pos h]]
   rw [IntWalk.u8_in v (by omega)]
   refine CallP.heapConvIs (put_ret 0 1 _ (by decide) s [v] lenA) cvargsHA ktA rfl rfl (by repeat' first | exact trivial | exact flat_vals _ _ | (exact rfl) | refine And.intro ?_ ?_) ?_
   refine Goes ?_
   refine FinOk.mk' [] rfl rfl rfl rfl rfl rfl rfl ⟨?_,?_,rfl⟩
   · rfl
   · rfl
 · rw [show putN v=[253,v % 256,v / 256] from by unfold putN; rw [if_neg (by omega)]]
   have e1:IntKind.u8.wrap v=v % 256:=by simp [IntKind.wrap_u8]
   have e2:IntKind.u8.wrap (v.fdiv (2 ^ min (Int.toNat 8) IntKind.i64.bits))=v / 256:=by
    rw [show (2:Int) ^ min (Int.toNat 8) IntKind.i64.bits=256 from rfl,Int.fdiv_eq_ediv_of_nonneg _ (by omega),IntWalk.u8_in _ (by omega)]
   rw [e1,e2]
   refine CallP.heapConvIs (put_ret 0 1 _ (by decide) s [253,v % 256,v / 256] lenA) cvargsHA ktA rfl rfl (by repeat' first | exact trivial | exact flat_vals _ _ | (exact rfl) | refine And.intro ?_ ?_) ?_
   refine Goes ?_
   refine FinOk.mk' [] rfl rfl rfl rfl rfl rfl rfl ⟨?_,?_,rfl⟩
   · rfl
   · rfl
theorem number_nil (i n:Nat) (v:Int) (hv:inR 0 65535 v) :
 Ret Tryz.prog 241 [.pt i 0 0,iv v] [(i,.box [nl])] n false (Is (.tup []) (pkh i n (putN v)) (n + 1)):=by
 unfold inR at hv
 refine Ret.of_run (tt:=tt) ttOk Tryz.func241 rfl Tryz.call241 [i] [.box [nl]] [.pt 0 0 0,iv v] false n _ rfl (nodup1 i) (by exact Nat.le_of_ble_eq_true rfl) rfl rfl ?_
 refine Goes ?_;repeat' first|apply W2.m|refine W1.m fun h=>?_
 · rw [show putN v=[v] from by unfold putN; rw [if_pos h]]
   rw [IntWalk.u8_in v (by omega)]
   refine CallP.heapConvIs (put_nil 0 _ [v] lenA) cvargsHA ktA rfl rfl (by repeat' first | exact trivial | exact flat_vals _ _ | (exact rfl) | refine And.intro ?_ ?_) ?_
   refine Goes ?_
   refine FinOk.mk' [2] rfl rfl rfl rfl rfl rfl rfl ⟨?_,?_,rfl⟩
   · rfl
   · rfl
 · rw [show putN v=[253,v % 256,v / 256] from by unfold putN; rw [if_neg (by omega)]]
   have e1:IntKind.u8.wrap v=v % 256:=by simp [IntKind.wrap_u8]
   have e2:IntKind.u8.wrap (v.fdiv (2 ^ min (Int.toNat 8) IntKind.i64.bits))=v / 256:=by
    rw [show (2:Int) ^ min (Int.toNat 8) IntKind.i64.bits=256 from rfl,Int.fdiv_eq_ediv_of_nonneg _ (by omega),IntWalk.u8_in _ (by omega)]
   rw [e1,e2]
   refine CallP.heapConvIs (put_nil 0 _ [253,v % 256,v / 256] lenA) cvargsHA ktA rfl rfl (by repeat' first | exact trivial | exact flat_vals _ _ | (exact rfl) | refine And.intro ?_ ?_) ?_
   refine Goes ?_
   refine FinOk.mk' [2] rfl rfl rfl rfl rfl rfl rfl ⟨?_,?_,rfl⟩
   · rfl
   · rfl
theorem halves_ret (i j n:Nat) (hij:i≠j) (s:List Int) (v:Int) (hv:inR 0 2147483646 v) (hl:s.length≤1047000) :
 Ret Tryz.prog 242 [.pt i 0 0,iv v] (pkh i j s) n false (Is (.tup []) (pkh i j (s++bigN v)) n):=by
 unfold inR at hv
 refine Ret.of_run (tt:=tt) ttOk Tryz.func242 rfl Tryz.call242 [i,j] [.box [.own 1 s.length],.list 5 1 (uvs s)] [.pt 0 0 0,iv v] false n _ rfl (nodup2 hij) (by exact Nat.le_of_ble_eq_true rfl) rfl rfl ?_
 refine Goes ?_
 rw [Int.tmod_eq_emod_of_nonneg (by omega)]
 refine CallP.heapIs (number_ret 0 1 _ (by decide) s (v % 65536) ⟨by omega,by omega⟩ (by omega)) rfl ktA rfl ?_
 refine Goes ?_
 rw [Int.tdiv_eq_ediv_of_nonneg (by omega),IntWalk.i64_in _ (by omega)]
 have h3:=(putN_len (v % 65536)).2
 refine CallP.heapIs (number_ret 0 1 _ (by decide) (s++putN (v % 65536)) (v / 65536) ⟨by omega,by omega⟩ (by simp only [List.length_append]; omega)) rfl ktA rfl ?_
 refine Goes ?_
 refine FinOk.mk' [] rfl rfl rfl rfl rfl rfl rfl ⟨?_,?_,rfl⟩
 · rfl
 · unfold bigN
   rw [← List.append_assoc]; rfl
theorem numbers_ret (i j n:Nat) (hij:i≠j) (s zs:List Int) (hz:smallL 12 zs) (hl:s.length≤1000) :
 Ret Tryz.prog 243 [.pt i 0 0,il zs] (pkh i j s) n false (Is (.tup []) (pkh i j (s++listN zs)) n):=by
 have hz1:=hz.1
 refine Ret.of_run (tt:=tt) ttOk Tryz.func243 rfl Tryz.call243 [i,j] [.box [.own 1 s.length],.list 5 1 (uvs s)] [.pt 0 0 0,il zs] false n _ rfl (nodup2 hij) (by exact Nat.le_of_ble_eq_true rfl) rfl rfl ?_
 refine Goes ?_
 rw [List.length_map]
 refine CallP.heapIs (number_ret 0 1 _ (by decide) s zs.length ⟨by omega,by omega⟩ (by omega)) rfl ktA rfl ?_
 refine Goes ?_
 rw [List.length_map]
 refine LoopP.go (fun k:Nat=>k≤zs.length) (fun k=>⟨[(0,.pt 0 0 0),(10,il zs),(11,iv zs.length),(12,iv k)],pkh 0 1 (s++putN zs.length++numsN (zs.take k)),2⟩) (fun k=>zs.length - k) 0 (Nat.zero_le _) ?_ ?_
 · refine Weak.of rfl rfl ktA ?_
   simp only [List.take_zero]
   rw [show s++putN zs.length++numsN []=s++putN zs.length from by simp [numsN]]
   exact ktA
 intro k hk
 have h1:=(putN_len zs.length).2
 have h2:=numsN_len (zs.take k)
 rw [List.length_take] at h2
 refine Goes ?_;repeat' first|apply W2.m|refine W1.m fun h=>?_
 · have hlt:k < zs.length:=by omega
   rw [rowK iv1 zs k (by omega)]
   refine ⟨by (first | exact ⟨by omega,by omega,rfl⟩ | (simp only [List.length_map]; exact ⟨by omega,by omega,rfl⟩)),?_⟩
   refine Goes ?_
   refine CallP.heapIs (number_ret 0 1 _ (by decide) (s++putN zs.length++numsN (zs.take k)) zs[k] (hz.2 _ (List.getElem_mem hlt)) (by simp only [List.length_append]; omega)) rfl ktA rfl ?_
   refine Goes ?_
   refine ⟨k + 1,by omega,by omega,Weak.of rfl rfl ktA ?_⟩
   rw [numsN_take hlt,← List.append_assoc]
   exact ktA
 · obtain rfl:k=zs.length:=by omega
   rw [List.take_length]
   refine FinOk.mk' [] rfl rfl rfl rfl rfl rfl rfl ⟨?_,?_,rfl⟩
   · rfl
   · unfold listN
     rw [← List.append_assoc]; rfl
end Go.Proofs.YtllhgcfacgiabaaGreat
namespace Go.Proofs.YtllhgcfacgiabaaGreat
open Go Go.Am Go.RowKit
set_option linter.unusedVariables false
set_option linter.unusedSimpArgs false
end Go.Proofs.YtllhgcfacgiabaaGreat
namespace Go.Proofs.YtllhgcfacgiabaaGreat
open Go Go.Am Go.RowKit
set_option linter.unusedVariables false
set_option linter.unusedSimpArgs false
end Go.Proofs.YtllhgcfacgiabaaGreat
