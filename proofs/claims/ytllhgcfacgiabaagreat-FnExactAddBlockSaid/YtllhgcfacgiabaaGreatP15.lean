import Derived.Test.YtllhgcfacgiabaaGreatP3
import Derived.Test.YtllhgcfacgiabaaGreatM1
import Derived.Test.YtllhgcfacgiabaaGreatAmG
namespace Go.Proofs.YtllhgcfacgiabaaGreat
open Go Go.Am Go.RowKit
set_option linter.unusedVariables false
set_option linter.unusedSimpArgs false
theorem O7 {α:Type} (g:α->Value) (zs:List α):∀ r∈zs.map (fun z=>[AV.val (g z)]),∀ c∈r,∃ u,c=AV.val u:=by
 intro r hr c hc
 obtain ⟨z,_,rfl⟩:=List.mem_map.1 hr
 simp at hc
 exact ⟨_,hc⟩
theorem a07 (v:Int) (n:Nat):Ret Tryz.prog 214 [iv v] [] n true (Is (bv (decide (inR 0 65535 v))) [] n):=by
 refine Ret.fn Ad Tryz.func214 rfl Tryz.call214 rfl rfl ?_
 refine Goes ?_;repeat' first|apply W2.m|refine W1.m fun h=>?_
 all_goals (refine Ab.pure rfl rfl rfl ⟨bvI ?_,rfl,rfl⟩; simp [inR, *])
theorem a08 (v:Int) (n:Nat):Ret Tryz.prog 236 [iv v] [] n true (Is (bv (decide (inR 0 3 v))) [] n):=by
 refine Ret.fn Ad Tryz.func236 rfl Tryz.call236 rfl rfl ?_
 refine Goes ?_;repeat' first|apply W2.m|refine W1.m fun h=>?_
 all_goals (refine Ab.pure rfl rfl rfl ⟨bvI ?_,rfl,rfl⟩; simp [inR, *] <;> omega)
theorem Gq (v:Int) (n:Nat) (h:inR 0 65535 v):Ret Tryz.prog 210 [iv v] [] n true (Is (.own n (A8 v).length) [(n,.list 5 1 (uvs (A8 v)))] (n + 1)):=by
 unfold inR at h
 refine Ret.fn Ad Tryz.func210 rfl Tryz.call210 rfl rfl ?_
 refine Goes ?_;repeat' first|apply W2.m|refine W1.m fun h=>?_
 · rw [show A8 v=[v] from by unfold A8; rw [if_pos h]]
   refine Ab.mk' [0] rfl rfl rfl rfl rfl rfl rfl ⟨?_,?_,rfl⟩
   · rfl
   · refine R6 ?_
     show [[uv _]]=[[uv _]]
     rw [IntWalk.u8_in _ (by omega)]
 · rw [show A8 v=[253,v % 256,v / 256] from by unfold A8; rw [if_neg (by omega)]]
   refine Ab.mk' [0] rfl rfl rfl rfl rfl rfl rfl ⟨?_,?_,rfl⟩
   · rfl
   · refine R6 ?_
     show [[uv _],[uv _],[uv _]]=[[uv _],[uv _],[uv _]]
     have e1:v.tmod 256=v % 256:=Int.tmod_eq_emod_of_nonneg (by omega)
     have e2:IntKind.i64.wrap (v.tdiv 256)=v / 256:=by rw [Int.tdiv_eq_ediv_of_nonneg (by omega)]; exact IntWalk.i64_in _ (by omega)
     rw [e1,e2,IntWalk.u8_in _ (by omega),IntWalk.u8_in _ (by omega)]
abbrev pkh (i j:Nat) (s:List Int):Hp:=[(i,.box [.own j s.length]),(j,.list 5 1 (uvs s))]
theorem N1 (s:List Int):List.take s.length (uvs s)=uvs s:=List.take_of_length_le (by simp)
theorem a6N (i j n:Nat) (ah:i≠j) (s y:List Int) (hl:s.length + y.length<=1048576) :
 Ret Tryz.prog 261 [.pt i 0 0,ul y] (pkh i j s) n false (Is (.tup []) (pkh i j (s++y)) n):=by
 refine Ret.of_run (tt:=tt) Ad Tryz.func261 rfl Tryz.call261 [i,j] [.box [.own 1 s.length],.list 5 1 (uvs s)] [.pt 0 0 0,ul y] false n _ rfl (Bc ah) (by exact Nat.le_of_ble_eq_true rfl) rfl rfl ?_
 refine Goes ?_
 refine ⟨⟨Az,Az,Az,Az,Ky⟩,?_⟩
 refine Goes ?_
 refine Ab.mk' [] rfl rfl rfl rfl rfl rfl rfl ⟨?_,?_,rfl⟩
 · rfl
 · show [(i,A2.box [.own j (s.length + (uvs y).length)]),(j,.list 5 1 (List.take s.length (uvs s)++uvs y))]=_
   unfold pkh
   rw [N1,<- List.map_append,List.length_map,List.length_append]
theorem a6O (i n:Nat) (y:List Int) (hl:y.length<=1048576) :
 Ret Tryz.prog 261 [.pt i 0 0,ul y] [(i,.box [nl])] n false (Is (.tup []) (pkh i n y) (n + 1)):=by
 refine Ret.of_run (tt:=tt) Ad Tryz.func261 rfl Tryz.call261 [i] [.box [nl]] [.pt 0 0 0,ul y] false n _ rfl (Cj i) (by exact Nat.le_of_ble_eq_true rfl) rfl rfl ?_
 refine Goes ?_
 refine ⟨⟨Az,Az,Az,Ky⟩,?_⟩
 refine Goes ?_
 refine Ab.mk' [1] rfl rfl rfl rfl rfl rfl rfl ⟨?_,?_,rfl⟩
 · rfl
 · show [(i,A2.box [.own n (uvs y).length]),(n,.list 5 1 (uvs y))]=_
   unfold pkh
   rw [List.length_map]
theorem Gc (i j n:Nat) (ah:i≠j) (s:List Int) (v:Int) (hv:inR 0 65535 v) (hl:s.length<=1048000) :
 Ret Tryz.prog 241 [.pt i 0 0,iv v] (pkh i j s) n false (Is (.tup []) (pkh i j (s++A8 v)) n):=by
 unfold inR at hv
 refine Ret.of_run (tt:=tt) Ad Tryz.func241 rfl Tryz.call241 [i,j] [.box [.own 1 s.length],.list 5 1 (uvs s)] [.pt 0 0 0,iv v] false n _ rfl (Bc ah) (by exact Nat.le_of_ble_eq_true rfl) rfl rfl ?_
 refine Goes ?_;repeat' first|apply W2.m|refine W1.m fun h=>?_
 · rw [show A8 v=[v] from by unfold A8; rw [if_pos h]]
   rw [IntWalk.u8_in v (by omega)]
   refine Aa.heapConvIs (a6N 0 1 _ (by decide) s [v] Az) Sf ktA rfl rfl (by repeat' first | exact trivial | exact O7 _ _ | (exact rfl) | refine And.intro ?_ ?_) ?_
   refine Goes ?_
   refine Ab.mk' [] rfl rfl rfl rfl rfl rfl rfl ⟨?_,?_,rfl⟩
   · rfl
   · rfl
 · rw [show A8 v=[253,v % 256,v / 256] from by unfold A8; rw [if_neg (by omega)]]
   have e1:IntKind.u8.wrap v=v % 256:=by simp [IntKind.wrap_u8]
   have e2:IntKind.u8.wrap (v.fdiv (2 ^ min (Int.toNat 8) IntKind.i64.bits))=v / 256:=by
    rw [show (2:Int) ^ min (Int.toNat 8) IntKind.i64.bits=256 from rfl,Int.fdiv_eq_ediv_of_nonneg _ (by omega),IntWalk.u8_in _ (by omega)]
   rw [e1,e2]
   refine Aa.heapConvIs (a6N 0 1 _ (by decide) s [253,v % 256,v / 256] Az) Sf ktA rfl rfl (by repeat' first | exact trivial | exact O7 _ _ | (exact rfl) | refine And.intro ?_ ?_) ?_
   refine Goes ?_
   refine Ab.mk' [] rfl rfl rfl rfl rfl rfl rfl ⟨?_,?_,rfl⟩
   · rfl
   · rfl
theorem a5r (i n:Nat) (v:Int) (hv:inR 0 65535 v) :
 Ret Tryz.prog 241 [.pt i 0 0,iv v] [(i,.box [nl])] n false (Is (.tup []) (pkh i n (A8 v)) (n + 1)):=by
 unfold inR at hv
 refine Ret.of_run (tt:=tt) Ad Tryz.func241 rfl Tryz.call241 [i] [.box [nl]] [.pt 0 0 0,iv v] false n _ rfl (Cj i) (by exact Nat.le_of_ble_eq_true rfl) rfl rfl ?_
 refine Goes ?_;repeat' first|apply W2.m|refine W1.m fun h=>?_
 · rw [show A8 v=[v] from by unfold A8; rw [if_pos h]]
   rw [IntWalk.u8_in v (by omega)]
   refine Aa.heapConvIs (a6O 0 _ [v] Az) Sf ktA rfl rfl (by repeat' first | exact trivial | exact O7 _ _ | (exact rfl) | refine And.intro ?_ ?_) ?_
   refine Goes ?_
   refine Ab.mk' [2] rfl rfl rfl rfl rfl rfl rfl ⟨?_,?_,rfl⟩
   · rfl
   · rfl
 · rw [show A8 v=[253,v % 256,v / 256] from by unfold A8; rw [if_neg (by omega)]]
   have e1:IntKind.u8.wrap v=v % 256:=by simp [IntKind.wrap_u8]
   have e2:IntKind.u8.wrap (v.fdiv (2 ^ min (Int.toNat 8) IntKind.i64.bits))=v / 256:=by
    rw [show (2:Int) ^ min (Int.toNat 8) IntKind.i64.bits=256 from rfl,Int.fdiv_eq_ediv_of_nonneg _ (by omega),IntWalk.u8_in _ (by omega)]
   rw [e1,e2]
   refine Aa.heapConvIs (a6O 0 _ [253,v % 256,v / 256] Az) Sf ktA rfl rfl (by repeat' first | exact trivial | exact O7 _ _ | (exact rfl) | refine And.intro ?_ ?_) ?_
   refine Goes ?_
   refine Ab.mk' [2] rfl rfl rfl rfl rfl rfl rfl ⟨?_,?_,rfl⟩
   · rfl
   · rfl
theorem Yc (i j n:Nat) (ah:i≠j) (s:List Int) (v:Int) (hv:inR 0 2147483646 v) (hl:s.length<=1047000) :
 Ret Tryz.prog 242 [.pt i 0 0,iv v] (pkh i j s) n false (Is (.tup []) (pkh i j (s++Mq v)) n):=by
 unfold inR at hv
 refine Ret.of_run (tt:=tt) Ad Tryz.func242 rfl Tryz.call242 [i,j] [.box [.own 1 s.length],.list 5 1 (uvs s)] [.pt 0 0 0,iv v] false n _ rfl (Bc ah) (by exact Nat.le_of_ble_eq_true rfl) rfl rfl ?_
 refine Goes ?_
 rw [Int.tmod_eq_emod_of_nonneg (by omega)]
 refine Aa.heapIs (Gc 0 1 _ (by decide) s (v % 65536) ⟨by omega,by omega⟩ (by omega)) rfl ktA rfl ?_
 refine Goes ?_
 rw [Int.tdiv_eq_ediv_of_nonneg (by omega),IntWalk.i64_in _ (by omega)]
 have h3:=(Cd (v % 65536)).2
 refine Aa.heapIs (Gc 0 1 _ (by decide) (s++A8 (v % 65536)) (v / 65536) ⟨by omega,by omega⟩ (by simp only [List.length_append]; omega)) rfl ktA rfl ?_
 refine Goes ?_
 refine Ab.mk' [] rfl rfl rfl rfl rfl rfl rfl ⟨?_,?_,rfl⟩
 · rfl
 · unfold Mq
   rw [<- List.append_assoc]; rfl
theorem Vh (i j n:Nat) (ah:i≠j) (s zs:List Int) (hz:Qw 12 zs) (hl:s.length<=1000) :
 Ret Tryz.prog 243 [.pt i 0 0,il zs] (pkh i j s) n false (Is (.tup []) (pkh i j (s++Kj zs)) n):=by
 have jv:=hz.1
 refine Ret.of_run (tt:=tt) Ad Tryz.func243 rfl Tryz.call243 [i,j] [.box [.own 1 s.length],.list 5 1 (uvs s)] [.pt 0 0 0,il zs] false n _ rfl (Bc ah) (by exact Nat.le_of_ble_eq_true rfl) rfl rfl ?_
 refine Goes ?_
 rw [List.length_map]
 refine Aa.heapIs (Gc 0 1 _ (by decide) s zs.length ⟨by omega,by omega⟩ (by omega)) rfl ktA rfl ?_
 refine Goes ?_
 rw [List.length_map]
 refine Ao.go (fun k:Nat=>k<=zs.length) (fun k=>⟨[(0,.pt 0 0 0),(10,il zs),(11,iv zs.length),(12,iv k)],pkh 0 1 (s++A8 zs.length++Ij (zs.take k)),2⟩) (fun k=>zs.length - k) 0 (Nat.zero_le _) ?_ ?_
 · refine Ac.of rfl rfl ktA ?_
   simp only [List.take_zero]
   rw [show s++A8 zs.length++Ij []=s++A8 zs.length from by simp [Ij]]
   exact ktA
 intro k hk
 have h1:=(Cd zs.length).2
 have h2:=Ue (zs.take k)
 rw [List.length_take] at h2
 refine Goes ?_;repeat' first|apply W2.m|refine W1.m fun h=>?_
 · have aa:k < zs.length:=by omega
   rw [A1 iv1 zs k (by omega)]
   refine ⟨by (first | exact ⟨by omega,by omega,rfl⟩ | (simp only [List.length_map]; exact ⟨by omega,by omega,rfl⟩)),?_⟩
   refine Goes ?_
   refine Aa.heapIs (Gc 0 1 _ (by decide) (s++A8 zs.length++Ij (zs.take k)) zs[k] (hz.2 _ (List.getElem_mem aa)) (by simp only [List.length_append]; omega)) rfl ktA rfl ?_
   refine Goes ?_
   refine ⟨k + 1,by omega,by omega,Ac.of rfl rfl ktA ?_⟩
   rw [X5 aa,<- List.append_assoc]
   exact ktA
 · obtain rfl:k=zs.length:=by omega
   rw [List.take_length]
   refine Ab.mk' [] rfl rfl rfl rfl rfl rfl rfl ⟨?_,?_,rfl⟩
   · rfl
   · unfold Kj
     rw [<- List.append_assoc]; rfl
end Go.Proofs.YtllhgcfacgiabaaGreat
namespace Go.Proofs.YtllhgcfacgiabaaGreat
open Go Go.Am Go.RowKit
set_option linter.unusedVariables false
set_option linter.unusedSimpArgs false
end Go.Proofs.YtllhgcfacgiabaaGreat
namespace Go.Proofs.YtllhgcfacgiabaaGreat
open Go Go.Am Go.RowKit
set_option linter.unusedVariables false
set_option linter.unusedSimpArgs false
end Go.Proofs.YtllhgcfacgiabaaGreat
namespace Go.Proofs.YtllhgcfacgiabaaGreat
open Go Go.Am Go.RowKit
set_option linter.unusedVariables false
set_option linter.unusedSimpArgs false
theorem O8 (v:Int) (n:Nat):Ret Tryz.prog 238 [.agg [iv v]] [] n true (Is (bv (decide (inR 0 1000000 v))) [] n):=by
 refine Ret.fn Ad Tryz.func238 rfl Tryz.call238 rfl rfl ?_
 refine Goes ?_;repeat' first|apply W2.m|refine W1.m fun h=>?_
 all_goals (refine Ab.pure rfl rfl rfl ⟨bvI ?_,rfl,rfl⟩; simp [inR, *] <;> omega)
theorem a9A (a b:Int) (n:Nat):Ret Tryz.prog 260 [.agg [iv a],.agg [iv b]] [] n true (Is (.agg [iv (IntKind.i64.wrap (a + b))]) [] n):=by
 refine Ret.fn Ad Tryz.func260 rfl Tryz.call260 rfl rfl ?_
 refine Goes ?_
 refine Ab.pure rfl rfl rfl ⟨?_,rfl,rfl⟩
 rfl
theorem Jd (v:Int) (n:Nat):Ret Tryz.prog 190 [iv v] [] n true (Is (bv (decide (inR 0 1000000 v))) [] n):=by
 refine Ret.fn Ad Tryz.func190 rfl Tryz.call190 rfl rfl ?_
 refine Goes ?_
 refine Aa.is (Ck _ _ _ _) rfl ?_
 refine Goes ?_
 refine Ab.pure rfl rfl rfl ⟨?_,rfl,rfl⟩
 rfl
theorem M7 (zs:List Int) (n:Nat) (hz:∀ z∈zs,inR 0 1000000 z) (hl:zs.length<=100):Ret Tryz.prog 240 [il zs] [] n true (Is (.agg (if inR 0 1000000 (Cf zs) then [iv 0,iv (Cf zs)] else [iv 7,iv 0])) [] n):=by
 have hL:(ivs zs).length=zs.length:=by simp
 refine Ret.fn Ad Tryz.func240 rfl Tryz.call240 rfl rfl ?_
 refine Goes ?_;repeat' first|apply W2.m|refine W1.m fun h=>?_
 rw [hL]
 refine Ao.go (fun k:Nat=>k<=zs.length) (fun k=>⟨[(11,il zs),(12,iv zs.length),(13,iv k),(3,.pt 1 0 0),(2,.pt 0 0 0)],[(1,.box [iv (Cf (zs.take k))]),(0,.box [iv 0,iv 0])],2⟩) (fun k=>zs.length - k) 0 (Nat.zero_le _) (Ac.of rfl rfl ktA ktA) ?_
 intro k hk
 have hb:=a2h zs hz k hk
 refine Goes ?_;repeat' first|apply W2.m|refine W1.m fun h=>?_
 · have aa:k < zs.length:=by omega
   rw [A1 iv1 zs k (by omega)]
   refine ⟨by (first | exact ⟨by omega,by omega,rfl⟩ | (simp only [List.length_map]; exact ⟨by omega,by omega,rfl⟩)),?_⟩
   refine Goes ?_
   have hv:=hz zs[k] (List.getElem_mem aa)
   have en:=O8 zs[k]
   rw [decide_eq_true hv] at en
   unfold inR at hv
   refine Aa.is (en _) rfl ?_
   refine Goes ?_
   have hp:=a9A (Cf (zs.take k)) zs[k]
   rw [IntWalk.i64_in _ (by omega),<- Eb zs k aa] at hp
   refine Aa.is (hp _) rfl ?_
   refine Goes ?_
   exact ⟨k + 1,by omega,by omega,(Ac.of rfl rfl ktA ktA)⟩
 · obtain rfl:k=zs.length:=by omega
   rw [List.take_length] at hb ⊢
   refine Aa.is (O8 _ _) rfl ?_
   refine Goes ?_;repeat' first|apply W2.m|refine W1.m fun h=>?_
   · refine Ab.pure rfl rfl rfl ⟨?_,rfl,rfl⟩
     rw [if_neg h]
   · rw [if_pos (by assumption)]
     refine Ab.pure rfl rfl rfl ⟨?_,rfl,rfl⟩
     rfl
theorem a3E (e:List InD) (x:InD) (n:Nat) (hl:e.length<=1048576):Ret Tryz.prog 215 [Et e,.agg (A3 x)] [] n true (Is (iv (inC e x)) [] n):=by
 obtain ⟨x1,x2,x3⟩:=x
 have hL:(e.map A3).length=e.length:=by simp
 refine Ret.fn Ad Tryz.func215 rfl Tryz.call215 rfl rfl ?_
 refine Goes ?_
 refine Aa.is (Hr _ _) rfl ?_
 refine Goes ?_;repeat' first|apply W2.m|refine W1.m fun h=>?_
 · refine Ab.pure rfl rfl rfl ⟨?_,rfl,rfl⟩
   unfold inC; rw [if_pos h]
 have g1:¬ ¬ inR 0 2147483646 x1:=fun h'=>h' h
 refine Aa.is (a08 _ _) rfl ?_
 refine Goes ?_;repeat' first|apply W2.m|refine W1.m fun h=>?_
 · refine Ab.pure rfl rfl rfl ⟨?_,rfl,rfl⟩
   unfold inC; rw [if_neg g1,if_pos h]
 have g2:¬ ¬ inR 0 3 x2:=fun h'=>h' h
 refine Aa.is (N0 x3 _) rfl ?_
 refine Goes ?_;repeat' first|apply W2.m|refine W1.m fun h=>?_
 · refine Ab.pure rfl rfl rfl ⟨?_,rfl,rfl⟩
   unfold inC; rw [if_neg g1,if_neg g2,if_pos h]
 have g3:¬ C9 x3≠0:=h
 rw [hL]
 refine Ao.go (fun k:Nat=>k<=e.length/\Vz (e.take k) (x1,x2,x3)=false) (fun k=>⟨[(24,Et e),(25,iv e.length),(26,iv k),(3,.pt 0 0 0)],[(0,.box [iv x1,iv x2,il x3])],1⟩) (fun k=>e.length - k) 0 ⟨Nat.zero_le _,rfl⟩ (Ac.of rfl rfl ktA ktA) ?_
 intro k ⟨hk,hp⟩
 refine Goes ?_;repeat' first|apply W2.m|refine W1.m fun h=>?_
 · have aa:k < e.length:=by omega
   rw [A1 A3 e k aa]
   have hd:=a03 e (x1,x2,x3) k aa
   have hy:=a3B (x:=(x1,x2,x3)) aa
   rw [hp] at hd
   generalize e[k]=y at *
   obtain ⟨y1,y2,y3⟩:=y
   dsimp only at hd hy
   refine ⟨by rw [hL]; exact ⟨by omega,by omega,rfl⟩,?_⟩
   refine Goes ?_;repeat' first|apply W2.m|refine W1.m fun h=>?_
   · have g5:y2=x2:=h
     have g4:y1=x1:=by assumption
     refine Ab.pure rfl rfl rfl ⟨?_,rfl,rfl⟩
     unfold inC; rw [if_neg g1,if_neg g2,if_neg g3,if_pos (hy (by simp [g4,g5]))]
   · have g5:¬ y2=x2:=h
     exact ⟨k + 1,⟨by omega,by rw [hd]; simp [g5]⟩,by omega,(Ac.of rfl rfl ktA ktA)⟩
   · have g4:¬ y1=x1:=h
     exact ⟨k + 1,⟨by omega,by rw [hd]; simp [g4]⟩,by omega,(Ac.of rfl rfl ktA ktA)⟩
 · obtain rfl:k=e.length:=by omega
   rw [List.take_length] at hp
   refine Ab.pure rfl rfl rfl ⟨?_,rfl,rfl⟩
   unfold inC; rw [if_neg g1,if_neg g2,if_neg g3,hp]; rfl
theorem Zy (ys:List Cx) (n:Nat) (hl:ys.length<=4):Ret Tryz.prog 216 [Dh ys] [] n true (Is (iv (F5 0 ys)) [] n):=by
 have hL:(ys.map Ax).length=ys.length:=by simp
 have hV:(Da ys).length=ys.length:=by simp [Da]
 refine Ret.fn Ad Tryz.func216 rfl Tryz.call216 rfl rfl ?_
 refine Goes ?_
 rw [hL]
 refine Ao.go (fun k:Nat=>k<=ys.length/\(∀ z∈(Da ys).take k,inR 0 1000000 z)/\F5 0 ys=F5 (Cf ((Da ys).take k)) (ys.drop k)) (fun k=>⟨[(9,Dh ys),(10,iv ys.length),(11,iv k),(3,.own 0 k)],[(0,.list 2 1 (ivs ((Da ys).take k)))],1⟩) (fun k=>ys.length - k) 0 ⟨Nat.zero_le _,by simp,by simp [Cf]⟩ (Ac.of rfl rfl ktA ktA) ?_
 intro k ⟨hk,ha,hp⟩
 refine Goes ?_;repeat' first|apply W2.m|refine W1.m fun h=>?_
 · have aa:k < ys.length:=by omega
   have fP:k < (Da ys).length:=by omega
   have jf:(Da ys)[k]=ys[k].1:=by simp [Da]
   have ak:=Eb (Da ys) k fP
   have dR:=Bo (Da ys) k fP
   have ai:=a3A (Cf ((Da ys).take k)) ys k aa
   have dS:((Da ys).take k).length=k:=by rw [List.length_take]; omega
   rw [jf] at ak dR
   rw [A1 Ax ys k aa]
   generalize ys[k]=y at *
   obtain ⟨y1,y2⟩:=y
   dsimp only at ak dR ai
   refine ⟨by rw [hL]; exact ⟨by omega,by omega,rfl⟩,?_⟩
   refine Goes ?_
   refine Aa.is (O8 _ _) rfl ?_
   refine Goes ?_;repeat' first|apply W2.m|refine W1.m fun h=>?_
   · refine Ab.pure rfl rfl rfl ⟨?_,rfl,rfl⟩
     rw [hp,ai,if_pos h]
   have g1:inR 0 1000000 y1:=h
   refine Aa.is (Fh y2 _) rfl ?_
   refine Goes ?_;repeat' first|apply W2.m|refine W1.m fun h=>?_
   · have g2:C3 y2≠0:=h
     refine Ab.pure rfl rfl rfl ⟨?_,rfl,rfl⟩
     rw [hp,ai,if_neg (fun h'=>h' g1),if_pos g2]
   · have g2:¬ C3 y2≠0:=h
     refine ⟨⟨Az,Az,Az,Az,Ky⟩,?_⟩
     refine Goes ?_
     refine ⟨k + 1,⟨by omega,?_,by rw [hp,ai,if_neg (fun h'=>h' g1),if_neg g2,ak]⟩,by omega,Ac.of rfl rfl ktA ⟨⟨Ch ?_,rfl,rfl⟩,trivial⟩⟩
     · rw [dR]; exact fun z hz=>(List.mem_append.1 hz).elim (ha z) (fun h'=>by simp at h'; subst h'; exact g1)
     · rw [R4 _ dS,dR]; simp
 · obtain rfl:k=ys.length:=by omega
   have ht:(Da ys).take ys.length=Da ys:=List.take_of_length_le (by omega)
   rw [ht] at ha hp ⊢
   rw [List.drop_length,F5] at hp
   have fX:=fun n=>M7 (Da ys) n ha (by omega)
   by_cases hm:inR 0 1000000 (Cf (Da ys))
   · rw [if_pos hm] at hp
     simp only [if_pos hm] at fX
     refine Aa.convAIs (fX _) Cc rfl (by first | exact trivial | exact ⟨Bu _,trivial⟩) ?_
     refine Goes ?_
     refine Ab.pure rfl rfl rfl ⟨?_,rfl,rfl⟩
     rw [hp]
   · rw [if_neg hm] at hp
     simp only [if_neg hm] at fX
     refine Aa.convAIs (fX _) Cc rfl (by first | exact trivial | exact ⟨Bu _,trivial⟩) ?_
     refine Goes ?_
     refine Ab.pure rfl rfl rfl ⟨?_,rfl,rfl⟩
     rw [hp]
theorem Do (t:TxD) (n:Nat) (hl:t.2.1.length<=1048576) (dJ:t.2.2.length<=1048576):Ret Tryz.prog 173 [txV t] [] n true (Is (iv (A7 t)) [] n):=by
 obtain ⟨t1,xs,ys⟩:=t
 dsimp only at hl dJ
 have hL:(xs.map A3).length=xs.length:=by simp
 have ca:(ys.map Ax).length=ys.length:=by simp
 have lV:(List.map A3 (t1,xs,ys).2.1).length=xs.length:=hL
 have m7:(List.map Ax (t1,xs,ys).2.2).length=ys.length:=ca
 by_cases hv:inR 0 65535 t1
 case neg =>
  refine Ret.fn Ad Tryz.func173 rfl Tryz.call173 rfl rfl ?_
  refine Goes ?_
  refine Aa.is (a07 _ _) rfl ?_
  refine Goes ?_;repeat' first|apply W2.m|refine W1.m fun h=>?_
  refine Ab.pure rfl rfl rfl ⟨?_,rfl,rfl⟩
  unfold A7; rw [if_pos hv]
 have en:=a07 t1
 rw [decide_eq_true hv] at en
 have g1:¬ ¬ inR 0 65535 t1:=fun h'=>h' hv
 refine Ret.fn Ad Tryz.func173 rfl Tryz.call173 rfl rfl ?_
 refine Goes ?_
 refine Aa.is (en _) rfl ?_
 refine Goes ?_;repeat' first|apply W2.m|refine W1.m fun h=>?_
 · refine Ab.pure rfl rfl rfl ⟨?_,rfl,rfl⟩
   unfold A7; rw [if_neg g1,if_pos (by dsimp only; omega)]
 · refine Ab.pure rfl rfl rfl ⟨?_,rfl,rfl⟩
   unfold A7; rw [if_neg g1,if_neg (by dsimp only; omega),if_pos (by dsimp only; omega)]
 · refine Ab.pure rfl rfl rfl ⟨?_,rfl,rfl⟩
   unfold A7; rw [if_neg g1,if_neg (by dsimp only; omega),if_neg (by dsimp only; omega),if_pos (by dsimp only; omega)]
 have g2:A7 (t1,xs,ys)=if Gu [] xs≠0 then Gu [] xs else F5 0 ys:=by
  unfold A7; rw [if_neg g1,if_neg (by dsimp only; omega),if_neg (by dsimp only; omega),if_neg (by dsimp only; omega)]
 rw [lV]
 have e0:Gu [] xs=Gu (xs.take 0) (xs.drop 0):=by simp
 refine Ao.go (fun k:Nat=>k<=xs.length/\Gu [] xs=Gu (xs.take k) (xs.drop k)) (fun k=>⟨[(27,Et xs),(28,iv xs.length),(29,iv k),(1,.pt 0 0 0)],[(0,.box (txC (t1,xs,ys)))],1⟩) (fun k=>xs.length - k) 0 ⟨Nat.zero_le _,e0⟩ (Ac.of rfl rfl ktA ktA) ?_
 intro k ⟨hk,hp⟩
 refine Goes ?_;repeat' first|apply W2.m|refine W1.m fun h=>?_
 · have aa:k < xs.length:=by omega
   have ai:=a6I xs k aa
   have kK:=fun n=>a3E (xs.take k) xs[k] n (by rw [List.length_take]; omega)
   rw [A1 A3 xs k aa]
   generalize xs[k]=x at *
   obtain ⟨x1,x2,x3⟩:=x
   refine ⟨by rw [hL]; exact ⟨by omega,by omega,rfl⟩,?_⟩
   refine Goes ?_
   rw [show List.take (Int.toNat (k:Int) - Int.toNat 0) (List.drop (Int.toNat 0) (List.map A3 (t1,xs,ys).2.1))=(xs.take k).map A3 from by simp [List.map_take]]
   refine Aa.is (kK _) rfl ?_
   refine Goes ?_;repeat' first|apply W2.m|refine W1.m fun h=>?_
   · have g3:inC (xs.take k) (x1,x2,x3)≠0:=h
     rw [if_pos g3] at ai
     refine Ab.pure rfl rfl rfl ⟨?_,rfl,rfl⟩
     rw [g2,hp,ai,if_pos g3]
   · have g3:¬ inC (xs.take k) (x1,x2,x3)≠0:=h
     rw [if_neg g3] at ai
     exact ⟨k + 1,⟨by omega,by rw [hp,ai]⟩,by omega,(Ac.of rfl rfl ktA ktA)⟩
 · obtain rfl:k=xs.length:=by omega
   rw [a3z] at hp
   rw [g2,hp,if_neg (by decide)]
   refine Aa.is (Zy ys _ (by omega)) rfl ?_
   refine Goes ?_
   refine Ab.pure rfl rfl rfl ⟨?_,rfl,rfl⟩
   rfl
theorem a9B (xs:List InD) (k:Nat) (x:InD) (n:Nat) (hl:xs.length<=1048576) (hk:k < xs.length) (hx:xs[k]=x):Ret Tryz.prog 156 [Et xs,iv k] [] n true (Is (iv (inC (xs.take k) x)) [] n):=by
 obtain ⟨x1,x2,x3⟩:=x
 have hL:(xs.map A3).length=xs.length:=by simp
 have lV:(ivs (x1,x2,x3).2.2).length=x3.length:=by simp
 have m7:(ivs x3).length=x3.length:=by simp
 refine Ret.fn Ad Tryz.func156 rfl Tryz.call156 rfl rfl ?_
 refine Goes ?_
 rw [A1 A3 xs k hk,hx]
 refine ⟨by rw [hL]; exact ⟨by omega,by omega,rfl⟩,?_⟩
 refine Goes ?_
 refine Aa.is (Ck _ _ _ _) rfl ?_
 refine Goes ?_;repeat' first|apply W2.m|refine W1.m fun h=>?_
 · refine Ab.pure rfl rfl rfl ⟨?_,rfl,rfl⟩
   unfold inC; rw [if_pos h]
 have g1:¬ ¬ inR 0 2147483646 x1:=fun h'=>h' h
 refine Aa.is (Ck _ _ _ _) rfl ?_
 refine Goes ?_;repeat' first|apply W2.m|refine W1.m fun h=>?_
 · refine Ab.pure rfl rfl rfl ⟨?_,rfl,rfl⟩
   unfold inC; rw [if_neg g1,if_pos h]
 · have g2:¬ ¬ inR 0 3 x2:=fun h'=>h' (by assumption)
   refine Ab.pure rfl rfl rfl ⟨?_,rfl,rfl⟩
   unfold inC; rw [if_neg g1,if_neg g2,if_pos (by unfold C9; rw [if_pos (by dsimp only; omega)]; decide)]; unfold C9; rw [if_pos (by dsimp only; omega)]
 have g2:¬ ¬ inR 0 3 x2:=fun h'=>h' (by assumption)
 have g3:¬ 8 < x3.length:=by omega
 refine Aa.is (Ug x3 0 9999 _ (by omega)) rfl ?_
 refine Goes ?_
 cases hA:Dg 0 9999 x3 with
 | false =>
   refine Goes ?_
   refine Ab.pure rfl rfl rfl ⟨?_,rfl,rfl⟩
   unfold inC C9; rw [if_neg g1,if_neg g2]; simp [g3,hA]
 | true =>
   have g4:¬ C9 x3≠0:=by unfold C9; simp [g3,hA]
   refine Goes ?_
   refine Ao.go (fun j:Nat=>j<=k/\Vz (xs.take j) (x1,x2,x3)=false) (fun j=>⟨[(0,Et xs),(1,iv k),(5,.rp (A3 (x1,x2,x3))),(6,iv j)],[],0⟩) (fun j=>k - j) 0 ⟨Nat.zero_le _,rfl⟩ (Ac.of rfl rfl ktA ktA) ?_
   intro j ⟨hj,hp⟩
   refine Goes ?_;repeat' first|apply W2.m|refine W1.m fun h=>?_
   · have aa:j < xs.length:=by omega
     rw [A1 A3 xs j aa]
     have hd:=a03 xs (x1,x2,x3) j aa
     have aw:j < (xs.take k).length:=by rw [List.length_take]; omega
     have hy:=a3B (x:=(x1,x2,x3)) aw
     rw [List.getElem_take] at hy
     rw [hp] at hd
     generalize cV:xs[j]=y at *
     obtain ⟨y1,y2,y3⟩:=y
     dsimp only at hd hy
     refine ⟨by rw [hL]; exact ⟨by omega,by omega,rfl⟩,?_⟩
     refine Goes ?_;repeat' first|apply W2.m|refine W1.m fun h=>?_
     · have g5:y1=x1:=h
       rw [A1 A3 xs j aa,cV]
       refine ⟨by rw [hL]; exact ⟨by omega,by omega,rfl⟩,?_⟩
       refine Goes ?_;repeat' first|apply W2.m|refine W1.m fun h=>?_
       · have g6:y2=x2:=h
         refine Ab.pure rfl rfl rfl ⟨?_,rfl,rfl⟩
         unfold inC; rw [if_neg g1,if_neg g2,if_neg g4,if_pos (hy (by simp [g5,g6]))]
       · have g6:¬ y2=x2:=h
         exact ⟨j + 1,⟨by omega,by rw [hd]; simp [g6]⟩,by omega,(Ac.of rfl rfl ktA ktA)⟩
     · have g5:¬ y1=x1:=h
       exact ⟨j + 1,⟨by omega,by rw [hd]; simp [g5]⟩,by omega,(Ac.of rfl rfl ktA ktA)⟩
   · obtain rfl:j=k:=by omega
     refine Ab.pure rfl rfl rfl ⟨?_,rfl,rfl⟩
     unfold inC; rw [if_neg g1,if_neg g2,if_neg g4,hp]; rfl
theorem a5s (ys:List Cx) (n:Nat) (hl:ys.length<=4):Ret Tryz.prog 157 [Dh ys] [] n true (Is (iv (F5 0 ys)) [] n):=by
 have hL:(ys.map Ax).length=ys.length:=by simp
 have hV:(Da ys).length=ys.length:=by simp [Da]
 refine Ret.fn Ad Tryz.func157 rfl Tryz.call157 rfl rfl ?_
 refine Goes ?_
 refine Ao.go (fun k:Nat=>k<=ys.length/\(∀ z∈(Da ys).take k,inR 0 1000000 z)/\F5 0 ys=F5 (Cf ((Da ys).take k)) (ys.drop k)) (fun k=>⟨[(0,Dh ys),(3,iv (Cf ((Da ys).take k))),(4,iv k)],[],0⟩) (fun k=>ys.length - k) 0 ⟨Nat.zero_le _,by simp,by simp [Cf]⟩ (Ac.of rfl rfl ktA ktA) ?_
 intro k ⟨hk,ha,hp⟩
 have kC:=a6J _ ha
 have dS:((Da ys).take k).length=k:=by rw [List.length_take]; omega
 rw [dS] at kC
 refine Goes ?_;repeat' first|apply W2.m|refine W1.m fun h=>?_
 · have aa:k < ys.length:=by omega
   have fP:k < (Da ys).length:=by omega
   have jf:(Da ys)[k]=ys[k].1:=by simp [Da]
   have ak:=Eb (Da ys) k fP
   have dR:=Bo (Da ys) k fP
   have ai:=a3A (Cf ((Da ys).take k)) ys k aa
   rw [jf] at ak dR
   rw [A1 Ax ys k aa]
   generalize cV:ys[k]=y at *
   obtain ⟨y1,y2⟩:=y
   dsimp only at ak dR ai
   refine ⟨by rw [hL]; exact ⟨by omega,by omega,rfl⟩,?_⟩
   refine Goes ?_
   refine Aa.is (Jd _ _) rfl ?_
   refine Goes ?_;repeat' first|apply W2.m|refine W1.m fun h=>?_
   · refine Ab.pure rfl rfl rfl ⟨?_,rfl,rfl⟩
     rw [hp,ai,if_pos h]
   have g1:inR 0 1000000 y1:=h
   have g1':=g1
   unfold inR at g1'
   rw [A1 Ax ys k aa,cV]
   refine ⟨by rw [hL]; exact ⟨by omega,by omega,rfl⟩,?_⟩
   refine Goes ?_
   refine Aa.is (Kl y2 _) rfl ?_
   refine Goes ?_;repeat' first|apply W2.m|refine W1.m fun h=>?_
   · have g2:C3 y2≠0:=h
     refine Ab.pure rfl rfl rfl ⟨?_,rfl,rfl⟩
     rw [hp,ai,if_neg (fun h'=>h' g1),if_pos g2]
   · have g2:¬ C3 y2≠0:=h
     rw [A1 Ax ys k aa,cV]
     refine ⟨by rw [hL]; exact ⟨by omega,by omega,rfl⟩,?_⟩
     refine Goes ?_
     refine ⟨k + 1,⟨by omega,?_,by rw [hp,ai,if_neg (fun h'=>h' g1),if_neg g2,ak]⟩,by omega,Ac.of rfl rfl ⟨⟨rfl,rfl⟩,⟨Aw (by rw [ak,IntWalk.i64_in _ (by dsimp only; omega)]),rfl⟩,⟨Aw Cm,rfl⟩,trivial⟩ trivial⟩
     rw [dR]; exact fun z hz=>(List.mem_append.1 hz).elim (ha z) (fun h'=>by simp at h'; subst h'; exact g1)
 · obtain rfl:k=ys.length:=by omega
   have ht:(Da ys).take ys.length=Da ys:=List.take_of_length_le (by omega)
   rw [ht] at ha hp ⊢
   rw [List.drop_length,F5] at hp
   refine Aa.is (Jd _ _) rfl ?_
   refine Goes ?_;repeat' first|apply W2.m|refine W1.m fun h=>?_
   · have hm:¬ inR 0 1000000 (Cf (Da ys)):=h
     rw [if_neg hm] at hp
     refine Ab.pure rfl rfl rfl ⟨?_,rfl,rfl⟩
     rw [hp]
   · have hm:inR 0 1000000 (Cf (Da ys)):=h
     rw [if_pos hm] at hp
     refine Ab.pure rfl rfl rfl ⟨?_,rfl,rfl⟩
     rw [hp]
end Go.Proofs.YtllhgcfacgiabaaGreat
