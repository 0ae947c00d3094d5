import Derived.Test.YtllhgcfacgiabaaGreatM1
import Derived.Deep.Slices
import Derived.WalkKit
import Derived.OwnWalk
namespace Go.Proofs.YtllhgcfacgiabaaGreat
open Go Go.Am Go.RowKit
set_option linter.unusedVariables false
set_option linter.unusedSimpArgs false
theorem Ck (v lo hi:Int) (n:Nat):Ret Tryz.prog 97 [iv v,iv lo,iv hi] [] n true (Is (bv (decide (inR lo hi v))) [] n):=by
 refine Ret.fn Ad Tryz.func97 rfl Tryz.call97 rfl rfl ?_
 refine Goes ?_;repeat' first|apply W2.m|refine W1.m fun h=>?_
 all_goals (refine Ab.pure rfl rfl rfl ⟨bvI ?_,rfl,rfl⟩; simp [inR, *])
theorem Hr (v:Int) (n:Nat):Ret Tryz.prog 182 [iv v] [] n true (Is (bv (decide (inR 0 2147483646 v))) [] n):=by
 refine Ret.fn Ad Tryz.func182 rfl Tryz.call182 rfl rfl ?_
 refine Goes ?_;repeat' first|apply W2.m|refine W1.m fun h=>?_
 all_goals (refine Ab.pure rfl rfl rfl ⟨bvI ?_,rfl,rfl⟩; simp [inR, *])
theorem a5l (z:Int) (n:Nat):Ret Tryz.prog 181 [iv z] [] n true (Is (.own n 4) [(n,.list 5 1 (uvs (four z)))] (n + 1)):=by
 refine Ret.fn Ad Tryz.func181 rfl Tryz.call181 rfl rfl ?_
 refine Goes ?_
 refine Ab.mk' [0] rfl rfl rfl rfl rfl rfl rfl ⟨rfl,?_,rfl⟩
 simp only [IntKind.wrap_u8]
 rfl
theorem R9 (a b:List Int) (n:Nat) (hl:a.length<=1048576):Ret Tryz.prog 82 [il a,il b] [] n true (Is (bv (decide (a=b))) [] n):=by
 refine Ret.fn Ad Tryz.func82 rfl Tryz.call82 rfl rfl ?_
 refine Goes ?_;repeat' first|apply W2.m|refine W1.m fun h=>?_
 · refine Ab.pure rfl rfl rfl ⟨?_,rfl,rfl⟩
   refine bvI ?_
   have:a≠b:=fun e=>h (by rw [e])
   simp [this]
 · simp only [List.length_map] at h
   have dZ:a.length=b.length:=by omega
   refine Ao.go (fun k:Nat=>k<=a.length/\a.take k=b.take k) (fun k=>⟨[(0,il a),(1,il b),(5,iv k)],[],0⟩) (fun k=>a.length - k) 0 ⟨Nat.zero_le _,rfl⟩ (Ac.of rfl rfl ktA trivial) ?_
   intro k ⟨hk,hp⟩
   refine Goes ?_;repeat' first|apply W2.m|refine W1.m fun h=>?_
   · simp only [List.length_map] at h
     have bH:k < a.length:=by omega
     have cy:k < b.length:=by omega
     rw [A1 iv1 a k (by omega)]
     refine ⟨by (first | exact ⟨by omega,by omega,rfl⟩ | (simp only [List.length_map]; exact ⟨by omega,by omega,rfl⟩)),?_⟩
     refine Goes ?_
     rw [A1 iv1 b k (by omega)]
     refine ⟨by (first | exact ⟨by omega,by omega,rfl⟩ | (simp only [List.length_map]; exact ⟨by omega,by omega,rfl⟩)),?_⟩
     refine Goes ?_;repeat' first|apply W2.m|refine W1.m fun h=>?_
     · refine Ab.pure rfl rfl rfl ⟨?_,rfl,rfl⟩
       refine bvI ?_
       have:a≠b:=fun e=>h (by subst e; rfl)
       simp [this]
     · have he:a[k]=b[k]:=by omega
       exact ⟨k + 1,⟨by omega,by rw [Bo a k bH,Bo b k cy,hp,he]⟩,by omega,(Ac.of rfl rfl ktA trivial)⟩
   · simp only [List.length_map] at h
     refine Ab.pure rfl rfl rfl ⟨?_,rfl,rfl⟩
     refine bvI ?_
     rw [List.take_of_length_le (by omega),List.take_of_length_le (by omega)] at hp
     simp [hp]
theorem a05 (zs:List Int) (n:Nat) (hz:∀ z∈zs,Vx z) (hl:zs.length<=1048576):Ret Tryz.prog 169 [ul zs] [] n true (Is (iv (Pw zs)) [] n):=by
 refine Ret.fn Ad Tryz.func169 rfl Tryz.call169 rfl rfl ?_
 refine Goes ?_
 refine Ao.go (fun k:Nat=>k<=zs.length) (fun k=>⟨[(0,ul zs),(3,iv (Pw (zs.take k))),(4,iv k)],[],0⟩) (fun k=>zs.length - k) 0 (Nat.zero_le _) (Ac.of rfl rfl ktA trivial) ?_
 intro k hk
 have hb:=O4 (zs.take k)
 refine Goes ?_;repeat' first|apply W2.m|refine W1.m fun h=>?_
 · simp only [List.length_map] at h
   have aa:k < zs.length:=by omega
   have hu:=hz zs[k] (List.getElem_mem aa)
   unfold Vx at hu
   rw [A1 uv1 zs k (by omega)]
   refine ⟨by (first | exact ⟨by omega,by omega,rfl⟩ | (simp only [List.length_map]; exact ⟨by omega,by omega,rfl⟩)),?_⟩
   refine Goes ?_
   exact ⟨k + 1,by omega,by omega,Ac.of rfl rfl ⟨⟨rfl,rfl⟩,⟨Aw (by rw [a00 zs k aa]; exact Cm),rfl⟩,⟨Aw Cm,rfl⟩,trivial⟩ trivial⟩
 · simp only [List.length_map] at h
   refine Ab.pure rfl rfl rfl ⟨?_,rfl,rfl⟩
   rw [List.take_of_length_le (by omega)]
theorem P6 (zs:List Int) (n:Nat) (hz:∀ z∈zs,Vx z) (hl:zs.length<=4000):Ret Tryz.prog 176 [ul zs] [] n true (Is (.agg [iv 0,iv (Pw zs)]) [] n):=by
 refine Ret.fn Ad Tryz.func176 rfl Tryz.call176 rfl rfl ?_
 refine Goes ?_;repeat' first|apply W2.m|refine W1.m fun h=>?_
 · simp only [List.length_map] at h; omega
 rw [List.length_map]
 refine Ao.go (fun k:Nat=>k<=zs.length) (fun k=>⟨[(0,ul zs),(3,.val (.int .u64 (Pw (zs.take k)))),(12,iv k),(10,ul zs),(11,iv zs.length),(2,.pt 0 0 0)],[(0,.box [iv 0,iv 0])],1⟩) (fun k=>zs.length - k) 0 (Nat.zero_le _) (Ac.of rfl rfl ktA ktA) ?_
 intro k hk
 have hb:=O4 (zs.take k)
 refine Goes ?_;repeat' first|apply W2.m|refine W1.m fun h=>?_
 · have aa:k < zs.length:=by omega
   have hu:=hz zs[k] (List.getElem_mem aa)
   unfold Vx at hu
   rw [A1 uv1 zs k (by omega)]
   refine ⟨by (first | exact ⟨by omega,by omega,rfl⟩ | (simp only [List.length_map]; exact ⟨by omega,by omega,rfl⟩)),?_⟩
   refine Goes ?_
   exact ⟨k + 1,by omega,by omega,Ac.of rfl rfl ⟨⟨rfl,rfl⟩,⟨Aw (by rw [a00 zs k aa]; exact Cm),rfl⟩,⟨Aw Cm,rfl⟩,⟨rfl,rfl⟩,⟨rfl,rfl⟩,⟨rfl,rfl⟩,trivial⟩ ktA⟩
 · refine Ab.pure rfl rfl rfl ⟨?_,rfl,rfl⟩
   rw [List.take_of_length_le (by omega),IntWalk.i64_in _ (by have:=O4 zs; omega)]
theorem H2 (zs:List Int) (n:Nat) (hl:zs.length<=200):Ret Tryz.prog 149 [il zs] [] n true (Is (iv (Mo zs)) [] n):=by
 refine Ret.fn Ad Tryz.func149 rfl Tryz.call149 rfl rfl ?_
 refine Goes ?_
 refine Ao.go (fun k:Nat=>k<=zs.length) (fun k=>⟨[(0,il zs),(3,.own 0 (4 * k)),(4,iv k)],[(0,.list 5 1 (uvs (Gn (zs.take k))))],1⟩) (fun k=>zs.length - k) 0 (Nat.zero_le _) (Ac.of rfl rfl ktA ktA) ?_
 intro k hk
 have dQ:(Gn (zs.take k)).length=4 * k:=by rw [Ua,List.length_take]; omega
 refine Goes ?_;repeat' first|apply W2.m|refine W1.m fun h=>?_
 · simp only [List.length_map] at h
   have aa:k < zs.length:=by omega
   rw [A1 iv1 zs k (by omega)]
   refine ⟨by (first | exact ⟨by omega,by omega,rfl⟩ | (simp only [List.length_map]; exact ⟨by omega,by omega,rfl⟩)),?_⟩
   refine Goes ?_
   refine Aa.is (a5l _ _) rfl ?_
   refine Goes ?_
   refine ⟨⟨Az,Az,Az,Az,Ky⟩,?_⟩
   refine Goes ?_
   refine ⟨k + 1,by omega,by omega,Ac.of rfl rfl ⟨⟨rfl,rfl⟩,⟨P4 Az,rfl⟩,⟨Aw Cm,rfl⟩,trivial⟩ ⟨⟨Ch ?_,rfl,rfl⟩,trivial⟩⟩
   rw [R4 _ dQ,R4 _ (X2 _),<- List.map_append,Bo zs k aa,X3]
 · simp only [List.length_map] at h
   obtain rfl:k=zs.length:=by omega
   rw [List.take_length] at dQ ⊢
   refine Aa.convIs (a05 (Gn zs) _ (a3v _) (by omega)) (by show [AV.lst (List.take _ (uvs (Gn zs)))]=_; rw [R4 _ dQ]) ⟨by show _<=(uvs (Gn zs)).length; exact Az,trivial⟩ rfl trivial ?_
   refine Goes ?_
   refine Ab.pure rfl rfl rfl ⟨?_,rfl,rfl⟩
   rfl
def Lk (zs:List Int):List AV:=if 200 < zs.length then [iv 2,iv 0] else if Dg 0 2147483646 zs then [iv 0,iv (Mo zs)] else [iv 3,iv 0]
theorem Ug (zs:List Int) (lo hi:Int) (n:Nat) (hl:zs.length<=1048576):Ret Tryz.prog 189 [il zs,iv lo,iv hi] [] n true (Is (bv (Dg lo hi zs)) [] n):=by
 refine Ret.fn Ad Tryz.func189 rfl Tryz.call189 rfl rfl ?_
 refine Goes ?_
 refine Ao.go (fun k:Nat=>k<=zs.length/\Dg lo hi (zs.take k)=true) (fun k=>⟨[(0,il zs),(1,iv lo),(2,iv hi),(7,iv k)],[],0⟩) (fun k=>zs.length - k) 0 ⟨Nat.zero_le _,rfl⟩ (Ac.of rfl rfl ktA trivial) ?_
 intro k ⟨hk,hp⟩
 refine Goes ?_;repeat' first|apply W2.m|refine W1.m fun h=>?_
 · simp only [List.length_map] at h
   have aa:k < zs.length:=by omega
   rw [A1 iv1 zs k (by omega)]
   refine ⟨by (first | exact ⟨by omega,by omega,rfl⟩ | (simp only [List.length_map]; exact ⟨by omega,by omega,rfl⟩)),?_⟩
   refine Goes ?_
   refine Aa.is (Ck _ _ _ _) rfl ?_
   refine Goes ?_;repeat' first|apply W2.m|refine W1.m fun h=>?_
   · refine Ab.pure rfl rfl rfl ⟨?_,rfl,rfl⟩
     rw [R3 aa (by simpa [inR] using h)]
   · exact ⟨k + 1,⟨by omega,by rw [O5 aa,hp]; simpa [inR] using h⟩,by omega,(Ac.of rfl rfl ktA trivial)⟩
 · simp only [List.length_map] at h
   refine Ab.pure rfl rfl rfl ⟨?_,rfl,rfl⟩
   rw [List.take_of_length_le (by omega)] at hp; rw [hp]
theorem Fg (zs:List Int) (n:Nat) (hl:zs.length<=1048576):Ret Tryz.prog 205 [il zs] [] n true (Is (.own n zs.length) [(n,.list 2 1 (ivs zs))] (n + 1)):=by
 refine Ret.fn Ad Tryz.func205 rfl Tryz.call205 rfl rfl ?_
 refine Goes ?_
 refine ⟨⟨Az,Az,Az,Az,Ky⟩,?_⟩
 refine Goes ?_
 refine Ab.mk' [0] rfl rfl rfl rfl rfl rfl rfl ⟨?_,?_,rfl⟩
 · exact R5 Az
 · exact R6 rfl
theorem Iv (zs:List Int) (n:Nat) (hl:zs.length<=1048576):Ret Tryz.prog 187 [il zs] [] n true (Is (.agg (Lk zs)) [] n):=by
 refine Ret.fn Ad Tryz.func187 rfl Tryz.call187 rfl rfl ?_
 refine Goes ?_;repeat' first|apply W2.m|refine W1.m fun h=>?_
 · simp only [List.length_map] at h
   refine Ab.pure rfl rfl rfl ⟨?_,rfl,rfl⟩
   unfold Lk; rw [if_pos (by omega)]
 simp only [List.length_map] at h ⊢
 refine ⟨by rw [IntWalk.i64_in _ (by omega)]; refine ⟨by omega,by omega,by omega,?_⟩; show _ * 1<=_; omega,?_⟩
 refine Goes ?_
 refine Ao.go (fun k:Nat=>k<=zs.length/\Dg 0 2147483646 (zs.take k)=true) (fun k=>⟨[(3,.own 1 (4 * k)),(15,il zs),(16,iv zs.length),(17,iv k),(2,.pt 0 0 0)],[(1,.list 5 1 (uvs (Gn (zs.take k)))),(0,.box [iv 0,iv 0])],2⟩) (fun k=>zs.length - k) 0 ⟨Nat.zero_le _,rfl⟩ ?_ ?_
 · rw [List.length_map]; exact (Ac.of rfl rfl ktA ktA)
 intro k ⟨hk,hp⟩
 have dQ:(Gn (zs.take k)).length=4 * k:=by rw [Ua,List.length_take]; omega
 refine Goes ?_;repeat' first|apply W2.m|refine W1.m fun h=>?_
 · have aa:k < zs.length:=by omega
   rw [A1 iv1 zs k (by omega)]
   refine ⟨by (first | exact ⟨by omega,by omega,rfl⟩ | (simp only [List.length_map]; exact ⟨by omega,by omega,rfl⟩)),?_⟩
   refine Goes ?_
   refine Aa.is (Hr _ _) rfl ?_
   refine Goes ?_;repeat' first|apply W2.m|refine W1.m fun h=>?_
   · refine Ab.pure rfl rfl rfl ⟨?_,rfl,rfl⟩
     unfold Lk
     rw [if_neg (by omega),R3 aa (by simpa [inR] using h)]; rfl
   · have hr:inR 0 2147483646 zs[k]:=by simpa using h
     unfold inR at hr
     refine ⟨⟨Az,Az,Az,Az,Ky⟩,?_⟩
     refine Goes ?_
     refine ⟨k + 1,⟨by omega,by rw [O5 aa,hp]; simpa [inR] using h⟩,by omega,Ac.of rfl rfl ⟨⟨P4 Az,rfl⟩,⟨rfl,rfl⟩,⟨rfl,rfl⟩,⟨Aw Cm,rfl⟩,⟨rfl,rfl⟩,trivial⟩ ⟨⟨Ch ?_,rfl,rfl⟩,⟨rfl,rfl,rfl⟩,trivial⟩⟩
     rw [R4 _ dQ,Bo zs k aa,X3]
     show _=uvs _
     rw [show uvs (Gn (zs.take k)++four zs[k])=uvs (Gn (zs.take k))++uvs (four zs[k]) from List.map_append ..]
     congr 1
     rw [IntWalk.u32_in _ (by omega)]
     simp only [IntKind.wrap_u8]
     rfl
 · obtain rfl:k=zs.length:=by omega
   rw [List.take_length] at dQ hp ⊢
   refine Aa.convIs (P6 (Gn zs) _ (a3v _) (by omega)) ?_ ?_ rfl trivial ?_
   · show [AV.lst (List.take _ (uvs (Gn zs)))]=_; rw [R4 _ dQ]
   · exact ⟨by show _<=(uvs (Gn zs)).length; exact Az,trivial⟩
   refine Goes ?_
   refine Ab.pure rfl rfl rfl ⟨?_,rfl,rfl⟩
   unfold Lk
   rw [if_neg (by omega),if_pos hp]; rfl
theorem Mr (zs:List Int) (n:Nat) (hl:zs.length<=1048576):Ret Tryz.prog 213 [il zs] [] n true (Is (.own n zs.length) [(n,.list 2 1 (ivs zs))] (n + 1)):=by
 refine Ret.fn Ad Tryz.func213 rfl Tryz.call213 rfl rfl ?_
 refine Goes ?_
 rw [List.length_map]
 refine ⟨⟨by omega,by omega,by omega,by show _ * 8<=_; omega⟩,?_⟩
 refine Goes ?_
 refine Ao.go (fun k:Nat=>k<=zs.length) (fun k=>⟨[(0,il zs),(3,.own 0 zs.length),(4,iv k)],[(0,.list 2 1 (ivs (Jw zs k)))],1⟩) (fun k=>zs.length - k) 0 (Nat.zero_le _) ?_ ?_
 · refine Ac.of rfl rfl ktA ⟨⟨Ch ?_,rfl,rfl⟩,trivial⟩
   rw [Qu]; exact b1Y iv1 _ _
 intro k hk
 have bh:=Ub zs k hk
 refine Goes ?_;repeat' first|apply W2.m|refine W1.m fun h=>?_
 · simp only [List.length_map] at h
   have aa:k < zs.length:=by omega
   rw [A1 iv1 zs k (by omega)]
   refine ⟨by (first | exact ⟨by omega,by omega,rfl⟩ | (simp only [List.length_map]; exact ⟨by omega,by omega,rfl⟩)),?_⟩
   refine Goes ?_
   refine ⟨by simp only [List.length_map]; omega,?_⟩
   refine Goes ?_
   refine ⟨k + 1,by omega,by omega,Ac.of rfl rfl ktA ⟨⟨Ch ?_,rfl,rfl⟩,trivial⟩⟩
   rw [setRow _ _ _ (by omega) _ rfl,Uc zs k aa]
 · simp only [List.length_map] at h
   obtain rfl:k=zs.length:=by omega
   rw [Ud]
   refine Ab.mk' [0] rfl rfl rfl rfl rfl rfl rfl ⟨?_,?_,rfl⟩
   · rfl
   · rfl
theorem Nx (zs:List Int) (i k0 n:Nat) (hl:zs.length<=1048576) (hk:k0<=1099511627776):Ret Tryz.prog 83 [.own i zs.length,iv k0] [(i,.list 2 1 (ivs zs))] n true (Is (iv ((k0 + zs.length:Nat):Int)) [(i,.list 2 1 (ivs (marks k0 zs.length)))] n):=by
 refine Ret.of_run (tt:=tt) Ad Tryz.func83 rfl Tryz.call83 [i] [.list 2 1 (ivs zs)] [.own 0 zs.length,iv k0] true n _ rfl (Cj i) (by exact Nat.le_of_ble_eq_true rfl) rfl rfl ?_
 refine Goes ?_
 refine Ao.go (fun k:Nat=>k<=zs.length) (fun k=>⟨[(0,.own 0 zs.length),(1,iv ((k0 + k:Nat):Int)),(5,iv k)],[(0,.list 2 1 (ivs (Vd k0 zs k)))],1⟩) (fun k=>zs.length - k) 0 (Nat.zero_le _) ?_ ?_
 · exact (Ac.of rfl rfl ktA ktA)
 intro k aW
 have m5:=a7x k0 zs k aW
 refine Goes ?_;repeat' first|apply W2.m|refine W1.m fun h=>?_
 · have aa:k < zs.length:=by omega
   refine ⟨by simp only [List.length_map]; omega,?_⟩
   refine Goes ?_
   refine ⟨k + 1,by omega,by omega,Ac.of rfl rfl ktA ⟨⟨Ch ?_,rfl,rfl⟩,trivial⟩⟩
   rw [setRow _ _ _ (by omega) _ rfl,a7y k0 zs k aa]
 · obtain rfl:k=zs.length:=by omega
   rw [a7z]
   refine Ab.mk' [] rfl rfl rfl rfl rfl rfl rfl ⟨rfl,rfl,rfl⟩
end Go.Proofs.YtllhgcfacgiabaaGreat
namespace Go.Proofs.YtllhgcfacgiabaaGreat
open Go Go.Am Go.RowKit
set_option linter.unusedVariables false
set_option linter.unusedSimpArgs false
theorem a7G (k:Int) (n:Nat):Ret Tryz.prog 298 [iv k] [] n true (Is (bv (decide (inR 0 899 k))) [] n):=by
 refine Ret.fn Ad Tryz.func298 rfl Tryz.call298 rfl rfl ?_
 refine Goes ?_;repeat' first|apply W2.m|refine W1.m fun h=>?_
 all_goals (refine Ab.pure rfl rfl rfl ⟨?_,rfl,rfl⟩; refine bvI ?_; simp [inR, *])
theorem a7H (k:Int) (n:Nat):Ret Tryz.prog 296 [iv k] [] n true (Is (bv (decide (inR 0 899 k))) [] n):=by
 refine Ret.fn Ad Tryz.func296 rfl Tryz.call296 rfl rfl ?_
 refine Goes ?_
 refine Aa.is (Ck _ _ _ _) rfl ?_
 refine Goes ?_
 refine Ab.pure rfl rfl rfl ⟨?_,rfl,rfl⟩
 rfl
theorem Jc (k:Int) (n:Nat):Ret Tryz.prog 245 [iv k] [] n true (Is (bv (decide (inR 0 9999 k))) [] n):=by
 refine Ret.fn Ad Tryz.func245 rfl Tryz.call245 rfl rfl ?_
 refine Goes ?_;repeat' first|apply W2.m|refine W1.m fun h=>?_
 all_goals (refine Ab.pure rfl rfl rfl ⟨?_,rfl,rfl⟩; refine bvI ?_; simp [inR, *])
theorem Sa (l:List Int) (n:Nat) (hl:l.length<=200) (ha:Dg 0 2147483646 l=true):Ret Tryz.prog 293 [il l] [] n true (Is (iv (Mo l % 1000)) [] n):=by
 refine Ret.fn Ad Tryz.func293 rfl Tryz.call293 rfl rfl ?_
 refine Goes ?_
 refine Aa.is (Iv l _ (by omega)) rfl ?_
 refine Goes ?_
 unfold Lk
 rw [if_neg (by omega),if_pos ha]
 refine Goes ?_
 refine Ab.pure rfl rfl rfl ⟨?_,rfl,rfl⟩
 rw [IntWalk.rem_in _ _ (by have:=V6 l; omega)]
theorem a5m (k t:Int) (n:Nat):Ret Tryz.prog 297 [iv k,iv t] [] n true (Is (iv (Ve k t)) [] n):=by
 refine Ret.fn Ad Tryz.func297 rfl Tryz.call297 rfl rfl ?_
 refine Goes ?_
 refine Aa.convIs (H2 [k,t,7] _ (Nat.le_of_ble_eq_true rfl)) ?_ ?_ rfl trivial ?_
 · rfl
 · exact ⟨Nat.le_refl _,trivial⟩
 refine Goes ?_
 refine Ab.pure rfl rfl rfl ⟨?_,rfl,rfl⟩
 rw [IntWalk.rem_in _ _ (by have:=V6 [k,t,7]; omega)]
 rfl
theorem b10 {k t:Int} (h:inR 0 899 k) (h':inR 0 2147483646 t):Dg 0 2147483646 [k,t,7]=true:=by
 unfold inR at h h'
 simp [Dg]; omega
theorem Ny (k t:Int) (n:Nat):Ret Tryz.prog 294 [iv k,iv t] [] n true (Is (.agg (Vf k t)) [] n):=by
 refine Ret.fn Ad Tryz.func294 rfl Tryz.call294 rfl rfl ?_
 refine Goes ?_
 refine Aa.is (a7G _ _) rfl ?_
 refine Goes ?_;repeat' first|apply W2.m|refine W1.m fun h=>?_
 · refine Ab.pure rfl rfl rfl ⟨?_,rfl,rfl⟩
   unfold Vf; rw [if_neg (fun h'=>absurd h'.1 (by assumption))]
 refine Aa.is (Hr _ _) rfl ?_
 refine Goes ?_;repeat' first|apply W2.m|refine W1.m fun h=>?_
 · refine Ab.pure rfl rfl rfl ⟨?_,rfl,rfl⟩
   unfold Vf; rw [if_neg (fun h'=>absurd h'.2 (by assumption))]
 refine Aa.convIs (Sa [k,t,7] _ (Nat.le_of_ble_eq_true rfl) (b10 (by assumption) (by assumption))) ?_ ?_ rfl trivial ?_
 · rfl
 · exact ⟨Nat.le_refl _,trivial⟩
 refine Goes ?_
 refine Ab.pure rfl rfl rfl ⟨?_,rfl,rfl⟩
 unfold Vf; rw [if_pos ⟨by assumption,by assumption⟩]
 rfl
end Go.Proofs.YtllhgcfacgiabaaGreat
namespace Go.Proofs.YtllhgcfacgiabaaGreat
open Go Go.Am Go.RowKit Go.ChangeShapes Go.WideShapes Go.ChangeAt
set_option linter.unusedVariables false
def Sl (k:IntKind) (w:World) (v:Value) (zs:List Int):Prop :=
 ∃ a cap,v=.slice a zs.length cap/\zs.length<=cap/\cap<=maxLen /\
   (0 < zs.length->∃ b off,a=some ⟨b,off,none⟩/\∀ i,i < zs.length->w.cell? ⟨b,off + i,none⟩=some (.int k (zs.getD i 0)))/\∀ n∈zs,(Lit.int k n).wf=true
theorem Sl.nil (k:IntKind) (w:World):Sl k w (.slice none 0 0) []:=⟨none,0,rfl,Nat.le_refl _,by unfold maxLen; omega,fun h=>by simp at h,fun n hn=>by simp at hn⟩
theorem a5n {P:Program} (w:World) (A:Nat->Prop) (hA:∀ b,A b->b < w.heap.size):Core ⟨P,w,Mut (fun _=>none),A,0,fun _=>none,[0]⟩ (fun _=>none) A [] 0 w:=by
 refine ⟨Frame.refl _ _,fun b hb=>.inl hb,hA,?_,?_,?_,fun _ _=>rfl,?_,?_,⟨fun _ _=>rfl,fun e=>by cases e⟩⟩
 · rintro b _ ⟨id,c,s,h⟩; cases h
 · intro id g c s h; cases h
 · intro i j g c d s r h; cases h
 · intro id o h; cases (show (none:Option A2)=some o from h)
 · intro id p h; cases h
theorem a7I {P:Program} {f:FuncId} {args:List AV} {w:World} {Q:AV->Hp->Nat->Prop} (h:Ret P f args [] 0 true Q) (hQ:∀ r ho m,Q r ho m->r=bv true) (A:Nat->Prop) (hA:∀ b,A b->b < w.heap.size) (vs:List Value) (hv:Al (Bi w A (fun _=>none)) vs args) (hu:∀ x∈args,x.uses (inH [])) :
 Calls P f vs.toArray w fun e w'=>e=.returned (.bool true)/\Below w.heap.size w w':=by
 refine (h.calls w (fun _=>none) A vs (a5n w A hA) (fun _ _=>rfl) hv hu (fun id o h=>by cases (show (none:Option A2)=some o from h))).mono ?_
 rintro e w' ⟨v,r,ho,m,ι',S',rfl,hq,_,hC,_,hr,_⟩
 have:=hQ r ho m hq
 subst this
 have:=hr.val_inv.1
 subst this
 refine ⟨rfl,hC.frame.os,hC.frame.tape,hC.frame.output,hC.frame.size,fun k hk=>hC.frame.block k hk ?_⟩
 rintro ⟨id,c,s,e⟩; cases e
theorem b1j {α β:Type} (g:α->β):∀ (zs:List α),(zs.map fun z=>[g z]).flatten=zs.map g
 | []=>rfl
 | x::r=>by rw [List.map_cons,List.flatten_cons,b1j g r]; rfl
theorem Sl.rd {k:IntKind} {w:World} {v:Value} {zs:List Int} (h:Sl k w v zs):Rd w (fun b=>b < w.heap.size) v (.lst (zs.map fun z=>[.val (.int k z)])):=by
 obtain ⟨a,cap,rfl,hl,hm,aj,_⟩:=h
 by_cases h0:zs=[]
 · subst h0; exact .nil _ _ hm
 · have hp:0 < zs.length:=List.length_pos_iff.2 h0
   obtain ⟨b,off,rfl,hc⟩:=aj hp
   have hb:b < w.heap.size:=World.block_lt_of_cell? _ _ (hc 0 hp)
   have:=Rd.lst (w:=w) (S:=fun b=>b < w.heap.size) (zs.map fun z=>[AV.val (.int k z)]) b off cap 1 (zs.map fun z=>Value.int k z) (by simpa using h0) (by simpa using hl) hm hb (fun r hr=>Vy hr) (by simp)
    (fun i v hi=>by
      simp only [List.getElem?_map,Option.map_eq_some_iff] at hi
      obtain ⟨z,hz,rfl⟩:=hi
      have aa:i < zs.length:=(List.getElem?_eq_some_iff.1 hz).1
      rw [hc i aa]
      simp [List.getD_eq_getElem?_getD,hz])
    (fun i v a hi ha=>by
      have hf:=b1j (fun z=>AV.val (.int k z)) zs
      rw [hf] at ha
      simp only [List.getElem?_map,Option.map_eq_some_iff] at hi ha
      obtain ⟨z,hz,rfl⟩:=hi
      obtain ⟨z',iy,rfl⟩:=ha
      rw [hz] at iy; cases iy
      exact .val _ rfl)
   rw [List.length_map] at this
   exact this
theorem a7J {args:List AV} {K:Nat->Prop} (h:Nw args=true):∀ x∈args,x.uses K:=by
 induction args with
 | nil=>intro x hx; cases hx
 | cons a r ih =>
   simp only [Nw,Bool.and_eq_true,Bool.not_eq_true'] at h
   intro x hx
   rcases List.mem_cons.1 hx with rfl | hx
   · cases x with
     | tup vs=>simp [AV.isTup] at h
     | agg cs=>intro c hc id hid; have:=Cb (List.all_eq_true.1 h.1.1 c hc) id hid; simp [Af] at this
     | own i len=>simp [Fx,Df,Af] at h
     | pt i r o=>simp [Fx,Df,Af] at h
     | sb i r o l=>simp [Fx,Df,Af] at h
     | mp i=>simp [Fx,Df,Af] at h
     | clo i=>simp [Fx,Df,Af] at h
     | _=>trivial
   · exact ih h.2 x hx
end Go.Proofs.YtllhgcfacgiabaaGreat
namespace Go.Proofs.YtllhgcfacgiabaaGreat
open Go Go.Am Go.RowKit Go.ChangeShapes Go.WideShapes Go.ChangeAt Go.Deep
set_option linter.unusedVariables false
section
variable {H:Type} {enc:TypeId × Value->H} {P:Program} {w:World} {base:Nat} {sp:Nat->Bool} {held:Bool}
abbrev Old (w:World):Nat->Prop:=fun b=>b < w.heap.size
def Reads (enc:TypeId × Value->H) (P:Program) (w:World) (base:Nat) (sp:Nat->Bool) (held:Bool) (t:TypeId) (Z:List AV->Prop):Prop :=
 ∀ fuel cs x,DataW.trod enc P w base sp held fuel t cs=some x->∃ us,Z us/\Al (Rd w (Old w)) cs us
theorem Reads.mono {t:TypeId} {Z Z':List AV->Prop} (h:∀ us,Z us->Z' us) (hr:Reads enc P w base sp held t Z):Reads enc P w base sp held t Z':=fun fuel cs x hx=>let ⟨us,h1,h2⟩:=hr fuel cs x hx; ⟨us,h us h1,h2⟩
theorem Uh {t:TypeId} {k:IntKind} (ht:P.underlying t=some (.int k)):Reads enc P w base sp held t fun us=>∃ z,us=[.val (.int k z)]/\(Lit.int k z).wf=true:=by
 intro fuel cs x h
 obtain ⟨n,rfl,_,hw⟩:=DataW.trod_int ht h
 exact ⟨[.val (.int k n)],⟨n,rfl,hw⟩,.val _ rfl,trivial⟩
def P7 (P:Program):Nat->List Field->Nat->Bool
 | o,[],e=>Nat.beq o e
 | o,f::r,e=>Nat.beq f.offset o&&P7 P (o + P.cellsOf f.type) r e
theorem Sb {fuel:Nat} {cs:List Value}:∀ (l:List Field) (o:Nat) (Zs:List (List AV->Prop)),
 (∀ f∈l,∃ y,DataW.trod enc P w base sp held fuel f.type ((cs.drop f.offset).take (P.cellsOf f.type))=some y)->P7 P o l cs.length=true->Al (fun (f:Field) (Z:List AV->Prop)=>Reads enc P w base sp held f.type Z) l Zs ->
 ∃ parts:List (List AV),Al (fun (Z:List AV->Prop) p=>Z p) Zs parts/\Al (Rd w (Old w)) (cs.drop o) parts.flatten
 | [],o,[],hx,ho,hz=>by
   have:o=cs.length:=Nat.eq_of_beq_eq_true ho
   subst this
   exact ⟨[],trivial,by simp [Al]⟩
 | f::r,o,Z::Zs,hx,ho,hz=>by
   simp only [P7,Bool.and_eq_true] at ho
   have dl:f.offset=o:=Nat.eq_of_beq_eq_true ho.1
   obtain ⟨y,hy⟩:=hx f (List.mem_cons_self ..)
   have jv:Reads enc P w base sp held f.type Z:=hz.1
   obtain ⟨p,jx,lU⟩:=jv fuel _ y hy
   obtain ⟨parts,h1,h2⟩:=Sb r (o + P.cellsOf f.type) Zs (fun g hg=>hx g (List.mem_cons_of_mem _ hg)) ho.2 hz.2
   refine ⟨p::parts,⟨jx,h1⟩,?_⟩
   rw [List.flatten_cons]
   have e:cs.drop o=(cs.drop o).take (P.cellsOf f.type)++cs.drop (o + P.cellsOf f.type):=by
    rw [<- List.drop_drop,List.take_append_drop]
   rw [e]
   rw [dl] at lU
   exact Al.append lU h2
 | [],_,_::_,_,_,hz=>hz.elim
 | _::_,_,[],_,_,hz=>hz.elim
theorem Fs {t:TypeId} {fs:Array Field} (ht:P.underlying t=some (.struct fs)) (Zs:List (List AV->Prop)) (ho:P7 P 0 fs.toList (P.cellsOf t)=true) (hz:Al (fun (f:Field) (Z:List AV->Prop)=>Reads enc P w base sp held f.type Z) fs.toList Zs) :
 Reads enc P w base sp held t fun us=>∃ parts:List (List AV),Al (fun (Z:List AV->Prop) p=>Z p) Zs parts/\us=parts.flatten:=by
 intro fuel cs x h
 obtain ⟨xs,n,_,_,hl,hn,hm⟩:=DataW.trod_struct ht h
 obtain ⟨parts,h1,h2⟩:=Sb (fuel:=n) (cs:=cs) fs.toList 0 Zs (fun f hf=>by
  obtain ⟨i,hi⟩:=List.mem_iff_getElem?.1 hf
  have aQ:fs[i]?=some f:=by simpa using hi
  have aa:i < xs.length:=by rw [hn]; exact (Array.getElem?_eq_some_iff.1 aQ).1
  exact ⟨xs[i],by rw [hm i f aQ,List.getElem?_eq_getElem aa]⟩) (by rw [hl]; exact ho) hz
 exact ⟨parts.flatten,⟨parts,h1,rfl⟩,by simpa using h2⟩
theorem Nz {α:Type} {s:Nat} (hs:0 < s) (rows:List (List α)) (hr:∀ r∈rows,r.length=s) (i:Nat) (v:α) (h:rows.flatten[i]?=some v):i / s < rows.length/\(rows.getD (i / s) [])[i % s]?=some v:=by
 have aa:=(List.getElem?_eq_some_iff.1 h).1
 rw [Ay rows hr] at aa
 have hd:i / s < rows.length:=(Nat.div_lt_iff_lt_mul hs).2 aa
 refine ⟨hd,?_⟩
 rw [<- Ke rows (i / s) hr hd,List.getElem?_take,if_pos (Nat.mod_lt _ hs),List.getElem?_drop]
 rw [show i / s * s + i % s=i from by rw [Nat.mul_comm]; exact Nat.div_add_mod i s]
 exact h
theorem Il {t e:TypeId} {Z:List AV->Prop} (ht:P.underlying t=some (.slice e)) (hs:0 < P.cellsOf e) (am:Reads enc P w base sp held e Z) :
 Reads enc P w base sp held t fun us=>∃ rows:List (List AV),us=[.lst rows]/\rows.length<=maxLen/\∀ r∈rows,Z r:=by
 intro fuel cs x h
 rcases open_slice ht h with ⟨rfl,_⟩ | ⟨a,len,cap,m,n,D,Pl,rfl,hb,hl,hm,dp,_,hx⟩
 · exact ⟨[.lst []],⟨[],rfl,Nat.zero_le _,by simp⟩,.nil _ _ (Nat.zero_le _),trivial⟩
 · have iN:len<=m:=by rw [dp]; split <;> omega
   by_cases h0:len=0
   · subst h0
     exact ⟨[.lst []],⟨[],rfl,Nat.zero_le _,by simp⟩,.nil _ _ hm,trivial⟩
   · have each:∀ i,i < len->∃ y:List Value × List AV,(w.cells? base (a.add (i * P.cellsOf e)) (P.cellsOf e)=some y.1)/\Z y.2/\Al (Rd w (Old w)) y.1 y.2:=by
      intro i hi
      obtain ⟨cs',h1,h2⟩:=hx i (by omega)
      obtain ⟨us,h3,h4⟩:=am _ _ _ h2
      exact ⟨(cs',us),h1,h3,h4⟩
     obtain ⟨y,hy⟩:=choose_lt each
     have ae:∀ i,i < len->(y i).1.length=P.cellsOf e/\(y i).2.length=P.cellsOf e:=fun i hi=>by
      have h1:=(World.cells?_some (hy i hi).1).2.1
      exact ⟨h1,by rw [<- (hy i hi).2.2.length]; exact h1⟩
     have aA:∀ i,i < len->∀ j,j < P.cellsOf e->w.cell? (a.add (i * P.cellsOf e + j))=(y i).1[j]?:=fun i hi j hj=>by
      have h1:=(World.cells?_some (hy i hi).1).2.2 j hj
      rw [<- h1]
      rw [Addr.add_add]
     obtain ⟨b,off,spot⟩:=a
     have jy:spot=none:=by
      have:=aA 0 (by omega) 0 hs
      have aa:0 < (y 0).1.length:=by rw [(ae 0 (by omega)).1]; exact hs
      rw [List.getElem?_eq_getElem aa] at this
      simpa [Addr.add] using World.cell?_spot this
     subst jy
     have bj:∀ k,(⟨b,off,none⟩:Addr).add k=⟨b,off + k,none⟩:=fun k=>by
      simp only [Addr.add]; split <;> simp_all
     have be:b < w.heap.size:=by
      have:=aA 0 (by omega) 0 hs
      have aa:0 < (y 0).1.length:=by rw [(ae 0 (by omega)).1]; exact hs
      rw [List.getElem?_eq_getElem aa,bj] at this
      exact World.block_lt_of_cell? _ _ this
     have jS:∀ r∈(List.range len).map (fun i=>(y i).2),r.length=P.cellsOf e:=by
      intro r hr
      obtain ⟨i,hi,rfl⟩:=List.mem_map.1 hr
      exact (ae i (List.mem_range.1 hi)).2
     have fW:∀ r∈(List.range len).map (fun i=>(y i).1),r.length=P.cellsOf e:=by
      intro r hr
      obtain ⟨i,hi,rfl⟩:=List.mem_map.1 hr
      exact (ae i (List.mem_range.1 hi)).1
     have dH:∀ {α:Type} (g:Nat->List α) (k:Nat),k < len->((List.range len).map g).getD k []=g k:=fun g k hk=>by simp [List.getD_eq_getElem?_getD,hk]
     refine ⟨[.lst ((List.range len).map fun i=>(y i).2)],⟨_,rfl,by simp; omega,fun r hr=>?_⟩,?_,trivial⟩
     · obtain ⟨i,hi,rfl⟩:=List.mem_map.1 hr
       exact (hy i (List.mem_range.1 hi)).2.1
     · have:=Rd.lst (w:=w) (S:=Old w) ((List.range len).map fun i=>(y i).2) b off cap (P.cellsOf e) ((List.range len).map fun i=>(y i).1).flatten (fun e'=>by
        have:=congrArg List.length e'; simp at this; omega) (by simpa using hl) hm be jS (by rw [Ay _ fW]; simp)
        (fun i v hi=>by
          obtain ⟨k1,k2⟩:=Nz hs _ fW i v hi
          have k1':i / P.cellsOf e < len:=by simpa using k1
          rw [dH _ _ k1'] at k2
          have:=aA (i / P.cellsOf e) k1' (i % P.cellsOf e) (Nat.mod_lt _ hs)
          rw [show i / P.cellsOf e * P.cellsOf e + i % P.cellsOf e=i from by rw [Nat.mul_comm]; exact Nat.div_add_mod i _,bj] at this
          rw [this]; exact k2)
        (fun i v av hi ha=>by
          obtain ⟨k1,k2⟩:=Nz hs _ fW i v hi
          obtain ⟨_,k3⟩:=Nz hs _ jS i av ha
          have k1':i / P.cellsOf e < len:=by simpa using k1
          rw [dH _ _ k1'] at k2 k3
          exact ((hy _ k1').2.2).at k2 k3)
       rw [List.length_map,List.length_range] at this
       exact this
theorem Sc {α:Type} {f:α->List AV} {Q:α->Prop} {rows:List (List AV)} (h:∀ r∈rows,∃ x,r=f x/\Q x):∃ xs:List α,rows=xs.map f/\(∀ x∈xs,Q x)/\xs.length=rows.length:=by
 induction rows with
 | nil=>exact ⟨[],rfl,by simp,rfl⟩
 | cons r rs ih =>
   obtain ⟨x,hx,hq⟩:=h r (List.mem_cons_self ..)
   obtain ⟨xs,h1,h2,h3⟩:=ih fun r hr=>h r (List.mem_cons_of_mem _ hr)
   exact ⟨x::xs,by rw [List.map_cons,hx,h1],fun y hy=>by
    rcases List.mem_cons.1 hy with rfl | hy
    · exact hq
    · exact h2 y hy,by simp [h3]⟩
theorem a5o {t e:TypeId} {k:IntKind} (ht:P.underlying t=some (.slice e)) (he:P.underlying e=some (.int k)) (hc:P.cellsOf e=1):Reads enc P w base sp held t fun us=>∃ zs:List Int,us=[.lst (zs.map fun z=>[.val (.int k z)])]/\zs.length<=maxLen/\∀ z∈zs,(Lit.int k z).wf=true :=
 (Il ht (by rw [hc]; decide) (Uh he)).mono fun us ⟨rows,h1,h2,h3⟩=>by
   obtain ⟨zs,g1,g2,g3⟩:=Sc (f:=fun z:Int=>[AV.val (.int k z)]) h3
   exact ⟨zs,by rw [h1,g1],by omega,g2⟩
theorem X9:Tryz.prog.underlying 2=some (.int .i64):=by kernel_rfl
theorem wf_i64 {z:Int} (h:(Lit.int .i64 z).wf=true):Du z:=by
 unfold Du
 simpa [Lit.wf,IntKind.min,IntKind.max,IntKind.signed,IntKind.bits] using h
end
end Go.Proofs.YtllhgcfacgiabaaGreat
