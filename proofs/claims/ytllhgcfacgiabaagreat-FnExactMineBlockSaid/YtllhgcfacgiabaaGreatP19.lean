import Derived.Test.YtllhgcfacgiabaaGreatP12
import Derived.Test.YtllhgcfacgiabaaGreatP16
import Derived.Test.YtllhgcfacgiabaaGreatM1
namespace Go.Proofs.YtllhgcfacgiabaaGreat
open Go Go.Am Go.RowKit
set_option linter.unusedVariables false
set_option linter.unusedSimpArgs false
theorem app1 (s p:List Int):List.take s.length (uvs s)++List.take p.length (uvs p)=uvs (s++p):=by rw [takeU,takeU]; exact (List.map_append ..).symm
theorem app2 (s b p:List Int):List.take (s.length + (List.take b.length (uvs b)).length) (List.take s.length (uvs s)++List.take b.length (uvs b))++List.take p.length (uvs p)=uvs (s++b++p):=by
 rw [takeU,takeU,takeU,List.take_of_length_le (by simp)]; simp
theorem len1 (s p:List Int):s.length + (List.take p.length (uvs p)).length=(s++p).length:=by rw [takeU,List.length_map,List.length_append]
theorem len2 (s b p:List Int):s.length + (List.take b.length (uvs b)).length + (List.take p.length (uvs p)).length=(s++b++p).length:=by rw [len1,len1]
theorem len3 (s b p l:List Int):s.length + (List.take b.length (uvs b)).length + (List.take p.length (uvs p)).length + (List.take l.length (uvs l)).length=(s++b++p++l).length:=by rw [len2,len1]
theorem app3 (s b p l:List Int):List.take (s.length + (List.take b.length (uvs b)).length + (List.take p.length (uvs p)).length) (List.take (s.length + (List.take b.length (uvs b)).length) (List.take s.length (uvs s)++List.take b.length (uvs b))++List.take p.length (uvs p))++List.take l.length (uvs l)=uvs (s++b++p++l):=by
 rw [app2 s b p,len2 s b p]; exact app1 _ _
theorem l3Big_ret (v:Int) (n:Nat) (h:inR 0 2147483646 v):Ret Tryz.prog 211 [iv v] [] n true (Is (.own n (bigN v).length) [(n,.list 5 1 (uvs (bigN v)))] (n + 1)):=by
 unfold inR at h
 have h1:=putN_len (v % 65536)
 have h2:=putN_len (v / 65536)
 refine Ret.fn ttOk Tryz.func211 rfl Tryz.call211 rfl rfl ?_
 refine Goes ?_
 rw [Int.tmod_eq_emod_of_nonneg (by omega)]
 first | refine CallP.is (l3Put_ret (v % 65536) _ ⟨by omega,by omega⟩) rfl ?_ | refine CallQ.is (l3Put_ret (v % 65536) _ ⟨by omega,by omega⟩) rfl rfl ?_
 refine Goes ?_
 rw [Int.tdiv_eq_ediv_of_nonneg (by omega),IntWalk.i64_in _ (by omega)]
 first | refine CallP.is (l3Put_ret (v / 65536) _ ⟨by omega,by omega⟩) rfl ?_ | refine CallQ.is (l3Put_ret (v / 65536) _ ⟨by omega,by omega⟩) rfl rfl ?_
 refine Goes ?_
 refine ⟨⟨lenA,lenA,lenA,lenA,rwsA⟩,?_⟩
 refine Goes ?_
 refine FinOk.mk' [0] rfl rfl rfl rfl rfl rfl rfl ⟨?_,?_,rfl⟩
 · exact ownI (len1 _ _)
 · exact objI (app1 _ _)
theorem l3List_ret (zs:List Int) (n:Nat) (hz:smallL 12 zs):Ret Tryz.prog 212 [il zs] [] n true (Is (.own n (listN zs).length) [(n,.list 5 1 (uvs (listN zs)))] (n + 1)):=by
 have hz1:=hz.1
 have hL:(ivs zs).length=zs.length:=by simp
 have h1:=putN_len zs.length
 refine Ret.fn ttOk Tryz.func212 rfl Tryz.call212 rfl rfl ?_
 refine Goes ?_
 rw [hL]
 first | refine CallP.is (l3Put_ret zs.length _ ⟨by omega,by omega⟩) rfl ?_ | refine CallQ.is (l3Put_ret zs.length _ ⟨by omega,by omega⟩) rfl rfl ?_
 refine Goes ?_
 refine LoopP.go (fun k:Nat=>k≤zs.length) (fun k=>⟨[(0,il zs),(3,.own 0 (putN zs.length++numsN (zs.take k)).length),(4,iv k)],[(0,.list 5 1 (uvs (putN zs.length++numsN (zs.take k))))],1⟩) (fun k=>zs.length - k) 0 (Nat.zero_le _) ?_ ?_
 · simp only [List.take_zero]
   rw [show putN zs.length++numsN []=putN zs.length from by simp [numsN]]
   exact (Weak.of rfl rfl ktA ktA)
 intro k hk
 have h2:=numsN_len (zs.take k)
 rw [List.length_take] at h2
 have hb:(putN zs.length++numsN (zs.take k)).length≤100:=by simp only [List.length_append]; omega
 refine Goes ?_;repeat' first|apply W2.m|refine W1.m fun h=>?_
 · have hlt:k < zs.length:=by omega
   have hp:=putN_len zs[k]
   have htk:putN zs.length++numsN (zs.take (k + 1))=putN zs.length++numsN (zs.take k)++putN zs[k]:=by rw [numsN_take hlt]; simp only [List.append_assoc]
   rw [rowK iv1 zs k (by omega)]
   refine ⟨by (first | exact ⟨by omega,by omega,rfl⟩ | (simp only [List.length_map]; exact ⟨by omega,by omega,rfl⟩)),?_⟩
   refine Goes ?_
   first | refine CallP.is (l3Put_ret zs[k] _ (hz.2 _ (List.getElem_mem hlt))) rfl ?_ | refine CallQ.is (l3Put_ret zs[k] _ (hz.2 _ (List.getElem_mem hlt))) rfl rfl ?_
   refine Goes ?_
   refine ⟨⟨lenA,lenA,lenA,lenA,rwsA⟩,?_⟩
   refine Goes ?_
   exact ⟨k + 1,by omega,by omega,Weak.of rfl rfl ⟨⟨rfl,rfl⟩,⟨leafW (by rw [htk]; exact len1 _ _),rfl⟩,⟨leafI numA,rfl⟩,trivial⟩ ⟨⟨leafO (by rw [htk]; exact app1 _ _),rfl,rfl⟩,trivial⟩⟩
 · obtain rfl:k=zs.length:=by omega
   rw [List.take_length]
   refine FinOk.mk' [0] rfl rfl rfl rfl rfl rfl rfl ⟨?_,?_,rfl⟩
   · rfl
   · rfl
end Go.Proofs.YtllhgcfacgiabaaGreat
namespace Go.Proofs.YtllhgcfacgiabaaGreat
open Go Go.Am Go.RowKit
set_option linter.unusedVariables false
set_option linter.unusedSimpArgs false
theorem okI_bare {x:InD} (h:okI x):okI (bareI x):=⟨h.1,h.2.1,by show (0:Nat)≤8; decide,fun z hz=>by cases hz⟩
theorem insN_bare {xs:List InD} {k:Nat} (h:k < xs.length):insN ((xs.take (k + 1)).map bareI)=insN ((xs.take k).map bareI)++packI (bareI xs[k]):=by
 unfold insN; rw [takeS xs k h,List.map_append,List.map_append,List.flatten_append]; simp only [List.map_cons,List.map_nil,List.flatten_cons,List.flatten_nil,List.append_nil]
end Go.Proofs.YtllhgcfacgiabaaGreat
