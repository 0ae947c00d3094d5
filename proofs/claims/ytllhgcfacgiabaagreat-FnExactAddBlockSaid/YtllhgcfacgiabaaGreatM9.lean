import Derived.Test.YtllhgcfacgiabaaGreatP12
import Derived.Test.YtllhgcfacgiabaaGreatLawC
import Derived.Test.YtllhgcfacgiabaaGreatM1
namespace Go.Proofs.YtllhgcfacgiabaaGreat
open Go Go.Am Go.RowKit
set_option linter.unusedVariables false
set_option linter.unusedSimpArgs false
theorem app1 (s p:List Int):List.take s.length (uvs s)++List.take p.length (uvs p)=uvs (s++p):=by rw [N1,N1]; exact (List.map_append ..).symm
theorem b13 (s b p:List Int):List.take (s.length + (List.take b.length (uvs b)).length) (List.take s.length (uvs s)++List.take b.length (uvs b))++List.take p.length (uvs p)=uvs (s++b++p):=by
 rw [N1,N1,N1,List.take_of_length_le (by simp)]; simp
theorem a5x (s p:List Int):s.length + (List.take p.length (uvs p)).length=(s++p).length:=by rw [N1,List.length_map,List.length_append]
theorem b1C (s b p:List Int):s.length + (List.take b.length (uvs b)).length + (List.take p.length (uvs p)).length=(s++b++p).length:=by rw [a5x,a5x]
theorem b2l (s b p l:List Int):s.length + (List.take b.length (uvs b)).length + (List.take p.length (uvs p)).length + (List.take l.length (uvs l)).length=(s++b++p++l).length:=by rw [b1C,a5x]
theorem b2m (s b p l:List Int):List.take (s.length + (List.take b.length (uvs b)).length + (List.take p.length (uvs p)).length) (List.take (s.length + (List.take b.length (uvs b)).length) (List.take s.length (uvs s)++List.take b.length (uvs b))++List.take p.length (uvs p))++List.take l.length (uvs l)=uvs (s++b++p++l):=by
 rw [b13 s b p,b1C s b p]; exact app1 _ _
theorem a1a (v:Int) (n:Nat) (h:inR 0 2147483646 v):Ret Tryz.prog 211 [iv v] [] n true (Is (.own n (Mq v).length) [(n,.list 5 1 (uvs (Mq v)))] (n + 1)):=by
 unfold inR at h
 have h1:=Cd (v % 65536)
 have h2:=Cd (v / 65536)
 refine Ret.fn Ad Tryz.func211 rfl Tryz.call211 rfl rfl ?_
 refine Goes ?_
 rw [Int.tmod_eq_emod_of_nonneg (by omega)]
 refine Aa.is (Gq (v % 65536) _ ⟨by omega,by omega⟩) rfl ?_
 refine Goes ?_
 rw [Int.tdiv_eq_ediv_of_nonneg (by omega),IntWalk.i64_in _ (by omega)]
 refine Aa.is (Gq (v / 65536) _ ⟨by omega,by omega⟩) rfl ?_
 refine Goes ?_
 refine ⟨⟨Az,Az,Az,Az,Ky⟩,?_⟩
 refine Goes ?_
 refine Ab.mk' [0] rfl rfl rfl rfl rfl rfl rfl ⟨?_,?_,rfl⟩
 · exact R5 (a5x _ _)
 · exact R6 (app1 _ _)
theorem a5y (zs:List Int) (n:Nat) (hz:Qw 12 zs):Ret Tryz.prog 212 [il zs] [] n true (Is (.own n (Kj zs).length) [(n,.list 5 1 (uvs (Kj zs)))] (n + 1)):=by
 have jv:=hz.1
 have hL:(ivs zs).length=zs.length:=by simp
 have h1:=Cd zs.length
 refine Ret.fn Ad Tryz.func212 rfl Tryz.call212 rfl rfl ?_
 refine Goes ?_
 rw [hL]
 refine Aa.is (Gq zs.length _ ⟨by omega,by omega⟩) rfl ?_
 refine Goes ?_
 refine Ao.go (fun k:Nat=>k<=zs.length) (fun k=>⟨[(0,il zs),(3,.own 0 (A8 zs.length++Ij (zs.take k)).length),(4,iv k)],[(0,.list 5 1 (uvs (A8 zs.length++Ij (zs.take k))))],1⟩) (fun k=>zs.length - k) 0 (Nat.zero_le _) ?_ ?_
 · simp only [List.take_zero]
   rw [show A8 zs.length++Ij []=A8 zs.length from by simp [Ij]]
   exact (Ac.of rfl rfl ktA ktA)
 intro k hk
 have h2:=Ue (zs.take k)
 rw [List.length_take] at h2
 have hb:(A8 zs.length++Ij (zs.take k)).length<=100:=by simp only [List.length_append]; omega
 refine Goes ?_;repeat' first|apply W2.m|refine W1.m fun h=>?_
 · have aa:k < zs.length:=by omega
   have hp:=Cd zs[k]
   have dR:A8 zs.length++Ij (zs.take (k + 1))=A8 zs.length++Ij (zs.take k)++A8 zs[k]:=by rw [X5 aa]; simp only [List.append_assoc]
   rw [A1 iv1 zs k (by omega)]
   refine ⟨by (first | exact ⟨by omega,by omega,rfl⟩ | (simp only [List.length_map]; exact ⟨by omega,by omega,rfl⟩)),?_⟩
   refine Goes ?_
   refine Aa.is (Gq zs[k] _ (hz.2 _ (List.getElem_mem aa))) rfl ?_
   refine Goes ?_
   refine ⟨⟨Az,Az,Az,Az,Ky⟩,?_⟩
   refine Goes ?_
   exact ⟨k + 1,by omega,by omega,Ac.of rfl rfl ⟨⟨rfl,rfl⟩,⟨P4 (by rw [dR]; exact a5x _ _),rfl⟩,⟨Aw Cm,rfl⟩,trivial⟩ ⟨⟨Ch (by rw [dR]; exact app1 _ _),rfl,rfl⟩,trivial⟩⟩
 · obtain rfl:k=zs.length:=by omega
   rw [List.take_length]
   refine Ab.mk' [0] rfl rfl rfl rfl rfl rfl rfl ⟨?_,?_,rfl⟩
   · rfl
   · rfl
theorem a9L {x:InD} (h:okI x):okI (Dl x):=⟨h.1,h.2.1,by show (0:Nat)<=8; decide,fun z hz=>by cases hz⟩
theorem a7W {xs:List InD} {k:Nat} (h:k < xs.length):Ff ((xs.take (k + 1)).map Dl)=Ff ((xs.take k).map Dl)++M6 (Dl xs[k]):=by
 unfold Ff; rw [Bo xs k h,List.map_append,List.map_append,List.flatten_append]; simp only [List.map_cons,List.map_nil,List.flatten_cons,List.flatten_nil,List.append_nil]
theorem Mt {R:AV->AV->Prop}:∀ {l m:List (List AV)},Al (Al R) l m->Al R l.flatten m.flatten
 | [],[],_=>trivial
 | _::_,_::_,h=>by rw [List.flatten_cons,List.flatten_cons]; exact Al.append h.1 (Mt h.2)
 | [],_::_,h=>h.elim
 | _::_,[],h=>h.elim
theorem a3F {w:World} {S:Nat->Prop} {v:Value} {a b:AV} (h:Rd w S v a) (hw:a06 a b):Rd w S v b:=by
 rcases hw with rfl | ⟨rfl,rfl⟩
 · exact h
 · cases h; exact .nil _ _ (Nat.zero_le _)
theorem a9M {w:World} {S:Nat->Prop} {v:Value} {rows rows':List (List AV)} (h:Rd w S v (.lst rows)) (hw:Al (Al a06) rows rows'):Rd w S v (.lst rows'):=by
 cases h with
 | nil a cap hc =>
   cases rows' with
   | nil=>exact .nil a cap hc
   | cons=>exact hw.elim
 | lst _ b off cap s cells h0 h1 h2 h3 h4 h5 h6 h7 =>
   have hl:=hw.length
   have hf:=Mt hw
   have:=Rd.lst (w:=w) (S:=S) rows' b off cap s cells (fun e=>by subst e; cases rows with | nil=>exact h0 rfl | cons=>exact hw.elim) (by omega) h2 h3 (fun r hr=>by
    obtain ⟨i,hi⟩:=List.mem_iff_getElem?.1 hr
    have aa:i < rows.length:=by rw [hl]; exact (List.getElem?_eq_some_iff.1 hi).1
    have d3:=List.getElem?_eq_getElem aa
    rw [<- (hw.at d3 hi).length]; exact h4 _ (List.getElem_mem aa)) (by rw [h5,hl]) h6
    (fun i v a hv ha=>by
      have aa:i < rows.flatten.length:=by rw [hf.length]; exact (List.getElem?_eq_some_iff.1 ha).1
      have h8:=List.getElem?_eq_getElem aa
      exact a3F (h7 i v _ hv h8) (hf.at h8 ha))
   rw [<- hl] at this
   exact this
theorem Ret.rowsW {P:Program} {f:FuncId} {args:List AV} {n:Nat} {rows rows':List (List AV)} (hw:Al (Al a06) rows rows') (h:Ret P f args [] n true (Is (.lst rows) [] n)):Ret P f args [] n true (Is (.lst rows') [] n):=by
 refine ⟨h.enter,fun w ι A vs hC h1 h2 h3 h4=>Calls.mono (h.calls w ι A vs hC h1 h2 h3 h4) ?_⟩
 rintro e w' ⟨v,r,ho,m,ι',S',rfl,⟨rfl,rfl,rfl⟩,fu,ay,b8,hv,hu,bG,eh,eB,bl⟩
 exact ⟨v,.lst rows',[],m,ι',S',rfl,⟨rfl,rfl,rfl⟩,fu,ay,b8,.one (.cell (.rd (a9M hv.lst_inv hw))),trivial,bG,eh,eB,bl⟩
theorem Ye (t:TxD) (n:Nat) (hf:Fits t) (h:A7 t=0):Ret Tryz.prog 177 [txV t] [] n true (Is (.agg [iv 0,.own n (E3 t).length]) [(n,.list 5 1 (uvs (E3 t)))] (n + 1)):=by
 have hl:=fun n=>Do t n hf.ins hf.outs
 rw [h] at hl
 refine Ret.fn Ad Tryz.func177 rfl Tryz.call177 rfl rfl ?_
 refine Goes ?_
 refine Aa.is (hl _) rfl ?_
 refine Goes ?_
 refine Aa.heapIs (b1B 2 _ t (Ev h)) rfl ktA rfl ?_
 refine Goes ?_
 refine Ab.mk' [3] rfl rfl rfl rfl rfl rfl rfl ⟨?_,?_,rfl⟩
 · rfl
 · rfl
theorem Zz (t:TxD) (n:Nat) (hf:Fits t) (h:A7 t≠0):Ret Tryz.prog 177 [txV t] [] n true (Is (.agg [iv (A7 t),nl]) [] n):=by
 refine Ret.fn Ad Tryz.func177 rfl Tryz.call177 rfl rfl ?_
 refine Goes ?_
 refine Aa.is (Do t _ hf.ins hf.outs) rfl ?_
 refine Goes ?_;repeat' first|apply W2.m|refine W1.m fun h=>?_
 refine Ab.pure rfl rfl rfl ⟨?_,rfl,rfl⟩
 rfl
def a9N (t:TxD):AV:=if A7 t=0 then .agg [iv 0,ul (E3 t)] else .agg [iv (A7 t),ul []]
theorem b1D {t:TxD} {n:Nat}:∀ r ho m,Is (AV.agg [iv 0,.own n (E3 t).length]) [(n,A2.list 5 1 (uvs (E3 t)))] (n + 1) r ho m->∃ r',FrV ho r r'/\Is (AV.agg [iv 0,ul (E3 t)]) [] n r' [] n:=by
 rintro _ _ _ ⟨rfl,rfl,rfl⟩
 exact ⟨_,.agg _ [iv 0,ul (E3 t)] ⟨fr0 rfl,Vg (Ae _ _ _) (by simp),trivial⟩,rfl,rfl,rfl⟩
theorem b1E {c:Int} {n:Nat}:∀ r ho m,Is (AV.agg [iv c,nl]) [] n r ho m->∃ r',FrV ho r r'/\Is (AV.agg [iv c,ul []]) [] n r' [] n:=by
 rintro _ _ _ ⟨rfl,rfl,rfl⟩
 exact ⟨_,.agg _ [iv c,ul []] ⟨fr0 rfl,.nil,trivial⟩,rfl,rfl,rfl⟩
theorem Z5 (t:TxD) (n:Nat) (hf:Fits t):Ret Tryz.prog 177 [txV t] [] n true (Is (a9N t) [] n):=by
 unfold a9N
 split
 · rename_i h; exact Ret.freeze b1D (Ye t n hf h)
 · rename_i h; exact Ret.freeze b1E (Zz t n hf h)
theorem a7X (xs:List InD) (n:Nat) (hl:xs.length<=1048576) (aj:xs≠[]):Ret Tryz.prog 197 [Et xs] [] n true (Is (.own n xs.length) [(n,.list 201 3 (xs.map A3))] (n + 1)):=by
 have hL:(xs.map A3).length=xs.length:=by simp
 refine Ret.fn Ad Tryz.func197 rfl Tryz.call197 rfl rfl ?_
 refine Goes ?_
 refine ⟨by simpa using aj,?_⟩
 refine Goes ?_
 refine ⟨⟨Az,by rw [hL]; show _ * 40<=_; omega,by rw [hL]; unfold maxLen; omega,trivial,fun r hr=>by obtain ⟨x,_,rfl⟩:=List.mem_map.1 hr; rfl⟩,?_⟩
 refine Goes ?_
 refine Ab.mk' [0] rfl rfl rfl rfl rfl rfl rfl ⟨?_,?_,rfl⟩
 · exact R5 (by simp)
 · exact R6 (by simp)
theorem a2i (cap:Nat) (n:Nat):Ret Tryz.prog 197 [.val (.slice none 0 cap)] [] n true (Is nl [] n):=by
 refine Ret.fn Ad Tryz.func197 rfl Tryz.call197 rfl rfl ?_
 refine Goes ?_
 refine Ab.pure rfl rfl rfl ⟨?_,rfl,rfl⟩
 rfl
theorem a2j (a:Addr) (cap:Nat) (n:Nat):Ret Tryz.prog 197 [.val (.slice (some a) 0 cap)] [] n true (Is (.own n 0) [(n,.list 201 3 [])] (n + 1)):=by
 refine Ret.fn Ad Tryz.func197 rfl Tryz.call197 rfl rfl ?_
 refine Goes ?_
 refine Ab.mk' [0] rfl rfl rfl rfl rfl rfl rfl ⟨?_,?_,rfl⟩
 · rfl
 · rfl
abbrev a2k (x:InD):List AV:=[iv x.1,iv x.2.1,nl]
def V0 (xs:List InD) (k:Nat):List (List AV):=(xs.take k).map a2k++(xs.drop k).map A3
theorem a9O (xs:List InD) (k:Nat) (h:k<=xs.length):(V0 xs k).length=xs.length:=by simp only [V0,List.length_append,List.length_map,List.length_take,List.length_drop]; omega
theorem b0V (xs:List InD) (k:Nat) (h:k < xs.length):(V0 xs k).getD k []=A3 xs[k]:=by
 unfold V0
 rw [List.getD_eq_getElem?_getD,List.getElem?_append_right (by simp only [List.length_map,List.length_take]; omega)]
 simp only [List.length_map,List.length_take]
 have:k - min k xs.length=0:=by omega
 rw [this,List.drop_eq_getElem_cons h]; rfl
theorem a9P (xs:List InD) (k:Nat) (h:k < xs.length):(V0 xs k).set k (a2k xs[k])=V0 xs (k + 1):=by
 unfold V0
 rw [Bo xs k h,List.map_append,List.drop_eq_getElem_cons h,List.map_cons,List.set_append_right _ _ (by simp only [List.length_map,List.length_take]; omega)]
 simp only [List.length_map,List.length_take]
 have:k - min k xs.length=0:=by omega
 rw [this,List.set_cons_zero,List.append_assoc]; rfl
theorem a3G (xs:List InD) (n:Nat) (hl:xs.length<=1048576) (aj:xs≠[]):Ret Tryz.prog 175 [Et xs] [] n true (Is (.own n xs.length) [(n,.list 201 3 (xs.map a2k))] (n + 1)):=by
 refine Ret.fn Ad Tryz.func175 rfl Tryz.call175 rfl rfl ?_
 refine Goes ?_
 refine Aa.is (a7X xs _ hl aj) rfl ?_
 refine Goes ?_
 refine Ao.go (fun k:Nat=>k<=xs.length) (fun k=>⟨[(3,.own 0 xs.length),(8,iv xs.length),(9,iv k)],[(0,.list 201 3 (V0 xs k))],1⟩) (fun k=>xs.length - k) 0 (Nat.zero_le _) ?_ ?_
 · exact (Ac.of rfl rfl ktA ktA)
 intro k hk
 have bh:=a9O xs k hk
 refine Goes ?_;repeat' first|apply W2.m|refine W1.m fun h=>?_
 · have aa:k < xs.length:=by omega
   refine ⟨k + 1,by omega,by omega,Ac.of rfl rfl ktA ⟨⟨Ch ?_,rfl,rfl⟩,trivial⟩⟩
   have ha:=b0V xs k aa
   have hs:=a9P xs k aa
   show (V0 xs k).set k (((V0 xs k).getD k []).take 2++[nl]++((V0 xs k).getD k []).drop 3)=_
   rw [ha]
   exact hs
 · obtain rfl:k=xs.length:=by omega
   refine Ab.mk' [0] rfl rfl rfl rfl rfl rfl rfl ⟨?_,?_,rfl⟩
   · rfl
   · refine R6 ?_
     unfold V0; rw [List.take_length,List.drop_length]; simp
theorem Yf (cap n:Nat):Ret Tryz.prog 175 [.val (.slice none 0 cap)] [] n true (Is nl [] n):=by
 refine Ret.fn Ad Tryz.func175 rfl Tryz.call175 rfl rfl ?_
 refine Goes ?_
 refine Aa.is (a2i cap _) rfl ?_
 refine Goes ?_
 refine Ao.go (fun _:Unit=>True) (fun _=>⟨[(3,nl),(8,iv 0),(9,iv 0)],[],0⟩) (fun _=>0) () trivial (Ac.of rfl rfl ktA trivial) ?_
 intro _ _
 refine Goes ?_
 refine Ab.pure rfl rfl rfl ⟨?_,rfl,rfl⟩
 rfl
theorem Yg (a:Addr) (cap n:Nat):Ret Tryz.prog 175 [.val (.slice (some a) 0 cap)] [] n true (Is (.own n 0) [(n,.list 201 3 [])] (n + 1)):=by
 refine Ret.fn Ad Tryz.func175 rfl Tryz.call175 rfl rfl ?_
 refine Goes ?_
 refine Aa.is (a2j a cap _) rfl ?_
 refine Goes ?_
 refine Ao.go (fun _:Unit=>True) (fun _=>⟨[(3,.own 0 0),(8,iv 0),(9,iv 0)],[(0,.list 201 3 [])],1⟩) (fun _=>0) () trivial (Ac.of rfl rfl ktA ktA) ?_
 intro _ _
 refine Goes ?_
 refine Ab.mk' [0] rfl rfl rfl rfl rfl rfl rfl ⟨?_,?_,rfl⟩
 · rfl
 · rfl
theorem a6Q:∀ (xs:List InD),Al (Al a06) (xs.map a2k) ((xs.map Dl).map A3)
 | []=>trivial
 | x::r=>⟨⟨.inl rfl,.inl rfl,.inr ⟨rfl,rfl⟩,trivial⟩,a6Q r⟩
theorem a5z (xs:List InD) (n:Nat) (hl:xs.length<=1048576):Ret Tryz.prog 175 [Et xs] [] n true (Is (Et (xs.map Dl)) [] n):=by
 by_cases aj:xs=[]
 · subst aj
   refine Ret.emp fun a cap=>?_
   cases a with
   | none=>exact Ret.freeze (by rintro _ _ _ ⟨rfl,rfl,rfl⟩; exact ⟨_,.cell (fun _ e=>by cases e) (fun _ e=>by cases e) .nil,rfl,rfl,rfl⟩) (Yf cap n)
   | some a=>exact Ret.freeze (by rintro _ _ _ ⟨rfl,rfl,rfl⟩; exact ⟨_,Jz (Ae _ _ _) rfl,rfl,rfl,rfl⟩) (Yg a cap n)
 · exact Ret.rowsW (a6Q xs) (Ret.freeze (by rintro _ _ _ ⟨rfl,rfl,rfl⟩; exact ⟨_,Jz (Ae _ _ _) (by simp),rfl,rfl,rfl⟩) (a3G xs n hl aj))
def a2l (t:TxD):List AV:=if A7 t=0 then [iv 0,iv (Pw (E3 (Ik t)))] else [iv (A7 t),iv 0]
theorem a7Y {t:TxD} (h:Fits t):Fits (Ik t):=⟨by simpa [Ik] using h.ins,h.outs,fun x hx=>by
 obtain ⟨y,_,rfl⟩:=List.mem_map.1 hx
 exact Nat.zero_le _,h.locks⟩
theorem Kz (t:TxD) (n:Nat) (hf:Fits t):Ret Tryz.prog 140 [txV t] [] n true (Is (.agg (a2l t)) [] n):=by
 by_cases h:A7 t=0
 · have hl:=fun n=>Do t n hf.ins hf.outs
   rw [h] at hl
   have hb:=X8 h
   have hp:=fun n=>Z5 (Ik t) n (a7Y hf)
   unfold a9N at hp
   simp only [if_pos hb] at hp
   have hk:=Ev hb
   refine Ret.fn Ad Tryz.func140 rfl Tryz.call140 rfl rfl ?_
   refine Goes ?_
   refine Aa.is (hl _) rfl ?_
   refine Goes ?_
   refine Aa.is (a5z t.2.1 _ hf.ins) rfl ?_
   refine Goes ?_
   refine Aa.is (hp _) rfl ?_
   refine Goes ?_
   refine Aa.is (P6 (E3 (Ik t)) _ (a3y hk) (Nat.le_trans (a02 hk) (by decide))) rfl ?_
   refine Goes ?_
   refine Ab.pure rfl rfl rfl ⟨?_,rfl,rfl⟩
   unfold a2l; rw [if_pos h]
 · refine Ret.fn Ad Tryz.func140 rfl Tryz.call140 rfl rfl ?_
   refine Goes ?_
   refine Aa.is (Do t _ hf.ins hf.outs) rfl ?_
   refine Goes ?_;repeat' first|apply W2.m|refine W1.m fun h=>?_
   refine Ab.pure rfl rfl rfl ⟨?_,rfl,rfl⟩
   unfold a2l; rw [if_neg h]
abbrev textOf (t:TxD):Int:=Pw (E3 (Ik t))
theorem J0 (t:TxD) (n:Nat):Ret Tryz.prog 174 [txV t] [] n true (Is (bv (decide (t.2.1.length=0))) [] n):=by
 refine Ret.fn Ad Tryz.func174 rfl Tryz.call174 rfl rfl ?_
 refine Goes ?_
 refine Ab.pure rfl rfl rfl ⟨?_,rfl,rfl⟩
 refine bvI ?_
 simp
end Go.Proofs.YtllhgcfacgiabaaGreat
namespace Go.Proofs.YtllhgcfacgiabaaGreat
open Go Go.Am Go.RowKit
set_option linter.unusedVariables false
set_option linter.unusedSimpArgs false
set_option maxHeartbeats 2000000 in
theorem a7Z (t:TxD) (n:Nat) (h:okT t):Ret Tryz.prog 170 [.rp (txC t),bv false] [] n true (Is (.own n (E3 (Ik t)).length) [(n,.list 5 1 (uvs (E3 (Ik t))))] (n + 1)):=by
 obtain ⟨t1,xs,ys⟩:=t
 obtain ⟨h1,h2,h3,h4,h5⟩:=h
 dsimp only at h1 h2 h3 h4 h5
 have b6:(xs.map A3).length=xs.length:=by simp
 have ca:(ys.map Ax).length=ys.length:=by simp
 have bu:=Cd t1
 have a8:=Cd xs.length
 have fA:=Cd ys.length
 show Ret Tryz.prog 170 [.rp [iv t1,Et xs,Dh ys],bv false] [] n true (Is (.own n (E3 (Ik (t1,xs,ys))).length) [(n,.list 5 1 (uvs (E3 (Ik (t1,xs,ys)))))] (n + 1))
 refine Ret.fn Ad Tryz.func170 rfl Tryz.call170 rfl rfl ?_
 refine Goes ?_
 refine B8.is (Gq t1 _ h1) rfl rfl ?_
 refine Goes ?_
 rw [b6]
 refine Aa.is (Gq xs.length _ ⟨by omega,by omega⟩) rfl ?_
 refine Goes ?_
 refine ⟨⟨?_,?_,?_,?_,?_⟩,?_⟩
 · exact Az
 · exact Az
 · exact Az
 · exact Az
 · intro r hr; first | (rw [N1] at hr; exact Vy hr) | exact Vy hr | (have h0:=List.mem_of_mem_take hr; simp only [List.mem_singleton] at h0; subst h0; rfl)
 refine Goes ?_
 have eA:(A8 t1++A8 xs.length).length<=6:=by simp only [List.length_append]; omega
 refine Ao.go (fun k:Nat=>k<=xs.length) (fun k=>⟨[(0,.rp [iv t1,Et xs,Dh ys]),(1,bv false),(5,.own 0 (A8 t1++A8 xs.length++Ff ((xs.take k).map Dl)).length),(6,iv k)],[(0,.list 5 1 (uvs (A8 t1++A8 xs.length++Ff ((xs.take k).map Dl))))],1⟩) (fun k=>xs.length - k) 0 (Nat.zero_le _) ?_ ?_
 · have e0:A8 t1++A8 xs.length++Ff ((xs.take 0).map Dl)=A8 t1++A8 xs.length:=by simp [Ff]
   rw [e0]
   exact Ac.of rfl rfl ⟨⟨rfl,rfl⟩,⟨rfl,rfl⟩,⟨P4 (a5x _ _),rfl⟩,⟨rfl,rfl⟩,trivial⟩ ⟨⟨Ch (app1 _ _),rfl,rfl⟩,trivial⟩
 · intro k hk
   have hi:=X4 (xs:=(xs.take k).map Dl) fun x hx=>by
    obtain ⟨x',df,rfl⟩:=List.mem_map.1 hx
    exact a9L (h4 x' (List.mem_of_mem_take df))
   rw [List.length_map,List.length_take] at hi
   have hb:(A8 t1++A8 xs.length++Ff ((xs.take k).map Dl)).length<=160:=by simp only [List.length_append] at *; omega
   refine Goes ?_;repeat' first|apply W2.m|refine W1.m fun h=>?_
   · have aa:k < xs.length:=by omega
     have hx:=h4 _ (List.getElem_mem aa)
     have dR:A8 t1++A8 xs.length++Ff ((xs.take (k + 1)).map Dl)=A8 t1++A8 xs.length++Ff ((xs.take k).map Dl)++M6 (Dl xs[k]):=by rw [a7W aa]; simp only [List.append_assoc]
     generalize cV:xs[k]=x at *
     obtain ⟨x1,x2,x3⟩:=x
     have m9:inR 0 2147483646 x1:=hx.1
     have ix:inR 0 65535 x2:=by have:=hx.2.1; unfold inR at this ⊢; dsimp only at this; omega
     have nc:Qw 12 x3:=⟨Nat.le_trans hx.2.2.1 (by decide),hx.2.2.2⟩
     have g1:=Lj x1
     have g2:=(Cd x2).2
     have g3:=O6 x3
     have g4:=nc.1
     generalize A8 t1++A8 xs.length++Ff ((xs.take k).map Dl)=s at *
     rw [A1 A3 xs k aa,cV]
     refine ⟨by rw [b6]; exact ⟨by omega,by omega,rfl⟩,?_⟩
     refine Goes ?_
     rw [A1 A3 xs k aa,cV]
     refine ⟨by rw [b6]; exact ⟨by omega,by omega,rfl⟩,?_⟩
     refine Goes ?_
     all_goals repeat' first
      | refine Aa.is (a1a x1 _ m9) rfl ?_
        refine Goes ?_
      | refine Aa.is (Gq x2 _ ix) rfl ?_
        refine Goes ?_
      | refine ⟨⟨?_,?_,?_,?_,?_⟩,?_⟩
        · exact Az
        · exact Az
        · exact Az
        · exact Az
        · intro r hr; first | (rw [N1] at hr; exact Vy hr) | exact Vy hr | (have h0:=List.mem_of_mem_take hr; simp only [List.mem_singleton] at h0; subst h0; rfl)
        refine Goes ?_
     all_goals
      have fc:A8 t1++A8 xs.length++Ff ((xs.take (k + 1)).map Dl)=s++Mq x1++A8 x2++[0]:=by rw [dR,a5k]; simp only [List.append_assoc]
      refine ⟨k + 1,by omega,by omega,Ac.of rfl rfl ⟨⟨rfl,rfl⟩,⟨rfl,rfl⟩,⟨P4 ?_,rfl⟩,⟨Aw Cm,rfl⟩,trivial⟩ ⟨⟨Ch ?_,rfl,rfl⟩,trivial⟩⟩
      · rw [fc]; exact b2l s (Mq x1) (A8 x2) [0]
      · rw [fc]; exact b2m s (Mq x1) (A8 x2) [0]
   · obtain rfl:k=xs.length:=by omega
     rw [List.take_length] at hi hb ⊢
     rw [Nat.min_self] at hi
     rw [ca]
     refine Aa.is (Gq ys.length _ ⟨by omega,by omega⟩) rfl ?_
     refine Goes ?_
     refine ⟨⟨?_,?_,?_,?_,?_⟩,?_⟩
     · exact Az
     · exact Az
     · exact Az
     · exact Az
     · intro r hr; first | (rw [N1] at hr; exact Vy hr) | exact Vy hr | (have h0:=List.mem_of_mem_take hr; simp only [List.mem_singleton] at h0; subst h0; rfl)
     refine Goes ?_
     have hP:E3 (Ik (t1,xs,ys))=A8 t1++A8 xs.length++Ff (xs.map Dl)++A8 ys.length++Eu ys:=by simp only [E3,Ik,List.length_map]
     rw [hP]
     clear hP
     have nX:(A8 t1++A8 xs.length++Ff (xs.map Dl)++A8 ys.length).length<=170:=by simp only [List.length_append] at *; omega
     have HL:=a5x (A8 t1++A8 xs.length++Ff (xs.map Dl)) (A8 ys.length)
     have HO:=app1 (A8 t1++A8 xs.length++Ff (xs.map Dl)) (A8 ys.length)
     generalize A8 t1++A8 xs.length++Ff (xs.map Dl)++A8 ys.length=s0 at *
     refine Ao.go (fun k:Nat=>k<=ys.length) (fun k=>⟨[(0,.rp [iv t1,Et xs,Dh ys]),(5,.own 0 (s0++Eu (ys.take k)).length),(7,iv k)],[(0,.list 5 1 (uvs (s0++Eu (ys.take k))))],1⟩) (fun k=>ys.length - k) 0 (Nat.zero_le _) ?_ ?_
     · have e0:s0++Eu (ys.take 0)=s0:=by simp [Eu]
       rw [e0]
       exact Ac.of rfl rfl ⟨⟨rfl,rfl⟩,⟨P4 (HL),rfl⟩,⟨rfl,rfl⟩,trivial⟩ ⟨⟨Ch (HO),rfl,rfl⟩,trivial⟩
     · clear bu a8 fA hi hb h
       intro k hk
       have hi:=Uf (ys:=ys.take k) fun y hy=>h5 y (List.mem_of_mem_take hy)
       rw [List.length_take] at hi
       have hb:(s0++Eu (ys.take k)).length<=360:=by simp only [List.length_append]; omega
       refine Goes ?_;repeat' first|apply W2.m|refine W1.m fun h=>?_
       · have aa:k < ys.length:=by omega
         have hy:=h5 _ (List.getElem_mem aa)
         have dR:s0++Eu (ys.take (k + 1))=s0++Eu (ys.take k)++P5 ys[k]:=by rw [X6 aa]; simp only [List.append_assoc]
         generalize cV:ys[k]=y at *
         obtain ⟨y1,y2⟩:=y
         have nd:inR 0 2147483646 y1:=hy.1
         have jz:Qw 12 y2:=hy.2
         have g1:=Lj y1
         have g3:=O6 y2
         have g4:=jz.1
         have fc:s0++Eu (ys.take (k + 1))=s0++Eu (ys.take k)++Mq y1++Kj y2:=by rw [dR]; simp only [P5,List.append_assoc]
         generalize s0++Eu (ys.take k)=s at *
         rw [A1 Ax ys k aa,cV]
         refine ⟨by rw [ca]; exact ⟨by omega,by omega,rfl⟩,?_⟩
         refine Goes ?_
         rw [A1 Ax ys k aa,cV]
         refine ⟨by rw [ca]; exact ⟨by omega,by omega,rfl⟩,?_⟩
         refine Goes ?_
         all_goals repeat' first
          | refine Aa.is (a1a y1 _ nd) rfl ?_
            refine Goes ?_
          | refine Aa.is (a5y y2 _ jz) rfl ?_
            refine Goes ?_
          | refine ⟨⟨?_,?_,?_,?_,?_⟩,?_⟩
            · exact Az
            · exact Az
            · exact Az
            · exact Az
            · intro r hr; first | (rw [N1] at hr; exact Vy hr) | exact Vy hr | (have h0:=List.mem_of_mem_take hr; simp only [List.mem_singleton] at h0; subst h0; rfl)
            refine Goes ?_
         all_goals
          refine ⟨k + 1,by omega,by omega,Ac.of rfl rfl ⟨⟨rfl,rfl⟩,⟨P4 ?_,rfl⟩,⟨Aw Cm,rfl⟩,trivial⟩ ⟨⟨Ch ?_,rfl,rfl⟩,trivial⟩⟩
          · rw [fc]; exact b1C _ _ _
          · rw [fc]; exact b13 _ _ _
       · obtain rfl:k=ys.length:=by omega
         rw [List.take_length]
         refine Ab.mk' [0] rfl rfl rfl rfl rfl rfl rfl ⟨?_,?_,rfl⟩
         · rfl
         · rfl
theorem a5A (t:TxD) (n:Nat) (hl:t.2.1.length<=1048576) (dJ:t.2.2.length<=1048576):Ret Tryz.prog 113 [.rp (txC t)] [] n true (Is (iv (A7 t)) [] n):=by
 obtain ⟨t1,xs,ys⟩:=t
 dsimp only at hl dJ
 have hL:(xs.map A3).length=xs.length:=by simp
 have ca:(ys.map Ax).length=ys.length:=by simp
 show Ret Tryz.prog 113 [.rp [iv t1,Et xs,Dh ys]] [] n true (Is (iv (A7 (t1,xs,ys))) [] n)
 by_cases hv:inR 0 65535 t1
 case neg =>
  have en:=Ck t1 0 65535
  rw [decide_eq_false hv] at en
  refine Ret.fn Ad Tryz.func113 rfl Tryz.call113 rfl rfl ?_
  refine Goes ?_
  refine Aa.is (en _) rfl ?_
  refine Goes ?_
  refine Ab.pure rfl rfl rfl ⟨?_,rfl,rfl⟩
  unfold A7; rw [if_pos hv]
 have en:=Ck t1 0 65535
 rw [decide_eq_true hv] at en
 have g1:¬ ¬ inR 0 65535 t1:=fun h'=>h' hv
 refine Ret.fn Ad Tryz.func113 rfl Tryz.call113 rfl rfl ?_
 refine Goes ?_
 refine Aa.is (en _) rfl ?_
 refine Goes ?_;repeat' first|apply W2.m|refine W1.m fun h=>?_
 · refine Ab.pure rfl rfl rfl ⟨?_,rfl,rfl⟩
   unfold A7; rw [if_neg g1,if_pos (by dsimp only; omega)]
 · refine Ab.pure rfl rfl rfl ⟨?_,rfl,rfl⟩
   unfold A7; rw [if_neg g1,if_neg (by dsimp only; omega),if_pos (by dsimp only; omega)]
 · refine Ab.pure rfl rfl rfl ⟨?_,rfl,rfl⟩
   unfold A7; rw [if_neg g1,if_neg (by dsimp only; omega),if_neg (by dsimp only; omega),if_pos (by dsimp only; omega)]
 have g2:A7 (t1,xs,ys)=if Gu [] xs≠0 then Gu [] xs else F5 0 ys:=by
  unfold A7; rw [if_neg g1,if_neg (by dsimp only; omega),if_neg (by dsimp only; omega),if_neg (by dsimp only; omega)]
 have e0:Gu [] xs=Gu (xs.take 0) (xs.drop 0):=by simp
 refine Ao.go (fun k:Nat=>k<=xs.length/\Gu [] xs=Gu (xs.take k) (xs.drop k)) (fun k=>⟨[(3,iv k),(0,.rp [iv t1,Et xs,Dh ys])],[],0⟩) (fun k=>xs.length - k) 0 ⟨Nat.zero_le _,e0⟩ (Ac.of rfl rfl ktA trivial) ?_
 intro k ⟨hk,hp⟩
 refine Goes ?_;repeat' first|apply W2.m|refine W1.m fun h=>?_
 · have aa:k < xs.length:=by omega
   have ai:=a6I xs k aa
   refine Aa.is (a9B xs k xs[k] _ hl aa rfl) rfl ?_
   refine Goes ?_;repeat' first|apply W2.m|refine W1.m fun h=>?_
   · have g3:inC (xs.take k) xs[k]≠0:=h
     rw [if_pos g3] at ai
     refine Ab.pure rfl rfl rfl ⟨?_,rfl,rfl⟩
     rw [g2,hp,ai,if_pos g3]
   · have g3:¬ inC (xs.take k) xs[k]≠0:=h
     rw [if_neg g3] at ai
     exact ⟨k + 1,⟨by omega,by rw [hp,ai]⟩,by omega,(Ac.of rfl rfl ktA trivial)⟩
 · obtain rfl:k=xs.length:=by omega
   rw [a3z] at hp
   rw [g2,hp,if_neg (by decide)]
   refine Aa.is (a5s ys _ (by omega)) rfl ?_
   refine Goes ?_
   refine Ab.pure rfl rfl rfl ⟨?_,rfl,rfl⟩
   rfl
theorem Yh (t:TxD) (n:Nat) (h:A7 t=0):Ret Tryz.prog 135 [.rp (txC t)] [] n true (Is (iv (Pw (E3 (Ik t)))) [] n):=by
 have hk:=Ev (X8 h)
 have hp:=fun n=>a7Z t n (Ev h)
 generalize txC t=cs at hp ⊢
 refine Ret.fn Ad Tryz.func135 rfl Tryz.call135 rfl rfl ?_
 refine Goes ?_
 refine Aa.is (hp _) rfl ?_
 refine Goes ?_
 refine Aa.convAIs (a05 (E3 (Ik t)) _ (a3y hk) (Nat.le_trans (a02 hk) (by decide))) Cc rfl (by first | exact trivial | exact ⟨Bu _,trivial⟩) ?_
 refine Goes ?_
 refine Ab.pure rfl rfl rfl ⟨?_,rfl,rfl⟩
 rfl
end Go.Proofs.YtllhgcfacgiabaaGreat
namespace Go.Proofs.YtllhgcfacgiabaaGreat
open Go Go.Am Go.RowKit
set_option linter.unusedVariables false
set_option linter.unusedSimpArgs false
def a3H (a b:Int):Int:=Mo [a,b]
theorem a9Q (a b:Int):0<=a3H a b/\a3H a b<=2147483646:=V6 _
abbrev G8 (z:Int):Prop:=0<=z/\z<=2147483646
def Sj (k n:Nat):Nat:=if k % 2=1 then k - 1 else if k + 1 < n then k + 1 else k
theorem b0W {k n:Nat} (h:k < n):Sj k n < n:=by unfold Sj; split <;> (try split) <;> omega
def a6R (l:List Int) (k:Nat):Int:=l.getD (Sj k l.length) 0
def a6S (l:List Int) (i:Nat):Int:=a3H (l.getD (2 * i) 0) (a6R l (2 * i))
def abP (l:List Int) (i:Nat):List Int:=(List.range i).map (a6S l)
theorem a2m (l:List Int) (i:Nat):(abP l i).length=i:=by simp [abP]
theorem a3I (l:List Int) (i:Nat):abP l (i + 1)=abP l i++[a6S l i]:=by simp [abP,List.range_succ]
def D1 (l:List Int):List Int:=abP l ((l.length + 1) / 2)
theorem B5 (l:List Int):(D1 l).length=(l.length + 1) / 2:=a2m _ _
theorem b0X (l:List Int) (i:Nat):∀ z∈abP l i,G8 z:=by
 intro z hz
 simp only [abP,List.mem_map] at hz
 obtain ⟨k,_,rfl⟩:=hz
 exact a9Q _ _
theorem a5B (l:List Int):∀ z∈D1 l,G8 z:=b0X _ _
def rowsW (l:List Int):List (List Int):=if h:l.length<=1 then [] else l::rowsW (D1 l)
termination_by l.length
decreasing_by rw [B5]; omega
def Nb (l:List Int):Int:=if h:l.length<=1 then l.getD 0 0 else Nb (D1 l)
termination_by l.length
decreasing_by rw [B5]; omega
theorem Pb {l:List Int} (h:l.length<=1):rowsW l=[]:=by rw [rowsW,dif_pos h]
theorem J1 {l:List Int} (h:¬ l.length<=1):rowsW l=l::rowsW (D1 l):=by rw [rowsW,dif_neg h]
theorem Yi {l:List Int} (h:l.length<=1):Nb l=l.getD 0 0:=by rw [Nb,dif_pos h]
theorem Ui {l:List Int} (h:¬ l.length<=1):Nb l=Nb (D1 l):=by rw [Nb,dif_neg h]
def Kn (l:List Int):Bool:=(List.range (l.length / 2)).any fun i=>decide (l.getD (2 * i) 0=l.getD (2 * i + 1) 0)
def Z6 (l:List Int):Int:=if l.length < 1∨8 < l.length then 2 else if Dg 0 2147483646 l then 0 else 3
theorem Lm (lo hi:Int) (l:List Int):Dg lo hi l=true↔∀ z∈l,lo<=z/\z<=hi:=by simp [Dg]
theorem V7 {l:List Int}:Z6 l=0↔1<=l.length/\l.length<=8/\∀ z∈l,G8 z:=by
 unfold Z6
 split
 · exact ⟨fun h=>by simp at h,fun h=>by omega⟩
 · split
   · rename_i h1 h2
     exact ⟨fun _=>⟨by omega,by omega,(Lm _ _ _).1 h2⟩,fun _=>rfl⟩
   · rename_i h1 h2
     exact ⟨fun h=>by simp at h,fun h=>absurd ((Lm _ _ _).2 h.2.2) h2⟩
structure Ko (l:List Int):Prop where
 pos:1<=l.length
 le:l.length<=8
 sum:∀ z∈l,G8 z
theorem Ko.above {l:List Int} (h:Ko l):Ko (D1 l):=⟨by rw [B5]; have:=h.pos; omega,by rw [B5]; have:=h.le; omega,a5B l⟩
theorem Ko.at {l:List Int} (h:Ko l) {k:Nat} (hk:k < l.length):G8 (l.getD k 0):=by
 rw [List.getD_eq_getElem?_getD,List.getElem?_eq_getElem hk]
 exact h.sum _ (List.getElem_mem hk)
theorem a3J (l:List Int) (h:Ko l):G8 (Nb l):=by
 by_cases hl:l.length<=1
 · rw [Yi hl]; exact h.at h.pos
 · rw [Ui hl]
   exact a3J (D1 l) h.above
termination_by l.length
decreasing_by rw [B5]; omega
theorem a3K (l:List Int) (h:Ko l):∀ r∈rowsW l,Ko r:=by
 by_cases hl:l.length<=1
 · rw [Pb hl]; intro r hr; cases hr
 · rw [J1 hl]
   intro r hr
   rcases List.mem_cons.1 hr with rfl | hr
   · exact h
   · exact a3K (D1 l) h.above r hr
termination_by l.length
decreasing_by rw [B5]; omega
theorem a70 (l:List Int) (h:l.length<=8):(rowsW l).length<=3/\(l.length<=4->(rowsW l).length<=2)/\(l.length<=2->(rowsW l).length<=1):=by
 have step:∀ (l:List Int),¬ l.length<=1->(rowsW l).length=(rowsW (D1 l)).length + 1:=fun l hl=>by rw [J1 hl]; simp
 have z:∀ (l:List Int),l.length<=1->(rowsW l).length=0:=fun l hl=>by rw [Pb hl]; rfl
 have two:∀ (l:List Int),l.length<=2->(rowsW l).length<=1:=by
  intro l hl
  by_cases h1:l.length<=1
  · rw [z l h1]; omega
  · rw [step l h1,z _ (by rw [B5]; omega)]
    omega
 have four:∀ (l:List Int),l.length<=4->(rowsW l).length<=2:=by
  intro l hl
  by_cases h1:l.length<=1
  · rw [z l h1]; omega
  · rw [step l h1]
    have:=two (D1 l) (by rw [B5]; omega)
    omega
 refine ⟨?_,four l,two l⟩
 by_cases h1:l.length<=1
 · rw [z l h1]; omega
 · rw [step l h1]
   have:=four (D1 l) (by rw [B5]; omega)
   omega
end Go.Proofs.YtllhgcfacgiabaaGreat
