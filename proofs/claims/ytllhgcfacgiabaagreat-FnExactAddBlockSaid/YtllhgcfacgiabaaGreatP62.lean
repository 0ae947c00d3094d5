import Derived.Test.YtllhgcfacgiabaaGreatR2
namespace Go.Proofs.YtllhgcfacgiabaaGreat
open Go Go.Am Go.RowKit
set_option linter.unusedVariables false
set_option linter.unusedSimpArgs false
def Ha:List TxD->Int
 | []=>0
 | x::r=>if A7 x≠0 then A7 x else Ha r
def Fl:Bool->List TxD->Bool
 | _,[]=>true
 | b,x::r=>(decide (x.2.1.length=0)==b)&&Fl false r
abbrev Dm (l:List TxD):List Int:=l.map textOf
def Lv (l:List TxD):Int:=if (l.length:Int) < 1∨4 < (l.length:Int) then 2 else if Ha l≠0 then Ha l else if Fl true l=true then (if Sk (Dm l)=true then 6 else 0) else 1
def a1s (b:B7):Prop:=inR 0 2147483646 b.prev/\inR 1 99999 b.time/\E4 b.bits=true/\inR 0 65535 b.nonce
instance (b:B7):Decidable (a1s b):=inferInstanceAs (Decidable (_/\_))
def Dn (b:B7):Int:=if a1s b then Lv b.txs else 3
theorem a6Z (l:List TxD) (k:Nat) (h:k < l.length):Ha (l.drop k)=if A7 l[k]≠0 then A7 l[k] else Ha (l.drop (k + 1)):=by
 rw [List.drop_eq_getElem_cons h,Ha]
theorem Lw:∀ {l:List TxD},Ha l=0->∀ x∈l,A7 x=0
 | [],_,x,hx=>by cases hx
 | y::r,h,x,hx=>by
   rw [Ha] at h
   by_cases hy:A7 y≠0
   · rw [if_pos hy] at h; exact absurd h hy
   · rw [if_neg hy] at h
     rcases List.mem_cons.1 hx with rfl | hx
     · exact Decidable.not_not.1 hy
     · exact Lw h x hx
theorem a1t (b:Bool) (l:List TxD) (k:Nat) (h:k < l.length):Fl b (l.drop k)=((decide (l[k].2.1.length=0)==b)&&Fl false (l.drop (k + 1))):=by
 rw [List.drop_eq_getElem_cons h,Fl]
theorem M1 (l:List TxD) (n:Nat) (hl:l.length<=1048576) (hx:∀ x∈l,Fits x) (hz:Ha l=0):Ret Tryz.prog 153 [Im l] [] n true (Is (il (Dm l)) [] n):=by
 have hL:(l.map txC).length=l.length:=by simp
 have hM:(ivs (Jw (Dm l) 0)).length=l.length:=by simp [Jw]
 have main:Ret Tryz.prog 153 [Im l] [] n true (Is (.own n (Dm l).length) [(n,.list 2 1 (ivs (Dm l)))] (n + 1)):=by
  have hS:(Dm l).length=l.length:=by simp
  refine Ret.fn Ad Tryz.func153 rfl Tryz.call153 rfl rfl ?_
  refine Goes ?_
  rw [hL]
  refine ⟨⟨by omega,by omega,by omega,by show _ * 8<=_; omega⟩,?_⟩
  refine Goes ?_
  refine Ao.go (fun k:Nat=>k<=l.length) (fun k=>⟨[(3,.own 0 l.length),(9,Im l),(10,iv l.length),(11,iv k)],[(0,.list 2 1 (ivs (Jw (Dm l) k)))],1⟩) (fun k=>l.length - k) 0 (Nat.zero_le _) ?_ ?_
  · rw [Qu,hS]
    exact Ac.of rfl rfl ⟨⟨rfl,rfl⟩,⟨rfl,rfl⟩,⟨Aw (by omega),rfl⟩,⟨rfl,rfl⟩,trivial⟩ ⟨⟨Ch (by simp),rfl,rfl⟩,trivial⟩
  intro k hk
  have bh:=Ub (Dm l) k (by omega)
  refine Goes ?_;repeat' first|apply W2.m|refine W1.m fun h=>?_
  · have aa:k < l.length:=by omega
    have jv:=Lw hz l[k] (List.getElem_mem aa)
    have eX:=fun n=>Kz l[k] n (hx _ (List.getElem_mem aa))
    have jE:a2l l[k]=[iv 0,iv (textOf l[k])]:=by unfold a2l; rw [if_pos jv]
    rw [jE] at eX
    rw [A1 txC l k aa]
    refine ⟨by rw [hL]; exact ⟨by omega,by omega,rfl⟩,?_⟩
    refine Goes ?_
    refine Aa.is (eX _) rfl ?_
    refine Goes ?_
    refine ⟨by simp only [List.length_map]; omega,?_⟩
    refine Goes ?_
    refine ⟨k + 1,by omega,by omega,Ac.of rfl rfl ktA ⟨⟨Ch ?_,rfl,rfl⟩,trivial⟩⟩
    rw [setRow _ k _ (by omega) _ rfl,<- Uc (Dm l) k (by omega),List.getElem_map]
  · obtain rfl:k=l.length:=by omega
    rw [show Jw (Dm l) l.length=Dm l from by rw [<- hS]; exact Ud _]
    refine Ab.mk' [0] rfl rfl rfl rfl rfl rfl rfl ⟨?_,?_,rfl⟩
    · refine R5 ?_
      simp
    · rfl
 exact Ret.freeze (by rintro _ _ _ ⟨rfl,rfl,rfl⟩; exact ⟨_,Jz (Ae _ _ _) (by simp),rfl,rfl,rfl⟩) main
theorem a2H (l:List TxD) (n:Nat) (hl:l.length<=1048576) (hx:∀ x∈l,Fits x):Ret Tryz.prog 184 [Im l] [] n true (Is (iv (Lv l)) [] n):=by
 have hL:(l.map txC).length=l.length:=by simp
 by_cases hb:(l.length:Int) < 1∨4 < (l.length:Int)
 · have e:Lv l=2:=by unfold Lv; rw [if_pos hb]
   rw [e]
   refine Ret.fn Ad Tryz.func184 rfl Tryz.call184 rfl rfl ?_
   refine Goes ?_;repeat' first|apply W2.m|refine W1.m fun h=>?_
   all_goals first | (exfalso; omega) | (refine Ab.pure rfl rfl rfl ⟨?_,rfl,rfl⟩; rfl)
 have e:Lv l=if Ha l≠0 then Ha l else if Fl true l=true then (if Sk (Dm l)=true then 6 else 0) else 1:=by unfold Lv; rw [if_neg hb]
 have e0:Ha l=Ha (l.drop 0):=by simp
 refine Ret.fn Ad Tryz.func184 rfl Tryz.call184 rfl rfl ?_
 refine Goes ?_;repeat' first|apply W2.m|refine W1.m fun h=>?_
 refine Ao.go (fun k:Nat=>k<=l.length/\Ha l=Ha (l.drop k)) (fun k=>⟨[(0,Im l),(16,Im l),(17,iv l.length),(18,iv k)],[],0⟩) (fun k=>l.length - k) 0 ⟨Nat.zero_le _,e0⟩ ?_ ?_
 · rw [hL]; exact (Ac.of rfl rfl ktA trivial)
 intro k ⟨hk,hp⟩
 refine Goes ?_;repeat' first|apply W2.m|refine W1.m fun h=>?_
 · have aa:k < l.length:=by omega
   have ai:=a6Z l k aa
   have hf:=hx l[k] (List.getElem_mem aa)
   rw [A1 txC l k aa]
   refine ⟨by rw [hL]; exact ⟨by omega,by omega,rfl⟩,?_⟩
   refine Goes ?_
   refine Aa.is (Do l[k] _ hf.ins hf.outs) rfl ?_
   refine Goes ?_;repeat' first|apply W2.m|refine W1.m fun h=>?_
   · have g3:A7 l[k]≠0:=h
     rw [if_pos g3] at ai
     refine Ab.pure rfl rfl rfl ⟨?_,rfl,rfl⟩
     rw [e,hp,ai,if_pos g3]
   · have g3:¬ A7 l[k]≠0:=h
     rw [if_neg g3] at ai
     exact ⟨k + 1,⟨by omega,by rw [hp,ai]⟩,by omega,(Ac.of rfl rfl ktA trivial)⟩
 · obtain rfl:k=l.length:=by omega
   have hz:Ha l=0:=by rw [hp,List.drop_length]; rfl
   rw [if_neg (by rw [hz]; decide)] at e
   have e1:Fl true l=Fl (decide ((0:Nat)=0)) (l.drop 0):=by simp
   refine Ao.go (fun k:Nat=>k<=l.length/\Fl true l=Fl (decide (k=0)) (l.drop k)) (fun k=>⟨[(0,Im l),(28,Im l),(29,iv l.length),(30,iv k)],[],0⟩) (fun k=>l.length - k) 0 ⟨Nat.zero_le _,e1⟩ ?_ ?_
   · rw [hL]; exact (Ac.of rfl rfl ktA trivial)
   intro k ⟨hk,hp⟩
   refine Goes ?_;repeat' first|apply W2.m|refine W1.m fun h=>?_
   · have aa:k < l.length:=by omega
     have ai:=a1t (decide (k=0)) l k aa
     rw [<- hp] at ai
     rw [A1 txC l k aa]
     refine ⟨by rw [hL]; exact ⟨by omega,by omega,rfl⟩,?_⟩
     refine Goes ?_
     refine Aa.is (J0 l[k] _) rfl ?_
     refine Goes ?_;repeat' first|apply W2.m|refine W1.m fun h=>?_
     · have hh:(decide (l[k].2.1.length=0)==decide (k=0))=false:=by
        rw [<- show decide ((k:Int)=0)=decide (k=0) from decide_eq_decide.2 (by omega)]
        simpa using h
       rw [hh,Bool.false_and] at ai
       refine Ab.pure rfl rfl rfl ⟨?_,rfl,rfl⟩
       rw [e,if_neg (by rw [ai]; decide)]
     · have hh:(decide (l[k].2.1.length=0)==decide (k=0))=true:=by
        rw [<- show decide ((k:Int)=0)=decide (k=0) from decide_eq_decide.2 (by omega)]
        simpa using h
       rw [hh,Bool.true_and] at ai
       exact ⟨k + 1,⟨by omega,by rw [ai]; simp⟩,by omega,(Ac.of rfl rfl ktA trivial)⟩
   · obtain rfl:k=l.length:=by omega
     rw [if_pos (by rw [hp,List.drop_length]; rfl)] at e
     have hT:=fun n=>V1 (Dm l) n (by simp; omega)
     cases ht:Sk (Dm l) with
     | true =>
       rw [ht] at hT e
       refine Aa.is (M1 l _ hl hx hz) rfl ?_
       refine Goes ?_
       refine Aa.is (hT _) rfl ?_
       refine Goes ?_
       refine Ab.pure rfl rfl rfl ⟨?_,rfl,rfl⟩
       rw [e]; rfl
     | false =>
       rw [ht] at hT e
       refine Aa.is (M1 l _ hl hx hz) rfl ?_
       refine Goes ?_
       refine Aa.is (hT _) rfl ?_
       refine Goes ?_
       refine Ab.pure rfl rfl rfl ⟨?_,rfl,rfl⟩
       rw [e]; rfl
theorem J9 (b:B7) (n:Nat) (hf:B4 b) (hb:Du b.bits):Ret Tryz.prog 151 [Fy b] [] n true (Is (iv (Dn b)) [] n):=by
 have c1:=fun n=>Hr b.prev n
 have c2:=fun n=>a5H b.time n
 have c3:=fun n=>Qy b.bits n hb
 have c4:=fun n=>a3O b.nonce n
 have c5:=fun n=>a2H b.txs n hf.len hf.txs
 by_cases h:a1s b
 · have e:Dn b=Lv b.txs:=if_pos h
   obtain ⟨h1,h2,h3,h4⟩:=h
   rw [decide_eq_true h1] at c1
   rw [decide_eq_true h2] at c2
   rw [h3] at c3
   rw [decide_eq_true h4] at c4
   rw [e]
   refine Ret.fn Ad Tryz.func151 rfl Tryz.call151 rfl rfl ?_
   refine Goes ?_
   refine Aa.is (c1 _) rfl ?_
   refine Goes ?_
   refine Aa.is (c2 _) rfl ?_
   refine Goes ?_
   refine Aa.is (c3 _) rfl ?_
   refine Goes ?_
   refine Aa.is (c4 _) rfl ?_
   refine Goes ?_
   refine Aa.is (c5 _) rfl ?_
   refine Goes ?_
   refine Ab.pure rfl rfl rfl ⟨?_,rfl,rfl⟩
   rfl
 · have e:Dn b=3:=if_neg h
   rw [e]
   by_cases h1:inR 0 2147483646 b.prev
   case neg =>
    rw [decide_eq_false h1] at c1
    refine Ret.fn Ad Tryz.func151 rfl Tryz.call151 rfl rfl ?_
    refine Goes ?_
    refine Aa.is (c1 _) rfl ?_
    refine Goes ?_
    refine Ab.pure rfl rfl rfl ⟨?_,rfl,rfl⟩
    rfl
   by_cases h2:inR 1 99999 b.time
   case neg =>
    rw [decide_eq_true h1] at c1
    rw [decide_eq_false h2] at c2
    refine Ret.fn Ad Tryz.func151 rfl Tryz.call151 rfl rfl ?_
    refine Goes ?_
    refine Aa.is (c1 _) rfl ?_
    refine Goes ?_
    refine Aa.is (c2 _) rfl ?_
    refine Goes ?_
    refine Ab.pure rfl rfl rfl ⟨?_,rfl,rfl⟩
    rfl
   rw [decide_eq_true h1] at c1
   rw [decide_eq_true h2] at c2
   cases h3:E4 b.bits with
   | false =>
     rw [h3] at c3
     refine Ret.fn Ad Tryz.func151 rfl Tryz.call151 rfl rfl ?_
     refine Goes ?_
     refine Aa.is (c1 _) rfl ?_
     refine Goes ?_
     refine Aa.is (c2 _) rfl ?_
     refine Goes ?_
     refine Aa.is (c3 _) rfl ?_
     refine Goes ?_
     refine Ab.pure rfl rfl rfl ⟨?_,rfl,rfl⟩
     rfl
   | true =>
     have h4:¬ inR 0 65535 b.nonce:=fun h4=>h ⟨h1,h2,h3,h4⟩
     rw [h3] at c3
     rw [decide_eq_false h4] at c4
     refine Ret.fn Ad Tryz.func151 rfl Tryz.call151 rfl rfl ?_
     refine Goes ?_
     refine Aa.is (c1 _) rfl ?_
     refine Goes ?_
     refine Aa.is (c2 _) rfl ?_
     refine Goes ?_
     refine Aa.is (c3 _) rfl ?_
     refine Goes ?_
     refine Aa.is (c4 _) rfl ?_
     refine Goes ?_
     refine Ab.pure rfl rfl rfl ⟨?_,rfl,rfl⟩
     rfl
theorem Uv {l:List TxD} (h1:1<=l.length) (h2:l.length<=4):Z6 (Dm l)=0:=by
 refine V7.2 ⟨by simp; omega,by simp; omega,fun z hz=>?_⟩
 obtain ⟨x,_,rfl⟩:=List.mem_map.1 hz
 exact O4 _
theorem a52 {l:List TxD} (h1:1<=l.length) (h2:l.length<=4):Sk (Dm l)=(rowsW (Dm l)).any Kn:=by
 unfold Sk
 rw [Uv h1 h2]
 simp
theorem a53 (b:B7) (n:Nat) (hl:b.txs.length<=4):Ret Tryz.prog 114 [.rp (Ix b)] [] n true (Is (bv (Fl true b.txs)) [] n):=by
 have hL:(b.txs.map txC).length=b.txs.length:=by simp
 have e1:Fl true b.txs=Fl (decide ((0:Nat)=0)) (b.txs.drop 0):=by simp
 refine Ret.fn Ad Tryz.func114 rfl Tryz.call114 rfl rfl ?_
 refine Goes ?_
 refine Ao.go (fun k:Nat=>k<=b.txs.length/\Fl true b.txs=Fl (decide (k=0)) (b.txs.drop k)) (fun k=>⟨[(0,.rp (Ix b)),(3,iv k)],[],0⟩) (fun k=>b.txs.length - k) 0 ⟨Nat.zero_le _,e1⟩ (Ac.of rfl rfl ktA trivial) ?_
 intro k ⟨hk,hp⟩
 refine Goes ?_;repeat' first|apply W2.m|refine W1.m fun h=>?_
 · have aa:k < b.txs.length:=by omega
   have ai:=a1t (decide (k=0)) b.txs k aa
   rw [<- hp] at ai
   rw [A1 txC b.txs k aa]
   refine ⟨by rw [hL]; exact ⟨by omega,by omega,rfl⟩,?_⟩
   refine Goes ?_;repeat' first|apply W2.m|refine W1.m fun h=>?_
   · have hh:(decide (b.txs[k].2.1.length=0)==decide (k=0))=false:=by
      rw [<- show decide ((k:Int)=0)=decide (k=0) from decide_eq_decide.2 (by omega)]
      simpa using h
     rw [hh,Bool.false_and] at ai
     refine Ab.pure rfl rfl rfl ⟨?_,rfl,rfl⟩
     rw [ai]
   · have hh:(decide (b.txs[k].2.1.length=0)==decide (k=0))=true:=by
      rw [<- show decide ((k:Int)=0)=decide (k=0) from decide_eq_decide.2 (by omega)]
      simpa using h
     rw [hh,Bool.true_and] at ai
     exact ⟨k + 1,⟨by omega,by rw [ai]; simp⟩,by omega,(Ac.of rfl rfl ktA trivial)⟩
 · obtain rfl:k=b.txs.length:=by omega
   refine Ab.pure rfl rfl rfl ⟨?_,rfl,rfl⟩
   rw [hp,List.drop_length]; rfl
theorem a54 (b:B7) (n:Nat) (hl:b.txs.length<=4) (hz:Ha b.txs=0):Ret Tryz.prog 116 [.rp (Ix b)] [] n true (Is (.own n (Dm b.txs).length) [(n,.list 2 1 (ivs (Dm b.txs)))] (n + 1)):=by
 have hL:(b.txs.map txC).length=b.txs.length:=by simp
 refine Ret.fn Ad Tryz.func116 rfl Tryz.call116 rfl rfl ?_
 refine Goes ?_
 refine Ao.go (fun k:Nat=>k<=b.txs.length) (fun k=>⟨[(0,.rp (Ix b)),(3,.own 0 k),(4,iv k)],[(0,.list 2 1 (ivs ((Dm b.txs).take k)))],1⟩) (fun k=>b.txs.length - k) 0 (Nat.zero_le _) (Ac.of rfl rfl ktA ktA) ?_
 intro k hk
 refine Goes ?_;repeat' first|apply W2.m|refine W1.m fun h=>?_
 · have aa:k < b.txs.length:=by omega
   rw [A1 txC b.txs k aa]
   refine ⟨by rw [hL]; exact ⟨by omega,by omega,rfl⟩,?_⟩
   refine Goes ?_
   refine Aa.is (Yh b.txs[k] _ (Lw hz _ (List.getElem_mem aa))) rfl ?_
   refine Goes ?_
   have cU:((Dm b.txs).take k).length=k:=by simp; omega
   refine ⟨⟨Az,Az,Az,Az,Ky⟩,?_⟩
   refine Goes ?_
   refine ⟨k + 1,by omega,by omega,Ac.of rfl rfl ⟨⟨rfl,rfl⟩,⟨P4 Az,rfl⟩,⟨Aw Cm,rfl⟩,trivial⟩ ⟨⟨Ch ?_,rfl,rfl⟩,trivial⟩⟩
   rw [R4 _ cU,Bo (Dm b.txs) k (by simpa using aa)]
   show _=List.map _ (_++_)
   rw [List.map_append]
   simp
 · obtain rfl:k=b.txs.length:=by omega
   refine Ab.mk' [0] rfl rfl rfl rfl rfl rfl rfl ⟨?_,?_,rfl⟩
   · exact R5 (by simp)
   · rw [List.take_of_length_le (by simp)]; rfl
theorem Uw (b:B7) (n:Nat) (hl:b.txs.length<=4) (hz:Ha b.txs=0):Ret Tryz.prog 116 [.rp (Ix b)] [] n true (Is (il (Dm b.txs)) [] n) :=
 Ret.freeze (by rintro _ _ _ ⟨rfl,rfl,rfl⟩; exact ⟨_,Jz (Ae _ _ _) (by simp),rfl,rfl,rfl⟩) (a54 b n hl hz)
theorem Q6 (b:B7) (n:Nat) (hf:B4 b):Ret Tryz.prog 61 [.rp (Ix b)] [] n true (Is (iv (Dn b)) [] n):=by
 have hL:(b.txs.map txC).length=b.txs.length:=by simp
 have c1:=fun n=>a72 b.prev n
 have c2:=fun n=>Ck b.time 1 99999 n
 have c3:=fun n=>Yo b.bits n
 have c4:=fun n=>Ck b.nonce 0 65535 n
 by_cases h:a1s b
 case neg =>
  have e:Dn b=3:=if_neg h
  rw [e]
  by_cases h1:inR 0 2147483646 b.prev
  case neg =>
   rw [decide_eq_false h1] at c1
   refine Ret.fn Ad Tryz.func61 rfl Tryz.call61 rfl rfl ?_
   refine Goes ?_
   refine Aa.is (c1 _) rfl ?_
   refine Goes ?_
   refine Ab.pure rfl rfl rfl ⟨?_,rfl,rfl⟩
   rfl
  by_cases h2:inR 1 99999 b.time
  case neg =>
   rw [decide_eq_true h1] at c1
   rw [decide_eq_false h2] at c2
   refine Ret.fn Ad Tryz.func61 rfl Tryz.call61 rfl rfl ?_
   refine Goes ?_
   refine Aa.is (c1 _) rfl ?_
   refine Goes ?_
   refine Aa.is (c2 _) rfl ?_
   refine Goes ?_
   refine Ab.pure rfl rfl rfl ⟨?_,rfl,rfl⟩
   rfl
  rw [decide_eq_true h1] at c1
  rw [decide_eq_true h2] at c2
  cases h3:E4 b.bits with
  | false =>
    rw [h3] at c3
    refine Ret.fn Ad Tryz.func61 rfl Tryz.call61 rfl rfl ?_
    refine Goes ?_
    refine Aa.is (c1 _) rfl ?_
    refine Goes ?_
    refine Aa.is (c2 _) rfl ?_
    refine Goes ?_
    refine Aa.is (c3 _) rfl ?_
    refine Goes ?_
    refine Ab.pure rfl rfl rfl ⟨?_,rfl,rfl⟩
    rfl
  | true =>
    have h4:¬ inR 0 65535 b.nonce:=fun h4=>h ⟨h1,h2,h3,h4⟩
    rw [h3] at c3
    rw [decide_eq_false h4] at c4
    refine Ret.fn Ad Tryz.func61 rfl Tryz.call61 rfl rfl ?_
    refine Goes ?_
    refine Aa.is (c1 _) rfl ?_
    refine Goes ?_
    refine Aa.is (c2 _) rfl ?_
    refine Goes ?_
    refine Aa.is (c3 _) rfl ?_
    refine Goes ?_
    refine Aa.is (c4 _) rfl ?_
    refine Goes ?_
    refine Ab.pure rfl rfl rfl ⟨?_,rfl,rfl⟩
    rfl
 have e:Dn b=Lv b.txs:=if_pos h
 obtain ⟨h1,h2,h3,h4⟩:=h
 rw [decide_eq_true h1] at c1
 rw [decide_eq_true h2] at c2
 rw [h3] at c3
 rw [decide_eq_true h4] at c4
 rw [e]
 clear e
 by_cases hb:(b.txs.length:Int) < 1∨4 < (b.txs.length:Int)
 · have e:Lv b.txs=2:=by unfold Lv; rw [if_pos hb]
   rw [e]
   refine Ret.fn Ad Tryz.func61 rfl Tryz.call61 rfl rfl ?_
   refine Goes ?_
   refine Aa.is (c1 _) rfl ?_
   refine Goes ?_
   refine Aa.is (c2 _) rfl ?_
   refine Goes ?_
   refine Aa.is (c3 _) rfl ?_
   refine Goes ?_
   refine Aa.is (c4 _) rfl ?_
   refine Goes ?_;repeat' first|apply W2.m|refine W1.m fun h=>?_
   all_goals first | (exfalso; omega) | (refine Ab.pure rfl rfl rfl ⟨?_,rfl,rfl⟩; rfl)
 have e:Lv b.txs=if Ha b.txs≠0 then Ha b.txs else if Fl true b.txs=true then (if Sk (Dm b.txs)=true then 6 else 0) else 1:=by unfold Lv; rw [if_neg hb]
 have e0:Ha b.txs=Ha (b.txs.drop 0):=by simp
 refine Ret.fn Ad Tryz.func61 rfl Tryz.call61 rfl rfl ?_
 refine Goes ?_
 refine Aa.is (c1 _) rfl ?_
 refine Goes ?_
 refine Aa.is (c2 _) rfl ?_
 refine Goes ?_
 refine Aa.is (c3 _) rfl ?_
 refine Goes ?_
 refine Aa.is (c4 _) rfl ?_
 refine Goes ?_;repeat' first|apply W2.m|refine W1.m fun h=>?_
 refine Ao.go (fun k:Nat=>k<=b.txs.length/\Ha b.txs=Ha (b.txs.drop k)) (fun k=>⟨[(0,.rp (Ix b)),(3,iv k)],[],0⟩) (fun k=>b.txs.length - k) 0 ⟨Nat.zero_le _,e0⟩ (Ac.of rfl rfl ktA trivial) ?_
 intro k ⟨hk,hp⟩
 refine Goes ?_;repeat' first|apply W2.m|refine W1.m fun h=>?_
 · have aa:k < b.txs.length:=by omega
   have ai:=a6Z b.txs k aa
   have ce:=hf.txs b.txs[k] (List.getElem_mem aa)
   rw [A1 txC b.txs k aa]
   refine ⟨by rw [hL]; exact ⟨by omega,by omega,rfl⟩,?_⟩
   refine Goes ?_
   refine Aa.is (a5A b.txs[k] _ ce.ins ce.outs) rfl ?_
   refine Goes ?_;repeat' first|apply W2.m|refine W1.m fun h=>?_
   · have g3:A7 b.txs[k]≠0:=h
     rw [if_pos g3] at ai
     refine Ab.pure rfl rfl rfl ⟨?_,rfl,rfl⟩
     rw [e,hp,ai,if_pos g3]
   · have g3:¬ A7 b.txs[k]≠0:=h
     rw [if_neg g3] at ai
     exact ⟨k + 1,⟨by omega,by rw [hp,ai]⟩,by omega,(Ac.of rfl rfl ktA trivial)⟩
 · obtain rfl:k=b.txs.length:=by omega
   have hz:Ha b.txs=0:=by rw [hp,List.drop_length]; rfl
   rw [if_neg (by rw [hz]; decide)] at e
   have hB:=fun n=>a53 b n (by omega)
   have hT:=fun n=>a5F (Dm b.txs) n (by simp; omega)
   rw [<- a52 (by omega) (by omega)] at hT
   rw [e]
   cases bO:Fl true b.txs with
   | false =>
     rw [bO] at hB
     refine Aa.is (hB _) rfl ?_
     refine Goes ?_
     refine Ab.pure rfl rfl rfl ⟨?_,rfl,rfl⟩
     rfl
   | true =>
     rw [bO] at hB
     cases ht:Sk (Dm b.txs) with
     | true =>
       rw [ht] at hT
       refine Aa.is (hB _) rfl ?_
       refine Goes ?_
       refine Aa.is (Uw b _ (by omega) hz) rfl ?_
       refine Goes ?_
       refine Aa.is (hT _) rfl ?_
       refine Goes ?_
       refine Ab.pure rfl rfl rfl ⟨?_,rfl,rfl⟩
       rfl
     | false =>
       rw [ht] at hT
       refine Aa.is (hB _) rfl ?_
       refine Goes ?_
       refine Aa.is (Uw b _ (by omega) hz) rfl ?_
       refine Goes ?_
       refine Aa.is (hT _) rfl ?_
       refine Goes ?_
       refine Ab.pure rfl rfl rfl ⟨?_,rfl,rfl⟩
       rfl
theorem Hb {b:B7} (h:Dn b=0):a1s b/\1<=b.txs.length/\b.txs.length<=4/\Ha b.txs=0:=by
 unfold Dn at h
 by_cases h1:a1s b
 · rw [if_pos h1] at h
   unfold Lv at h
   by_cases h2:(b.txs.length:Int) < 1∨4 < (b.txs.length:Int)
   · rw [if_pos h2] at h; cases h
   · rw [if_neg h2] at h
     by_cases h3:Ha b.txs≠0
     · rw [if_pos h3] at h; exact absurd h h3
     · exact ⟨h1,by omega,by omega,Decidable.not_not.1 h3⟩
 · rw [if_neg h1] at h; cases h
def S2 (b:B7):Int:=Nb (Dm b.txs)
def E9 (b:B7):Int:=Mo [b.prev,S2 b,b.time,b.bits,b.nonce]
def mj (b:B7):List AV:=if Dn b=0 then [iv 0,iv (E9 b)] else [iv (Dn b),iv 0]
theorem Iq (b:B7) (n:Nat) (h1:1<=b.txs.length) (h2:b.txs.length<=4) (h3:Ha b.txs=0):Ret Tryz.prog 99 [.rp (Ix b)] [] n true (Is (iv (E9 b)) [] n):=by
 refine Ret.fn Ad Tryz.func99 rfl Tryz.call99 rfl rfl ?_
 refine Goes ?_
 refine Aa.is (Uw b _ h2 h3) rfl ?_
 refine Goes ?_
 refine Aa.is (a5E (Dm b.txs) _ (by simp; omega) (by simp; omega)) rfl ?_
 refine Goes ?_
 refine Aa.convAIs (H2 [b.prev,S2 b,b.time,b.bits,b.nonce] _ (by simp)) Cc rfl (by first | exact trivial | exact ⟨Bu _,trivial⟩) ?_
 refine Goes ?_
 refine Ab.pure rfl rfl rfl ⟨?_,rfl,rfl⟩
 rfl
abbrev Vr (b:B7):List AV:=[iv b.prev,iv (S2 b),iv b.time,iv b.bits,iv b.nonce,Im b.txs]
theorem Qe (b:B7) (n:Nat) (hf:B4 b) (hb:Du b.bits) (h:Dn b=0):Ret Tryz.prog 101 [Fy b] [] n true (Is (.tup [.agg (Vr b),iv 0]) [] n):=by
 have hc:=fun n=>J9 b n hf hb
 rw [h] at hc
 obtain ⟨_,h1,h2,h3⟩:=Hb h
 have hr:=fun n=>Ym (Dm b.txs) n (by simp; omega)
 have er:a6T (Dm b.txs)=[iv 0,iv (S2 b)]:=by unfold a6T; rw [if_pos (Uv h1 h2)]; rfl
 rw [er] at hr
 refine Ret.fn Ad Tryz.func101 rfl Tryz.call101 rfl rfl ?_
 refine Goes ?_
 refine Aa.is (hc _) rfl ?_
 refine Goes ?_
 refine Aa.is (M1 b.txs _ hf.len hf.txs h3) rfl ?_
 refine Goes ?_
 refine Aa.is (hr _) rfl ?_
 refine Goes ?_
 refine Ab.mk' [] rfl rfl rfl rfl rfl rfl rfl ⟨?_,?_,rfl⟩
 · rfl
 · rfl
theorem S3 (b:B7) (n:Nat) (hf:B4 b) (hb:Du b.bits) (h:Dn b≠0):Ret Tryz.prog 101 [Fy b] [] n true (Is (.tup [.agg [iv 0,iv 0,iv 0,iv 0,iv 0,nl],iv (Dn b)]) [] n):=by
 have hc:=fun n=>J9 b n hf hb
 refine Ret.fn Ad Tryz.func101 rfl Tryz.call101 rfl rfl ?_
 refine Goes ?_
 refine Aa.is (hc _) rfl ?_
 refine Goes ?_;repeat' first|apply W2.m|refine W1.m fun h=>?_
 refine Ab.mk' [] rfl rfl rfl rfl rfl rfl rfl ⟨?_,?_,rfl⟩
 · rfl
 · rfl
theorem Za (p r t b k:Int) (n:Nat) (h:Lk [p,r,t,b,k]=[iv 0,iv (Mo [p,r,t,b,k])]):Ret Tryz.prog 154 [.agg [iv p,iv r,iv t,iv b,iv k]] [] n true (Is (iv (Mo [p,r,t,b,k])) [] n):=by
 have hs:=fun n=>Iv [p,r,t,b,k] n (by simp)
 rw [h] at hs
 refine Ret.fn Ad Tryz.func154 rfl Tryz.call154 rfl rfl ?_
 refine Goes ?_
 refine Aa.convAIs (hs _) Cc rfl (by first | exact trivial | exact ⟨Bu _,trivial⟩) ?_
 refine Goes ?_
 refine Ab.pure rfl rfl rfl ⟨?_,rfl,rfl⟩
 rfl
theorem a8C {b:B7} (h1:1<=b.txs.length) (h2:b.txs.length<=4):G8 (S2 b):=by
 obtain ⟨g1,g2,g3⟩:=V7.1 (Uv h1 h2)
 exact a3J _ ⟨g1,g2,g3⟩
theorem a1u {b:B7} (h:Dn b=0):Lk [b.prev,S2 b,b.time,b.bits,b.nonce]=[iv 0,iv (E9 b)]:=by
 obtain ⟨⟨a1,a2,a3,a4⟩,h1,h2,_⟩:=Hb h
 have hr:=a8C h1 h2
 unfold G8 at hr
 unfold inR at a1 a2 a4
 unfold E4 at a3
 simp only [decide_eq_true_eq] at a3
 unfold Lk
 rw [if_neg (by simp),if_pos]
 · rfl
 · rw [Lm]
   intro z hz
   simp only [List.mem_cons,List.not_mem_nil,or_false] at hz
   rcases hz with rfl | rfl | rfl | rfl | rfl <;> omega
end Go.Proofs.YtllhgcfacgiabaaGreat
