import Derived.Test.YtllhgcfacgiabaaGreatP77
import Derived.Test.YtllhgcfacgiabaaGreatP54
import Derived.Test.YtllhgcfacgiabaaGreatP74
namespace Go.Proofs.YtllhgcfacgiabaaGreat
open Go Go.Am Go.RowKit
set_option linter.unusedVariables false
set_option linter.unusedSimpArgs false
def Jf (c:Ah):List Ah->List Ah
 | []=>[c]
 | x::r=>if Bz x c then x::Jf c r else c::x::r
theorem Pk (c:Ah):∀ m,(Jf c m).Perm (c::m)
 | []=>List.Perm.refl _
 | x::r=>by
   rw [Jf]
   split
   · exact ((Pk c r).cons x).trans (List.Perm.swap c x r)
   · exact List.Perm.refl _
def a2C (a b:Ah):Prop:=¬ (a.tx=b.tx/\a.out=b.out)
theorem Vq (c:Ah):∀ m:List Ah,m.Pairwise Bz->(∀ x∈m,a2C x c)->(Jf c m).Pairwise Bz
 | [],_,_=>List.pairwise_singleton _ _
 | x::r,h,ha=>by
   have hx:=List.pairwise_cons.1 h
   rw [Jf]
   split
   · rename_i hl
     refine List.pairwise_cons.2 ⟨fun y hy=>?_,Vq c r hx.2 fun y hy=>ha y (List.mem_cons_of_mem _ hy)⟩
     rcases List.mem_cons.1 ((Pk c r).mem_iff.1 hy) with rfl | hy
     · exact hl
     · exact hx.1 y hy
   · rename_i hl
     have nE:=ha x (List.mem_cons_self ..)
     have fC:Bz c x:=by unfold a2C at nE; unfold Bz at *; omega
     refine List.pairwise_cons.2 ⟨fun y hy=>?_,h⟩
     rcases List.mem_cons.1 hy with rfl | hy
     · exact fC
     · exact a3X fC (hx.1 y hy)
def J8 (m ms:List Ah):List Ah:=ms.foldl (fun m c=>Jf c m) m
theorem My:∀ (ms m:List Ah),(J8 m ms).Perm (m++ms)
 | [],m=>by rw [List.append_nil]; exact List.Perm.refl _
 | c::r,m=>by
   refine (My r (Jf c m)).trans (((Pk c m).append_right r).trans ?_)
   exact (List.perm_middle (l₁:=m) (l₂:=r) (a:=c)).symm
theorem S1:∀ (ms m:List Ah),m.Pairwise Bz->ms.Pairwise Bz->(∀ x∈m,∀ c∈ms,a2C x c)->(J8 m ms).Pairwise Bz
 | [],m,h,_,_=>h
 | c::r,m,h,hm,ha=>by
   have hc:=List.pairwise_cons.1 hm
   refine S1 r (Jf c m) (Vq c m h fun x hx=>ha x hx c (List.mem_cons_self ..)) hc.2 fun x hx d hd=>?_
   rcases List.mem_cons.1 ((Pk c m).mem_iff.1 hx) with rfl | hx
   · have:=hc.1 d hd
     unfold a2C; unfold Bz at this; omega
   · exact ha x hx d (List.mem_cons_of_mem _ hd)
theorem Dq:∀ (xs:List InD) (l:List Ah),(B6 l xs).Sublist l
 | [],l=>List.Sublist.refl _
 | x::r,l=>(Dq r _).trans List.eraseP_sublist
theorem Ut {t o t' o':Int} (h:¬ (t=t'/\o=o')):∀ l:List Ah,atC (l.eraseP (keyB t o)) t' o'=atC l t' o'
 | []=>rfl
 | c::r=>by
   have ih:=Ut h r
   unfold atC at *
   by_cases hc:c.tx=t/\c.out=o
   · rw [List.eraseP_cons_of_pos (by simpa using hc),List.find?_cons_of_neg (by simp; omega)]
   · rw [List.eraseP_cons_of_neg (by simpa using hc)]
     by_cases fa:c.tx=t'/\c.out=o'
     · rw [List.find?_cons_of_pos (by simpa using fa),List.find?_cons_of_pos (by simpa using fa)]
     · rw [List.find?_cons_of_neg (by simpa using fa),List.find?_cons_of_neg (by simpa using fa),ih]
theorem a39 {t' o':Int}:∀ (xs:List InD) (l:List Ah),(∀ x∈xs,¬ (x.1=t'/\x.2.1=o'))->atC (B6 l xs) t' o'=atC l t' o'
 | [],l,_=>rfl
 | x::r,l,h=>(a39 r _ fun y hy=>h y (List.mem_cons_of_mem _ hy)).trans (Ut (h x (List.mem_cons_self ..)) l)
theorem Q5:∀ (xs e:List InD),Gu e xs=0->(∀ y∈e,∀ x∈xs,¬ (y.1=x.1/\y.2.1=x.2.1))/\xs.Pairwise fun a b=>¬ (a.1=b.1/\a.2.1=b.2.1)
 | [],e,_=>⟨fun y _ x hx=>(by cases hx),.nil⟩
 | x::r,e,h=>by
   rw [Gu] at h
   split at h
   · rename_i h1; exact absurd h h1
   · rename_i h1
     obtain ⟨g1,g2⟩:=Q5 r (e++[x]) h
     have hd:=(a5j (Decidable.not_not.1 h1)).2.2.2
     refine ⟨fun y hy z hz=>?_,List.pairwise_cons.2 ⟨fun z hz=>g1 x (List.mem_append_right _ (List.mem_singleton.2 rfl)) z hz,g2⟩⟩
     rcases List.mem_cons.1 hz with rfl | hz
     · intro e'
       unfold Vz at hd
       rw [List.any_eq_false] at hd
       exact hd y hy (by simp [e'])
     · exact g1 y (List.mem_append_left _ hy) z hz
theorem a4a {l:List Ah} {text h:Int}:∀ {xs:List InD},Py l text h xs=0->∀ x∈xs,∃ c,atC l x.1 x.2.1=some c
 | [],_,x,hx=>by cases hx
 | y::r,hq,x,hx=>by
   rw [Py] at hq
   split at hq
   · rename_i h1; exact absurd hq h1
   · rename_i h1
     rcases List.mem_cons.1 hx with rfl | hx
     · have h2:=Decidable.not_not.1 h1
       unfold inQ at h2
       cases ha:atC l x.1 x.2.1 with
       | none=>rw [ha] at h2; cases h2
       | some c=>exact ⟨c,rfl⟩
     · exact a4a hq x hx
def Ba (l:List Ah) (t:TxD):List Ah:=t.2.1.map fun x=>(atC l x.1 x.2.1).getD J6
theorem Gg (l:List Ah) (t:TxD):(Ba l t).length=t.2.1.length:=by simp [Ba]
theorem Pn {l:List Ah} {t:TxD} (hz:A7 t=0) (hq:∀ x∈t.2.1,∃ c,atC l x.1 x.2.1=some c) (k:Nat) (h:k < t.2.1.length):atC (B6 l (t.2.1.take k)) t.2.1[k].1 t.2.1[k].2.1=(Ba l t)[k]?:=by
 have hp:=(Q5 _ _ (Gp hz).2.2.2.2.1).2
 rw [a39 _ _ fun x hx=>by
  obtain ⟨i,hi,rfl⟩:=List.mem_iff_getElem.1 hx
  rw [List.length_take] at hi
  rw [List.getElem_take]
  exact List.pairwise_iff_getElem.1 hp i k (by omega) h (by omega)]
 obtain ⟨c,hc⟩:=hq _ (List.getElem_mem h)
 rw [List.getElem?_eq_getElem (by rw [Gg]; exact h),hc]
 simp [Ba,hc]
theorem Mz {l:List Ah} {t:TxD} (hq:∀ x∈t.2.1,∃ c,atC l x.1 x.2.1=some c) {c:Ah} (hc:c∈Ba l t):c∈l:=by
 obtain ⟨x,hx,rfl⟩:=List.mem_map.1 hc
 obtain ⟨d,hd⟩:=hq x hx
 rw [hd]
 exact List.mem_of_find?_eq_some hd
def newC (l:List Ah) (t:TxD) (hg:Int):List Ah:=J8 (B6 l t.2.1) (B0 t hg)
theorem Lt (l:List Ah) (t:TxD) (hg:Int):(newC l t hg).Perm (B6 l t.2.1++B0 t hg):=My _ _
theorem Of {l:List Ah} {t:TxD} {hg:Int} (h0:A5 l=0) (ha:((B0 t hg).any fun c=>(atC l c.tx c.out).isSome)=false):(newC l t hg).Pairwise Bz:=by
 refine S1 _ _ ((Pj l none (Dp h0).2.1).2.sublist (Dq _ _)) (a2A t hg) fun x hx c hc e=>?_
 rw [List.any_eq_false] at ha
 have:=ha c hc
 cases hn:atC l c.tx c.out with
 | some d=>rw [hn] at this; exact this rfl
 | none =>
   have:=List.find?_eq_none.1 hn x ((Dq _ _).subset hx)
   simp at this
   exact this e.1 e.2
def Bf (l:List Ah) (t:TxD) (hg:Int):Int :=
 if A5 l≠0 then A5 l else if A7 t≠0 then A7 t else if ¬ inR 0 9999 hg then 3
 else if ¬ t.2.1.length=0/\Dj l t hg≠0 then Dj l t hg
 else if ((B0 t hg).any fun c=>(atC l c.tx c.out).isSome)=true then 6
 else A5 (newC l t hg)
def Gx (l:List Ah) (t:TxD):Int:=if t.2.1.length=0 then 0 else Cf (F6 l t.2.1) - Cf (Di t.2.2)
theorem M0 {l:List Ah} {t:TxD} {hg:Int} (h:¬ (¬ t.2.1.length=0/\Dj l t hg≠0)):∀ x∈t.2.1,∃ c,atC l x.1 x.2.1=some c:=by
 intro x hx
 have aj:¬ t.2.1.length=0:=by have:=List.length_pos_of_mem hx; omega
 have hs:Dj l t hg=0:=Decidable.not_not.1 fun e=>h ⟨aj,e⟩
 unfold Dj at hs
 split at hs
 · rename_i h1; exact absurd hs h1
 · rename_i h1; exact a4a (Decidable.not_not.1 h1) x hx
def atI (l:List Ah) (t o:Int):Int:=match l.findIdx? (fun c=>decide (c.tx=t/\c.out=o)) with | some k=>k | none=>-1
theorem b0h {l:List Ah} {t o:Int} {k:Nat} (h:k < l.length) (hp:∀ x∈l.take k,¬ (x.tx=t/\x.out=o)) (hk:l[k].tx=t/\l[k].out=o):atI l t o=k:=by
 unfold atI
 rw [(List.findIdx?_eq_some_iff_getElem (i:=k)).2 ⟨h,by simpa using hk,fun j hj=>by
  have:l[j]∈l.take k:=by rw [List.mem_take_iff_getElem]; exact ⟨j,by omega,rfl⟩
  simpa using hp _ this⟩]
theorem b1K {l:List Ah} {t o:Int} (hp:∀ x∈l,¬ (x.tx=t/\x.out=o)):atI l t o=-1:=by
 unfold atI
 rw [List.findIdx?_eq_none_iff.2 fun x hx=>by simpa using hp x hx]
theorem Jj (l:List Ah) (t o:Int):(∃ (k:Nat) (h:k < l.length),atI l t o=k/\atC l t o=some l[k])∨(atI l t o=-1/\atC l t o=none):=by
 unfold atI
 cases hi:l.findIdx? (fun c=>decide (c.tx=t/\c.out=o)) with
 | none =>
   rw [List.findIdx?_eq_none_iff] at hi
   exact .inr ⟨rfl,b1J fun x hx=>by simpa using hi x hx⟩
 | some k =>
   obtain ⟨h,h1,h2⟩:=List.findIdx?_eq_some_iff_getElem.1 hi
   refine .inl ⟨k,h,rfl,b0a h (fun x hx=>?_) (by simpa using h1)⟩
   obtain ⟨j,hj,rfl⟩:=List.mem_take_iff_getElem.1 hx
   have:=h2 j (by omega)
   simpa using this
theorem Jk (l:List Ah) (t o:Int) (n:Nat) (hl:l.length<=1048576):Ret Tryz.prog 201 [A0 l,iv t,iv o] [] n true (Is (iv (atI l t o)) [] n):=by
 have hL:(l.map Ai).length=l.length:=by simp
 refine Ret.fn Ad Tryz.func201 rfl Tryz.call201 rfl rfl ?_
 refine Goes ?_
 refine Ao.go (fun k:Nat=>k<=l.length/\∀ x∈l.take k,¬ (x.tx=t/\x.out=o)) (fun k=>⟨[(0,A0 l),(1,iv t),(2,iv o),(7,iv k)],[],0⟩) (fun k=>l.length - k) 0 ⟨Nat.zero_le _,fun x hx=>by simp at hx⟩ (Ac.of rfl rfl ktA trivial) ?_
 intro k ⟨hk,hp⟩
 refine Goes ?_;repeat' first|apply W2.m|refine W1.m fun h=>?_
 · have aa:k < l.length:=by omega
   have next:¬ (l[k].tx=t/\l[k].out=o)->∀ x∈l.take (k + 1),¬ (x.tx=t/\x.out=o):=fun h x hx=>by
    rw [Bo l k aa] at hx
    rcases List.mem_append.1 hx with hx | hx
    · exact hp x hx
    · rw [List.mem_singleton.1 hx]; exact h
   rw [A1 Ai l k aa]
   refine ⟨by rw [hL]; exact ⟨by omega,by omega,rfl⟩,?_⟩
   refine Goes ?_;repeat' first|apply W2.m|refine W1.m fun h=>?_
   · rw [A1 Ai l k aa]
     refine ⟨by rw [hL]; exact ⟨by omega,by omega,rfl⟩,?_⟩
     refine Goes ?_;repeat' first|apply W2.m|refine W1.m fun h=>?_
     · refine Ab.pure rfl rfl rfl ⟨?_,rfl,rfl⟩
       rw [b0h aa hp ⟨by assumption,by assumption⟩]
     · exact ⟨k + 1,⟨by omega,next fun e=>absurd e.2 (by assumption)⟩,by omega,(Ac.of rfl rfl ktA trivial)⟩
   · exact ⟨k + 1,⟨by omega,next fun e=>absurd e.1 (by assumption)⟩,by omega,(Ac.of rfl rfl ktA trivial)⟩
 · obtain rfl:k=l.length:=by omega
   rw [List.take_length] at hp
   refine Ab.pure rfl rfl rfl ⟨?_,rfl,rfl⟩
   rw [b1K hp]
theorem b0i (l:List Ah) (x:InD) (text hg:Int) (n:Nat) (hl:l.length<=1048576) (h0:A5 l=0) (hh:inR 0 9999 hg):Ret Tryz.prog 234 [A0 l,.rp (A3 x),iv text,iv hg] [] n true (Is (iv (inQ l text hg x)) [] n):=by
 have hL:(l.map Ai).length=l.length:=by simp
 have ha:=fun n=>Jk l x.1 x.2.1 n hl
 unfold inR at hh
 unfold inQ
 refine Ret.fn Ad Tryz.func234 rfl Tryz.call234 rfl rfl ?_
 refine Goes ?_
 rcases Jj l x.1 x.2.1 with ⟨k,hk,e1,e2⟩ | ⟨e1,e2⟩
 · rw [e1] at ha
   rw [e2]
   have gA:=b0g h0 (List.getElem_mem hk)
   unfold inR at gA
   refine Aa.is (ha _) rfl ?_
   refine Goes ?_
   rw [A1 Ai l k hk]
   refine ⟨by rw [hL]; exact ⟨by omega,by omega,rfl⟩,?_⟩
   clear ha e1 e2
   have ho:=fun n=>a33 l[k].lock x.2.2 text hg n
   generalize l[k]=c at *
   obtain ⟨ctx,cout,cval,clock,ch,cbase⟩:=c
   dsimp only at gA ho ⊢
   generalize K2 clock x.2.2 text hg=op at *
   have hw:IntKind.i64.wrap (hg - ch)=hg - ch:=IntWalk.i64_in _ (by omega)
   cases cbase with
   | true =>
     refine Goes ?_;repeat' first|apply W2.m|refine W1.m fun h=>?_
     · have aw:hg < ch + 2:=(by have h':IntKind.i64.wrap (hg - ch) < 2:=(by assumption); omega)
       refine Ab.pure rfl rfl rfl ⟨?_,rfl,rfl⟩
       rw [if_pos ⟨rfl,aw⟩]
     · have aw:¬ hg < ch + 2:=(by have h':¬ IntKind.i64.wrap (hg - ch) < 2:=(by assumption); omega)
       rw [if_neg (fun e=>aw e.2)]
       refine Aa.is (ho _) rfl ?_
       refine Goes ?_
       cases op with
       | true =>
         refine Goes ?_
         refine Ab.pure rfl rfl rfl ⟨?_,rfl,rfl⟩
         rfl
       | false =>
         refine Goes ?_
         refine Ab.pure rfl rfl rfl ⟨?_,rfl,rfl⟩
         rfl
   | false =>
     refine Goes ?_
     rw [if_neg (fun e=>by cases e.1)]
     refine Aa.is (ho _) rfl ?_
     refine Goes ?_
     cases op with
     | true =>
       refine Goes ?_
       refine Ab.pure rfl rfl rfl ⟨?_,rfl,rfl⟩
       rfl
     | false =>
       refine Goes ?_
       refine Ab.pure rfl rfl rfl ⟨?_,rfl,rfl⟩
       rfl
 · rw [e1] at ha
   rw [e2]
   refine Aa.is (ha _) rfl ?_
   refine Goes ?_
   refine Ab.pure rfl rfl rfl ⟨?_,rfl,rfl⟩
   rfl
theorem H5 (c:Ah) (n:Nat) (hl:J3 c<=1048576):Ret Tryz.prog 203 [Gr c] [] n true (Is (Gr c) [] n):=by
 have h1:=fun n=>Ret.frList (by simp) (Fg c.lock n hl)
 refine Ret.fn Ad Tryz.func203 rfl Tryz.call203 rfl rfl ?_
 refine Goes ?_
 refine Aa.is (h1 _) rfl ?_
 refine Goes ?_
 refine Ab.pure rfl rfl rfl ⟨?_,rfl,rfl⟩
 rfl
theorem a5Y (l:List Ah) (n:Nat) (cQ:Qa l):Ret Tryz.prog 202 [A0 l] [] n true (Is (.own n l.length) [(n,.list 184 6 (l.map Ai))] (n + 1)):=by
 have hL:(l.map Ai).length=l.length:=by simp
 have hl:=cQ.len
 refine Ret.fn Ad Tryz.func202 rfl Tryz.call202 rfl rfl ?_
 refine Goes ?_
 refine Ao.go (fun k:Nat=>k<=l.length) (fun k=>⟨[(0,A0 l),(3,.own 0 k),(4,iv k)],[(0,.list 184 6 ((l.take k).map Ai))],1⟩) (fun k=>l.length - k) 0 (Nat.zero_le _) (Ac.of rfl rfl ktA ktA) ?_
 intro k hk
 refine Goes ?_;repeat' first|apply W2.m|refine W1.m fun h=>?_
 · have aa:k < l.length:=by omega
   rw [A1 Ai l k aa]
   refine ⟨by rw [hL]; exact ⟨by omega,by omega,rfl⟩,?_⟩
   refine Goes ?_
   refine Aa.is (H5 l[k] _ (cQ.locks _ (List.getElem_mem aa))) rfl ?_
   refine Goes ?_
   refine ⟨⟨by simp; omega,by show (k + 1) * 64<=_; omega,by show k + 1<=_; unfold maxLen; omega,Nat.le_refl 1,fun r hr=>by rw [List.mem_singleton.1 (List.mem_of_mem_take hr)]; rfl⟩,?_⟩
   refine Goes ?_
   refine ⟨k + 1,by omega,by omega,Ac.of rfl rfl ⟨⟨rfl,rfl⟩,⟨rfl,rfl⟩,⟨Aw Cm,rfl⟩,trivial⟩ ⟨⟨Ch ?_,rfl,rfl⟩,trivial⟩⟩
   rw [Bo l k aa,List.map_append,List.take_of_length_le (by simp; omega)]; rfl
 · obtain rfl:k=l.length:=by omega
   rw [List.take_length]
   refine Ab.mk' [0] rfl rfl rfl rfl rfl rfl rfl ⟨?_,?_,rfl⟩
   · rfl
   · rfl
theorem a5Z (l:List Ah) (k:Nat) (n:Nat) (hk:k < l.length) (hl:l.length<=1048576):Ret Tryz.prog 204 [A0 l,iv k] [] n true (Is (.own n (l.eraseIdx k).length) [(n,.list 184 6 ((l.eraseIdx k).map Ai))] (n + 1)):=by
 have hL:(l.map Ai).length=l.length:=by simp
 have hw:IntKind.i64.wrap ((k:Int) + 1)=((k + 1:Nat):Int):=by rw [IntWalk.i64_in _ (by omega)]; omega
 refine Ret.fn Ad Tryz.func204 rfl Tryz.call204 rfl rfl ?_
 refine Goes ?_
 rw [show List.take (Int.toNat (k:Int) - Int.toNat 0) (List.drop (Int.toNat 0) (l.map Ai))=(l.take k).map Ai from by simp]
 have hA:((l.take k).map Ai).length=k:=by simp; omega
 rw [hA]
 refine ⟨⟨Nat.le_refl _,by show (0 + k) * 64<=_; omega,by unfold maxLen; omega,True.intro,fun r hr=>by obtain ⟨x,_,rfl⟩:=List.mem_map.1 hr; rfl⟩,?_⟩
 refine Goes ?_
 rw [hw,hL]
 refine ⟨⟨by omega,by omega,.inr (by
  have aj:0 < l.length:=by omega
  have:=A1 Ai l 0 aj
  rw [show Int.toNat ((0:Nat):Int)=0 from rfl] at this
  rw [this]; rfl)⟩,?_⟩
 refine Goes ?_
 rw [show List.drop (Int.toNat ((k + 1:Nat):Int)) (l.map Ai)=(l.drop (k + 1)).map Ai from by rw [Int.toNat_natCast,List.map_drop]]
 have hB:((l.drop (k + 1)).map Ai).length=l.length - (k + 1):=by simp
 rw [hB]
 refine ⟨⟨by simp; omega,by show (0 + k + (l.length - (k + 1))) * 64<=_; omega,by unfold maxLen; omega,True.intro,fun r hr=>by obtain ⟨x,_,rfl⟩:=List.mem_map.1 hr; rfl⟩,?_⟩
 refine Goes ?_
 have hE:(l.take k).map Ai++(l.drop (k + 1)).map Ai=(l.eraseIdx k).map Ai:=by rw [List.eraseIdx_eq_take_drop_succ,List.map_append]
 refine Ab.mk' [0] rfl rfl rfl rfl rfl rfl rfl ⟨?_,?_,rfl⟩
 · exact R5 (by rw [List.length_eraseIdx_of_lt hk]; omega)
 · refine R6 ?_
   rw [<- hE,List.take_zero,List.nil_append,List.take_of_length_le (by rw [hA]; omega)]
theorem a8A (l:List Ah) (c:Ah) (n:Nat) (hl:l.length<=1048576):Ret Tryz.prog 206 [A0 l,Gr c] [] n true (Is (.own n (Jf c l).length) [(n,.list 184 6 ((Jf c l).map Ai))] (n + 1)):=by
 have hL:(l.map Ai).length=l.length:=by simp
 refine Ret.fn Ad Tryz.func206 rfl Tryz.call206 rfl rfl ?_
 have hP:∀ k,k<=l.length->(∀ x∈l.take k,Bz x c)->Jf c l=l.take k++Jf c (l.drop k):=by
  intro k
  induction k with
  | zero=>intro _ _; simp
  | succ k ih =>
    intro hk hx
    rw [ih (by omega) fun x df=>hx x (by rw [Bo l k hk]; exact List.mem_append_left _ df),Bo l k hk,List.drop_eq_getElem_cons hk,Jf,if_pos (hx _ (by rw [Bo l k hk]; exact List.mem_append_right _ (List.mem_singleton.2 rfl))),List.append_assoc]; rfl
 refine Goes ?_
 refine Ao.go (fun k:Nat=>k<=l.length/\∀ x∈l.take k,Bz x c) (fun k=>⟨[(0,A0 l),(3,.pt 0 0 0),(5,iv k)],[(0,.box (Ai c))],1⟩) (fun k=>l.length - k) 0 ⟨Nat.zero_le _,fun x hx=>by simp at hx⟩ (Ac.of rfl rfl ktA ktA) ?_
 intro k ⟨hk,hx⟩
 refine Goes ?_;repeat' first|apply W2.m|refine W1.m fun h=>?_
 · have aa:k < l.length:=by omega
   rw [A1 Ai l k aa]
   refine ⟨by rw [hL]; exact ⟨by omega,by omega,rfl⟩,?_⟩
   refine Goes ?_;repeat' first|apply W2.m|refine W1.m fun h=>?_
   refine Aa.convAIs (Ys l[k] c _) ⟨Qt rfl,b1i rfl ⟨B3 rfl,B3 rfl,B3 rfl,B3 rfl,B3 rfl,B3 rfl,trivial⟩ rfl,trivial⟩ rfl trivial ?_
   by_cases mg:Bz l[k] c
   · refine Goes ?_;repeat' first|apply W2.m|refine W1.m fun h=>?_
     exact ⟨k + 1,⟨by omega,fun x df=>by
      rw [Bo l k aa] at df
      rcases List.mem_append.1 df with df | df
      · exact hx x df
      · rw [List.mem_singleton.1 df]; exact mg⟩,by omega,(Ac.of rfl rfl ktA ktA)⟩
   · have aS:Jf c l=l.take k++c::l.drop k:=by rw [hP k hk hx,List.drop_eq_getElem_cons aa,Jf,if_neg mg]
     refine Goes ?_;repeat' first|apply W2.m|refine W1.m fun h=>?_
     rw [show List.take (Int.toNat (k:Int) - Int.toNat 0) (List.drop (Int.toNat 0) (l.map Ai))=(l.take k).map Ai from by simp]
     have hA:((l.take k).map Ai).length=k:=by simp; omega
     rw [hA]
     have k9:(k:Int)=0∨((l.map Ai).getD 0 []).length=6:=by
      by_cases hz:0 < l.length
      · have h0:=A1 Ai l 0 hz
        rw [show Int.toNat ((0:Nat):Int)=0 from rfl] at h0
        rw [h0]; exact .inr rfl
      · exact .inl (by omega)
     have hD:List.drop (Int.toNat (k:Int)) (l.map Ai)=(l.drop k).map Ai:=by rw [Int.toNat_natCast,List.map_drop]
     have hB:((l.drop k).map Ai).length=l.length - k:=by simp
     have hE:(l.take k).map Ai++[Ai c]++(l.drop k).map Ai=(Jf c l).map Ai:=by rw [aS,List.map_append,List.map_cons,List.append_assoc]; rfl
     have hN:(Jf c l).length=k + 1 + (l.length - k):=by rw [aS,List.length_append,List.length_take,List.length_cons,List.length_drop]; omega
     refine ⟨⟨Nat.le_refl _,by show (0 + k) * 64<=_; omega,by unfold maxLen; omega,True.intro,fun r hr=>by obtain ⟨x,_,rfl⟩:=List.mem_map.1 hr; rfl⟩,?_⟩
     refine Goes ?_;repeat' first|apply W2.m|refine W1.m fun h=>?_
     all_goals repeat' first
      | refine And.intro ⟨by simp; omega,by show (0 + k + 1) * 64<=_; omega,by show 0 + k + 1<=_; unfold maxLen; omega,Nat.le_refl 1,fun r hr=>by rw [List.mem_singleton.1 (List.mem_of_mem_take hr)]; rfl⟩ ?_
        refine Goes ?_
      | refine And.intro ⟨by omega,by rw [hL]; omega,k9⟩ ?_
        refine Goes ?_
      | rw [hD,hB]
        refine And.intro ⟨by simp; omega,by show (0 + k + 1 + (l.length - k)) * 64<=_; omega,by show 0 + k + 1 + (l.length - k)<=_; unfold maxLen; omega,True.intro,fun r hr=>by obtain ⟨x,_,rfl⟩:=List.mem_map.1 hr; rfl⟩ ?_
        refine Goes ?_
     all_goals
      refine Ab.mk' [1] rfl rfl rfl rfl rfl rfl rfl ⟨?_,?_,rfl⟩
      · exact R5 (by rw [hN]; show 0 + k + 1 + (l.length - k)=_; omega)
      · refine R6 ?_
        rw [<- hE,List.take_zero,List.nil_append,show List.take (0 + k) ((l.take k).map Ai)=(l.take k).map Ai from List.take_of_length_le (by rw [hA]; omega)]
        refine congrArg (·++(l.drop k).map Ai) ((List.take_of_length_le ?_).trans rfl)
        rw [List.length_append,hA]
        show k + 1<=0 + k + 1
        omega
 · obtain rfl:k=l.length:=by omega
   have aS:Jf c l=l.take l.length++c::l.drop l.length:=by rw [hP l.length (Nat.le_refl _) hx,List.drop_length,Jf]
   have hk:=Nat.le_refl l.length
   obtain ⟨k,bf⟩:∃ k,k=l.length:=⟨_,rfl⟩
   rw [<- bf] at aS hk ⊢
   rw [show List.take (Int.toNat (k:Int) - Int.toNat 0) (List.drop (Int.toNat 0) (l.map Ai))=(l.take k).map Ai from by simp]
   have hA:((l.take k).map Ai).length=k:=by simp; omega
   rw [hA]
   have k9:(k:Int)=0∨((l.map Ai).getD 0 []).length=6:=by
    by_cases hz:0 < l.length
    · have h0:=A1 Ai l 0 hz
      rw [show Int.toNat ((0:Nat):Int)=0 from rfl] at h0
      rw [h0]; exact .inr rfl
    · exact .inl (by omega)
   have hD:List.drop (Int.toNat (k:Int)) (l.map Ai)=(l.drop k).map Ai:=by rw [Int.toNat_natCast,List.map_drop]
   have hB:((l.drop k).map Ai).length=l.length - k:=by simp
   have hE:(l.take k).map Ai++[Ai c]++(l.drop k).map Ai=(Jf c l).map Ai:=by rw [aS,List.map_append,List.map_cons,List.append_assoc]; rfl
   have hN:(Jf c l).length=k + 1 + (l.length - k):=by rw [aS,List.length_append,List.length_take,List.length_cons,List.length_drop]; omega
   refine ⟨⟨Nat.le_refl _,by show (0 + k) * 64<=_; omega,by unfold maxLen; omega,True.intro,fun r hr=>by obtain ⟨x,_,rfl⟩:=List.mem_map.1 hr; rfl⟩,?_⟩
   refine Goes ?_;repeat' first|apply W2.m|refine W1.m fun h=>?_
   all_goals repeat' first
    | refine And.intro ⟨by simp; omega,by show (0 + k + 1) * 64<=_; omega,by show 0 + k + 1<=_; unfold maxLen; omega,Nat.le_refl 1,fun r hr=>by rw [List.mem_singleton.1 (List.mem_of_mem_take hr)]; rfl⟩ ?_
      refine Goes ?_
    | refine And.intro ⟨by omega,by rw [hL]; omega,k9⟩ ?_
      refine Goes ?_
    | rw [hD,hB]
      refine And.intro ⟨by simp; omega,by show (0 + k + 1 + (l.length - k)) * 64<=_; omega,by show 0 + k + 1 + (l.length - k)<=_; unfold maxLen; omega,True.intro,fun r hr=>by obtain ⟨x,_,rfl⟩:=List.mem_map.1 hr; rfl⟩ ?_
      refine Goes ?_
   all_goals
    refine Ab.mk' [1] rfl rfl rfl rfl rfl rfl rfl ⟨?_,?_,rfl⟩
    · exact R5 (by rw [hN]; show 0 + k + 1 + (l.length - k)=_; omega)
    · refine R6 ?_
      rw [<- hE,List.take_zero,List.nil_append,show List.take (0 + k) ((l.take k).map Ai)=(l.take k).map Ai from List.take_of_length_le (by rw [hA]; omega)]
      refine congrArg (·++(l.drop k).map Ai) ((List.take_of_length_le ?_).trans rfl)
      rw [List.length_append,hA]
      show k + 1<=0 + k + 1
      omega
theorem Y8:∀ (ys:List Cx) (s:Int),F5 s ys=0->∀ y∈ys,inR 0 1000000 y.1/\C3 y.2=0
 | [],_,_,y,hy=>by cases hy
 | x::r,s,h,y,hy=>by
   rw [F5] at h
   by_cases h1:inR 0 1000000 x.1
   · rw [if_neg (fun e=>e h1)] at h
     by_cases h2:C3 x.2≠0
     · rw [if_pos h2] at h; exact absurd h h2
     · rw [if_neg h2] at h
       rcases List.mem_cons.1 hy with rfl | hy
       · exact ⟨h1,Decidable.not_not.1 h2⟩
       · exact Y8 r _ h y hy
   · rw [if_pos h1] at h; cases h
theorem b0j {t:TxD} {hg:Int} (hz:A7 t=0) (hh:inR 0 9999 hg):∀ c∈B0 t hg,Ed c=0:=by
 intro c hc
 obtain ⟨k,hk,rfl⟩:=List.mem_iff_getElem.1 hc
 rw [C2] at hk
 rw [G9 t hg k hk]
 have h4:=(Gp hz).2.2.2.1
 obtain ⟨g1,g2⟩:=Y8 _ _ (Gp hz).2.2.2.2.2 _ (List.getElem_mem hk)
 have hs:=O4 (E3 (Ik t))
 unfold Ed
 dsimp only
 rw [if_pos ⟨⟨hs.1,hs.2⟩,⟨by omega,by omega⟩,g1,hh⟩]
 exact g2
theorem a2D:∀ (l:List Ah) (p:Option Ah),cgC p l=0->∀ c∈l,Ed c=0
 | [],_,_,c,hc=>by cases hc
 | d::r,p,h,c,hc=>by
   rw [cgC] at h
   by_cases h1:Ed d≠0
   · rw [if_pos h1] at h; exact absurd h h1
   · rw [if_neg h1] at h
     by_cases h2:Sq p d=true
     · rw [if_pos h2] at h
       rcases List.mem_cons.1 hc with rfl | hc
       · exact Decidable.not_not.1 h1
       · exact a2D r _ h c hc
     · rw [if_neg h2] at h; cases h
theorem b0k:∀ (l:List Ah) (p:Option Ah),(∀ c∈l,Ed c=0)->l.Pairwise Bz->(∀ q,p=some q->∀ c∈l,Bz q c)->cgC p l=0
 | [],_,_,_,_=>rfl
 | d::r,p,h,hp,hq=>by
   have hd:=List.pairwise_cons.1 hp
   rw [cgC,if_neg (fun e=>e (h d (List.mem_cons_self ..))),if_pos]
   · exact b0k r (some d) (fun c hc=>h c (List.mem_cons_of_mem _ hc)) hd.2 fun q ac c hc=>by cases ac; exact hd.1 c hc
   · cases p with
     | none=>rfl
     | some q=>simpa [Sq] using hq q rfl d (List.mem_cons_self ..)
theorem a1n:∀ (xs:List InD) (l:List Ah),(∀ x∈xs,∃ c,atC l x.1 x.2.1=some c)->xs.Pairwise (fun a b=>¬ (a.1=b.1/\a.2.1=b.2.1))->(B6 l xs).length + xs.length=l.length
 | [],l,_,_=>rfl
 | x::r,l,h,hp=>by
   have hx:=List.pairwise_cons.1 hp
   obtain ⟨c,hc⟩:=h x (List.mem_cons_self ..)
   have hm:=List.mem_of_find?_eq_some hc
   have hk:=List.find?_some hc
   have h1:=List.length_eraseP_of_mem (p:=keyB x.1 x.2.1) hm hk
   have aE:=List.length_pos_of_mem hm
   have ih:=a1n r (l.eraseP (keyB x.1 x.2.1)) (fun y hy=>by
    rw [Ut (hx.1 y hy)]
    exact h y (List.mem_cons_of_mem _ hy)) hx.2
   show (B6 (l.eraseP (keyB x.1 x.2.1)) r).length + (r.length + 1)=l.length
   omega
theorem a4b {l:List Ah} {t:TxD} {hg:Int} (hz:A7 t=0) (hq:∀ x∈t.2.1,∃ c,atC l x.1 x.2.1=some c):(newC l t hg).length + t.2.1.length=l.length + t.2.2.length:=by
 have h1:=a1n _ _ hq (Q5 _ _ (Gp hz).2.2.2.2.1).2
 have h2:=(Lt l t hg).length_eq
 rw [List.length_append,C2] at h2
 omega
theorem a1o {l:List Ah} {t:TxD} {hg:Int} (h0:A5 l=0) (hz:A7 t=0) (hh:inR 0 9999 hg) (ha:((B0 t hg).any fun c=>(atC l c.tx c.out).isSome)=false) :
 A5 (newC l t hg)=if 40 < (newC l t hg).length then 2 else if inR 0 1000000 (Cf (Cn (newC l t hg))) then 0 else 7:=by
 have nF:cgC none (newC l t hg)=0:=b0k _ _ (fun c hc=>by
  rcases List.mem_append.1 ((Lt l t hg).mem_iff.1 hc) with hc | hc
  · exact a2D _ _ (Dp h0).2.1 c ((Dq _ _).subset hc)
  · exact b0j hz hh c hc) (Of h0 ha) fun q hq=>by cases hq
 unfold A5
 rw [if_neg (c:=cgC none (newC l t hg)≠0) (fun e=>e nF)]
theorem a1p (l:List Ah) (n:Nat) (cQ:Qa l):Ret Tryz.prog 202 [A0 l] [] n true (Is (A0 l) [] n):=Ret.frList (by simp) (a5Y l n cQ)
theorem a1q (l:List Ah) (k:Nat) (n:Nat) (hk:k < l.length) (hl:l.length<=1048576):Ret Tryz.prog 204 [A0 l,iv k] [] n true (Is (A0 (l.eraseIdx k)) [] n):=Ret.frList (by simp) (a5Z l k n hk hl)
theorem a4c (l:List Ah) (c:Ah) (n:Nat) (hl:l.length<=1048576):Ret Tryz.prog 206 [A0 l,Gr c] [] n true (Is (A0 (Jf c l)) [] n):=Ret.frList (by simp) (a8A l c n hl)
abbrev Uu (z:Int):AV:=.agg [iv z,iv 0,nl,nl]
theorem Y9 (l:List Ah) (t:TxD):F6 l t.2.1=Cn (Ba l t):=by
 unfold F6 Cn Ba
 rw [List.map_map]
 refine List.map_congr_left fun x _=>?_
 unfold Oe
 show _=((atC l x.1 x.2.1).getD J6).val
 cases atC l x.1 x.2.1 <;> rfl
theorem a1r {l:List Ah} {t o:Int} {j:Nat} (e:atI l t o=j):l.eraseIdx j=l.eraseP (keyB t o):=by
 rw [List.eraseP_eq_eraseIdx]
 show _=match l.findIdx? (fun c=>decide (c.tx=t/\c.out=o)) with | none=>l | some i=>l.eraseIdx i
 unfold atI at e
 cases hi:l.findIdx? (fun c=>decide (c.tx=t/\c.out=o)) with
 | none=>rw [hi] at e; dsimp only at e; omega
 | some k =>
   rw [hi] at e
   dsimp only at e
   obtain rfl:k=j:=by omega
   rfl
theorem Ht (z:Int) (n:Nat):Ret Tryz.prog 74 [iv z] [] n true (Is (Uu z) [] n):=by
 refine Ret.fn Ad Tryz.func74 rfl Tryz.call74 rfl rfl ?_
 refine Goes ?_
 refine Ab.pure rfl rfl rfl ⟨?_,rfl,rfl⟩
 rfl
abbrev a4d (z:Int):AV:=.agg [iv z,iv 0,nl,nl]
def b1L (l:List Ah) (t:TxD) (hg:Int) (n T:Nat):AV->Hp->Nat->Prop:=fun r ho m =>
 (Bf l t hg≠0/\r=a4d (Bf l t hg)/\ho=[]/\m=n) ∨
 (Bf l t hg=0/\r=.agg [iv 0,iv (Gx l t),.own n (Ba l t).length,.own (n + 1) (newC l t hg).length]/\ho=[(n,.nest (c:=true) T 6 ((Ba l t).map Fj)),(n + 1,.nest (c:=true) T 6 ((newC l t hg).map Fj))]/\m=n + 2)
theorem V2 (l:List Ah) (n:Nat) (h0:A5 l=0) (hl:l.length<=1048576):Ret Tryz.prog 219 [A0 l] [] n true (Is (.mp n) [(n,.map kks (Ez l))] (n + 1)):=by
 rw [<- Us h0]; exact Y0 l n hl
theorem a2E (t:TxD) (hg:Int) (n:Nat) (hz:A7 t=0) (hf:Fits t):Ret Tryz.prog 220 [txV t,iv hg] [] n true (Is (A0 (B0 t hg)) [] n) :=
 Ret.freeze (by rintro _ _ _ ⟨rfl,rfl,rfl⟩; exact ⟨_,Jz (Ae _ _ _) (by simp),rfl,rfl,rfl⟩) (a0f t hg n hz hf)
set_option maxHeartbeats 2000000 in
theorem Qd (l:List Ah) (t:TxD) (hg:Int) (n:Nat) (cQ:Qa l) (hf:Fits t):Ret Tryz.prog 178 [A0 l,txV t,iv hg] [] n true (b1L l t hg n 184):=by
 have hl:=cQ.len
 have he:=fun n=>a5X l t hg n hl hf
 by_cases h1:A5 l≠0
 · have hA:Bf l t hg=A5 l:=by unfold Bf; rw [if_pos h1]
   simp only [if_pos h1] at he
   refine Ret.fn Ad Tryz.func178 rfl Tryz.call178 rfl rfl ?_
   refine Goes ?_
   refine Aa.is (he _) rfl ?_
   refine Goes ?_;repeat' first|apply W2.m|refine W1.m fun h=>?_
   refine Ab.pure rfl rfl rfl (.inl ⟨by rw [hA]; exact h1,?_,rfl,rfl⟩)
   rw [hA]
 by_cases h2:A7 t≠0
 · have hA:Bf l t hg=A7 t:=by unfold Bf; rw [if_neg h1,if_pos h2]
   simp only [if_neg h1,if_pos h2] at he
   refine Ret.fn Ad Tryz.func178 rfl Tryz.call178 rfl rfl ?_
   refine Goes ?_
   refine Aa.is (he _) rfl ?_
   refine Goes ?_;repeat' first|apply W2.m|refine W1.m fun h=>?_
   refine Ab.pure rfl rfl rfl (.inl ⟨by rw [hA]; exact h2,?_,rfl,rfl⟩)
   rw [hA]
 by_cases h3:inR 0 9999 hg
 case neg =>
  have hA:Bf l t hg=3:=by unfold Bf; rw [if_neg h1,if_neg h2,if_pos h3]
  simp only [if_neg h1,if_neg h2,if_neg h3] at he
  refine Ret.fn Ad Tryz.func178 rfl Tryz.call178 rfl rfl ?_
  refine Goes ?_
  refine Aa.is (he _) rfl ?_
  refine Goes ?_
  refine Ab.pure rfl rfl rfl (.inl ⟨by rw [hA]; decide,?_,rfl,rfl⟩)
  rw [hA]
 simp only [if_neg h1,if_neg h2,if_pos h3] at he
 have h0:A5 l=0:=Decidable.not_not.1 h1
 have hz:A7 t=0:=Decidable.not_not.1 h2
 have aZ:=Ev hz
 refine Ret.fn Ad Tryz.func178 rfl Tryz.call178 rfl rfl ?_
 refine Goes ?_
 have dJ:=aZ.2.2.1
 have ji:t.2.1.length<=1048576:=by have:=aZ.2.1; omega
 have iN:(B0 t hg).length<=1048576:=by rw [C2]; omega
 have lc:=(Dp h0).1
 have iC:=(Dq t.2.1 l).length_le
 have k7:(B6 l t.2.1).length + (B0 t hg).length<=60:=by rw [C2]; omega
 have dB:∀ c∈B6 l t.2.1,J3 c<=1048576:=fun c hc=>cQ.locks c ((Dq _ _).subset hc)
 have iw:∀ c∈B0 t hg,J3 c<=1048576:=fun c hc=>by
  obtain ⟨k,hk,rfl⟩:=List.mem_iff_getElem.1 hc
  rw [C2] at hk
  rw [G9 t hg k hk]
  exact hf.locks _ (List.getElem_mem hk)
 have mi:(newC l t hg).length<=1048576:=by rw [(Lt l t hg).length_eq,List.length_append]; omega
 have iJ:∀ i n,Ret Tryz.prog 221 [.mp i,txV t,iv hg] [(i,.map kks (Ez l))] n true (Is (iv (Dj l t hg)) [(i,.map kks (Ez l))] n):=fun i n=>by
  rw [<- Us h0]; exact Y6 l t hg i n h0 hz h3 hf
 have hex:∀ i n,Ret Tryz.prog 222 [.mp i,txV t] [(i,.map kks (Ez l))] n true (Is (iv (Cf (F6 l t.2.1) - Cf (Di t.2.2))) [(i,.map kks (Ez l))] n):=fun i n=>by
  rw [<- Us h0]; exact Y5 l t i n h0 aZ
 refine Aa.is (he _) rfl ?_
 refine Goes ?_
 refine Aa.is (V2 l _ h0 hl) rfl ?_
 refine Goes ?_
 refine Aa.is (a2E t hg _ hz hf) rfl ?_
 refine Goes ?_
 by_cases hb:t.2.1.length=0
 · have dV:¬ (¬ t.2.1.length=0/\Dj l t hg≠0):=fun h=>h.1 hb
   have ci:=M0 dV
   have lg:∀ c∈Ba l t,J3 c<=1048576:=fun c hc=>cQ.locks c (Mz ci hc)
   have dW:Gx l t=0:=by unfold Gx; rw [if_pos hb]
   refine Aa.is (J0 t _) rfl ?_
   refine Goes ?_;repeat' first|apply W2.m|refine W1.m fun h=>?_
   refine Aa.heapIs (M9 l (B0 t hg) 3 2 _ (by decide) iN) rfl ktA rfl ?_
   refine Goes ?_
   cases ha:((B0 t hg).any fun c=>(atC l c.tx c.out).isSome) with
   | true =>
     have hA:Bf l t hg=6:=by unfold Bf; rw [if_neg h1,if_neg h2,if_neg (fun h=>h h3),if_neg dV,if_pos ha]
     refine Goes ?_
     refine Ab.pure rfl rfl rfl (.inl ⟨by rw [hA]; decide,?_,rfl,rfl⟩)
     rw [hA]
   | false =>
     have hA:Bf l t hg=A5 (newC l t hg):=by unfold Bf; rw [if_neg h1,if_neg h2,if_neg (fun h=>h h3),if_neg dV,if_neg (by rw [ha]; decide)]
     have lh:=Of (hg:=hg) h0 ha
     refine Goes ?_
     refine Aa.heapIs (a36 l (Ba l t) t.2.1 2 _ ji (Gg l t) lg (Pn hz ci)) rfl ktA rfl ?_
     refine Goes ?_
     refine Aa.heap (Sz (B6 l t.2.1) (B0 t hg) (newC l t hg) 2 _ k7 dB iw lh (Lt l t hg)) rfl ktA rfl ?_
     rintro _ _ _ ⟨x,rfl,rfl,rfl⟩
     refine Goes ?_
     refine Aa.convAIs (Gf (newC l t hg) _ mi) ⟨a93 rfl rfl (a2x _) (by simp),trivial⟩ rfl trivial ?_
     by_cases jF:A5 (newC l t hg)=0
     · refine Goes ?_;repeat' first|apply W2.m|refine W1.m fun h=>?_
       refine Ab.mk' [4,5] rfl rfl rfl rfl rfl rfl rfl (.inr ⟨by rw [hA]; exact jF,?_,rfl,rfl⟩)
       rw [Gg,dW]; rfl
     · refine Goes ?_;repeat' first|apply W2.m|refine W1.m fun h=>?_
       refine Ab.pure rfl rfl rfl (.inl ⟨by rw [hA]; exact jF,?_,rfl,rfl⟩)
       rw [hA]
 · have dW:Gx l t=Cf (F6 l t.2.1) - Cf (Di t.2.2):=by unfold Gx; rw [if_neg hb]
   by_cases hs:Dj l t hg=0
   · have dV:¬ (¬ t.2.1.length=0/\Dj l t hg≠0):=fun h=>h.2 hs
     have ci:=M0 dV
     have lg:∀ c∈Ba l t,J3 c<=1048576:=fun c hc=>cQ.locks c (Mz ci hc)
     refine Aa.is (J0 t _) rfl ?_
     refine Goes ?_;repeat' first|apply W2.m|refine W1.m fun h=>?_
     refine Aa.heapIs (iJ 2 _) rfl ktA rfl ?_
     refine Goes ?_;repeat' first|apply W2.m|refine W1.m fun h=>?_
     refine Aa.heapIs (hex 2 _) rfl ktA rfl ?_
     refine Goes ?_
     refine Aa.heapIs (M9 l (B0 t hg) 3 2 _ (by decide) iN) rfl ktA rfl ?_
     refine Goes ?_
     cases ha:((B0 t hg).any fun c=>(atC l c.tx c.out).isSome) with
     | true =>
       have hA:Bf l t hg=6:=by unfold Bf; rw [if_neg h1,if_neg h2,if_neg (fun h=>h h3),if_neg dV,if_pos ha]
       refine Goes ?_
       refine Ab.pure rfl rfl rfl (.inl ⟨by rw [hA]; decide,?_,rfl,rfl⟩)
       rw [hA]
     | false =>
       have hA:Bf l t hg=A5 (newC l t hg):=by unfold Bf; rw [if_neg h1,if_neg h2,if_neg (fun h=>h h3),if_neg dV,if_neg (by rw [ha]; decide)]
       have lh:=Of (hg:=hg) h0 ha
       refine Goes ?_
       refine Aa.heapIs (a36 l (Ba l t) t.2.1 2 _ ji (Gg l t) lg (Pn hz ci)) rfl ktA rfl ?_
       refine Goes ?_
       refine Aa.heap (Sz (B6 l t.2.1) (B0 t hg) (newC l t hg) 2 _ k7 dB iw lh (Lt l t hg)) rfl ktA rfl ?_
       rintro _ _ _ ⟨x,rfl,rfl,rfl⟩
       refine Goes ?_
       refine Aa.convAIs (Gf (newC l t hg) _ mi) ⟨a93 rfl rfl (a2x _) (by simp),trivial⟩ rfl trivial ?_
       by_cases jF:A5 (newC l t hg)=0
       · refine Goes ?_;repeat' first|apply W2.m|refine W1.m fun h=>?_
         refine Ab.mk' [4,5] rfl rfl rfl rfl rfl rfl rfl (.inr ⟨by rw [hA]; exact jF,?_,rfl,rfl⟩)
         rw [Gg,dW]; rfl
       · refine Goes ?_;repeat' first|apply W2.m|refine W1.m fun h=>?_
         refine Ab.pure rfl rfl rfl (.inl ⟨by rw [hA]; exact jF,?_,rfl,rfl⟩)
         rw [hA]
   · have hA:Bf l t hg=Dj l t hg:=by unfold Bf; rw [if_neg h1,if_neg h2,if_neg (fun h=>h h3),if_pos ⟨hb,hs⟩]
     refine Aa.is (J0 t _) rfl ?_
     refine Goes ?_;repeat' first|apply W2.m|refine W1.m fun h=>?_
     refine Aa.heapIs (iJ 2 _) rfl ktA rfl ?_
     refine Goes ?_;repeat' first|apply W2.m|refine W1.m fun h=>?_
     refine Ab.pure rfl rfl rfl (.inl ⟨by rw [hA]; exact hs,?_,rfl,rfl⟩)
     rw [hA]
abbrev b2c (l:List Ah) (t:TxD) (hg:Int):AV:=.agg [iv 0,iv (Gx l t),A0 (Ba l t),A0 (newC l t hg)]
theorem a2F {l:List Ah} {t:TxD} {hg:Int} (h:Bf l t hg=0):A5 l=0/\A7 t=0/\inR 0 9999 hg:=by
 unfold Bf at h
 by_cases h1:A5 l≠0
 · rw [if_pos h1] at h; exact absurd h h1
 rw [if_neg h1] at h
 by_cases h2:A7 t≠0
 · rw [if_pos h2] at h; exact absurd h h2
 rw [if_neg h2] at h
 by_cases h3:inR 0 9999 hg
 · exact ⟨Decidable.not_not.1 h1,Decidable.not_not.1 h2,h3⟩
 · rw [if_pos h3] at h; cases h
theorem a2G (l:List Ah) (t:TxD) (hg:Int) (n:Nat) (cQ:Qa l) (hf:Fits t) (hA:Bf l t hg=0):Ret Tryz.prog 178 [A0 l,txV t,iv hg] [] n true (Is (b2c l t hg) [] n):=by
 refine Ret.freeze ?_ (Qd l t hg n cQ hf)
 rintro _ _ _ (⟨h,_⟩ | ⟨_,rfl,rfl,rfl⟩)
 · exact absurd hA h
 · exact ⟨_,.agg _ [iv 0,iv (Gx l t),A0 (Ba l t),A0 (newC l t hg)] ⟨fr0 rfl,fr0 rfl,a5P (Ae _ _ _) (a2x _) (by simp),a5P ((An _ _ (by omega)).trans (Ae _ _ _)) (a2x _) (by simp),trivial⟩,rfl,rfl,rfl⟩
theorem a0g (l:List Ah) (t:TxD) (hg:Int) (n:Nat) (cQ:Qa l) (hf:Fits t) (hA:Bf l t hg≠0):Ret Tryz.prog 178 [A0 l,txV t,iv hg] [] n true (Is (a4d (Bf l t hg)) [] n):=by
 refine Ret.mono ?_ (Qd l t hg n cQ hf)
 rintro _ _ _ (⟨_,rfl,rfl,rfl⟩ | ⟨h,_⟩)
 · exact ⟨rfl,rfl,rfl⟩
 · exact absurd h hA
end Go.Proofs.YtllhgcfacgiabaaGreat
