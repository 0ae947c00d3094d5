import Derived.Test.YtllhgcfacgiabaaGreatP77
import Derived.Test.YtllhgcfacgiabaaGreatP54
import Derived.Test.YtllhgcfacgiabaaGreatP74
namespace Go.Proofs.YtllhgcfacgiabaaGreat
open Go Go.Am Go.RowKit
set_option linter.unusedVariables false
set_option linter.unusedSimpArgs false
def putC (c:CoinD):List CoinD→List CoinD
 | []=>[c]
 | x::r=>if lessP x c then x::putC c r else c::x::r
theorem putC_perm (c:CoinD):∀ m,(putC c m).Perm (c::m)
 | []=>List.Perm.refl _
 | x::r=>by
   rw [putC]
   split
   · exact ((putC_perm c r).cons x).trans (List.Perm.swap c x r)
   · exact List.Perm.refl _
def apartP (a b:CoinD):Prop:=¬ (a.tx=b.tx∧a.out=b.out)
theorem putC_rising (c:CoinD):∀ m:List CoinD,m.Pairwise lessP→(∀ x∈m,apartP x c)→(putC c m).Pairwise lessP
 | [],_,_=>List.pairwise_singleton _ _
 | x::r,h,ha=>by
   have hx:=List.pairwise_cons.1 h
   rw [putC]
   split
   · rename_i hl
     refine List.pairwise_cons.2 ⟨fun y hy=>?_,putC_rising c r hx.2 fun y hy=>ha y (List.mem_cons_of_mem _ hy)⟩
     rcases List.mem_cons.1 ((putC_perm c r).mem_iff.1 hy) with rfl | hy
     · exact hl
     · exact hx.1 y hy
   · rename_i hl
     have hxc:=ha x (List.mem_cons_self ..)
     have hcx:lessP c x:=by unfold apartP at hxc; unfold lessP at *; omega
     refine List.pairwise_cons.2 ⟨fun y hy=>?_,h⟩
     rcases List.mem_cons.1 hy with rfl | hy
     · exact hcx
     · exact lessP_trans hcx (hx.1 y hy)
def putsC (m ms:List CoinD):List CoinD:=ms.foldl (fun m c=>putC c m) m
theorem putsC_perm:∀ (ms m:List CoinD),(putsC m ms).Perm (m++ms)
 | [],m=>by rw [List.append_nil]; exact List.Perm.refl _
 | c::r,m=>by
   refine (putsC_perm r (putC c m)).trans (((putC_perm c m).append_right r).trans ?_)
   exact (List.perm_middle (l₁:=m) (l₂:=r) (a:=c)).symm
theorem putsC_rising:∀ (ms m:List CoinD),m.Pairwise lessP→ms.Pairwise lessP→(∀ x∈m,∀ c∈ms,apartP x c)→(putsC m ms).Pairwise lessP
 | [],m,h,_,_=>h
 | c::r,m,h,hm,ha=>by
   have hc:=List.pairwise_cons.1 hm
   refine putsC_rising r (putC c m) (putC_rising c m h fun x hx=>ha x hx c (List.mem_cons_self ..)) hc.2 fun x hx d hd=>?_
   rcases List.mem_cons.1 ((putC_perm c m).mem_iff.1 hx) with rfl | hx
   · have:=hc.1 d hd
     unfold apartP; unfold lessP at this; omega
   · exact ha x hx d (List.mem_cons_of_mem _ hd)
theorem restE_sub:∀ (xs:List InD) (l:List CoinD),(restE l xs).Sublist l
 | [],l=>List.Sublist.refl _
 | x::r,l=>(restE_sub r _).trans List.eraseP_sublist
theorem atC_erase {t o t' o':Int} (h:¬ (t=t'∧o=o')):∀ l:List CoinD,atC (l.eraseP (keyB t o)) t' o'=atC l t' o'
 | []=>rfl
 | c::r=>by
   have ih:=atC_erase h r
   unfold atC at *
   by_cases hc:c.tx=t∧c.out=o
   · rw [List.eraseP_cons_of_pos (by simpa using hc),List.find?_cons_of_neg (by simp; omega)]
   · rw [List.eraseP_cons_of_neg (by simpa using hc)]
     by_cases hc2:c.tx=t'∧c.out=o'
     · rw [List.find?_cons_of_pos (by simpa using hc2),List.find?_cons_of_pos (by simpa using hc2)]
     · rw [List.find?_cons_of_neg (by simpa using hc2),List.find?_cons_of_neg (by simpa using hc2),ih]
theorem atC_rest {t' o':Int}:∀ (xs:List InD) (l:List CoinD),(∀ x∈xs,¬ (x.1=t'∧x.2.1=o'))→atC (restE l xs) t' o'=atC l t' o'
 | [],l,_=>rfl
 | x::r,l,h=>(atC_rest r _ fun y hy=>h y (List.mem_cons_of_mem _ hy)).trans (atC_erase (h x (List.mem_cons_self ..)) l)
theorem insC_apart:∀ (xs e:List InD),insC e xs=0→(∀ y∈e,∀ x∈xs,¬ (y.1=x.1∧y.2.1=x.2.1))∧xs.Pairwise fun a b=>¬ (a.1=b.1∧a.2.1=b.2.1)
 | [],e,_=>⟨fun y _ x hx=>(by cases hx),.nil⟩
 | x::r,e,h=>by
   rw [insC] at h
   split at h
   · rename_i h1; exact absurd h h1
   · rename_i h1
     obtain ⟨g1,g2⟩:=insC_apart r (e++[x]) h
     have hd:=(inC_ok (Decidable.not_not.1 h1)).2.2.2
     refine ⟨fun y hy z hz=>?_,List.pairwise_cons.2 ⟨fun z hz=>g1 x (List.mem_append_right _ (List.mem_singleton.2 rfl)) z hz,g2⟩⟩
     rcases List.mem_cons.1 hz with rfl | hz
     · intro e'
       unfold dupB at hd
       rw [List.any_eq_false] at hd
       exact hd y hy (by simp [e'])
     · exact g1 y (List.mem_append_left _ hy) z hz
theorem insQ_all {l:List CoinD} {text h:Int}:∀ {xs:List InD},insQ l text h xs=0→∀ x∈xs,∃ c,atC l x.1 x.2.1=some c
 | [],_,x,hx=>by cases hx
 | y::r,hq,x,hx=>by
   rw [insQ] at hq
   split at hq
   · rename_i h1; exact absurd hq h1
   · rename_i h1
     rcases List.mem_cons.1 hx with rfl | hx
     · have h2:=Decidable.not_not.1 h1
       unfold inQ at h2
       cases ha:atC l x.1 x.2.1 with
       | none=>rw [ha] at h2; cases h2
       | some c=>exact ⟨c,rfl⟩
     · exact insQ_all hq x hx
def takenC (l:List CoinD) (t:TxD):List CoinD:=t.2.1.map fun x=>(atC l x.1 x.2.1).getD coin0
theorem takenC_len (l:List CoinD) (t:TxD):(takenC l t).length=t.2.1.length:=by simp [takenC]
theorem takenC_at {l:List CoinD} {t:TxD} (hz:faultC t=0) (hq:∀ x∈t.2.1,∃ c,atC l x.1 x.2.1=some c) (k:Nat) (h:k < t.2.1.length):atC (restE l (t.2.1.take k)) t.2.1[k].1 t.2.1[k].2.1=(takenC l t)[k]?:=by
 have hp:=(insC_apart _ _ (fault_parts hz).2.2.2.2.1).2
 rw [atC_rest _ _ fun x hx=>by
  obtain ⟨i,hi,rfl⟩:=List.mem_iff_getElem.1 hx
  rw [List.length_take] at hi
  rw [List.getElem_take]
  exact List.pairwise_iff_getElem.1 hp i k (by omega) h (by omega)]
 obtain ⟨c,hc⟩:=hq _ (List.getElem_mem h)
 rw [List.getElem?_eq_getElem (by rw [takenC_len]; exact h),hc]
 simp [takenC,hc]
theorem takenC_mem {l:List CoinD} {t:TxD} (hq:∀ x∈t.2.1,∃ c,atC l x.1 x.2.1=some c) {c:CoinD} (hc:c∈takenC l t):c∈l:=by
 obtain ⟨x,hx,rfl⟩:=List.mem_map.1 hc
 obtain ⟨d,hd⟩:=hq x hx
 rw [hd]
 exact List.mem_of_find?_eq_some hd
def newC (l:List CoinD) (t:TxD) (hg:Int):List CoinD:=putsC (restE l t.2.1) (madeC t hg)
theorem newC_perm (l:List CoinD) (t:TxD) (hg:Int):(newC l t hg).Perm (restE l t.2.1++madeC t hg):=putsC_perm _ _
theorem newC_rising {l:List CoinD} {t:TxD} {hg:Int} (h0:coinsC l=0) (ha:((madeC t hg).any fun c=>(atC l c.tx c.out).isSome)=false):(newC l t hg).Pairwise lessP:=by
 refine putsC_rising _ _ ((cgC_apart l none (coinsC_ok h0).2.1).2.sublist (restE_sub _ _)) (madeC_rising t hg) fun x hx c hc e=>?_
 rw [List.any_eq_false] at ha
 have:=ha c hc
 cases hn:atC l c.tx c.out with
 | some d=>rw [hn] at this; exact this rfl
 | none =>
   have:=List.find?_eq_none.1 hn x ((restE_sub _ _).subset hx)
   simp at this
   exact this e.1 e.2
def applyC (l:List CoinD) (t:TxD) (hg:Int):Int :=
 if coinsC l≠0 then coinsC l else if faultC t≠0 then faultC t else if ¬ inR 0 9999 hg then 3
 else if ¬ t.2.1.length=0∧spendQ l t hg≠0 then spendQ l t hg
 else if ((madeC t hg).any fun c=>(atC l c.tx c.out).isSome)=true then 6
 else coinsC (newC l t hg)
def feeC (l:List CoinD) (t:TxD):Int:=if t.2.1.length=0 then 0 else sumV (valsI l t.2.1) - sumV (valsO t.2.2)
theorem spendQ_ins {l:List CoinD} {t:TxD} {hg:Int} (h:¬ (¬ t.2.1.length=0∧spendQ l t hg≠0)):∀ x∈t.2.1,∃ c,atC l x.1 x.2.1=some c:=by
 intro x hx
 have hne:¬ t.2.1.length=0:=by have:=List.length_pos_of_mem hx; omega
 have hs:spendQ l t hg=0:=Decidable.not_not.1 fun e=>h ⟨hne,e⟩
 unfold spendQ at hs
 split at hs
 · rename_i h1; exact absurd hs h1
 · rename_i h1; exact insQ_all (Decidable.not_not.1 h1) x hx
end Go.Proofs.YtllhgcfacgiabaaGreat
namespace Go.Proofs.YtllhgcfacgiabaaGreat
open Go Go.Am Go.RowKit
set_option linter.unusedVariables false
set_option linter.unusedSimpArgs false
def atI (l:List CoinD) (t o:Int):Int:=match l.findIdx? (fun c=>decide (c.tx=t∧c.out=o)) with | some k=>k | none=>-1
theorem atI_here {l:List CoinD} {t o:Int} {k:Nat} (h:k < l.length) (hp:∀ x∈l.take k,¬ (x.tx=t∧x.out=o)) (hk:l[k].tx=t∧l[k].out=o):atI l t o=k:=by
 unfold atI
 rw [(List.findIdx?_eq_some_iff_getElem (i:=k)).2 ⟨h,by simpa using hk,fun j hj=>by
  have:l[j]∈l.take k:=by rw [List.mem_take_iff_getElem]; exact ⟨j,by omega,rfl⟩
  simpa using hp _ this⟩]
theorem atI_no {l:List CoinD} {t o:Int} (hp:∀ x∈l,¬ (x.tx=t∧x.out=o)):atI l t o=-1:=by
 unfold atI
 rw [List.findIdx?_eq_none_iff.2 fun x hx=>by simpa using hp x hx]
theorem atI_cases (l:List CoinD) (t o:Int):(∃ (k:Nat) (h:k < l.length),atI l t o=k∧atC l t o=some l[k])∨(atI l t o=-1∧atC l t o=none):=by
 unfold atI
 cases hi:l.findIdx? (fun c=>decide (c.tx=t∧c.out=o)) with
 | none =>
   rw [List.findIdx?_eq_none_iff] at hi
   exact .inr ⟨rfl,atC_no fun x hx=>by simpa using hi x hx⟩
 | some k =>
   obtain ⟨h,h1,h2⟩:=List.findIdx?_eq_some_iff_getElem.1 hi
   refine .inl ⟨k,h,rfl,atC_here h (fun x hx=>?_) (by simpa using h1)⟩
   obtain ⟨j,hj,rfl⟩:=List.mem_take_iff_getElem.1 hx
   have:=h2 j (by omega)
   simpa using this
theorem l5AtI_ret (l:List CoinD) (t o:Int) (n:Nat) (hl:l.length≤1048576):Ret Tryz.prog 201 [coinsV l,iv t,iv o] [] n true (Is (iv (atI l t o)) [] n):=by
 have hL:(l.map coinRow).length=l.length:=by simp
 refine Ret.fn ttOk Tryz.func201 rfl Tryz.call201 rfl rfl ?_
 refine Goes ?_
 refine LoopP.go (fun k:Nat=>k≤l.length∧∀ x∈l.take k,¬ (x.tx=t∧x.out=o)) (fun k=>⟨[(0,coinsV l),(1,iv t),(2,iv o),(7,iv k)],[],0⟩) (fun k=>l.length - k) 0 ⟨Nat.zero_le _,fun x hx=>by simp at hx⟩ (Weak.of rfl rfl ktA trivial) ?_
 intro k ⟨hk,hp⟩
 refine Goes ?_;repeat' first|apply W2.m|refine W1.m fun h=>?_
 · have hlt:k < l.length:=by omega
   have next:¬ (l[k].tx=t∧l[k].out=o)→∀ x∈l.take (k + 1),¬ (x.tx=t∧x.out=o):=fun h x hx=>by
    rw [takeS l k hlt] at hx
    rcases List.mem_append.1 hx with hx | hx
    · exact hp x hx
    · rw [List.mem_singleton.1 hx]; exact h
   rw [rowK coinRow l k hlt]
   refine ⟨by rw [hL]; exact ⟨by omega,by omega,rfl⟩,?_⟩
   refine Goes ?_;repeat' first|apply W2.m|refine W1.m fun h=>?_
   · rw [rowK coinRow l k hlt]
     refine ⟨by rw [hL]; exact ⟨by omega,by omega,rfl⟩,?_⟩
     refine Goes ?_;repeat' first|apply W2.m|refine W1.m fun h=>?_
     · refine FinOk.pure rfl rfl rfl ⟨?_,rfl,rfl⟩
       rw [atI_here hlt hp ⟨by assumption,by assumption⟩]
     · exact ⟨k + 1,⟨by omega,next fun e=>absurd e.2 (by assumption)⟩,by omega,(Weak.of rfl rfl ktA trivial)⟩
   · exact ⟨k + 1,⟨by omega,next fun e=>absurd e.1 (by assumption)⟩,by omega,(Weak.of rfl rfl ktA trivial)⟩
 · obtain rfl:k=l.length:=by omega
   rw [List.take_length] at hp
   refine FinOk.pure rfl rfl rfl ⟨?_,rfl,rfl⟩
   rw [atI_no hp]
theorem l5In_ret (l:List CoinD) (x:InD) (text hg:Int) (n:Nat) (hl:l.length≤1048576) (h0:coinsC l=0) (hh:inR 0 9999 hg):Ret Tryz.prog 234 [coinsV l,.rp (inRow x),iv text,iv hg] [] n true (Is (iv (inQ l text hg x)) [] n):=by
 have hL:(l.map coinRow).length=l.length:=by simp
 have ha:=fun n=>l5AtI_ret l x.1 x.2.1 n hl
 unfold inR at hh
 unfold inQ
 refine Ret.fn ttOk Tryz.func234 rfl Tryz.call234 rfl rfl ?_
 refine Goes ?_
 rcases atI_cases l x.1 x.2.1 with ⟨k,hk,e1,e2⟩ | ⟨e1,e2⟩
 · rw [e1] at ha
   rw [e2]
   have hch:=coin_h h0 (List.getElem_mem hk)
   unfold inR at hch
   first | refine CallQ.is (ha _) rfl rfl ?_ | refine CallP.is (ha _) rfl ?_
   refine Goes ?_
   rw [rowK coinRow l k hk]
   refine ⟨by rw [hL]; exact ⟨by omega,by omega,rfl⟩,?_⟩
   clear ha e1 e2
   have ho:=fun n=>l2Opens_ret l[k].lock x.2.2 text hg n
   generalize l[k]=c at *
   obtain ⟨ctx,cout,cval,clock,ch,cbase⟩:=c
   dsimp only at hch ho ⊢
   generalize opensB clock x.2.2 text hg=op at *
   have hw:IntKind.i64.wrap (hg - ch)=hg - ch:=IntWalk.i64_in _ (by omega)
   cases cbase with
   | true =>
     refine Goes ?_;repeat' first|apply W2.m|refine W1.m fun h=>?_
     · have hlt2:hg < ch + 2:=(by have h':IntKind.i64.wrap (hg - ch) < 2:=(by assumption); omega)
       refine FinOk.pure rfl rfl rfl ⟨?_,rfl,rfl⟩
       rw [if_pos ⟨rfl,hlt2⟩]
     · have hlt2:¬ hg < ch + 2:=(by have h':¬ IntKind.i64.wrap (hg - ch) < 2:=(by assumption); omega)
       rw [if_neg (fun e=>hlt2 e.2)]
       first | refine CallQ.is (ho _) rfl rfl ?_ | refine CallP.is (ho _) rfl ?_
       refine Goes ?_
       cases op with
       | true =>
         refine Goes ?_
         refine FinOk.pure rfl rfl rfl ⟨?_,rfl,rfl⟩
         rfl
       | false =>
         refine Goes ?_
         refine FinOk.pure rfl rfl rfl ⟨?_,rfl,rfl⟩
         rfl
   | false =>
     refine Goes ?_
     rw [if_neg (fun e=>by cases e.1)]
     first | refine CallQ.is (ho _) rfl rfl ?_ | refine CallP.is (ho _) rfl ?_
     refine Goes ?_
     cases op with
     | true =>
       refine Goes ?_
       refine FinOk.pure rfl rfl rfl ⟨?_,rfl,rfl⟩
       rfl
     | false =>
       refine Goes ?_
       refine FinOk.pure rfl rfl rfl ⟨?_,rfl,rfl⟩
       rfl
 · rw [e1] at ha
   rw [e2]
   first | refine CallQ.is (ha _) rfl rfl ?_ | refine CallP.is (ha _) rfl ?_
   refine Goes ?_
   refine FinOk.pure rfl rfl rfl ⟨?_,rfl,rfl⟩
   rfl
end Go.Proofs.YtllhgcfacgiabaaGreat
namespace Go.Proofs.YtllhgcfacgiabaaGreat
open Go Go.Am Go.RowKit
set_option linter.unusedVariables false
set_option linter.unusedSimpArgs false
theorem l5CopyCoin_fr (c:CoinD) (n:Nat) (hl:pCoin c≤1048576):Ret Tryz.prog 203 [coinV c] [] n true (Is (coinV c) [] n):=by
 have h1:=fun n=>Ret.frList (by simp) (l1Ints_ret c.lock n hl)
 refine Ret.fn ttOk Tryz.func203 rfl Tryz.call203 rfl rfl ?_
 refine Goes ?_
 first | refine CallP.is (h1 _) rfl ?_ | refine CallQ.is (h1 _) rfl rfl ?_
 refine Goes ?_
 refine FinOk.pure rfl rfl rfl ⟨?_,rfl,rfl⟩
 rfl
end Go.Proofs.YtllhgcfacgiabaaGreat
