import Derived.Test.YtllhgcfacgiabaaGreatP15
namespace Go.Proofs.YtllhgcfacgiabaaGreat
open Go Go.Am Go.RowKit
set_option linter.unusedVariables false
set_option linter.unusedSimpArgs false
def fillR {α:Type} (f:α→List AV) (z:List AV) (xs:List α) (k:Nat):List (List AV):=(xs.take k).map f++List.replicate (xs.length - k) z
theorem fillR_len {α:Type} (f:α→List AV) (z:List AV) (xs:List α) (k:Nat) (h:k≤xs.length):(fillR f z xs k).length=xs.length:=by simp only [fillR,List.length_append,List.length_map,List.length_take,List.length_replicate]; omega
theorem fillR_all {α:Type} (f:α→List AV) (z:List AV) (xs:List α):fillR f z xs xs.length=xs.map f:=by unfold fillR; rw [Nat.sub_self,List.take_length,List.replicate_zero,List.append_nil]
theorem fillR_at {α:Type} (f:α→List AV) (z:List AV) (xs:List α) (k:Nat) (h:k < xs.length):(fillR f z xs k).getD k []=z:=by
 unfold fillR
 rw [List.getD_eq_getElem?_getD,List.getElem?_append_right (by simp only [List.length_map,List.length_take]; omega)]
 simp only [List.length_map,List.length_take]
 rw [List.getElem?_replicate,if_pos (by omega)]; rfl
theorem fillR_set {α:Type} (f:α→List AV) (z:List AV) (xs:List α) (k:Nat) (h:k < xs.length):(fillR f z xs k).set k (f xs[k])=fillR f z xs (k + 1):=by
 unfold fillR
 rw [takeS xs k h,List.map_append,show xs.length - k=(xs.length - (k + 1)) + 1 by omega,List.replicate_succ,List.set_append_right _ _ (by simp only [List.length_map,List.length_take]; omega)]
 simp only [List.length_map,List.length_take]
 have:k - min k xs.length=0:=by omega
 rw [this,List.set_cons_zero,List.append_assoc]; rfl
theorem setRowR {α:Type} (f:α→List AV) (z:List AV) (xs:List α) (k:Nat) (h:k < xs.length) (cs:List AV) (hcs:cs=f xs[k]) (s:Nat) (hs:z.length=s) :
 (fillR f z xs k).set (Int.toNat (k:Int)) (((fillR f z xs k).getD (Int.toNat (k:Int)) []).take 0++cs++((fillR f z xs k).getD (Int.toNat (k:Int)) []).drop (0 + s))=fillR f z xs (k + 1):=by
 rw [show Int.toNat (k:Int)=k from rfl,fillR_at f z xs k h,List.take_zero,List.nil_append,List.drop_of_length_le (by omega),List.append_nil,hcs,fillR_set f z xs k h]
theorem toInt64S_fr (zs:List Int) (n:Nat) (hl:zs.length≤1048576):Ret Tryz.prog 213 [il zs] [] n true (Is (il zs) [] n) :=
 Ret.freeze (by rintro _ _ _ ⟨rfl,rfl,rfl⟩; exact ⟨_,frCell (look_cons_eq _ _ _) (by simp),rfl,rfl,rfl⟩) (toInt64S_ret zs n hl)
theorem toIn_fr (x:InD) (n:Nat) (hl:x.2.2.length≤1048576):Ret Tryz.prog 171 [.agg (inRow x)] [] n true (Is (.agg (inRow x)) [] n):=by
 refine Ret.fn ttOk Tryz.func171 rfl Tryz.call171 rfl rfl ?_
 refine Goes ?_
 first | refine CallP.is (toInt64S_fr x.2.2 _ hl) rfl ?_ | refine CallQ.is (toInt64S_fr x.2.2 _ hl) rfl rfl ?_
 refine Goes ?_
 refine FinOk.pure rfl rfl rfl ⟨?_,rfl,rfl⟩
 rfl
theorem toOut_fr (y:OutD) (n:Nat) (hl:y.2.length≤1048576):Ret Tryz.prog 172 [.agg (outRow y)] [] n true (Is (.agg (outRow y)) [] n):=by
 refine Ret.fn ttOk Tryz.func172 rfl Tryz.call172 rfl rfl ?_
 refine Goes ?_
 first | refine CallP.is (toInt64S_fr y.2 _ hl) rfl ?_ | refine CallQ.is (toInt64S_fr y.2 _ hl) rfl rfl ?_
 refine Goes ?_
 refine FinOk.pure rfl rfl rfl ⟨?_,rfl,rfl⟩
 rfl
theorem toInS_ret (xs:List InD) (n:Nat) (hl:xs.length≤1048576) (hx:∀ x∈xs,x.2.2.length≤1048576):Ret Tryz.prog 136 [insV xs] [] n true (Is (.own n xs.length) [(n,.list 201 3 (xs.map inRow))] (n + 1)):=by
 have hL:(xs.map inRow).length=xs.length:=by simp
 refine Ret.fn ttOk Tryz.func136 rfl Tryz.call136 rfl rfl ?_
 refine Goes ?_
 rw [hL]
 refine ⟨⟨by omega,by omega,by omega,by show _ * 40≤_; omega⟩,?_⟩
 refine Goes ?_
 refine LoopP.go (fun k:Nat=>k≤xs.length) (fun k=>⟨[(0,insV xs),(3,.own 0 xs.length),(4,iv k)],[(0,.list 201 3 (fillR inRow [iv 0,iv 0,nl] xs k))],1⟩) (fun k=>xs.length - k) 0 (Nat.zero_le _) ?_ ?_
 · refine Weak.of rfl rfl ktA ⟨⟨leafO ?_,rfl,rfl⟩,trivial⟩
   unfold fillR; simp
 intro k hk
 have hfl:=fillR_len inRow [iv 0,iv 0,nl] xs k hk
 refine Goes ?_;repeat' first|apply W2.m|refine W1.m fun h=>?_
 · have hlt:k < xs.length:=by omega
   rw [rowK inRow xs k hlt]
   refine ⟨by rw [hL]; exact ⟨by omega,by omega,rfl⟩,?_⟩
   refine Goes ?_
   first | refine CallP.is (toIn_fr xs[k] _ (hx _ (List.getElem_mem hlt))) rfl ?_ | refine CallQ.is (toIn_fr xs[k] _ (hx _ (List.getElem_mem hlt))) rfl rfl ?_
   refine Goes ?_
   refine ⟨k + 1,by omega,by omega,Weak.of rfl rfl ktA ⟨⟨leafO ?_,rfl,rfl⟩,trivial⟩⟩
   exact setRowR inRow [iv 0,iv 0,nl] xs k hlt _ rfl _ rfl
 · obtain rfl:k=xs.length:=by omega
   rw [fillR_all]
   refine FinOk.mk' [0] rfl rfl rfl rfl rfl rfl rfl ⟨?_,?_,rfl⟩
   · rfl
   · rfl
theorem toOutS_ret (xs:List OutD) (n:Nat) (hl:xs.length≤1048576) (hx:∀ x∈xs,x.2.length≤1048576):Ret Tryz.prog 137 [outsV xs] [] n true (Is (.own n xs.length) [(n,.list 203 2 (xs.map outRow))] (n + 1)):=by
 have hL:(xs.map outRow).length=xs.length:=by simp
 refine Ret.fn ttOk Tryz.func137 rfl Tryz.call137 rfl rfl ?_
 refine Goes ?_
 rw [hL]
 refine ⟨⟨by omega,by omega,by omega,by show _ * 32≤_; omega⟩,?_⟩
 refine Goes ?_
 refine LoopP.go (fun k:Nat=>k≤xs.length) (fun k=>⟨[(0,outsV xs),(3,.own 0 xs.length),(4,iv k)],[(0,.list 203 2 (fillR outRow [iv 0,nl] xs k))],1⟩) (fun k=>xs.length - k) 0 (Nat.zero_le _) ?_ ?_
 · refine Weak.of rfl rfl ktA ⟨⟨leafO ?_,rfl,rfl⟩,trivial⟩
   unfold fillR; simp
 intro k hk
 have hfl:=fillR_len outRow [iv 0,nl] xs k hk
 refine Goes ?_;repeat' first|apply W2.m|refine W1.m fun h=>?_
 · have hlt:k < xs.length:=by omega
   rw [rowK outRow xs k hlt]
   refine ⟨by rw [hL]; exact ⟨by omega,by omega,rfl⟩,?_⟩
   refine Goes ?_
   first | refine CallP.is (toOut_fr xs[k] _ (hx _ (List.getElem_mem hlt))) rfl ?_ | refine CallQ.is (toOut_fr xs[k] _ (hx _ (List.getElem_mem hlt))) rfl rfl ?_
   refine Goes ?_
   refine ⟨k + 1,by omega,by omega,Weak.of rfl rfl ktA ⟨⟨leafO ?_,rfl,rfl⟩,trivial⟩⟩
   exact setRowR outRow [iv 0,nl] xs k hlt _ rfl _ rfl
 · obtain rfl:k=xs.length:=by omega
   rw [fillR_all]
   refine FinOk.mk' [0] rfl rfl rfl rfl rfl rfl rfl ⟨?_,?_,rfl⟩
   · rfl
   · rfl
theorem toInS_fr (xs:List InD) (n:Nat) (hl:xs.length≤1048576) (hx:∀ x∈xs,x.2.2.length≤1048576):Ret Tryz.prog 136 [insV xs] [] n true (Is (insV xs) [] n) :=
 Ret.freeze (by rintro _ _ _ ⟨rfl,rfl,rfl⟩; exact ⟨_,frCell (look_cons_eq _ _ _) (by simp),rfl,rfl,rfl⟩) (toInS_ret xs n hl hx)
theorem toOutS_fr (xs:List OutD) (n:Nat) (hl:xs.length≤1048576) (hx:∀ x∈xs,x.2.length≤1048576):Ret Tryz.prog 137 [outsV xs] [] n true (Is (outsV xs) [] n) :=
 Ret.freeze (by rintro _ _ _ ⟨rfl,rfl,rfl⟩; exact ⟨_,frCell (look_cons_eq _ _ _) (by simp),rfl,rfl,rfl⟩) (toOutS_ret xs n hl hx)
structure Fits (t:TxD):Prop where
 ins:t.2.1.length≤1048576
 outs:t.2.2.length≤1048576
 proofs:∀ x∈t.2.1,x.2.2.length≤1048576
 locks:∀ y∈t.2.2,y.2.length≤1048576
theorem toTx_fr (t:TxD) (n:Nat) (h:Fits t):Ret Tryz.prog 89 [txV t] [] n true (Is (txV t) [] n):=by
 refine Ret.fn ttOk Tryz.func89 rfl Tryz.call89 rfl rfl ?_
 refine Goes ?_
 first | refine CallP.is (toInS_fr t.2.1 _ h.ins h.proofs) rfl ?_ | refine CallQ.is (toInS_fr t.2.1 _ h.ins h.proofs) rfl rfl ?_
 refine Goes ?_
 first | refine CallP.is (toOutS_fr t.2.2 _ h.outs h.locks) rfl ?_ | refine CallQ.is (toOutS_fr t.2.2 _ h.outs h.locks) rfl rfl ?_
 refine Goes ?_
 refine FinOk.pure rfl rfl rfl ⟨?_,rfl,rfl⟩
 rfl
def leftI (a b:Int):Int:=if b≤a then a - b else -1
theorem szInt64S_ret (zs:List Int) (l:Int) (n:Nat) (h0:0≤l) (h1:l≤1048576) (hl:zs.length≤9223372036854775807):Ret Tryz.prog 209 [il zs,iv l] [] n true (Is (iv (leftI l zs.length)) [] n):=by
 have hL:(ivs zs).length=zs.length:=by simp
 have he:IntKind.i64.wrap (l - (ivs zs).length)=l - zs.length:=by rw [hL,IntWalk.i64_in _ (by omega)]
 refine Ret.fn ttOk Tryz.func209 rfl Tryz.call209 rfl rfl ?_
 refine Goes ?_;repeat' first|apply W2.m|refine W1.m fun h=>?_
 · rw [he] at h
   refine FinOk.pure rfl rfl rfl ⟨?_,rfl,rfl⟩
   unfold leftI; rw [if_neg (by omega)]
 · rw [he] at h ⊢
   refine FinOk.pure rfl rfl rfl ⟨?_,rfl,rfl⟩
   unfold leftI; rw [if_pos (by omega)]
theorem szIn_ret (x:InD) (l:Int) (n:Nat) (h0:0≤l) (h1:l≤1048576) (hl:x.2.2.length≤9223372036854775807):Ret Tryz.prog 166 [.agg (inRow x),iv l] [] n true (Is (iv (leftI l x.2.2.length)) [] n):=by
 refine Ret.fn ttOk Tryz.func166 rfl Tryz.call166 rfl rfl ?_
 refine Goes ?_
 first | refine CallP.is (szInt64S_ret x.2.2 l _ h0 h1 hl) rfl ?_ | refine CallQ.is (szInt64S_ret x.2.2 l _ h0 h1 hl) rfl rfl ?_
 refine Goes ?_;repeat' first|apply W2.m|refine W1.m fun h=>?_
 · have h':leftI l x.2.2.length < 0:=h
   refine FinOk.pure rfl rfl rfl ⟨?_,rfl,rfl⟩
   have:leftI l x.2.2.length=-1:=by unfold leftI at *; split at h' <;> first | omega | (rw [if_neg (by assumption)])
   rw [this]
 · refine FinOk.pure rfl rfl rfl ⟨?_,rfl,rfl⟩
   rfl
theorem leftI_neg {a b:Int} (h:leftI a b < 0) (ha:0≤a):leftI a b=-1∧a < b:=by
 unfold leftI at *
 split at h
 · omega
 · rename_i h'; rw [if_neg h']; exact ⟨rfl,by omega⟩
theorem leftI_pos {a b:Int} (h:¬ leftI a b < 0):leftI a b=a - b∧b≤a:=by
 unfold leftI at *
 split at h
 · rename_i h'; rw [if_pos h']; exact ⟨rfl,h'⟩
 · omega
def psum {α:Type} (g:α→Nat) (xs:List α):Nat:=(xs.map g).sum
theorem psum_take {α:Type} (g:α→Nat) (xs:List α) (k:Nat) (h:k < xs.length):psum g (xs.take (k + 1))=psum g (xs.take k) + g xs[k]:=by
 unfold psum; rw [takeS xs k h,List.map_append,List.sum_append]; simp
theorem psum_le {α:Type} (g:α→Nat) (xs:List α) (k:Nat):psum g (xs.take k)≤psum g xs:=by
 have:psum g xs=psum g (xs.take k) + psum g (xs.drop k):=by
  unfold psum; rw [← List.sum_append,← List.map_append,List.take_append_drop]
 omega
theorem psum_mem {α:Type} (g:α→Nat) (xs:List α):∀ x∈xs,g x≤psum g xs:=by
 intro x hx
 unfold psum
 induction xs with
 | nil=>cases hx
 | cons a r ih =>
   simp only [List.map_cons,List.sum_cons]
   rcases List.mem_cons.1 hx with rfl | h
   · omega
   · have:=ih h; omega
abbrev pIn (x:InD):Nat:=x.2.2.length
abbrev pOut (y:OutD):Nat:=y.2.length
theorem szInS_ret (xs:List InD) (l:Int) (n:Nat) (h0:0≤l) (h1:l≤1048576) (hl:xs.length≤9223372036854775807) (hx:∀ x∈xs,pIn x≤9223372036854775807):Ret Tryz.prog 130 [insV xs,iv l] [] n true (Is (iv (leftI l (xs.length + psum pIn xs:Nat))) [] n):=by
 have hL:(xs.map inRow).length=xs.length:=by simp
 have he:IntKind.i64.wrap (l - (xs.map inRow).length)=l - xs.length:=by rw [hL,IntWalk.i64_in _ (by omega)]
 refine Ret.fn ttOk Tryz.func130 rfl Tryz.call130 rfl rfl ?_
 refine Goes ?_;repeat' first|apply W2.m|refine W1.m fun h=>?_
 · rw [he] at h
   refine FinOk.pure rfl rfl rfl ⟨?_,rfl,rfl⟩
   unfold leftI; rw [if_neg (by omega)]
 rw [he] at h ⊢
 refine LoopP.go (fun k:Nat=>k≤xs.length∧(xs.length + psum pIn (xs.take k):Nat)≤l) (fun k=>⟨[(0,insV xs),(1,iv (l - (xs.length + psum pIn (xs.take k):Nat))),(5,iv k)],[],0⟩) (fun k=>xs.length - k) 0 ⟨Nat.zero_le _,by simp [psum]; omega⟩ ?_ ?_
 · exact Weak.of rfl rfl ⟨⟨rfl,rfl⟩,⟨leafI (by simp [psum]),rfl⟩,⟨rfl,rfl⟩,trivial⟩ trivial
 intro k ⟨hk,hp⟩
 refine Goes ?_;repeat' first|apply W2.m|refine W1.m fun h=>?_
 · have hlt:k < xs.length:=by omega
   have hst:psum pIn (xs.take (k + 1))=psum pIn (xs.take k) + xs[k].2.2.length:=psum_take pIn xs k hlt
   have hle:=psum_le pIn xs (k + 1)
   rw [rowK inRow xs k hlt]
   refine ⟨by rw [hL]; exact ⟨by omega,by omega,rfl⟩,?_⟩
   refine Goes ?_
   first | refine CallP.is (szIn_ret xs[k] _ _ (by omega) (by omega) (hx _ (List.getElem_mem hlt))) rfl ?_ | refine CallQ.is (szIn_ret xs[k] _ _ (by omega) (by omega) (hx _ (List.getElem_mem hlt))) rfl rfl ?_
   refine Goes ?_;repeat' first|apply W2.m|refine W1.m fun h=>?_
   · obtain ⟨g1,g2⟩:=leftI_neg h (by omega)
     refine FinOk.pure rfl rfl rfl ⟨?_,rfl,rfl⟩
     unfold leftI; rw [if_neg (by omega)]
   · obtain ⟨g1,g2⟩:=leftI_pos h
     rw [g1]
     exact ⟨k + 1,⟨by omega,by omega⟩,by omega,Weak.of rfl rfl ⟨⟨rfl,rfl⟩,⟨leafI (by rw [hst]; omega),rfl⟩,⟨leafI numA,rfl⟩,trivial⟩ trivial⟩
 · obtain rfl:k=xs.length:=by omega
   rw [List.take_length] at hp ⊢
   refine FinOk.pure rfl rfl rfl ⟨?_,rfl,rfl⟩
   unfold leftI; rw [if_pos (by omega)]
theorem szOut_ret (x:OutD) (l:Int) (n:Nat) (h0:0≤l) (h1:l≤1048576) (hl:x.2.length≤9223372036854775807):Ret Tryz.prog 167 [.agg (outRow x),iv l] [] n true (Is (iv (leftI l x.2.length)) [] n):=by
 refine Ret.fn ttOk Tryz.func167 rfl Tryz.call167 rfl rfl ?_
 refine Goes ?_
 first | refine CallP.is (szInt64S_ret x.2 l _ h0 h1 hl) rfl ?_ | refine CallQ.is (szInt64S_ret x.2 l _ h0 h1 hl) rfl rfl ?_
 refine Goes ?_;repeat' first|apply W2.m|refine W1.m fun h=>?_
 · have h':leftI l x.2.length < 0:=h
   refine FinOk.pure rfl rfl rfl ⟨?_,rfl,rfl⟩
   rw [(leftI_neg h' h0).1]
 · refine FinOk.pure rfl rfl rfl ⟨?_,rfl,rfl⟩
   rfl
theorem szOutS_ret (xs:List OutD) (l:Int) (n:Nat) (h0:0≤l) (h1:l≤1048576) (hl:xs.length≤9223372036854775807) (hx:∀ x∈xs,pOut x≤9223372036854775807):Ret Tryz.prog 131 [outsV xs,iv l] [] n true (Is (iv (leftI l (xs.length + psum pOut xs:Nat))) [] n):=by
 have hL:(xs.map outRow).length=xs.length:=by simp
 have he:IntKind.i64.wrap (l - (xs.map outRow).length)=l - xs.length:=by rw [hL,IntWalk.i64_in _ (by omega)]
 refine Ret.fn ttOk Tryz.func131 rfl Tryz.call131 rfl rfl ?_
 refine Goes ?_;repeat' first|apply W2.m|refine W1.m fun h=>?_
 · rw [he] at h
   refine FinOk.pure rfl rfl rfl ⟨?_,rfl,rfl⟩
   unfold leftI; rw [if_neg (by omega)]
 rw [he] at h ⊢
 refine LoopP.go (fun k:Nat=>k≤xs.length∧(xs.length + psum pOut (xs.take k):Nat)≤l) (fun k=>⟨[(0,outsV xs),(1,iv (l - (xs.length + psum pOut (xs.take k):Nat))),(5,iv k)],[],0⟩) (fun k=>xs.length - k) 0 ⟨Nat.zero_le _,by simp [psum]; omega⟩ ?_ ?_
 · exact Weak.of rfl rfl ⟨⟨rfl,rfl⟩,⟨leafI (by simp [psum]),rfl⟩,⟨rfl,rfl⟩,trivial⟩ trivial
 intro k ⟨hk,hp⟩
 refine Goes ?_;repeat' first|apply W2.m|refine W1.m fun h=>?_
 · have hlt:k < xs.length:=by omega
   have hst:psum pOut (xs.take (k + 1))=psum pOut (xs.take k) + xs[k].2.length:=psum_take pOut xs k hlt
   have hle:=psum_le pOut xs (k + 1)
   rw [rowK outRow xs k hlt]
   refine ⟨by rw [hL]; exact ⟨by omega,by omega,rfl⟩,?_⟩
   refine Goes ?_
   first | refine CallP.is (szOut_ret xs[k] _ _ (by omega) (by omega) (hx _ (List.getElem_mem hlt))) rfl ?_ | refine CallQ.is (szOut_ret xs[k] _ _ (by omega) (by omega) (hx _ (List.getElem_mem hlt))) rfl rfl ?_
   refine Goes ?_;repeat' first|apply W2.m|refine W1.m fun h=>?_
   · obtain ⟨g1,g2⟩:=leftI_neg h (by omega)
     refine FinOk.pure rfl rfl rfl ⟨?_,rfl,rfl⟩
     unfold leftI; rw [if_neg (by omega)]
   · obtain ⟨g1,g2⟩:=leftI_pos h
     rw [g1]
     exact ⟨k + 1,⟨by omega,by omega⟩,by omega,Weak.of rfl rfl ⟨⟨rfl,rfl⟩,⟨leafI (by rw [hst]; omega),rfl⟩,⟨leafI numA,rfl⟩,trivial⟩ trivial⟩
 · obtain rfl:k=xs.length:=by omega
   rw [List.take_length] at hp ⊢
   refine FinOk.pure rfl rfl rfl ⟨?_,rfl,rfl⟩
   unfold leftI; rw [if_pos (by omega)]
structure Mem (t:TxD):Prop where
 ins:t.2.1.length≤9223372036854775807
 outs:t.2.2.length≤9223372036854775807
 proofs:∀ x∈t.2.1,pIn x≤9223372036854775807
 locks:∀ y∈t.2.2,pOut y≤9223372036854775807
def sizeX (t:TxD):Nat:=t.2.1.length + psum pIn t.2.1 + (t.2.2.length + psum pOut t.2.2)
theorem szTx_ret (t:TxD) (l:Int) (n:Nat) (h0:0≤l) (h1:l≤1048576) (hm:Mem t):Ret Tryz.prog 85 [txV t,iv l] [] n true (Is (iv (leftI l (sizeX t))) [] n):=by
 refine Ret.fn ttOk Tryz.func85 rfl Tryz.call85 rfl rfl ?_
 refine Goes ?_
 first | refine CallP.is (szInS_ret t.2.1 l _ h0 h1 hm.ins hm.proofs) rfl ?_ | refine CallQ.is (szInS_ret t.2.1 l _ h0 h1 hm.ins hm.proofs) rfl rfl ?_
 refine Goes ?_;repeat' first|apply W2.m|refine W1.m fun h=>?_
 · obtain ⟨g1,g2⟩:=leftI_neg h h0
   refine FinOk.pure rfl rfl rfl ⟨?_,rfl,rfl⟩
   unfold leftI sizeX; rw [if_neg (by omega)]
 obtain ⟨g1,g2⟩:=leftI_pos h
 rw [g1]
 first | refine CallP.is (szOutS_ret t.2.2 (l - (t.2.1.length + psum pIn t.2.1:Nat)) _ (by omega) (by omega) hm.outs hm.locks) rfl ?_ | refine CallQ.is (szOutS_ret t.2.2 (l - (t.2.1.length + psum pIn t.2.1:Nat)) _ (by omega) (by omega) hm.outs hm.locks) rfl rfl ?_
 refine Goes ?_;repeat' first|apply W2.m|refine W1.m fun h=>?_
 · obtain ⟨g3,g4⟩:=leftI_neg h (by omega)
   refine FinOk.pure rfl rfl rfl ⟨?_,rfl,rfl⟩
   unfold leftI sizeX; rw [if_neg (by omega)]
 · obtain ⟨g3,g4⟩:=leftI_pos h
   rw [g3]
   refine FinOk.pure rfl rfl rfl ⟨?_,rfl,rfl⟩
   unfold leftI sizeX; rw [if_pos (by omega)]
   refine ivI ?_
   omega
theorem fits_of {t:TxD} (h:sizeX t≤1048576):Fits t:=by
 unfold sizeX at h
 refine ⟨by omega,by omega,fun x hx=>?_,fun y hy=>?_⟩
 · have:=psum_mem pIn t.2.1 x hx; dsimp only [pIn] at this; omega
 · have:=psum_mem pOut t.2.2 y hy; dsimp only [pOut] at this; omega
theorem eqIn_ret (a b:InD) (n:Nat) (hl:a.2.2.length≤1048576):Ret Tryz.prog 179 [.agg (inRow a),.agg (inRow b)] [] n true (Is (bv (decide (a=b))) [] n):=by
 obtain ⟨a1,a2,a3⟩:=a
 obtain ⟨b1,b2,b3⟩:=b
 refine Ret.fn ttOk Tryz.func179 rfl Tryz.call179 rfl rfl ?_
 refine Goes ?_;repeat' first|apply W2.m|refine W1.m fun h=>?_
 · have h':¬ a1=b1:=h
   refine FinOk.pure rfl rfl rfl ⟨?_,rfl,rfl⟩; refine bvI ?_; simp [h']
 · have h':¬ a2=b2:=h
   refine FinOk.pure rfl rfl rfl ⟨?_,rfl,rfl⟩; refine bvI ?_; simp [h']
 · have g1:a1=b1:=Decidable.not_not.1 (by assumption)
   have g2:a2=b2:=Decidable.not_not.1 (by assumption)
   first | refine CallP.is (eqInt64S_ret a3 b3 _ hl) rfl ?_ | refine CallQ.is (eqInt64S_ret a3 b3 _ hl) rfl rfl ?_
   refine Goes ?_;repeat' first|apply W2.m|refine W1.m fun h=>?_
   · have h':¬ a3=b3:=h
     refine FinOk.pure rfl rfl rfl ⟨?_,rfl,rfl⟩; refine bvI ?_; simp [h']
   · have h':a3=b3:=h
     refine FinOk.pure rfl rfl rfl ⟨?_,rfl,rfl⟩; refine bvI ?_; simp [g1,g2,h']
theorem eqOut_ret (a b:OutD) (n:Nat) (hl:a.2.length≤1048576):Ret Tryz.prog 180 [.agg (outRow a),.agg (outRow b)] [] n true (Is (bv (decide (a=b))) [] n):=by
 obtain ⟨a1,a3⟩:=a
 obtain ⟨b1,b3⟩:=b
 refine Ret.fn ttOk Tryz.func180 rfl Tryz.call180 rfl rfl ?_
 refine Goes ?_;repeat' first|apply W2.m|refine W1.m fun h=>?_
 · have h':¬ a1=b1:=h
   refine FinOk.pure rfl rfl rfl ⟨?_,rfl,rfl⟩; refine bvI ?_; simp [h']
 · have g1:a1=b1:=Decidable.not_not.1 (by assumption)
   first | refine CallP.is (eqInt64S_ret a3 b3 _ hl) rfl ?_ | refine CallQ.is (eqInt64S_ret a3 b3 _ hl) rfl rfl ?_
   refine Goes ?_;repeat' first|apply W2.m|refine W1.m fun h=>?_
   · have h':¬ a3=b3:=h
     refine FinOk.pure rfl rfl rfl ⟨?_,rfl,rfl⟩; refine bvI ?_; simp [h']
   · have h':a3=b3:=h
     refine FinOk.pure rfl rfl rfl ⟨?_,rfl,rfl⟩; refine bvI ?_; simp [g1,h']
theorem eqInS_ret (a b:List InD) (n:Nat) (hl:a.length≤1048576) (hx:∀ x∈a,x.2.2.length≤1048576):Ret Tryz.prog 144 [insV a,insV b] [] n true (Is (bv (decide (a=b))) [] n):=by
 have hL:(a.map inRow).length=a.length:=by simp
 have hM:(b.map inRow).length=b.length:=by simp
 refine Ret.fn ttOk Tryz.func144 rfl Tryz.call144 rfl rfl ?_
 refine Goes ?_;repeat' first|apply W2.m|refine W1.m fun h=>?_
 · refine FinOk.pure rfl rfl rfl ⟨?_,rfl,rfl⟩
   refine bvI ?_
   have:a≠b:=fun e=>h (by rw [e])
   simp [this]
 · have hab:a.length=b.length:=by omega
   refine LoopP.go (fun k:Nat=>k≤a.length∧a.take k=b.take k) (fun k=>⟨[(0,insV a),(1,insV b),(5,iv k)],[],0⟩) (fun k=>a.length - k) 0 ⟨Nat.zero_le _,rfl⟩ (Weak.of rfl rfl ktA trivial) ?_
   intro k ⟨hk,hp⟩
   refine Goes ?_;repeat' first|apply W2.m|refine W1.m fun h=>?_
   · have hka:k < a.length:=by omega
     have hkb:k < b.length:=by omega
     rw [rowK inRow a k hka]
     refine ⟨by rw [hL]; exact ⟨by omega,by omega,rfl⟩,?_⟩
     refine Goes ?_
     rw [rowK inRow b k hkb]
     refine ⟨by rw [hM]; exact ⟨by omega,by omega,rfl⟩,?_⟩
     refine Goes ?_
     first | refine CallP.is (eqIn_ret a[k] b[k] _ (hx _ (List.getElem_mem hka))) rfl ?_ | refine CallQ.is (eqIn_ret a[k] b[k] _ (hx _ (List.getElem_mem hka))) rfl rfl ?_
     refine Goes ?_;repeat' first|apply W2.m|refine W1.m fun h=>?_
     · refine FinOk.pure rfl rfl rfl ⟨?_,rfl,rfl⟩
       refine bvI ?_
       have:a≠b:=fun e=>h (by subst e; rfl)
       simp [this]
     · have he:a[k]=b[k]:=by assumption
       exact ⟨k + 1,⟨by omega,by rw [takeS a k hka,takeS b k hkb,hp,he]⟩,by omega,(Weak.of rfl rfl ktA trivial)⟩
   · refine FinOk.pure rfl rfl rfl ⟨?_,rfl,rfl⟩
     refine bvI ?_
     rw [List.take_of_length_le (by omega),List.take_of_length_le (by omega)] at hp
     simp [hp]
theorem eqOutS_ret (a b:List OutD) (n:Nat) (hl:a.length≤1048576) (hx:∀ x∈a,x.2.length≤1048576):Ret Tryz.prog 145 [outsV a,outsV b] [] n true (Is (bv (decide (a=b))) [] n):=by
 have hL:(a.map outRow).length=a.length:=by simp
 have hM:(b.map outRow).length=b.length:=by simp
 refine Ret.fn ttOk Tryz.func145 rfl Tryz.call145 rfl rfl ?_
 refine Goes ?_;repeat' first|apply W2.m|refine W1.m fun h=>?_
 · refine FinOk.pure rfl rfl rfl ⟨?_,rfl,rfl⟩
   refine bvI ?_
   have:a≠b:=fun e=>h (by rw [e])
   simp [this]
 · have hab:a.length=b.length:=by omega
   refine LoopP.go (fun k:Nat=>k≤a.length∧a.take k=b.take k) (fun k=>⟨[(0,outsV a),(1,outsV b),(5,iv k)],[],0⟩) (fun k=>a.length - k) 0 ⟨Nat.zero_le _,rfl⟩ (Weak.of rfl rfl ktA trivial) ?_
   intro k ⟨hk,hp⟩
   refine Goes ?_;repeat' first|apply W2.m|refine W1.m fun h=>?_
   · have hka:k < a.length:=by omega
     have hkb:k < b.length:=by omega
     rw [rowK outRow a k hka]
     refine ⟨by rw [hL]; exact ⟨by omega,by omega,rfl⟩,?_⟩
     refine Goes ?_
     rw [rowK outRow b k hkb]
     refine ⟨by rw [hM]; exact ⟨by omega,by omega,rfl⟩,?_⟩
     refine Goes ?_
     first | refine CallP.is (eqOut_ret a[k] b[k] _ (hx _ (List.getElem_mem hka))) rfl ?_ | refine CallQ.is (eqOut_ret a[k] b[k] _ (hx _ (List.getElem_mem hka))) rfl rfl ?_
     refine Goes ?_;repeat' first|apply W2.m|refine W1.m fun h=>?_
     · refine FinOk.pure rfl rfl rfl ⟨?_,rfl,rfl⟩
       refine bvI ?_
       have:a≠b:=fun e=>h (by subst e; rfl)
       simp [this]
     · have he:a[k]=b[k]:=by assumption
       exact ⟨k + 1,⟨by omega,by rw [takeS a k hka,takeS b k hkb,hp,he]⟩,by omega,(Weak.of rfl rfl ktA trivial)⟩
   · refine FinOk.pure rfl rfl rfl ⟨?_,rfl,rfl⟩
     refine bvI ?_
     rw [List.take_of_length_le (by omega),List.take_of_length_le (by omega)] at hp
     simp [hp]
theorem eqTx_yes (t:TxD) (n:Nat) (h:Fits t):Ret Tryz.prog 93 [txV t,txV t] [] n true (Is (bv true) [] n):=by
 have h1:=fun n=>eqInS_ret t.2.1 t.2.1 n h.ins h.proofs
 have h2:=fun n=>eqOutS_ret t.2.2 t.2.2 n h.outs h.locks
 simp only [decide_true] at h1 h2
 refine Ret.fn ttOk Tryz.func93 rfl Tryz.call93 rfl rfl ?_
 refine Goes ?_;repeat' first|apply W2.m|refine W1.m fun h=>?_
 first | refine CallP.is (h1 _) rfl ?_ | refine CallQ.is (h1 _) rfl rfl ?_
 refine Goes ?_
 first | refine CallP.is (h2 _) rfl ?_ | refine CallQ.is (h2 _) rfl rfl ?_
 refine Goes ?_
 refine FinOk.pure rfl rfl rfl ⟨?_,rfl,rfl⟩
 rfl
end Go.Proofs.YtllhgcfacgiabaaGreat
