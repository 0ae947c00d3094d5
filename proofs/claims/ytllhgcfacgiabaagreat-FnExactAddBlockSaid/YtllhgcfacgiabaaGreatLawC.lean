import Derived.Test.YtllhgcfacgiabaaGreatP15
import Derived.Test.YtllhgcfacgiabaaGreatLawA
namespace Go.Proofs.YtllhgcfacgiabaaGreat
open Go Go.Am Go.RowKit
set_option linter.unusedVariables false
set_option linter.unusedSimpArgs false
def C4 {α:Type} (f:α->List AV) (z:List AV) (xs:List α) (k:Nat):List (List AV):=(xs.take k).map f++List.replicate (xs.length - k) z
theorem Ft {α:Type} (f:α->List AV) (z:List AV) (xs:List α) (k:Nat) (h:k<=xs.length):(C4 f z xs k).length=xs.length:=by simp only [C4,List.length_append,List.length_map,List.length_take,List.length_replicate]; omega
theorem Fu {α:Type} (f:α->List AV) (z:List AV) (xs:List α):C4 f z xs xs.length=xs.map f:=by unfold C4; rw [Nat.sub_self,List.take_length,List.replicate_zero,List.append_nil]
theorem N2 {α:Type} (f:α->List AV) (z:List AV) (xs:List α) (k:Nat) (h:k < xs.length):(C4 f z xs k).getD k []=z:=by
 unfold C4
 rw [List.getD_eq_getElem?_getD,List.getElem?_append_right (by simp only [List.length_map,List.length_take]; omega)]
 simp only [List.length_map,List.length_take]
 rw [List.getElem?_replicate,if_pos (by omega)]; rfl
theorem Ll {α:Type} (f:α->List AV) (z:List AV) (xs:List α) (k:Nat) (h:k < xs.length):(C4 f z xs k).set k (f xs[k])=C4 f z xs (k + 1):=by
 unfold C4
 rw [Bo xs k h,List.map_append,show xs.length - k=(xs.length - (k + 1)) + 1 by omega,List.replicate_succ,List.set_append_right _ _ (by simp only [List.length_map,List.length_take]; omega)]
 simp only [List.length_map,List.length_take]
 have:k - min k xs.length=0:=by omega
 rw [this,List.set_cons_zero,List.append_assoc]; rfl
theorem Sg {α:Type} (f:α->List AV) (z:List AV) (xs:List α) (k:Nat) (h:k < xs.length) (cs:List AV) (bK:cs=f xs[k]) (s:Nat) (hs:z.length=s) :
 (C4 f z xs k).set (Int.toNat (k:Int)) (((C4 f z xs k).getD (Int.toNat (k:Int)) []).take 0++cs++((C4 f z xs k).getD (Int.toNat (k:Int)) []).drop (0 + s))=C4 f z xs (k + 1):=by
 rw [show Int.toNat (k:Int)=k from rfl,N2 f z xs k h,List.take_zero,List.nil_append,List.drop_of_length_le (by omega),List.append_nil,bK,Ll f z xs k h]
theorem Vi (zs:List Int) (n:Nat) (hl:zs.length<=1048576):Ret Tryz.prog 213 [il zs] [] n true (Is (il zs) [] n) :=
 Ret.freeze (by rintro _ _ _ ⟨rfl,rfl,rfl⟩; exact ⟨_,Jz (Ae _ _ _) (by simp),rfl,rfl,rfl⟩) (Mr zs n hl)
theorem b0Q (x:InD) (n:Nat) (hl:x.2.2.length<=1048576):Ret Tryz.prog 171 [.agg (A3 x)] [] n true (Is (.agg (A3 x)) [] n):=by
 refine Ret.fn Ad Tryz.func171 rfl Tryz.call171 rfl rfl ?_
 refine Goes ?_
 refine Aa.is (Vi x.2.2 _ hl) rfl ?_
 refine Goes ?_
 refine Ab.pure rfl rfl rfl ⟨?_,rfl,rfl⟩
 rfl
theorem a9C (y:Cx) (n:Nat) (hl:y.2.length<=1048576):Ret Tryz.prog 172 [.agg (Ax y)] [] n true (Is (.agg (Ax y)) [] n):=by
 refine Ret.fn Ad Tryz.func172 rfl Tryz.call172 rfl rfl ?_
 refine Goes ?_
 refine Aa.is (Vi y.2 _ hl) rfl ?_
 refine Goes ?_
 refine Ab.pure rfl rfl rfl ⟨?_,rfl,rfl⟩
 rfl
theorem a7M (xs:List InD) (n:Nat) (hl:xs.length<=1048576) (hx:∀ x∈xs,x.2.2.length<=1048576):Ret Tryz.prog 136 [Et xs] [] n true (Is (.own n xs.length) [(n,.list 201 3 (xs.map A3))] (n + 1)):=by
 have hL:(xs.map A3).length=xs.length:=by simp
 refine Ret.fn Ad Tryz.func136 rfl Tryz.call136 rfl rfl ?_
 refine Goes ?_
 rw [hL]
 refine ⟨⟨by omega,by omega,by omega,by show _ * 40<=_; omega⟩,?_⟩
 refine Goes ?_
 refine Ao.go (fun k:Nat=>k<=xs.length) (fun k=>⟨[(0,Et xs),(3,.own 0 xs.length),(4,iv k)],[(0,.list 201 3 (C4 A3 [iv 0,iv 0,nl] xs k))],1⟩) (fun k=>xs.length - k) 0 (Nat.zero_le _) ?_ ?_
 · refine Ac.of rfl rfl ktA ⟨⟨Ch ?_,rfl,rfl⟩,trivial⟩
   unfold C4; simp
 intro k hk
 have bh:=Ft A3 [iv 0,iv 0,nl] xs k hk
 refine Goes ?_;repeat' first|apply W2.m|refine W1.m fun h=>?_
 · have aa:k < xs.length:=by omega
   rw [A1 A3 xs k aa]
   refine ⟨by rw [hL]; exact ⟨by omega,by omega,rfl⟩,?_⟩
   refine Goes ?_
   refine Aa.is (b0Q xs[k] _ (hx _ (List.getElem_mem aa))) rfl ?_
   refine Goes ?_
   refine ⟨k + 1,by omega,by omega,Ac.of rfl rfl ktA ⟨⟨Ch ?_,rfl,rfl⟩,trivial⟩⟩
   exact Sg A3 [iv 0,iv 0,nl] xs k aa _ rfl _ rfl
 · obtain rfl:k=xs.length:=by omega
   rw [Fu]
   refine Ab.mk' [0] rfl rfl rfl rfl rfl rfl rfl ⟨?_,?_,rfl⟩
   · rfl
   · rfl
theorem a5t (xs:List Cx) (n:Nat) (hl:xs.length<=1048576) (hx:∀ x∈xs,x.2.length<=1048576):Ret Tryz.prog 137 [Dh xs] [] n true (Is (.own n xs.length) [(n,.list 203 2 (xs.map Ax))] (n + 1)):=by
 have hL:(xs.map Ax).length=xs.length:=by simp
 refine Ret.fn Ad Tryz.func137 rfl Tryz.call137 rfl rfl ?_
 refine Goes ?_
 rw [hL]
 refine ⟨⟨by omega,by omega,by omega,by show _ * 32<=_; omega⟩,?_⟩
 refine Goes ?_
 refine Ao.go (fun k:Nat=>k<=xs.length) (fun k=>⟨[(0,Dh xs),(3,.own 0 xs.length),(4,iv k)],[(0,.list 203 2 (C4 Ax [iv 0,nl] xs k))],1⟩) (fun k=>xs.length - k) 0 (Nat.zero_le _) ?_ ?_
 · refine Ac.of rfl rfl ktA ⟨⟨Ch ?_,rfl,rfl⟩,trivial⟩
   unfold C4; simp
 intro k hk
 have bh:=Ft Ax [iv 0,nl] xs k hk
 refine Goes ?_;repeat' first|apply W2.m|refine W1.m fun h=>?_
 · have aa:k < xs.length:=by omega
   rw [A1 Ax xs k aa]
   refine ⟨by rw [hL]; exact ⟨by omega,by omega,rfl⟩,?_⟩
   refine Goes ?_
   refine Aa.is (a9C xs[k] _ (hx _ (List.getElem_mem aa))) rfl ?_
   refine Goes ?_
   refine ⟨k + 1,by omega,by omega,Ac.of rfl rfl ktA ⟨⟨Ch ?_,rfl,rfl⟩,trivial⟩⟩
   exact Sg Ax [iv 0,nl] xs k aa _ rfl _ rfl
 · obtain rfl:k=xs.length:=by omega
   rw [Fu]
   refine Ab.mk' [0] rfl rfl rfl rfl rfl rfl rfl ⟨?_,?_,rfl⟩
   · rfl
   · rfl
theorem a9D (xs:List InD) (n:Nat) (hl:xs.length<=1048576) (hx:∀ x∈xs,x.2.2.length<=1048576):Ret Tryz.prog 136 [Et xs] [] n true (Is (Et xs) [] n) :=
 Ret.freeze (by rintro _ _ _ ⟨rfl,rfl,rfl⟩; exact ⟨_,Jz (Ae _ _ _) (by simp),rfl,rfl,rfl⟩) (a7M xs n hl hx)
theorem a7N (xs:List Cx) (n:Nat) (hl:xs.length<=1048576) (hx:∀ x∈xs,x.2.length<=1048576):Ret Tryz.prog 137 [Dh xs] [] n true (Is (Dh xs) [] n) :=
 Ret.freeze (by rintro _ _ _ ⟨rfl,rfl,rfl⟩; exact ⟨_,Jz (Ae _ _ _) (by simp),rfl,rfl,rfl⟩) (a5t xs n hl hx)
structure Fits (t:TxD):Prop where
 ins:t.2.1.length<=1048576
 outs:t.2.2.length<=1048576
 proofs:∀ x∈t.2.1,x.2.2.length<=1048576
 locks:∀ y∈t.2.2,y.2.length<=1048576
theorem b0R (t:TxD) (n:Nat) (h:Fits t):Ret Tryz.prog 89 [txV t] [] n true (Is (txV t) [] n):=by
 refine Ret.fn Ad Tryz.func89 rfl Tryz.call89 rfl rfl ?_
 refine Goes ?_
 refine Aa.is (a9D t.2.1 _ h.ins h.proofs) rfl ?_
 refine Goes ?_
 refine Aa.is (a7N t.2.2 _ h.outs h.locks) rfl ?_
 refine Goes ?_
 refine Ab.pure rfl rfl rfl ⟨?_,rfl,rfl⟩
 rfl
def B1 (a b:Int):Int:=if b<=a then a - b else -1
theorem Si (zs:List Int) (l:Int) (n:Nat) (h0:0<=l) (h1:l<=1048576) (hl:zs.length<=9223372036854775807):Ret Tryz.prog 209 [il zs,iv l] [] n true (Is (iv (B1 l zs.length)) [] n):=by
 have hL:(ivs zs).length=zs.length:=by simp
 have he:IntKind.i64.wrap (l - (ivs zs).length)=l - zs.length:=by rw [hL,IntWalk.i64_in _ (by omega)]
 refine Ret.fn Ad Tryz.func209 rfl Tryz.call209 rfl rfl ?_
 refine Goes ?_;repeat' first|apply W2.m|refine W1.m fun h=>?_
 · rw [he] at h
   refine Ab.pure rfl rfl rfl ⟨?_,rfl,rfl⟩
   unfold B1; rw [if_neg (by omega)]
 · rw [he] at h ⊢
   refine Ab.pure rfl rfl rfl ⟨?_,rfl,rfl⟩
   unfold B1; rw [if_pos (by omega)]
theorem a9E (x:InD) (l:Int) (n:Nat) (h0:0<=l) (h1:l<=1048576) (hl:x.2.2.length<=9223372036854775807):Ret Tryz.prog 166 [.agg (A3 x),iv l] [] n true (Is (iv (B1 l x.2.2.length)) [] n):=by
 refine Ret.fn Ad Tryz.func166 rfl Tryz.call166 rfl rfl ?_
 refine Goes ?_
 refine Aa.is (Si x.2.2 l _ h0 h1 hl) rfl ?_
 refine Goes ?_;repeat' first|apply W2.m|refine W1.m fun h=>?_
 · have h':B1 l x.2.2.length < 0:=h
   refine Ab.pure rfl rfl rfl ⟨?_,rfl,rfl⟩
   have:B1 l x.2.2.length=-1:=by unfold B1 at *; split at h' <;> first | omega | (rw [if_neg (by assumption)])
   rw [this]
 · refine Ab.pure rfl rfl rfl ⟨?_,rfl,rfl⟩
   rfl
theorem E1 {a b:Int} (h:B1 a b < 0) (ha:0<=a):B1 a b=-1/\a < b:=by
 unfold B1 at *
 split at h
 · omega
 · rename_i h'; rw [if_neg h']; exact ⟨rfl,by omega⟩
theorem Ec {a b:Int} (h:¬ B1 a b < 0):B1 a b=a - b/\b<=a:=by
 unfold B1 at *
 split at h
 · rename_i h'; rw [if_pos h']; exact ⟨rfl,h'⟩
 · omega
def Bn {α:Type} (g:α->Nat) (xs:List α):Nat:=(xs.map g).sum
theorem O9 {α:Type} (g:α->Nat) (xs:List α) (k:Nat) (h:k < xs.length):Bn g (xs.take (k + 1))=Bn g (xs.take k) + g xs[k]:=by
 unfold Bn; rw [Bo xs k h,List.map_append,List.sum_append]; simp
theorem H3 {α:Type} (g:α->Nat) (xs:List α) (k:Nat):Bn g (xs.take k)<=Bn g xs:=by
 have:Bn g xs=Bn g (xs.take k) + Bn g (xs.drop k):=by
  unfold Bn; rw [<- List.sum_append,<- List.map_append,List.take_append_drop]
 omega
theorem Ew {α:Type} (g:α->Nat) (xs:List α):∀ x∈xs,g x<=Bn g xs:=by
 intro x hx
 unfold Bn
 induction xs with
 | nil=>cases hx
 | cons a r ih =>
   simp only [List.map_cons,List.sum_cons]
   rcases List.mem_cons.1 hx with rfl | h
   · omega
   · have:=ih h; omega
abbrev pIn (x:InD):Nat:=x.2.2.length
abbrev Je (y:Cx):Nat:=y.2.length
theorem a7O (xs:List InD) (l:Int) (n:Nat) (h0:0<=l) (h1:l<=1048576) (hl:xs.length<=9223372036854775807) (hx:∀ x∈xs,pIn x<=9223372036854775807):Ret Tryz.prog 130 [Et xs,iv l] [] n true (Is (iv (B1 l (xs.length + Bn pIn xs:Nat))) [] n):=by
 have hL:(xs.map A3).length=xs.length:=by simp
 have he:IntKind.i64.wrap (l - (xs.map A3).length)=l - xs.length:=by rw [hL,IntWalk.i64_in _ (by omega)]
 refine Ret.fn Ad Tryz.func130 rfl Tryz.call130 rfl rfl ?_
 refine Goes ?_;repeat' first|apply W2.m|refine W1.m fun h=>?_
 · rw [he] at h
   refine Ab.pure rfl rfl rfl ⟨?_,rfl,rfl⟩
   unfold B1; rw [if_neg (by omega)]
 rw [he] at h ⊢
 refine Ao.go (fun k:Nat=>k<=xs.length/\(xs.length + Bn pIn (xs.take k):Nat)<=l) (fun k=>⟨[(0,Et xs),(1,iv (l - (xs.length + Bn pIn (xs.take k):Nat))),(5,iv k)],[],0⟩) (fun k=>xs.length - k) 0 ⟨Nat.zero_le _,by simp [Bn]; omega⟩ ?_ ?_
 · exact Ac.of rfl rfl ⟨⟨rfl,rfl⟩,⟨Aw (by simp [Bn]),rfl⟩,⟨rfl,rfl⟩,trivial⟩ trivial
 intro k ⟨hk,hp⟩
 refine Goes ?_;repeat' first|apply W2.m|refine W1.m fun h=>?_
 · have aa:k < xs.length:=by omega
   have ak:Bn pIn (xs.take (k + 1))=Bn pIn (xs.take k) + xs[k].2.2.length:=O9 pIn xs k aa
   have ax:=H3 pIn xs (k + 1)
   rw [A1 A3 xs k aa]
   refine ⟨by rw [hL]; exact ⟨by omega,by omega,rfl⟩,?_⟩
   refine Goes ?_
   refine Aa.is (a9E xs[k] _ _ (by omega) (by omega) (hx _ (List.getElem_mem aa))) rfl ?_
   refine Goes ?_;repeat' first|apply W2.m|refine W1.m fun h=>?_
   · obtain ⟨g1,g2⟩:=E1 h (by omega)
     refine Ab.pure rfl rfl rfl ⟨?_,rfl,rfl⟩
     unfold B1; rw [if_neg (by omega)]
   · obtain ⟨g1,g2⟩:=Ec h
     rw [g1]
     exact ⟨k + 1,⟨by omega,by omega⟩,by omega,Ac.of rfl rfl ⟨⟨rfl,rfl⟩,⟨Aw (by rw [ak]; omega),rfl⟩,⟨Aw Cm,rfl⟩,trivial⟩ trivial⟩
 · obtain rfl:k=xs.length:=by omega
   rw [List.take_length] at hp ⊢
   refine Ab.pure rfl rfl rfl ⟨?_,rfl,rfl⟩
   unfold B1; rw [if_pos (by omega)]
theorem a7P (x:Cx) (l:Int) (n:Nat) (h0:0<=l) (h1:l<=1048576) (hl:x.2.length<=9223372036854775807):Ret Tryz.prog 167 [.agg (Ax x),iv l] [] n true (Is (iv (B1 l x.2.length)) [] n):=by
 refine Ret.fn Ad Tryz.func167 rfl Tryz.call167 rfl rfl ?_
 refine Goes ?_
 refine Aa.is (Si x.2 l _ h0 h1 hl) rfl ?_
 refine Goes ?_;repeat' first|apply W2.m|refine W1.m fun h=>?_
 · have h':B1 l x.2.length < 0:=h
   refine Ab.pure rfl rfl rfl ⟨?_,rfl,rfl⟩
   rw [(E1 h' h0).1]
 · refine Ab.pure rfl rfl rfl ⟨?_,rfl,rfl⟩
   rfl
theorem a5u (xs:List Cx) (l:Int) (n:Nat) (h0:0<=l) (h1:l<=1048576) (hl:xs.length<=9223372036854775807) (hx:∀ x∈xs,Je x<=9223372036854775807):Ret Tryz.prog 131 [Dh xs,iv l] [] n true (Is (iv (B1 l (xs.length + Bn Je xs:Nat))) [] n):=by
 have hL:(xs.map Ax).length=xs.length:=by simp
 have he:IntKind.i64.wrap (l - (xs.map Ax).length)=l - xs.length:=by rw [hL,IntWalk.i64_in _ (by omega)]
 refine Ret.fn Ad Tryz.func131 rfl Tryz.call131 rfl rfl ?_
 refine Goes ?_;repeat' first|apply W2.m|refine W1.m fun h=>?_
 · rw [he] at h
   refine Ab.pure rfl rfl rfl ⟨?_,rfl,rfl⟩
   unfold B1; rw [if_neg (by omega)]
 rw [he] at h ⊢
 refine Ao.go (fun k:Nat=>k<=xs.length/\(xs.length + Bn Je (xs.take k):Nat)<=l) (fun k=>⟨[(0,Dh xs),(1,iv (l - (xs.length + Bn Je (xs.take k):Nat))),(5,iv k)],[],0⟩) (fun k=>xs.length - k) 0 ⟨Nat.zero_le _,by simp [Bn]; omega⟩ ?_ ?_
 · exact Ac.of rfl rfl ⟨⟨rfl,rfl⟩,⟨Aw (by simp [Bn]),rfl⟩,⟨rfl,rfl⟩,trivial⟩ trivial
 intro k ⟨hk,hp⟩
 refine Goes ?_;repeat' first|apply W2.m|refine W1.m fun h=>?_
 · have aa:k < xs.length:=by omega
   have ak:Bn Je (xs.take (k + 1))=Bn Je (xs.take k) + xs[k].2.length:=O9 Je xs k aa
   have ax:=H3 Je xs (k + 1)
   rw [A1 Ax xs k aa]
   refine ⟨by rw [hL]; exact ⟨by omega,by omega,rfl⟩,?_⟩
   refine Goes ?_
   refine Aa.is (a7P xs[k] _ _ (by omega) (by omega) (hx _ (List.getElem_mem aa))) rfl ?_
   refine Goes ?_;repeat' first|apply W2.m|refine W1.m fun h=>?_
   · obtain ⟨g1,g2⟩:=E1 h (by omega)
     refine Ab.pure rfl rfl rfl ⟨?_,rfl,rfl⟩
     unfold B1; rw [if_neg (by omega)]
   · obtain ⟨g1,g2⟩:=Ec h
     rw [g1]
     exact ⟨k + 1,⟨by omega,by omega⟩,by omega,Ac.of rfl rfl ⟨⟨rfl,rfl⟩,⟨Aw (by rw [ak]; omega),rfl⟩,⟨Aw Cm,rfl⟩,trivial⟩ trivial⟩
 · obtain rfl:k=xs.length:=by omega
   rw [List.take_length] at hp ⊢
   refine Ab.pure rfl rfl rfl ⟨?_,rfl,rfl⟩
   unfold B1; rw [if_pos (by omega)]
structure Mem (t:TxD):Prop where
 ins:t.2.1.length<=9223372036854775807
 outs:t.2.2.length<=9223372036854775807
 proofs:∀ x∈t.2.1,pIn x<=9223372036854775807
 locks:∀ y∈t.2.2,Je y<=9223372036854775807
def Cy (t:TxD):Nat:=t.2.1.length + Bn pIn t.2.1 + (t.2.2.length + Bn Je t.2.2)
theorem a9F (t:TxD) (l:Int) (n:Nat) (h0:0<=l) (h1:l<=1048576) (hm:Mem t):Ret Tryz.prog 85 [txV t,iv l] [] n true (Is (iv (B1 l (Cy t))) [] n):=by
 refine Ret.fn Ad Tryz.func85 rfl Tryz.call85 rfl rfl ?_
 refine Goes ?_
 refine Aa.is (a7O t.2.1 l _ h0 h1 hm.ins hm.proofs) rfl ?_
 refine Goes ?_;repeat' first|apply W2.m|refine W1.m fun h=>?_
 · obtain ⟨g1,g2⟩:=E1 h h0
   refine Ab.pure rfl rfl rfl ⟨?_,rfl,rfl⟩
   unfold B1 Cy; rw [if_neg (by omega)]
 obtain ⟨g1,g2⟩:=Ec h
 rw [g1]
 refine Aa.is (a5u t.2.2 (l - (t.2.1.length + Bn pIn t.2.1:Nat)) _ (by omega) (by omega) hm.outs hm.locks) rfl ?_
 refine Goes ?_;repeat' first|apply W2.m|refine W1.m fun h=>?_
 · obtain ⟨g3,g4⟩:=E1 h (by omega)
   refine Ab.pure rfl rfl rfl ⟨?_,rfl,rfl⟩
   unfold B1 Cy; rw [if_neg (by omega)]
 · obtain ⟨g3,g4⟩:=Ec h
   rw [g3]
   refine Ab.pure rfl rfl rfl ⟨?_,rfl,rfl⟩
   unfold B1 Cy; rw [if_pos (by omega)]
   refine ivI ?_
   omega
theorem b0S {t:TxD} (h:Cy t<=1048576):Fits t:=by
 unfold Cy at h
 refine ⟨by omega,by omega,fun x hx=>?_,fun y hy=>?_⟩
 · have:=Ew pIn t.2.1 x hx; dsimp only [pIn] at this; omega
 · have:=Ew Je t.2.2 y hy; dsimp only [Je] at this; omega
theorem a9G (a b:InD) (n:Nat) (hl:a.2.2.length<=1048576):Ret Tryz.prog 179 [.agg (A3 a),.agg (A3 b)] [] n true (Is (bv (decide (a=b))) [] n):=by
 obtain ⟨a1,a2,a3⟩:=a
 obtain ⟨b1,b2,b3⟩:=b
 refine Ret.fn Ad Tryz.func179 rfl Tryz.call179 rfl rfl ?_
 refine Goes ?_;repeat' first|apply W2.m|refine W1.m fun h=>?_
 · have h':¬ a1=b1:=h
   refine Ab.pure rfl rfl rfl ⟨?_,rfl,rfl⟩; refine bvI ?_; simp [h']
 · have h':¬ a2=b2:=h
   refine Ab.pure rfl rfl rfl ⟨?_,rfl,rfl⟩; refine bvI ?_; simp [h']
 · have g1:a1=b1:=Decidable.not_not.1 (by assumption)
   have g2:a2=b2:=Decidable.not_not.1 (by assumption)
   refine Aa.is (R9 a3 b3 _ hl) rfl ?_
   refine Goes ?_;repeat' first|apply W2.m|refine W1.m fun h=>?_
   · have h':¬ a3=b3:=h
     refine Ab.pure rfl rfl rfl ⟨?_,rfl,rfl⟩; refine bvI ?_; simp [h']
   · have h':a3=b3:=h
     refine Ab.pure rfl rfl rfl ⟨?_,rfl,rfl⟩; refine bvI ?_; simp [g1,g2,h']
theorem a7Q (a b:Cx) (n:Nat) (hl:a.2.length<=1048576):Ret Tryz.prog 180 [.agg (Ax a),.agg (Ax b)] [] n true (Is (bv (decide (a=b))) [] n):=by
 obtain ⟨a1,a3⟩:=a
 obtain ⟨b1,b3⟩:=b
 refine Ret.fn Ad Tryz.func180 rfl Tryz.call180 rfl rfl ?_
 refine Goes ?_;repeat' first|apply W2.m|refine W1.m fun h=>?_
 · have h':¬ a1=b1:=h
   refine Ab.pure rfl rfl rfl ⟨?_,rfl,rfl⟩; refine bvI ?_; simp [h']
 · have g1:a1=b1:=Decidable.not_not.1 (by assumption)
   refine Aa.is (R9 a3 b3 _ hl) rfl ?_
   refine Goes ?_;repeat' first|apply W2.m|refine W1.m fun h=>?_
   · have h':¬ a3=b3:=h
     refine Ab.pure rfl rfl rfl ⟨?_,rfl,rfl⟩; refine bvI ?_; simp [h']
   · have h':a3=b3:=h
     refine Ab.pure rfl rfl rfl ⟨?_,rfl,rfl⟩; refine bvI ?_; simp [g1,h']
theorem a7R (a b:List InD) (n:Nat) (hl:a.length<=1048576) (hx:∀ x∈a,x.2.2.length<=1048576):Ret Tryz.prog 144 [Et a,Et b] [] n true (Is (bv (decide (a=b))) [] n):=by
 have hL:(a.map A3).length=a.length:=by simp
 have hM:(b.map A3).length=b.length:=by simp
 refine Ret.fn Ad Tryz.func144 rfl Tryz.call144 rfl rfl ?_
 refine Goes ?_;repeat' first|apply W2.m|refine W1.m fun h=>?_
 · refine Ab.pure rfl rfl rfl ⟨?_,rfl,rfl⟩
   refine bvI ?_
   have:a≠b:=fun e=>h (by rw [e])
   simp [this]
 · have dZ:a.length=b.length:=by omega
   refine Ao.go (fun k:Nat=>k<=a.length/\a.take k=b.take k) (fun k=>⟨[(0,Et a),(1,Et b),(5,iv k)],[],0⟩) (fun k=>a.length - k) 0 ⟨Nat.zero_le _,rfl⟩ (Ac.of rfl rfl ktA trivial) ?_
   intro k ⟨hk,hp⟩
   refine Goes ?_;repeat' first|apply W2.m|refine W1.m fun h=>?_
   · have bH:k < a.length:=by omega
     have cy:k < b.length:=by omega
     rw [A1 A3 a k bH]
     refine ⟨by rw [hL]; exact ⟨by omega,by omega,rfl⟩,?_⟩
     refine Goes ?_
     rw [A1 A3 b k cy]
     refine ⟨by rw [hM]; exact ⟨by omega,by omega,rfl⟩,?_⟩
     refine Goes ?_
     refine Aa.is (a9G a[k] b[k] _ (hx _ (List.getElem_mem bH))) rfl ?_
     refine Goes ?_;repeat' first|apply W2.m|refine W1.m fun h=>?_
     · refine Ab.pure rfl rfl rfl ⟨?_,rfl,rfl⟩
       refine bvI ?_
       have:a≠b:=fun e=>h (by subst e; rfl)
       simp [this]
     · have he:a[k]=b[k]:=by assumption
       exact ⟨k + 1,⟨by omega,by rw [Bo a k bH,Bo b k cy,hp,he]⟩,by omega,(Ac.of rfl rfl ktA trivial)⟩
   · refine Ab.pure rfl rfl rfl ⟨?_,rfl,rfl⟩
     refine bvI ?_
     rw [List.take_of_length_le (by omega),List.take_of_length_le (by omega)] at hp
     simp [hp]
theorem a5v (a b:List Cx) (n:Nat) (hl:a.length<=1048576) (hx:∀ x∈a,x.2.length<=1048576):Ret Tryz.prog 145 [Dh a,Dh b] [] n true (Is (bv (decide (a=b))) [] n):=by
 have hL:(a.map Ax).length=a.length:=by simp
 have hM:(b.map Ax).length=b.length:=by simp
 refine Ret.fn Ad Tryz.func145 rfl Tryz.call145 rfl rfl ?_
 refine Goes ?_;repeat' first|apply W2.m|refine W1.m fun h=>?_
 · refine Ab.pure rfl rfl rfl ⟨?_,rfl,rfl⟩
   refine bvI ?_
   have:a≠b:=fun e=>h (by rw [e])
   simp [this]
 · have dZ:a.length=b.length:=by omega
   refine Ao.go (fun k:Nat=>k<=a.length/\a.take k=b.take k) (fun k=>⟨[(0,Dh a),(1,Dh b),(5,iv k)],[],0⟩) (fun k=>a.length - k) 0 ⟨Nat.zero_le _,rfl⟩ (Ac.of rfl rfl ktA trivial) ?_
   intro k ⟨hk,hp⟩
   refine Goes ?_;repeat' first|apply W2.m|refine W1.m fun h=>?_
   · have bH:k < a.length:=by omega
     have cy:k < b.length:=by omega
     rw [A1 Ax a k bH]
     refine ⟨by rw [hL]; exact ⟨by omega,by omega,rfl⟩,?_⟩
     refine Goes ?_
     rw [A1 Ax b k cy]
     refine ⟨by rw [hM]; exact ⟨by omega,by omega,rfl⟩,?_⟩
     refine Goes ?_
     refine Aa.is (a7Q a[k] b[k] _ (hx _ (List.getElem_mem bH))) rfl ?_
     refine Goes ?_;repeat' first|apply W2.m|refine W1.m fun h=>?_
     · refine Ab.pure rfl rfl rfl ⟨?_,rfl,rfl⟩
       refine bvI ?_
       have:a≠b:=fun e=>h (by subst e; rfl)
       simp [this]
     · have he:a[k]=b[k]:=by assumption
       exact ⟨k + 1,⟨by omega,by rw [Bo a k bH,Bo b k cy,hp,he]⟩,by omega,(Ac.of rfl rfl ktA trivial)⟩
   · refine Ab.pure rfl rfl rfl ⟨?_,rfl,rfl⟩
     refine bvI ?_
     rw [List.take_of_length_le (by omega),List.take_of_length_le (by omega)] at hp
     simp [hp]
theorem a9H (t:TxD) (n:Nat) (h:Fits t):Ret Tryz.prog 93 [txV t,txV t] [] n true (Is (bv true) [] n):=by
 have h1:=fun n=>a7R t.2.1 t.2.1 n h.ins h.proofs
 have h2:=fun n=>a5v t.2.2 t.2.2 n h.outs h.locks
 simp only [decide_true] at h1 h2
 refine Ret.fn Ad Tryz.func93 rfl Tryz.call93 rfl rfl ?_
 refine Goes ?_;repeat' first|apply W2.m|refine W1.m fun h=>?_
 refine Aa.is (h1 _) rfl ?_
 refine Goes ?_
 refine Aa.is (h2 _) rfl ?_
 refine Goes ?_
 refine Ab.pure rfl rfl rfl ⟨?_,rfl,rfl⟩
 rfl
end Go.Proofs.YtllhgcfacgiabaaGreat
namespace Go.Proofs.YtllhgcfacgiabaaGreat
open Go Go.Am Go.RowKit Go.ChangeShapes Go.WideShapes Go.ChangeAt Go.Deep
set_option linter.unusedVariables false
section
variable {H:Type} {enc:TypeId × Value->H} {w:World} {base:Nat} {sp:Nat->Bool} {held:Bool}
theorem b12 {Z0 Z1 Z2:List AV->Prop}:∀ {ps:List (List AV)},Al (fun (Z:List AV->Prop) p=>Z p) [Z0,Z1,Z2] ps->∃ p0 p1 p2,ps=[p0,p1,p2]/\Z0 p0/\Z1 p1/\Z2 p2
 | [p0,p1,p2],h=>⟨p0,p1,p2,rfl,h.1,h.2.1,h.2.2.1⟩
 | [],h=>h.elim
 | [_],h=>h.2.elim
 | [_,_],h=>h.2.2.elim
 | _::_::_::_::_,h=>h.2.2.2.elim
theorem b2k {Z0 Z1:List AV->Prop}:∀ {ps:List (List AV)},Al (fun (Z:List AV->Prop) p=>Z p) [Z0,Z1] ps->∃ p0 p1,ps=[p0,p1]/\Z0 p0/\Z1 p1
 | [p0,p1],h=>⟨p0,p1,rfl,h.1,h.2.1⟩
 | [],h=>h.elim
 | [_],h=>h.2.elim
 | _::_::_::_,h=>h.2.2.elim
theorem a7S:Tryz.prog.underlying 62=some (.slice 2):=by kernel_rfl
theorem a7T:Tryz.prog.cellsOf 2=1:=by kernel_rfl
abbrev isInt:List AV->Prop:=fun us=>∃ z:Int,us=[iv z]
abbrev Yd:List AV->Prop:=fun us=>∃ zs:List Int,us=[il zs]/\zs.length<=maxLen
theorem Km:Reads enc Tryz.prog w base sp held 2 isInt:=(Uh X9).mono fun us ⟨z,h,_⟩=>⟨z,h⟩
theorem a6P:Reads enc Tryz.prog w base sp held 62 Yd:=(a5o a7S X9 a7T).mono fun us ⟨z,h,h2,_⟩=>⟨z,h,h2⟩
theorem b0T:∃ f0 f1 f2:Field,Tryz.prog.underlying 219=some (.struct #[f0,f1,f2])/\f0.type=2/\f1.type=2/\f2.type=62/\P7 Tryz.prog 0 [f0,f1,f2] (Tryz.prog.cellsOf 219)=true :=
 ⟨_,_,_,Tryz.underlying219,rfl,rfl,rfl,by kernel_rfl⟩
theorem a9I:Reads enc Tryz.prog w base sp held 219 fun us=>∃ x:InD,us=A3 x/\x.2.2.length<=maxLen:=by
 obtain ⟨f0,f1,f2,hu,h0,h1,h2,ho⟩:=b0T
 refine (Fs hu [isInt,isInt,Yd] ho ⟨?_,?_,?_,trivial⟩).mono ?_
 · show Reads enc _ w base sp held f0.type isInt; rw [h0]; exact Km
 · show Reads enc _ w base sp held f1.type isInt; rw [h1]; exact Km
 · show Reads enc _ w base sp held f2.type Yd; rw [h2]; exact a6P
 rintro us ⟨ps,hp,rfl⟩
 obtain ⟨_,_,_,rfl,⟨a,rfl⟩,⟨b,rfl⟩,⟨c,rfl,hc⟩⟩:=b12 hp
 exact ⟨(a,b,c),rfl,hc⟩
theorem a9J:∃ f0 f1:Field,Tryz.prog.underlying 221=some (.struct #[f0,f1])/\f0.type=2/\f1.type=62/\P7 Tryz.prog 0 [f0,f1] (Tryz.prog.cellsOf 221)=true :=
 ⟨_,_,Tryz.underlying221,rfl,rfl,by kernel_rfl⟩
theorem a7U:Reads enc Tryz.prog w base sp held 221 fun us=>∃ x:Cx,us=Ax x/\x.2.length<=maxLen:=by
 obtain ⟨f0,f1,hu,h0,h1,ho⟩:=a9J
 refine (Fs hu [isInt,Yd] ho ⟨?_,?_,trivial⟩).mono ?_
 · show Reads enc _ w base sp held f0.type isInt; rw [h0]; exact Km
 · show Reads enc _ w base sp held f1.type Yd; rw [h1]; exact a6P
 rintro us ⟨ps,hp,rfl⟩
 obtain ⟨_,_,rfl,⟨a,rfl⟩,⟨c,rfl,hc⟩⟩:=b2k hp
 exact ⟨(a,c),rfl,hc⟩
theorem a7V:Reads enc Tryz.prog w base sp held 123 fun us=>∃ xs:List InD,us=[Et xs]/\xs.length<=maxLen/\∀ x∈xs,x.2.2.length<=maxLen :=
 (Il Tryz.underlying123 (by rw [show Tryz.prog.cellsOf 219=3 from by kernel_rfl]; decide) a9I).mono fun us ⟨rows,h1,h2,h3⟩=>by
   obtain ⟨zs,g1,g2,g3⟩:=Sc (f:=A3) h3
   exact ⟨zs,by rw [h1,g1],by omega,g2⟩
theorem a5w:Reads enc Tryz.prog w base sp held 124 fun us=>∃ xs:List Cx,us=[Dh xs]/\xs.length<=maxLen/\∀ x∈xs,x.2.length<=maxLen :=
 (Il Tryz.underlying124 (by rw [show Tryz.prog.cellsOf 221=2 from by kernel_rfl]; decide) a7U).mono fun us ⟨rows,h1,h2,h3⟩=>by
   obtain ⟨zs,g1,g2,g3⟩:=Sc (f:=Ax) h3
   exact ⟨zs,by rw [h1,g1],by omega,g2⟩
theorem b0U:∃ f0 f1 f2:Field,Tryz.prog.underlying 126=some (.struct #[f0,f1,f2])/\f0.type=2/\f1.type=123/\f2.type=124/\P7 Tryz.prog 0 [f0,f1,f2] (Tryz.prog.cellsOf 126)=true :=
 ⟨_,_,_,Tryz.underlying126,rfl,rfl,rfl,by kernel_rfl⟩
theorem a9K:Reads enc Tryz.prog w base sp held 126 fun us=>∃ t:TxD,us=txC t/\Mem t:=by
 obtain ⟨f0,f1,f2,hu,h0,h1,h2,ho⟩:=b0U
 refine (Fs hu [isInt,fun us=>∃ xs:List InD,us=[Et xs]/\xs.length<=maxLen/\∀ x∈xs,x.2.2.length<=maxLen,fun us=>∃ xs:List Cx,us=[Dh xs]/\xs.length<=maxLen/\∀ x∈xs,x.2.length<=maxLen] ho ⟨?_,?_,?_,trivial⟩).mono ?_
 · show Reads enc _ w base sp held f0.type isInt; rw [h0]; exact Km
 · show Reads enc _ w base sp held f1.type _; rw [h1]; exact a7V
 · show Reads enc _ w base sp held f2.type _; rw [h2]; exact a5w
 rintro us ⟨ps,hp,rfl⟩
 obtain ⟨_,_,_,rfl,⟨a,rfl⟩,⟨b,rfl,bu,a8⟩,⟨c,rfl,m8,fa⟩⟩:=b12 hp
 exact ⟨(a,b,c),rfl,Nat.le_trans bu (by decide),Nat.le_trans m8 (by decide),fun x hx=>Nat.le_trans (a8 x hx) (by decide),fun x hx=>Nat.le_trans (fa x hx) (by decide)⟩
theorem a09 {t:TypeId} {Z:List AV->Prop} (hr:Reads enc Tryz.prog w base sp held t Z) {vs:Array Value} {d:DataW H} {ps:List MemPlace} (h:DataW.Trod enc Tryz.prog w base sp held t (.agg vs) d ps):∃ us,Z us/\Bi w (fun b=>b < w.heap.size) (fun _=>none) (.agg vs) (.agg us):=by
 obtain ⟨fuel,hf⟩:=h
 obtain ⟨us,h1,h2⟩:=hr _ _ _ hf
 refine ⟨us,h1,?_⟩
 have hv:(Value.agg vs)=.agg vs.toList.toArray:=by simp
 rw [hv]
 exact .one (.agg vs.toList us (Al.mono (fun _ _ h=>.rd h) (by simpa [Value.cells] using h2)))
end
end Go.Proofs.YtllhgcfacgiabaaGreat
