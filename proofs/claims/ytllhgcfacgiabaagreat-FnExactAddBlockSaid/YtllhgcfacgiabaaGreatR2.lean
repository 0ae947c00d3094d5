import Derived.Test.YtllhgcfacgiabaaGreatP37
import Derived.Test.YtllhgcfacgiabaaGreatM9
import Derived.Test.YtllhgcfacgiabaaGreatLawC
import Derived.RangeFuncNested
import Derived.RangeFuncBound
import Derived.RangeFuncCalls
import Derived.RangeFuncLeaves
import Derived.Shelf.Abstract
import Derived.WalkKit
import Derived.OwnWalkIn
import Derived.TacticsInMore
import Derived.LoopNIn
import Derived.LoopIn
import Derived.Test.YtllhgcfacgiabaaGreatProg
namespace Go.Proofs.YtllhgcfacgiabaaGreat
open Go Go.Am Go.RowKit
set_option linter.unusedVariables false
set_option linter.unusedSimpArgs false
def E4 (b:Int):Bool:=decide (1<=b/\b<=1023/\b % 256≠0)
def tgF (e m:Int):Int:=(m + 1) * 2 ^ (7 * e).toNat - 1
theorem Yn (e m:Int) (n:Nat) (he:0<=e/\e<=3) (hm:1<=m/\m<=255):Ret Tryz.prog 188 [iv e,iv m] [] n true (Is (iv (tgF e m)) [] n):=by
 unfold tgF
 rcases (by omega:e=0∨e=1∨e=2∨e=3) with rfl | rfl | rfl | rfl
 all_goals
  refine Ret.fn Ad Tryz.func188 rfl Tryz.call188 rfl rfl ?_
  refine Goes ?_
  refine Ab.pure rfl rfl rfl ⟨?_,rfl,rfl⟩
  refine ivI ?_
  simp (disch:=omega) [IntKind.bits,IntWalk.i64_in]
def P8 (b:Int):List AV:=if E4 b=true then [iv 0,iv (tgF (b / 256) (b % 256))] else [iv 3,iv 0]
theorem Ln (b:Int) (n:Nat) (hb:Du b):Ret Tryz.prog 155 [iv b] [] n true (Is (.agg (P8 b)) [] n):=by
 unfold Du at hb
 by_cases h0:b < 0
 · have e:P8 b=[iv 3,iv 0]:=by unfold P8 E4; rw [if_neg (by simp; omega)]
   rw [e]
   refine Ret.fn Ad Tryz.func155 rfl Tryz.call155 rfl rfl ?_
   refine Goes ?_;repeat' first|apply W2.m|refine W1.m fun h=>?_
   refine Ab.pure rfl rfl rfl ⟨?_,rfl,rfl⟩
   rfl
 · have hq:IntKind.i64.wrap (b.tdiv 256)=b / 256:=by rw [Int.tdiv_eq_ediv_of_nonneg (by omega),IntWalk.i64_in _ (by omega)]
   have hr:b.tmod 256=b % 256:=Int.tmod_eq_emod_of_nonneg (by omega)
   by_cases h:E4 b=true
   · have e:P8 b=[iv 0,iv (tgF (b / 256) (b % 256))]:=by unfold P8; rw [if_pos h]
     simp only [E4,decide_eq_true_eq] at h
     rw [e]
     refine Ret.fn Ad Tryz.func155 rfl Tryz.call155 rfl rfl ?_
     refine Goes ?_;repeat' first|apply W2.m|refine W1.m fun h=>?_
     all_goals first | (exfalso; rw [hq] at *; rw [hr] at *; omega) | (exfalso; omega) | skip
     rw [hq,hr]
     refine Aa.is (Yn (b / 256) (b % 256) _ (by omega) (by omega)) rfl ?_
     refine Goes ?_
     refine Ab.pure rfl rfl rfl ⟨?_,rfl,rfl⟩
     rfl
   · have e:P8 b=[iv 3,iv 0]:=by unfold P8; rw [if_neg h]
     simp only [E4,decide_eq_true_eq] at h
     rw [e]
     refine Ret.fn Ad Tryz.func155 rfl Tryz.call155 rfl rfl ?_
     refine Goes ?_;repeat' first|apply W2.m|refine W1.m fun h=>?_
     all_goals first
      | (exfalso; omega)
      | (refine Ab.pure rfl rfl rfl ⟨?_,rfl,rfl⟩; rfl)
theorem Qy (b:Int) (n:Nat) (hb:Du b):Ret Tryz.prog 109 [iv b] [] n true (Is (bv (E4 b)) [] n):=by
 have ht:=fun n=>Ln b n hb
 unfold P8 at ht
 cases h:E4 b with
 | true =>
   rw [if_pos h] at ht
   refine Ret.fn Ad Tryz.func109 rfl Tryz.call109 rfl rfl ?_
   refine Goes ?_
   refine Aa.is (ht _) rfl ?_
   refine Goes ?_
   refine Ab.pure rfl rfl rfl ⟨?_,rfl,rfl⟩
   rfl
 | false =>
   rw [if_neg (by rw [h]; decide)] at ht
   refine Ret.fn Ad Tryz.func109 rfl Tryz.call109 rfl rfl ?_
   refine Goes ?_
   refine Aa.is (ht _) rfl ?_
   refine Goes ?_
   refine Ab.pure rfl rfl rfl ⟨?_,rfl,rfl⟩
   rfl
theorem Yo (b:Int) (n:Nat):Ret Tryz.prog 106 [iv b] [] n true (Is (bv (E4 b)) [] n):=by
 have h1:=fun n=>Ck b 1 1023 n
 by_cases hb:inR 1 1023 b
 · rw [decide_eq_true hb] at h1
   have hr:b.tmod 256=b % 256:=Int.tmod_eq_emod_of_nonneg (by have:=hb.1; omega)
   unfold inR at hb
   refine Ret.fn Ad Tryz.func106 rfl Tryz.call106 rfl rfl ?_
   refine Goes ?_
   refine Aa.is (h1 _) rfl ?_
   refine Goes ?_
   refine Ab.pure rfl rfl rfl ⟨?_,rfl,rfl⟩
   refine bvI ?_
   unfold E4
   rw [hr]
   have:(0 < b % 256)↔(1<=b/\b<=1023/\b % 256≠0):=by omega
   exact decide_eq_decide.2 this
 · rw [decide_eq_false hb] at h1
   unfold inR at hb
   refine Ret.fn Ad Tryz.func106 rfl Tryz.call106 rfl rfl ?_
   refine Goes ?_
   refine Aa.is (h1 _) rfl ?_
   refine Goes ?_
   refine Ab.pure rfl rfl rfl ⟨?_,rfl,rfl⟩
   refine bvI ?_
   unfold E4
   rw [decide_eq_false (by omega)]
theorem a5H (z:Int) (n:Nat):Ret Tryz.prog 183 [iv z] [] n true (Is (bv (decide (inR 1 99999 z))) [] n):=by
 refine Ret.fn Ad Tryz.func183 rfl Tryz.call183 rfl rfl ?_
 refine Goes ?_;repeat' first|apply W2.m|refine W1.m fun h=>?_
 all_goals (refine Ab.pure rfl rfl rfl ⟨bvI ?_,rfl,rfl⟩; simp [inR, *])
theorem a3O (z:Int) (n:Nat):Ret Tryz.prog 102 [iv z] [] n true (Is (bv (decide (inR 0 65535 z))) [] n):=by
 refine Ret.fn Ad Tryz.func102 rfl Tryz.call102 rfl rfl ?_
 refine Goes ?_;repeat' first|apply W2.m|refine W1.m fun h=>?_
 all_goals (refine Ab.pure rfl rfl rfl ⟨bvI ?_,rfl,rfl⟩; simp [inR, *])
def Iw (g:Int):Int:=50 / 2 ^ ((g - 1) / 10).toNat
def a5I (g:Int):List AV:=if inR 1 9999 g then [iv 0,iv (Iw g)] else [iv 3,iv 0]
theorem V8:∀ m:Nat,6<=m->(50:Int) / 2 ^ m=0:=by
 intro m hm
 have h:(64:Int)<=2 ^ m:=by
  have:=Nat.pow_le_pow_right (n:=2) (by decide) hm
  exact_mod_cast this
 exact Int.ediv_eq_zero_of_lt (by decide) (by omega)
theorem a2o (k:Int) (m:Nat) (h0:0<=k) (hm:6<=m):(50:Int).fdiv (2 ^ (min k.toNat m))=50 / 2 ^ k.toNat:=by
 rw [Int.fdiv_eq_ediv_of_nonneg _ (by exact Int.le_of_lt (Int.pow_pos (by decide)))]
 by_cases h:k.toNat<=m
 · rw [Nat.min_eq_left h]
 · rw [Nat.min_eq_right (by omega),V8 m hm,V8 k.toNat (by omega)]
theorem Sp (g:Int) (n:Nat):Ret Tryz.prog 232 [iv g] [] n true (Is (.agg (a5I g)) [] n):=by
 have h1:=fun n=>Jc g n
 by_cases hi:inR 1 9999 g
 · have e:a5I g=[iv 0,iv (Iw g)]:=by unfold a5I; rw [if_pos hi]
   rw [e]
   unfold inR at hi
   rw [decide_eq_true (by unfold inR; omega)] at h1
   have hs:IntKind.i64.wrap (g - 1)=g - 1:=IntWalk.i64_in _ (by omega)
   have hq:IntKind.i64.wrap ((g - 1).tdiv 10)=(g - 1) / 10:=by rw [Int.tdiv_eq_ediv_of_nonneg (by omega),IntWalk.i64_in _ (by omega)]
   refine Ret.fn Ad Tryz.func232 rfl Tryz.call232 rfl rfl ?_
   refine Goes ?_;repeat' first|apply W2.m|refine W1.m fun h=>?_
   refine Aa.is (h1 _) rfl ?_
   refine Goes ?_;repeat' first|apply W2.m|refine W1.m fun h=>?_
   rw [hs,hq]
   refine ⟨by omega,?_⟩
   refine Goes ?_
   refine Ab.pure rfl rfl rfl ⟨?_,rfl,rfl⟩
   rw [show ((50:Int).fdiv (2 ^ (min ((g - 1) / 10).toNat IntKind.i64.bits)))=Iw g from a2o _ _ (by omega) (by decide)]
 · have e:a5I g=[iv 3,iv 0]:=by unfold a5I; rw [if_neg hi]
   rw [e]
   by_cases hj:inR 0 9999 g
   · rw [decide_eq_true hj] at h1
     unfold inR at hi hj
     refine Ret.fn Ad Tryz.func232 rfl Tryz.call232 rfl rfl ?_
     refine Goes ?_;repeat' first|apply W2.m|refine W1.m fun h=>?_
     refine Ab.pure rfl rfl rfl ⟨?_,rfl,rfl⟩
     rfl
   · rw [decide_eq_false hj] at h1
     unfold inR at hi hj
     refine Ret.fn Ad Tryz.func232 rfl Tryz.call232 rfl rfl ?_
     refine Goes ?_;repeat' first|apply W2.m|refine W1.m fun h=>?_
     all_goals first
      | (refine Ab.pure rfl rfl rfl ⟨?_,rfl,rfl⟩; rfl)
      | (refine Aa.is (h1 _) rfl ?_
         refine Goes ?_;repeat' first|apply W2.m|refine W1.m fun h=>?_
         refine Ab.pure rfl rfl rfl ⟨?_,rfl,rfl⟩
         rfl)
theorem a75 (a b:Int) (n:Nat):Ret Tryz.prog 194 [iv a,iv b] [] n true (Is (iv (if a < b then a else b)) [] n):=by
 refine Ret.fn Ad Tryz.func194 rfl Tryz.call194 rfl rfl ?_
 refine Goes ?_;repeat' first|apply W2.m|refine W1.m fun h=>?_
 · refine Ab.pure rfl rfl rfl ⟨?_,rfl,rfl⟩
   rw [if_pos (by assumption)]
 · refine Ab.pure rfl rfl rfl ⟨?_,rfl,rfl⟩
   rw [if_neg (by assumption)]
theorem Z8 (g:Int) (n:Nat) (hi:inR 1 9999 g):Ret Tryz.prog 160 [iv g] [] n true (Is (iv (Iw g)) [] n):=by
 unfold inR at hi
 have hs:IntKind.i64.wrap (g - 1)=g - 1:=IntWalk.i64_in _ (by omega)
 have hq:IntKind.i64.wrap ((g - 1).tdiv 10)=(g - 1) / 10:=by rw [Int.tdiv_eq_ediv_of_nonneg (by omega),IntWalk.i64_in _ (by omega)]
 refine Ret.fn Ad Tryz.func160 rfl Tryz.call160 rfl rfl ?_
 refine Goes ?_
 rw [hs,hq]
 refine Aa.is (a75 60 ((g - 1) / 10) _) rfl ?_
 refine Goes ?_
 have hw:IntKind.u64.wrap (if 60 < (g - 1) / 10 then 60 else (g - 1) / 10)=(if 60 < (g - 1) / 10 then 60 else (g - 1) / 10):=IntWalk.u64_in _ (by split <;> omega)
 rw [hw]
 refine ⟨by split <;> omega,?_⟩
 refine Goes ?_
 refine Ab.pure rfl rfl rfl ⟨?_,rfl,rfl⟩
 refine ivI ?_
 by_cases hc:60 < (g - 1) / 10
 · rw [if_pos hc,a2o 60 _ (by decide) (by decide)]
   unfold Iw
   exact (V8 _ (by decide)).trans (V8 _ (by omega)).symm
 · rw [if_neg hc,a2o _ _ (by omega) (by decide)]
   rfl
structure B7 where
 prev:Int
 time:Int
 bits:Int
 nonce:Int
 txs:List TxD
abbrev Im (xs:List TxD):AV:=.lst (xs.map txC)
abbrev Ix (b:B7):List AV:=[iv b.prev,iv b.time,iv b.bits,iv b.nonce,Im b.txs]
abbrev Fy (b:B7):AV:=.agg (Ix b)
def He (b:B7):Nat:=b.txs.length + Bn Cy b.txs
structure Uk (b:B7):Prop where
 len:b.txs.length<=9223372036854775807
 txs:∀ x∈b.txs,Mem x
 bits:Du b.bits
structure B4 (b:B7):Prop where
 len:b.txs.length<=1048576
 txs:∀ x∈b.txs,Fits x
theorem Yp {b:B7} (h:He b<=1048576):B4 b:=by
 unfold He at h
 exact ⟨by omega,fun x hx=>b0S (by have:=Ew Cy b.txs x hx; omega)⟩
theorem a76 (xs:List TxD) (n:Nat) (hl:xs.length<=1048576) (hx:∀ x∈xs,∀ n,Ret Tryz.prog 89 [.agg (txC x)] [] n true (Is (.agg (txC x)) [] n)):Ret Tryz.prog 43 [.lst (xs.map txC)] [] n true (Is (.own n xs.length) [(n,.list 133 3 (xs.map txC))] (n + 1)):=by
 have hL:(xs.map txC).length=xs.length:=by simp
 refine Ret.fn Ad Tryz.func43 rfl Tryz.call43 rfl rfl ?_
 refine Goes ?_
 rw [hL]
 refine ⟨⟨by omega,by omega,by omega,by show _ * 56<=_; omega⟩,?_⟩
 refine Goes ?_
 refine Ao.go (fun k:Nat=>k<=xs.length) (fun k=>⟨[(0,.lst (xs.map txC)),(3,.own 0 xs.length),(4,iv k)],[(0,.list 133 3 (C4 txC [iv 0,nl,nl] xs k))],1⟩) (fun k=>xs.length - k) 0 (Nat.zero_le _) ?_ ?_
 · refine Ac.of rfl rfl ktA ⟨⟨Ch ?_,rfl,rfl⟩,trivial⟩
   unfold C4; simp
 intro k hk
 have bh:=Ft txC [iv 0,nl,nl] xs k hk
 refine Goes ?_;repeat' first|apply W2.m|refine W1.m fun h=>?_
 · have aa:k < xs.length:=by omega
   rw [A1 txC xs k aa]
   refine ⟨by rw [hL]; exact ⟨by omega,by omega,rfl⟩,?_⟩
   refine Goes ?_
   refine Aa.is (hx xs[k] (List.getElem_mem aa) _) rfl ?_
   refine Goes ?_
   refine ⟨k + 1,by omega,by omega,Ac.of rfl rfl ktA ⟨⟨Ch ?_,rfl,rfl⟩,trivial⟩⟩
   exact Sg txC [iv 0,nl,nl] xs k aa _ rfl _ rfl
 · obtain rfl:k=xs.length:=by omega
   rw [Fu]
   refine Ab.mk' [0] rfl rfl rfl rfl rfl rfl rfl ⟨?_,?_,rfl⟩
   · rfl
   · rfl
theorem a9V (xs:List TxD) (n:Nat) (hl:xs.length<=1048576) (hx:∀ x∈xs,∀ n,Ret Tryz.prog 89 [.agg (txC x)] [] n true (Is (.agg (txC x)) [] n)):Ret Tryz.prog 43 [.lst (xs.map txC)] [] n true (Is (.lst (xs.map txC)) [] n) :=
 Ret.freeze (by rintro _ _ _ ⟨rfl,rfl,rfl⟩; exact ⟨_,Jz (Ae _ _ _) (by simp),rfl,rfl,rfl⟩) (a76 xs n hl hx)
theorem a77 (xs:List TxD) (l:Int) (n:Nat) (h0:0<=l) (h1:l<=1048576) (hl:xs.length<=9223372036854775807) (hx:∀ x∈xs,∀ (l:Int) (n:Nat),0<=l->l<=1048576->Ret Tryz.prog 85 [.agg (txC x),iv l] [] n true (Is (iv (B1 l (Cy x))) [] n)):Ret Tryz.prog 41 [.lst (xs.map txC),iv l] [] n true (Is (iv (B1 l (xs.length + Bn Cy xs:Nat))) [] n):=by
 have hL:(xs.map txC).length=xs.length:=by simp
 have he:IntKind.i64.wrap (l - (xs.map txC).length)=l - xs.length:=by rw [hL,IntWalk.i64_in _ (by omega)]
 refine Ret.fn Ad Tryz.func41 rfl Tryz.call41 rfl rfl ?_
 refine Goes ?_;repeat' first|apply W2.m|refine W1.m fun h=>?_
 · rw [he] at h
   refine Ab.pure rfl rfl rfl ⟨?_,rfl,rfl⟩
   unfold B1; rw [if_neg (by omega)]
 rw [he] at h ⊢
 refine Ao.go (fun k:Nat=>k<=xs.length/\(xs.length + Bn Cy (xs.take k):Nat)<=l) (fun k=>⟨[(0,.lst (xs.map txC)),(1,iv (l - (xs.length + Bn Cy (xs.take k):Nat))),(5,iv k)],[],0⟩) (fun k=>xs.length - k) 0 ⟨Nat.zero_le _,by simp [Bn]; omega⟩ ?_ ?_
 · exact Ac.of rfl rfl ⟨⟨rfl,rfl⟩,⟨Aw (by simp [Bn]),rfl⟩,⟨rfl,rfl⟩,trivial⟩ trivial
 intro k ⟨hk,hp⟩
 refine Goes ?_;repeat' first|apply W2.m|refine W1.m fun h=>?_
 · have aa:k < xs.length:=by omega
   have ak:Bn Cy (xs.take (k + 1))=Bn Cy (xs.take k) + Cy xs[k]:=O9 Cy xs k aa
   have ax:=H3 Cy xs (k + 1)
   rw [A1 txC xs k aa]
   refine ⟨by rw [hL]; exact ⟨by omega,by omega,rfl⟩,?_⟩
   refine Goes ?_
   refine Aa.is (hx xs[k] (List.getElem_mem aa) _ _ (by omega) (by omega)) rfl ?_
   refine Goes ?_;repeat' first|apply W2.m|refine W1.m fun h=>?_
   · obtain ⟨g1,g2⟩:=E1 h (by omega)
     refine Ab.pure rfl rfl rfl ⟨?_,rfl,rfl⟩
     unfold B1; rw [if_neg (by omega)]
   · obtain ⟨g1,g2⟩:=Ec h
     rw [g1]
     exact ⟨k + 1,⟨by omega,by omega⟩,by omega,Ac.of rfl rfl ⟨⟨rfl,rfl⟩,⟨Aw (by rw [ak]; omega),rfl⟩,⟨Aw Cm,rfl⟩,trivial⟩ trivial⟩
 · obtain rfl:k=xs.length:=by omega
   rw [List.take_length] at hp ⊢
   refine Ab.pure rfl rfl rfl ⟨?_,rfl,rfl⟩
   unfold B1; rw [if_pos (by omega)]
theorem a78 (a:List TxD) (n:Nat) (hl:a.length<=1048576) (hx:∀ x∈a,∀ n,Ret Tryz.prog 93 [.agg (txC x),.agg (txC x)] [] n true (Is (bv true) [] n)):Ret Tryz.prog 46 [.lst (a.map txC),.lst (a.map txC)] [] n true (Is (bv true) [] n):=by
 have hL:(a.map txC).length=a.length:=by simp
 refine Ret.fn Ad Tryz.func46 rfl Tryz.call46 rfl rfl ?_
 refine Goes ?_;repeat' first|apply W2.m|refine W1.m fun h=>?_
 refine Ao.go (fun k:Nat=>k<=a.length) (fun k=>⟨[(0,.lst (a.map txC)),(1,.lst (a.map txC)),(5,iv k)],[],0⟩) (fun k=>a.length - k) 0 (Nat.zero_le _) (Ac.of rfl rfl ktA trivial) ?_
 intro k hk
 refine Goes ?_;repeat' first|apply W2.m|refine W1.m fun h=>?_
 · have bH:k < a.length:=by omega
   rw [A1 txC a k bH]
   refine ⟨by rw [hL]; exact ⟨by omega,by omega,rfl⟩,?_⟩
   refine Goes ?_
   rw [A1 txC a k bH]
   refine ⟨by rw [hL]; exact ⟨by omega,by omega,rfl⟩,?_⟩
   refine Goes ?_
   refine Aa.is (hx a[k] (List.getElem_mem bH) _) rfl ?_
   refine Goes ?_
   exact ⟨k + 1,by omega,by omega,(Ac.of rfl rfl ktA trivial)⟩
 · refine Ab.pure rfl rfl rfl ⟨?_,rfl,rfl⟩
   rfl
theorem Gd (b:B7) (n:Nat) (h:B4 b):Ret Tryz.prog 18 [Fy b] [] n true (Is (Fy b) [] n):=by
 refine Ret.fn Ad Tryz.func18 rfl Tryz.call18 rfl rfl ?_
 refine Goes ?_
 refine Aa.is (a9V b.txs _ h.len fun x hx n=>b0R x n (h.txs x hx)) rfl ?_
 refine Goes ?_
 refine Ab.pure rfl rfl rfl ⟨?_,rfl,rfl⟩
 rfl
theorem N3 (b:B7) (l:Int) (n:Nat) (h0:0<=l) (h1:l<=1048576) (hm:Uk b):Ret Tryz.prog 16 [Fy b,iv l] [] n true (Is (iv (B1 l (He b))) [] n):=by
 refine Ret.fn Ad Tryz.func16 rfl Tryz.call16 rfl rfl ?_
 refine Goes ?_
 refine Aa.is (a77 b.txs l _ h0 h1 hm.len fun x hx l n a c=>a9F x l n a c (hm.txs x hx)) rfl ?_
 refine Goes ?_;repeat' first|apply W2.m|refine W1.m fun h=>?_
 · have h':B1 l (b.txs.length + Bn Cy b.txs:Nat) < 0:=h
   refine Ab.pure rfl rfl rfl ⟨?_,rfl,rfl⟩
   unfold He
   rw [(E1 h' h0).1]
 · refine Ab.pure rfl rfl rfl ⟨?_,rfl,rfl⟩
   rfl
theorem N4 (b:B7) (n:Nat) (hf:B4 b):Ret Tryz.prog 21 [Fy b,Fy b] [] n true (Is (bv true) [] n):=by
 refine Ret.fn Ad Tryz.func21 rfl Tryz.call21 rfl rfl ?_
 refine Goes ?_;repeat' first|apply W2.m|refine W1.m fun h=>?_
 refine Aa.is (a78 b.txs _ hf.len fun x hx n=>a9H x n (hf.txs x hx)) rfl ?_
 refine Goes ?_
 refine Ab.pure rfl rfl rfl ⟨?_,rfl,rfl⟩
 rfl
end Go.Proofs.YtllhgcfacgiabaaGreat
namespace Go.Proofs.YtllhgcfacgiabaaGreat
open Go Go.Am Go.RowKit Go.ChangeShapes Go.WideShapes Go.ChangeAt Go.Deep
set_option linter.unusedVariables false
section
variable {H:Type} {enc:TypeId × Value->H} {w:World} {base:Nat} {sp:Nat->Bool} {held:Bool}
theorem b2o {Z0 Z1 Z2 Z3 Z4:List AV->Prop} {ps:List (List AV)} (h:Al (fun (Z:List AV->Prop) p=>Z p) [Z0,Z1,Z2,Z3,Z4] ps):∃ p0 p1 p2 p3 p4,ps=[p0,p1,p2,p3,p4]/\Z0 p0/\Z1 p1/\Z2 p2/\Z3 p3/\Z4 p4 :=
 match ps,h with
 | [p0,p1,p2,p3,p4],h=>⟨p0,p1,p2,p3,p4,rfl,h.1,h.2.1,h.2.2.1,h.2.2.2.1,h.2.2.2.2.1⟩
abbrev Yq:List AV->Prop:=fun us=>∃ z:Int,us=[iv z]/\Du z
theorem a3P:Reads enc Tryz.prog w base sp held 2 Yq:=(Uh X9).mono fun us ⟨z,h,hw⟩=>⟨z,h,wf_i64 hw⟩
theorem a79:Reads enc Tryz.prog w base sp held 33 fun us=>∃ xs:List TxD,us=[Im xs]/\xs.length<=maxLen/\∀ x∈xs,Mem x :=
 (Il Tryz.underlying33 (by rw [show Tryz.prog.cellsOf 126=3 from by kernel_rfl]; decide) a9K).mono fun us ⟨rows,h1,h2,h3⟩=>by
   obtain ⟨zs,g1,g2,g3⟩:=Sc (f:=txC) h3
   exact ⟨zs,by rw [h1,g1],by omega,g2⟩
theorem a5J:∃ f0 f1 f2 f3 f4:Field,Tryz.prog.underlying 35=some (.struct #[f0,f1,f2,f3,f4])/\f0.type=2/\f1.type=2/\f2.type=2/\f3.type=2/\f4.type=33/\P7 Tryz.prog 0 [f0,f1,f2,f3,f4] (Tryz.prog.cellsOf 35)=true :=
 ⟨_,_,_,_,_,Tryz.underlying35,rfl,rfl,rfl,rfl,rfl,by kernel_rfl⟩
theorem Vk:Reads enc Tryz.prog w base sp held 35 fun us=>∃ x:B7,us=Ix x/\Uk x:=by
 obtain ⟨f0,f1,f2,f3,f4,hu,h0,h1,h2,h3,h4,ho⟩:=a5J
 refine (Fs hu [isInt,isInt,Yq,isInt,fun us=>∃ xs:List TxD,us=[Im xs]/\xs.length<=maxLen/\∀ x∈xs,Mem x] ho ⟨?_,?_,?_,?_,?_,trivial⟩).mono ?_
 · show Reads enc _ w base sp held f0.type isInt; rw [h0]; exact Km
 · show Reads enc _ w base sp held f1.type isInt; rw [h1]; exact Km
 · show Reads enc _ w base sp held f2.type Yq; rw [h2]; exact a3P
 · show Reads enc _ w base sp held f3.type isInt; rw [h3]; exact Km
 · show Reads enc _ w base sp held f4.type _; rw [h4]; exact a79
 rintro us ⟨ps,hp,rfl⟩
 obtain ⟨_,_,_,_,_,rfl,⟨a,rfl⟩,⟨b,rfl⟩,⟨c,rfl,hc⟩,⟨d,rfl⟩,⟨e,rfl,ng,nh⟩⟩:=b2o hp
 exact ⟨⟨a,b,c,d,e⟩,rfl,Nat.le_trans ng (by decide),nh,hc⟩
theorem a5K {vs:Array Value} {d:DataW H} {ps:List MemPlace} (h:DataW.Trod enc Tryz.prog w base sp held 35 (.agg vs) d ps):∃ b:B7,Uk b/\Bi w (fun b=>b < w.heap.size) (fun _=>none) (.agg vs) (Fy b):=by
 obtain ⟨us,⟨b,rfl,hm⟩,hv⟩:=a09 Vk h
 exact ⟨b,hm,hv⟩
end
end Go.Proofs.YtllhgcfacgiabaaGreat
namespace Go.Proofs.YtllhgcfacgiabaaGreat
open Go Go.RowKit Go.Shelf
attribute [local go_sem] Oper.semAt_some
set_option linter.unusedVariables false
set_option linter.unusedSimpArgs false
structure PW where
 up:Int
 sum:Int
 time:Int
 h:Int
 a:Option Addr
 len:Nat
 cap:Nat
def PW.v (x:PW):Value:=.agg #[.int .i64 x.up,.int .i64 x.sum,.int .i64 x.time,.int .i64 x.h,.slice x.a x.len x.cap]
def PW.cell (x:PW):Nat->Value
 | 0=>.int .i64 x.up
 | 1=>.int .i64 x.sum
 | 2=>.int .i64 x.time
 | 3=>.int .i64 x.h
 | _=>.slice x.a x.len x.cap
structure Io (n₀:Nat) (W:World) (g:Nat) (xs:List PW):Prop where
 ex:∃ (b:Nat) (cap:Nat),g < n₀/\b < n₀/\W.cell? ⟨g,1,none⟩=some (.slice (some ⟨b,0,none⟩) xs.length cap)/\∀ (j:Nat) (x:PW),xs[j]?=some x->∀ i,i < 5->W.cell? ⟨b,j * 5 + i,none⟩=some (x.cell i)
theorem Io.below {n₀:Nat} {A B:World} (h:Below n₀ A B) {g:Nat} {xs:List PW} (hp:Io n₀ A g xs):Io n₀ B g xs:=by
 obtain ⟨b,cap,h1,h2,h3,h4⟩:=hp.ex
 exact ⟨b,cap,h1,h2,(h.cell (p:=⟨g,1,none⟩) h1).trans h3,fun j x hx i hi=>(h.cell (p:=⟨b,j * 5 + i,none⟩) h2).trans (h4 j x hx i hi)⟩
def upto {α:Type} (f:Nat->α) (k:Nat):List α:=(List.range k).map f
theorem Ul {α:Type} (f:Nat->α) (k:Nat):upto f (k + 1)=upto f k++[f k]:=by simp [upto,List.range_succ]
theorem a3Q {α:Type} (f:Nat->α) (k:Nat):(upto f k).length=k:=by simp [upto]
set_option maxRecDepth 100000 in
set_option maxHeartbeats 2000000 in
theorem b0Z (n:Nat) (hn:1<=n) (l Bs g n₀:Nat) (p0:PW) (xs:List PW) (ae:xs.length<=1000) (J Jx:List (Nat × PW)->World->Prop) (W:World) (hJ:AbidesFrom W.heap.size J) (hn₀:n₀<=W.heap.size)
 (hY:∀ pre x W,J pre W->pre.length < xs.length->YieldAt Fence.wide (n - 1) Tryz.prog l #[.int .i64 ((x.1:Int) + -1),x.2.v] W fun e W' =>
   (e=.returned (.bool true)/\J (pre++[x]) W'/\Below n₀ W W')∨(e=.returned (.bool false)/\Jx (pre++[x]) W'))
 (lW:W.cell? ⟨Bs,0,none⟩=some (.pointer (some ⟨g,0,none⟩))) (hP:Io n₀ W g xs) (h0:J [] W) :
 CallsIn Fence.wide n Tryz.prog 164 #[.func (.yield l) #[] #[],.pointer (some ⟨Bs,0,none⟩)] W fun e W'=>(∃ v,e=.returned v) /\
  ((∃ ys,ys=upto (fun j=>(j,xs[j]?.getD p0)) xs.length/\J ys W')∨(∃ pre,(∃ k,k<=xs.length/\pre=upto (fun j=>(j,xs[j]?.getD p0)) k)/\Jx pre W')):=by
 obtain ⟨b,cap,hg,hb,nY,hc⟩:=hP.ex
 refine callsIn_of_wp Tryz.func164 rfl trivial ?_ rfl
 simp only [Tryz.ntmps164,List.size_toArray,List.length_cons,List.length_nil,Nat.reduceAdd,Nat.reduceSub,Array.replicate_succ,Array.replicate_zero,List.push_toArray,List.append_toArray,List.nil_append,List.cons_append]
 gi_wp2
 gi_loopw [10] (fun i wr=>∃ k:Nat,k<=xs.length/\i=.int .i64 k/\J (upto (fun j=>(j,xs[j]?.getD p0)) k) wr/\Below n₀ W wr)
  (fun i _=>xs.length - (intOf i).toNat)
 case atStart=>exact ⟨0,Nat.zero_le _,rfl,h0,Below.refl _ _⟩
 case round =>
  obtain ⟨k,hk,rfl,lX,gY⟩:=hrel
  by_cases aa:k < xs.length
  · obtain ⟨x,hx⟩:∃ x,xs[k]?=some x:=⟨_,List.getElem?_eq_getElem aa⟩
    have fC:=fun i hi=>(gY.cell (p:=⟨b,k * 5 + i,none⟩) hb).trans (hc k x hx i hi)
    have c0:wr.cell? ⟨b,k * 5,none⟩=some (.int .i64 x.up):=fC 0 (by omega)
    have c1:wr.cell? ⟨b,k * 5 + 1,none⟩=some (.int .i64 x.sum):=fC 1 (by omega)
    have c2:wr.cell? ⟨b,k * 5 + 2,none⟩=some (.int .i64 x.time):=fC 2 (by omega)
    have c3:wr.cell? ⟨b,k * 5 + 3,none⟩=some (.int .i64 x.h):=fC 3 (by omega)
    have c4:wr.cell? ⟨b,k * 5 + 4,none⟩=some (.slice x.a x.len x.cap):=fC 4 (by omega)
    clear fC
    have dI:xs[k]?.getD p0=x:=by rw [hx]; rfl
    have ni:=hJ _ wr (wr.alloc (.cells #[.int .i64 x.up,.int .i64 x.sum,.int .i64 x.time,.int .i64 x.h,.slice x.a x.len x.cap] 109)) none lX (World.grownBy_alloc wr _ none) (by simp)
    obtain ⟨fn,tmps,assign,body,hy,hR⟩:=hY _ (k,x) _ ni (by rw [a3Q]; exact aa)
    simp only [PW.v] at hy
    gi_wp2
    refine hR.mono ?_
    rintro e W3 (⟨rfl,nj,gk⟩ | ⟨rfl,kL⟩)
    · gi_wp2
      go_roundw
      case rel=>exact ⟨k + 1,by omega,by simp,by rw [Ul]; simpa only [dI] using nj,(gY.alloc (by have:=gY.size; omega) _).trans gk⟩
      case measure=>simp [intOf]; omega
    · gi_wp2
      refine bodyPost_ret (results_none rfl _ _ _) rfl ?_
      exact ⟨⟨_,rfl⟩,.inr ⟨_,⟨k + 1,by omega,by rw [Ul,dI]⟩,kL⟩⟩
  · obtain rfl:k=xs.length:=by omega
    gi_wp2
    go_end0
    exact ⟨⟨_,rfl⟩,.inl ⟨_,rfl,lX⟩⟩
set_option maxHeartbeats 1000000 in
theorem all_in (n:Nat) (g:Nat) (w:World) :
 CallsIn Fence.wide n Tryz.prog 125 #[.pointer (some ⟨g,0,none⟩)] w fun e w'=>e=.returned (.func (.func 164) #[] #[.pointer (some ⟨w.heap.size,0,none⟩)])/\w'=w.alloc (.cells #[.pointer (some ⟨g,0,none⟩)] 171):=by
 refine callsIn_of_wp Tryz.func125 rfl trivial ?_ rfl
 simp only [Tryz.ntmps125,List.size_toArray,List.length_cons,List.length_nil,Nat.reduceAdd,Nat.reduceSub,Array.replicate_succ,Array.replicate_zero,List.push_toArray,List.append_toArray,List.nil_append,List.cons_append]
 gi_wp2
 go_ret
 exact ⟨rfl,rfl⟩
theorem all_stops (n:Nat) (hn:1<=n) (Bs g n₀:Nat) (p0:PW) (xs:List PW) (ae:xs.length<=1000) (w:World) (lW:Bs < w.heap.size) (hn₀:n₀<=w.heap.size) (hc:w.cell? ⟨Bs,0,none⟩=some (.pointer (some ⟨g,0,none⟩))) (hP:Io n₀ w g xs) :
 SeqStopsK Fence.wide n Tryz.prog 164 #[.pointer (some ⟨Bs,0,none⟩)] (fun x:Nat × PW=>#[Value.int .i64 ((x.1:Int) + -1),x.2.v]) (Below n₀) (fun ys=>ys=upto (fun j=>(j,xs[j]?.getD p0)) xs.length)
  (fun pre=>∃ k,k<=xs.length/\pre=upto (fun j=>(j,xs[j]?.getD p0)) k) xs.length w:=fun l J Jx W hW hJ _ hY h0 =>
 b0Z n hn l Bs g n₀ p0 xs ae J Jx W hJ (Nat.le_trans hn₀ hW.size) hY ((hW.cell (p:=⟨Bs,0,none⟩) lW).trans hc) (hP.below (hW.mono hn₀)) h0
end Go.Proofs.YtllhgcfacgiabaaGreat
namespace Go.Proofs.YtllhgcfacgiabaaGreat
open Go Go.RowKit Go.Shelf
attribute [local go_sem] Oper.semAt_some
set_option linter.unusedVariables false
set_option linter.unusedSimpArgs false
def J2 (W:World) (B:Nat) (x:PW):Prop:=W.heap[B]?=some (.cells #[.int .i64 x.up,.int .i64 x.sum,.int .i64 x.time,.int .i64 x.h,.slice x.a x.len x.cap] 109 (0,0))
theorem J2.lt {W:World} {B:Nat} {x:PW} (h:J2 W B x):B < W.heap.size:=(Array.getElem?_eq_some_iff.1 h).1
theorem J2.cell1 {W:World} {B:Nat} {x:PW} (h:J2 W B x):W.cell? ⟨B,1,none⟩=some (.int .i64 x.sum):=by simp [World.cell?,show W.heap[B]?=_ from h]
theorem J2.new (W:World) (x:PW):J2 (W.alloc (.cells #[.int .i64 x.up,.int .i64 x.sum,.int .i64 x.time,.int .i64 x.h,.slice x.a x.len x.cap] 109)) W.heap.size x:=World.alloc_heap_new W _
theorem J2.kept {W W':World} {row:Option Nat} {B:Nat} {x:PW} (h:J2 W B x) (hg:W.grownBy W' row) (am:∀ r,row=some r->∃ o:Obj,W.heap[r]?=some o/\o.isCells=false):J2 W' B x :=
 (hg.block B h.lt (fun e=>by obtain ⟨o,ho,hc⟩:=am B e.symm; rw [show W.heap[B]?=_ from h] at ho; cases ho; cases hc)).trans h
theorem Em {W W':World} {row:Option Nat} {B:Nat} {t:TypeId} {v:Value} (h:Boxed W B t v) (hg:W.grownBy W' row) (am:∀ r,row=some r->∃ o:Obj,W.heap[r]?=some o/\o.isCells=false):Boxed W' B t v :=
 boxed_own B t (fun (_:Unit)=>v) () W W' row h hg am
set_option maxRecDepth 100000 in
set_option maxHeartbeats 4000000 in
theorem a8a (n:Nat) (hn:3<=n) (g:Nat) (sum:Int) (p0:PW) (xs:List PW) (ae:xs.length<=1000) (w:World) (hP:Io w.heap.size w g xs) :
 CallsIn Fence.wide n Tryz.prog 120 #[.pointer (some ⟨g,0,none⟩),.int .i64 sum] w fun e W' =>
  ((e=.returned (.tuple #[.int .i64 0,.bool false])/\∀ x∈xs,x.sum≠sum)∨(∃ (k:Nat) (x:PW),xs[k]?=some x/\x.sum=sum/\(∀ j y,j < k->xs[j]?=some y->y.sum≠sum)/\e=.returned (.tuple #[.int .i64 ((k:Int) + -1),.bool true])))/\Below w.heap.size w W':=by
 have h1:1<=n:=by omega
 refine callsIn_of_wp_marks Tryz.func120 rfl trivial ?_ rfl
 simp only [Tryz.ntmps120,List.size_toArray,List.length_cons,List.length_nil,Nat.reduceAdd,Nat.reduceSub,Array.replicate_succ,Array.replicate_zero,List.push_toArray,List.append_toArray,List.nil_append,List.cons_append]
 gi_wp2_with (refine ⟨trivial,?_⟩; gi_at_call 125; refine (all_in (n - 1) _ _).mono ?_; rintro e w' ⟨rfl,rfl⟩)
 have bS:=(((Boxed.new w 2 (.int .i64 sum)).alloc (.cells #[.int .i64 0] 2)).alloc (.cells #[.bool false] 4)).alloc (.cells #[.pointer (some ⟨g,0,none⟩)] 171)
 have bR:=((Boxed.new (w.alloc (.cells #[.int .i64 sum] 2)) 2 (.int .i64 0)).alloc (.cells #[.bool false] 4)).alloc (.cells #[.pointer (some ⟨g,0,none⟩)] 171)
 have bF:=(Boxed.new ((w.alloc (.cells #[.int .i64 sum] 2)).alloc (.cells #[.int .i64 0] 2)) 4 (.bool false)).alloc (.cells #[.pointer (some ⟨g,0,none⟩)] 171)
 have bN:=Boxed.new (((w.alloc (.cells #[.int .i64 sum] 2)).alloc (.cells #[.int .i64 0] 2)).alloc (.cells #[.bool false] 4)) 171 (.pointer (some ⟨g,0,none⟩))
 simp only [World.size_alloc] at bR bF bN
 have kM:Below w.heap.size w ((((w.alloc (.cells #[.int .i64 sum] 2)).alloc (.cells #[.int .i64 0] 2)).alloc (.cells #[.bool false] 4)).alloc (.cells #[.pointer (some ⟨g,0,none⟩)] 171)):=((((Below.refl _ w).alloc (Nat.le_refl _) _).alloc (by simp) _).alloc (by simp; omega) _).alloc (by simp; omega) _
 have ao:((((w.alloc (.cells #[.int .i64 sum] 2)).alloc (.cells #[.int .i64 0] 2)).alloc (.cells #[.bool false] 4)).alloc (.cells #[.pointer (some ⟨g,0,none⟩)] 171)).heap.size=w.heap.size + 4:=by simp
 obtain ⟨W0,lY⟩:∃ W0,(((w.alloc (.cells #[.int .i64 sum] 2)).alloc (.cells #[.int .i64 0] 2)).alloc (.cells #[.bool false] 4)).alloc (.cells #[.pointer (some ⟨g,0,none⟩)] 171)=W0:=⟨_,rfl⟩
 rw [lY] at bS bR bF bN kM ao ⊢
 clear lY
 refine wpIn_rangeFunc_ownH rfl h1 (gf:=164) (lb:=#[.pointer (some ⟨w.heap.size + 1 + 1 + 1,0,none⟩)]) rfl trivial (enters_of Tryz.func164 (by kernel_rfl) rfl)
  (all_stops (n - 1) (by omega) (w.heap.size + 1 + 1 + 1) g w.heap.size p0 xs ae W0 (by omega) (by omega) bN.cell (hP.below kM)) belowK_t (belowK_b (by omega)) (Below.refl _ _) (fun _=>rfl)
  (fun pre W=>((∀ p∈pre,p.2.sum≠sum)/\Boxed W w.heap.size 2 (.int .i64 sum)/\Boxed W (w.heap.size + 1) 2 (.int .i64 0)/\Boxed W (w.heap.size + 1 + 1) 4 (.bool false))/\Below w.heap.size w W)
  (fun c pre W=>(c=.ret/\∃ ini last,pre=ini++[last]/\(∀ p∈ini,p.2.sum≠sum)/\last.2.sum=sum/\Boxed W (w.heap.size + 1) 2 (.int .i64 ((last.1:Int) + -1))/\Boxed W (w.heap.size + 1 + 1) 4 (.bool true))/\Below w.heap.size w W)
  (OwnFrom.and (Own.from (fun s A B row hs hg hr=>⟨hs.1,Em hs.2.1 hg hr,Em hs.2.2.1 hg hr,Em hs.2.2.2 hg hr⟩) _) (ownFrom_below (Nat.le_refl _) (by omega)))
  (fun c=>OwnFrom.and (Own.from (fun s A B row hs hg hr=>by obtain ⟨hc,ini,last,e1,e2,e3,e4,e5⟩:=hs; exact ⟨hc,ini,last,e1,e2,e3,Em e4 hg hr,Em e5 hg hr⟩) _) (ownFrom_below (Nat.le_refl _) (by omega)))
  ⟨⟨by simp,bS,bR,bF⟩,kM⟩
  (fun x a' W=>∃ Bx,w.heap.size + 1 + 1 < Bx/\J2 W Bx x.2/\a'={ tmps:=#[.pointer (some ⟨g,0,none⟩),.int .i64 sum,undef,.pointer (some ⟨w.heap.size,0,none⟩),.pointer (some ⟨w.heap.size + 1,0,none⟩),.pointer (some ⟨w.heap.size + 1 + 1,0,none⟩),.int .i64 ((x.1:Int) + -1),.pointer (some ⟨Bx,0,none⟩),.pointer (some ⟨g,0,none⟩),.func (.func 164) #[] #[.pointer (some ⟨w.heap.size + 1 + 1 + 1,0,none⟩)],.int .i64 ((x.1:Int) + -1),x.2.v,undef,undef,undef,undef,undef],defers:=[] })
  (fun x a' _ X Y row hs hg hr=>by obtain ⟨Bx,h1,h2,h3⟩:=hs; exact ⟨Bx,h1,h2.kept hg (fun r e=>(hr r e).2),h3⟩)
  ?assign ?body ?done ?stop
 case assign =>
  rintro l pre x W K ⟨⟨hp,bS1,bR1,bF1⟩,iz⟩ hK
  have nk:x.2.v=.agg #[.int .i64 x.2.up,.int .i64 x.2.sum,.int .i64 x.2.time,.int .i64 x.2.h,.slice x.2.a x.2.len x.2.cap]:=rfl
  rw [nk]
  gi_wp2
  exact hK _ _ ((KeepsOthers.alloc _ _).from _) ((Below.refl _ W).alloc iz.size _) ⟨⟨hp,bS1.alloc _,bR1.alloc _,bF1.alloc _⟩,iz.alloc iz.size _⟩ ⟨W.heap.size,bF1.lt,J2.new W x.2,rfl⟩
 case body =>
  rintro l pre x a' W hl ⟨r,hr⟩ ⟨⟨hp,bS1,bR1,bF1⟩,iz⟩ ⟨Bx,nZ,bX,rfl⟩ aa
  have cX:=bX.cell1
  have cS:=bS1.cell
  have cR:=bR1.cell
  have fR:=bR1.frozen
  have cF:=bF1.cell
  have fF:=bF1.frozen
  gi_wp2
  · rename_i hb
    have hx:x.2.sum=sum:=by simpa using hb
    exact ⟨((KeepsOthers.setCell _ _ _).trans (KeepsOthers.setCell _ _ _)).from _,⟨rfl,pre,x,rfl,hp,hx,(bR1.set _).other (by omega) _,(bF1.other (by omega) _).set _⟩,(iz.setCell (p:=⟨w.heap.size + 1,0,none⟩) (by simp) _).setCell (p:=⟨w.heap.size + 1 + 1,0,none⟩) (by simp; omega) _⟩
  · rename_i hb
    have hx:x.2.sum≠sum:=by simpa using hb
    exact ⟨KeepsFrom.refl _ _,Below.refl _ _,⟨fun p hp'=>(List.mem_append.1 hp').elim (hp p) (fun e=>by simp at e; subst e; exact hx),bS1,bR1,bF1⟩,iz⟩
 case done =>
  rintro D ys W hD rfl ⟨⟨aj,bS1,bR1,bF1⟩,hB⟩ hK
  have cR:=bR1.cell
  have fR:=bR1.frozen
  have cF:=bF1.cell
  have fF:=bF1.frozen
  gi_wp2
  have fE:=((KeepsOthers.setCell W ⟨w.heap.size + 1,0,none⟩ (.int .i64 0)).trans (KeepsOthers.setCell _ ⟨w.heap.size + 1 + 1,0,none⟩ (.bool false))).same D _ hK rfl
  refine ⟨by simp,.inl ⟨_,_,rfl,run_takeDeferred fE,?_⟩⟩
  have b1:=(Em ((bR1.set (.int .i64 0)).other (B':=w.heap.size + 1 + 1) (by omega) (.bool false)) (grownBy_putObj' _ D (.deferred none)) (fun r e=>by cases e; exact ⟨_,fE,rfl⟩)).cell
  have b2:=(Em ((bF1.other (B':=w.heap.size + 1) (by omega) (.int .i64 0)).set (.bool false)) (grownBy_putObj' _ D (.deferred none)) (fun r e=>by cases e; exact ⟨_,fE,rfl⟩)).cell
  refine ⟨.tuple #[.int .i64 0,.bool false],?_,.inl ⟨rfl,fun x hx=>?_⟩,((hB.setCell (p:=⟨w.heap.size + 1,0,none⟩) (by simp) _).setCell (p:=⟨w.heap.size + 1 + 1,0,none⟩) (by simp; omega) _).trans (belowK_b (w:=w) (Nat.le_refl _) _ D _ _ (by omega) fE rfl rfl)⟩
  · simp [results,Tryz.f120,go_sem,b1,b2]
  · obtain ⟨j,hj,rfl⟩:=List.mem_iff_getElem.1 hx
    exact aj (j,xs[j]) (by simp only [upto,List.mem_map,List.mem_range]; exact ⟨j,hj,by rw [List.getElem?_eq_getElem hj]; rfl⟩)
 case stop =>
  rintro D c pre W hD ⟨k,hk,rfl⟩ ⟨⟨rfl,ini,last,e1,e2,e3,b4,b5⟩,hB⟩ hK
  gi_wp2
  refine ⟨by simp,.inl ⟨_,_,rfl,run_takeDeferred hK,?_⟩⟩
  have b1:=(Em b4 (grownBy_putObj' _ D (.deferred none)) (fun r e=>by cases e; exact ⟨_,hK,rfl⟩)).cell
  have b2:=(Em b5 (grownBy_putObj' _ D (.deferred none)) (fun r e=>by cases e; exact ⟨_,hK,rfl⟩)).cell
  obtain ⟨k',rfl⟩:∃ k',k=k' + 1:=by
   cases k with
   | zero=>simp [upto] at e1
   | succ k'=>exact ⟨k',rfl⟩
  rw [Ul] at e1
  obtain ⟨rfl,e5⟩:=List.append_inj' e1 rfl
  obtain rfl:(k',xs[k']?.getD p0)=last:=by simpa using e5
  have aW:k' < xs.length:=by omega
  have dI:=List.getElem?_eq_getElem aW
  refine ⟨.tuple #[.int .i64 ((k':Int) + -1),.bool true],?_,.inr ⟨k',xs[k'],dI,?_,fun j y hj hy=>?_,rfl⟩,hB.trans (belowK_b (w:=w) (Nat.le_refl _) W D _ _ (by omega) hK rfl rfl)⟩
  · simp [results,Tryz.f120,go_sem,b1,b2]
  · rw [dI] at e3; exact e3
  · have:=e2 (j,xs[j]?.getD p0) (by simp only [upto,List.mem_map,List.mem_range]; exact ⟨j,hj,rfl⟩)
    rw [hy] at this
    exact this
end Go.Proofs.YtllhgcfacgiabaaGreat
