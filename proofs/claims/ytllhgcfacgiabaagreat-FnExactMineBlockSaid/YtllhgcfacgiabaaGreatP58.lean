import Derived.Test.YtllhgcfacgiabaaGreatP37
namespace Go.Proofs.YtllhgcfacgiabaaGreat
open Go Go.Am Go.RowKit
set_option linter.unusedVariables false
set_option linter.unusedSimpArgs false
def bitsB (b:Int):Bool:=decide (1≤b∧b≤1023∧b % 256≠0)
def tgF (e m:Int):Int:=(m + 1) * 2 ^ (7 * e).toNat - 1
theorem targetFrom_ret (e m:Int) (n:Nat) (he:0≤e∧e≤3) (hm:1≤m∧m≤255):Ret Tryz.prog 188 [iv e,iv m] [] n true (Is (iv (tgF e m)) [] n):=by
 unfold tgF
 rcases (by omega:e=0∨e=1∨e=2∨e=3) with rfl | rfl | rfl | rfl
 all_goals
  refine Ret.fn ttOk Tryz.func188 rfl Tryz.call188 rfl rfl ?_
  refine Goes ?_
  refine FinOk.pure rfl rfl rfl ⟨?_,rfl,rfl⟩
  refine ivI ?_
  simp (disch:=omega) [IntKind.bits,IntWalk.i64_in]
def targR (b:Int):List AV:=if bitsB b=true then [iv 0,iv (tgF (b / 256) (b % 256))] else [iv 3,iv 0]
theorem implTargetOf_ret (b:Int) (n:Nat) (hb:isI64 b):Ret Tryz.prog 155 [iv b] [] n true (Is (.agg (targR b)) [] n):=by
 unfold isI64 at hb
 by_cases h0:b < 0
 · have e:targR b=[iv 3,iv 0]:=by unfold targR bitsB; rw [if_neg (by simp; omega)]
   rw [e]
   refine Ret.fn ttOk Tryz.func155 rfl Tryz.call155 rfl rfl ?_
   refine Goes ?_;repeat' first|apply W2.m|refine W1.m fun h=>?_
   refine FinOk.pure rfl rfl rfl ⟨?_,rfl,rfl⟩
   rfl
 · have hq:IntKind.i64.wrap (b.tdiv 256)=b / 256:=by rw [Int.tdiv_eq_ediv_of_nonneg (by omega),IntWalk.i64_in _ (by omega)]
   have hr:b.tmod 256=b % 256:=Int.tmod_eq_emod_of_nonneg (by omega)
   by_cases h:bitsB b=true
   · have e:targR b=[iv 0,iv (tgF (b / 256) (b % 256))]:=by unfold targR; rw [if_pos h]
     simp only [bitsB,decide_eq_true_eq] at h
     rw [e]
     refine Ret.fn ttOk Tryz.func155 rfl Tryz.call155 rfl rfl ?_
     refine Goes ?_;repeat' first|apply W2.m|refine W1.m fun h=>?_
     all_goals first | (exfalso; rw [hq] at *; rw [hr] at *; omega) | (exfalso; omega) | skip
     rw [hq,hr]
     first | refine CallP.is (targetFrom_ret (b / 256) (b % 256) _ (by omega) (by omega)) rfl ?_ | refine CallQ.is (targetFrom_ret (b / 256) (b % 256) _ (by omega) (by omega)) rfl rfl ?_
     refine Goes ?_
     refine FinOk.pure rfl rfl rfl ⟨?_,rfl,rfl⟩
     rfl
   · have e:targR b=[iv 3,iv 0]:=by unfold targR; rw [if_neg h]
     simp only [bitsB,decide_eq_true_eq] at h
     rw [e]
     refine Ret.fn ttOk Tryz.func155 rfl Tryz.call155 rfl rfl ?_
     refine Goes ?_;repeat' first|apply W2.m|refine W1.m fun h=>?_
     all_goals first
      | (exfalso; omega)
      | (refine FinOk.pure rfl rfl rfl ⟨?_,rfl,rfl⟩; rfl)
theorem isBits_ret (b:Int) (n:Nat) (hb:isI64 b):Ret Tryz.prog 109 [iv b] [] n true (Is (bv (bitsB b)) [] n):=by
 have ht:=fun n=>implTargetOf_ret b n hb
 unfold targR at ht
 cases h:bitsB b with
 | true =>
   rw [if_pos h] at ht
   refine Ret.fn ttOk Tryz.func109 rfl Tryz.call109 rfl rfl ?_
   refine Goes ?_
   first | refine CallP.is (ht _) rfl ?_ | refine CallQ.is (ht _) rfl rfl ?_
   refine Goes ?_
   refine FinOk.pure rfl rfl rfl ⟨?_,rfl,rfl⟩
   rfl
 | false =>
   rw [if_neg (by rw [h]; decide)] at ht
   refine Ret.fn ttOk Tryz.func109 rfl Tryz.call109 rfl rfl ?_
   refine Goes ?_
   first | refine CallP.is (ht _) rfl ?_ | refine CallQ.is (ht _) rfl rfl ?_
   refine Goes ?_
   refine FinOk.pure rfl rfl rfl ⟨?_,rfl,rfl⟩
   rfl
theorem l1Bits_ret (b:Int) (n:Nat):Ret Tryz.prog 106 [iv b] [] n true (Is (bv (bitsB b)) [] n):=by
 have h1:=fun n=>l1In_ret b 1 1023 n
 by_cases hb:inR 1 1023 b
 · rw [decide_eq_true hb] at h1
   have hr:b.tmod 256=b % 256:=Int.tmod_eq_emod_of_nonneg (by have:=hb.1; omega)
   unfold inR at hb
   refine Ret.fn ttOk Tryz.func106 rfl Tryz.call106 rfl rfl ?_
   refine Goes ?_
   first | refine CallP.is (h1 _) rfl ?_ | refine CallQ.is (h1 _) rfl rfl ?_
   refine Goes ?_
   refine FinOk.pure rfl rfl rfl ⟨?_,rfl,rfl⟩
   refine bvI ?_
   unfold bitsB
   rw [hr]
   have:(0 < b % 256)↔(1≤b∧b≤1023∧b % 256≠0):=by omega
   exact decide_eq_decide.2 this
 · rw [decide_eq_false hb] at h1
   unfold inR at hb
   refine Ret.fn ttOk Tryz.func106 rfl Tryz.call106 rfl rfl ?_
   refine Goes ?_
   first | refine CallP.is (h1 _) rfl ?_ | refine CallQ.is (h1 _) rfl rfl ?_
   refine Goes ?_
   refine FinOk.pure rfl rfl rfl ⟨?_,rfl,rfl⟩
   refine bvI ?_
   unfold bitsB
   rw [decide_eq_false (by omega)]
theorem isTime_ret (z:Int) (n:Nat):Ret Tryz.prog 183 [iv z] [] n true (Is (bv (decide (inR 1 99999 z))) [] n):=by
 refine Ret.fn ttOk Tryz.func183 rfl Tryz.call183 rfl rfl ?_
 refine Goes ?_;repeat' first|apply W2.m|refine W1.m fun h=>?_
 all_goals (refine FinOk.pure rfl rfl rfl ⟨bvI ?_,rfl,rfl⟩; simp [inR, *])
theorem isNonce_ret (z:Int) (n:Nat):Ret Tryz.prog 102 [iv z] [] n true (Is (bv (decide (inR 0 65535 z))) [] n):=by
 refine Ret.fn ttOk Tryz.func102 rfl Tryz.call102 rfl rfl ?_
 refine Goes ?_;repeat' first|apply W2.m|refine W1.m fun h=>?_
 all_goals (refine FinOk.pure rfl rfl rfl ⟨bvI ?_,rfl,rfl⟩; simp [inR, *])
end Go.Proofs.YtllhgcfacgiabaaGreat
