import Derived.Test.YtllhgcfacgiabaaGreatB1
import Derived.Test.YtllhgcfacgiabaaGreatM1
import Derived.Test.YtllhgcfacgiabaaGreatP16
namespace Go.Proofs.YtllhgcfacgiabaaGreat
open Go Go.Am Go.RowKit
set_option linter.unusedVariables false
set_option linter.unusedSimpArgs false
abbrev blkO (n:Nat) (b:BlkD):List AV:=[iv b.prev,iv b.time,iv b.bits,iv b.nonce,.own n b.txs.length]
abbrev txsO (n:Nat) (xs:List TxD):Nat × AObj:=(n,.nest (c:=true) 133 3 (xs.map txT))
theorem toBlock_own (b:BlkD) (n:Nat) (h:FitsB b):Ret Tryz.prog 18 [blkV b] [] n true (Is (.agg (blkO n b)) [txsO n b.txs] (n + 1)):=by
 refine Ret.fn ttOk Tryz.func18 rfl Tryz.call18 rfl rfl ?_
 refine Goes ?_;repeat' first|apply W2.m|refine W1.m fun h=>?_
 first | refine CallP.is (toTxS_own b.txs _ h.len h.txs) rfl ?_ | refine CallQ.is (toTxS_own b.txs _ h.len h.txs) rfl rfl ?_
 refine Goes ?_;repeat' first|apply W2.m|refine W1.m fun h=>?_
 refine FinOk.mk' [3] rfl rfl rfl rfl rfl rfl rfl ⟨?_,?_,rfl⟩
 · rfl
 · rfl
theorem markBlock_own (p t b o:Int) (xs:List TxD) (i m n:Nat) (hl:xs.length≤1048576) (hp:psum sizeX xs≤1048576) (hm:m≤1000000000000) :
 Ret Tryz.prog 23 [.agg [iv p,iv t,iv b,iv o,.own i xs.length],iv m] [txsO i xs] n true (Is (iv (nTs m xs)) [txsO i (mkTs m xs)] n):=by
 refine Ret.of_run (tt:=tt) ttOk Tryz.func23 rfl Tryz.call23 [i] [.nest (c:=true) 133 3 (xs.map txT)] [.agg [iv p,iv t,iv b,iv o,.own 0 xs.length],iv m] true n _ rfl (nodup1 i) (by exact Nat.le_of_ble_eq_true rfl) rfl rfl ?_
 refine Goes ?_;repeat' first|apply W2.m|refine W1.m fun h=>?_
 refine CallP.heapIs (markTxS_own xs 0 m _ hl hp hm) rfl ktA rfl ?_
 refine Goes ?_;repeat' first|apply W2.m|refine W1.m fun h=>?_
 refine FinOk.mk' [] rfl rfl rfl rfl rfl rfl rfl ⟨?_,?_,rfl⟩
 · rfl
 · rfl
theorem markBlockResult_own (c p t b o:Int) (xs:List TxD) (i m n:Nat) (hl:xs.length≤1048576) (hp:psum sizeX xs≤1048576) (hm:m≤1000000000000) :
 Ret Tryz.prog 53 [.agg [iv c,iv p,iv t,iv b,iv o,.own i xs.length],iv m] [txsO i xs] n true (Is (iv (nTs m xs)) [txsO i (mkTs m xs)] n):=by
 refine Ret.of_run (tt:=tt) ttOk Tryz.func53 rfl Tryz.call53 [i] [.nest (c:=true) 133 3 (xs.map txT)] [.agg [iv c,iv p,iv t,iv b,iv o,.own 0 xs.length],iv m] true n _ rfl (nodup1 i) (by exact Nat.le_of_ble_eq_true rfl) rfl rfl ?_
 refine Goes ?_;repeat' first|apply W2.m|refine W1.m fun h=>?_
 refine CallP.heapIs (markBlock_own p t b o xs 0 m _ hl hp hm) rfl ktA rfl ?_
 refine Goes ?_;repeat' first|apply W2.m|refine W1.m fun h=>?_
 refine FinOk.mk' [] rfl rfl rfl rfl rfl rfl rfl ⟨?_,?_,rfl⟩
 · rfl
 · rfl
theorem heldBlock_rd (p t b o:Int) (xs:List TxD) (m n:Nat) (hl:xs.length≤1048576) (hp:psum sizeX xs≤1048576) (hm:m≤1000000000000) :
 Ret Tryz.prog 104 [.agg [iv p,iv t,iv b,iv o,txsV (mkTs m xs)],iv m] [] n true (Is (iv (nTs m xs)) [] n):=by
 refine Ret.fn ttOk Tryz.func104 rfl Tryz.call104 rfl rfl ?_
 refine Goes ?_;repeat' first|apply W2.m|refine W1.m fun h=>?_
 first | refine CallP.is (heldTxS_rd xs m _ hl hp hm) rfl ?_ | refine CallQ.is (heldTxS_rd xs m _ hl hp hm) rfl rfl ?_
 refine Goes ?_;repeat' first|apply W2.m|refine W1.m fun h=>?_
 all_goals first
  | (exfalso; omega)
  | (refine FinOk.pure rfl rfl rfl ⟨?_,rfl,rfl⟩
     rfl)
theorem heldBlockResult_rd (c p t b o:Int) (xs:List TxD) (m n:Nat) (hl:xs.length≤1048576) (hp:psum sizeX xs≤1048576) (hm:m≤1000000000000) :
 Ret Tryz.prog 54 [.agg [iv c,iv p,iv t,iv b,iv o,txsV (mkTs m xs)],iv m] [] n true (Is (iv (nTs m xs)) [] n):=by
 refine Ret.fn ttOk Tryz.func54 rfl Tryz.call54 rfl rfl ?_
 refine Goes ?_;repeat' first|apply W2.m|refine W1.m fun h=>?_
 first | refine CallP.is (heldBlock_rd p t b o xs m _ hl hp hm) rfl ?_ | refine CallQ.is (heldBlock_rd p t b o xs m _ hl hp hm) rfl rfl ?_
 refine Goes ?_;repeat' first|apply W2.m|refine W1.m fun h=>?_
 all_goals first
  | (exfalso; omega)
  | (refine FinOk.pure rfl rfl rfl ⟨?_,rfl,rfl⟩
     rfl)
theorem markTxS_nil (m:Int) (n:Nat):Ret Tryz.prog 47 [nl,iv m] [] n true (Is (iv m) [] n):=by
 refine Ret.fn ttOk Tryz.func47 rfl Tryz.call47 rfl rfl ?_
 refine Goes ?_;repeat' first|apply W2.m|refine W1.m fun h=>?_
 refine LoopP.go (fun _:Unit=>True) (fun _=>⟨[(0,nl),(1,iv m),(5,iv 0)],[],0⟩) (fun _=>0) () trivial (Weak.of rfl rfl ktA trivial) ?_
 intro _ _
 refine Goes ?_;repeat' first|apply W2.m|refine W1.m fun h=>?_
 refine FinOk.pure rfl rfl rfl ⟨?_,rfl,rfl⟩
 rfl
theorem markBlock_nil (p t b o m:Int) (n:Nat):Ret Tryz.prog 23 [.agg [iv p,iv t,iv b,iv o,nl],iv m] [] n true (Is (iv m) [] n):=by
 refine Ret.fn ttOk Tryz.func23 rfl Tryz.call23 rfl rfl ?_
 refine Goes ?_;repeat' first|apply W2.m|refine W1.m fun h=>?_
 first | refine CallP.is (markTxS_nil m _) rfl ?_ | refine CallQ.is (markTxS_nil m _) rfl rfl ?_
 refine Goes ?_;repeat' first|apply W2.m|refine W1.m fun h=>?_
 refine FinOk.pure rfl rfl rfl ⟨?_,rfl,rfl⟩
 rfl
theorem markBlockResult_nil (c p t b o m:Int) (n:Nat):Ret Tryz.prog 53 [.agg [iv c,iv p,iv t,iv b,iv o,nl],iv m] [] n true (Is (iv m) [] n):=by
 refine Ret.fn ttOk Tryz.func53 rfl Tryz.call53 rfl rfl ?_
 refine Goes ?_;repeat' first|apply W2.m|refine W1.m fun h=>?_
 first | refine CallP.is (markBlock_nil p t b o m _) rfl ?_ | refine CallQ.is (markBlock_nil p t b o m _) rfl rfl ?_
 refine Goes ?_;repeat' first|apply W2.m|refine W1.m fun h=>?_
 refine FinOk.pure rfl rfl rfl ⟨?_,rfl,rfl⟩
 rfl
theorem eqBlockResult_yes (c:Int) (b:BlkD) (n:Nat) (hf:FitsB b):Ret Tryz.prog 52 [.agg (iv c::blkC b),.agg (iv c::blkC b)] [] n true (Is (bv true) [] n):=by
 refine Ret.fn ttOk Tryz.func52 rfl Tryz.call52 rfl rfl ?_
 refine Goes ?_;repeat' first|apply W2.m|refine W1.m fun h=>?_
 first | refine CallP.is (eqBlock_yes b _ hf) rfl ?_ | refine CallQ.is (eqBlock_yes b _ hf) rfl rfl ?_
 refine Goes ?_;repeat' first|apply W2.m|refine W1.m fun h=>?_
 refine FinOk.pure rfl rfl rfl ⟨?_,rfl,rfl⟩
 rfl
end Go.Proofs.YtllhgcfacgiabaaGreat
namespace Go.Am
open Go.RowKit
set_option linter.unusedVariables false
structure CoinD where
 tx:Int
 out:Int
 val:Int
 lock:List Int
 h:Int
 base:Bool
deriving DecidableEq
def lessP (a b:CoinD):Prop:=a.tx < b.tx∨a.tx=b.tx∧a.out < b.out
instance (a b:CoinD):Decidable (lessP a b):=inferInstanceAs (Decidable (_∨_∧_))
end Go.Am
namespace Go.Proofs.YtllhgcfacgiabaaGreat
open Go Go.Am Go.RowKit
set_option linter.unusedVariables false
set_option linter.unusedSimpArgs false
theorem cloneI_ret (zs:List Int) (n:Nat) (hl:zs.length≤1048576) (hne:zs≠[]):Ret Tryz.prog 199 [il zs] [] n true (Is (.own n zs.length) [(n,.list 2 1 (ivs zs))] (n + 1)):=by
 have hL:(ivs zs).length=zs.length:=by simp
 refine Ret.fn ttOk Tryz.func199 rfl Tryz.call199 rfl rfl ?_
 refine Goes ?_
 refine ⟨by simpa using hne,?_⟩
 refine Goes ?_
 refine ⟨⟨lenA,by rw [hL]; show _ * 8≤_; omega,by rw [hL]; unfold maxLen; omega,trivial,fun r hr=>by obtain ⟨x,_,rfl⟩:=List.mem_map.1 hr; rfl⟩,?_⟩
 refine Goes ?_
 refine FinOk.mk' [0] rfl rfl rfl rfl rfl rfl rfl ⟨?_,?_,rfl⟩
 · exact ownI (by simp)
 · exact objI (by simp)
theorem cloneI_nil (cap:Nat) (n:Nat):Ret Tryz.prog 199 [.val (.slice none 0 cap)] [] n true (Is nl [] n):=by
 refine Ret.fn ttOk Tryz.func199 rfl Tryz.call199 rfl rfl ?_
 refine Goes ?_
 refine FinOk.pure rfl rfl rfl ⟨?_,rfl,rfl⟩
 rfl
theorem cloneI_emp (a:Addr) (cap:Nat) (n:Nat):Ret Tryz.prog 199 [.val (.slice (some a) 0 cap)] [] n true (Is (.own n 0) [(n,.list 2 1 [])] (n + 1)):=by
 refine Ret.fn ttOk Tryz.func199 rfl Tryz.call199 rfl rfl ?_
 refine Goes ?_
 refine FinOk.mk' [0] rfl rfl rfl rfl rfl rfl rfl ⟨?_,?_,rfl⟩
 · rfl
 · rfl
def CloneQ (n:Nat) (zs:List Int):AV→Hp→Nat→Prop:=fun r ho m=>(r=.own n zs.length∧ho=[(n,.list 2 1 (ivs zs))]∧m=n + 1)∨(zs=[]∧r=nl∧ho=[]∧m=n)
theorem cloneI (zs:List Int) (n:Nat) (hl:zs.length≤1048576):Ret Tryz.prog 199 [il zs] [] n true (CloneQ n zs):=by
 by_cases h:zs=[]
 · subst h
   refine Ret.emp fun a cap=>?_
   cases a with
   | none=>exact Ret.mono (fun r ho m ⟨h1,h2,h3⟩=>.inr ⟨rfl,h1,h2,h3⟩) (cloneI_nil cap n)
   | some a=>exact Ret.mono (fun r ho m ⟨h1,h2,h3⟩=>.inl ⟨h1,h2,h3⟩) (cloneI_emp a cap n)
 · exact Ret.mono (fun r ho m ⟨h1,h2,h3⟩=>.inl ⟨h1,h2,h3⟩) (cloneI_ret zs n hl h)
end Go.Proofs.YtllhgcfacgiabaaGreat
