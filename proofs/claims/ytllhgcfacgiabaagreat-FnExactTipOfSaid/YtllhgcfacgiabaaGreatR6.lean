import Derived.Test.YtllhgcfacgiabaaGreatR3
import Derived.Test.YtllhgcfacgiabaaGreatR4
namespace Go.Proofs.YtllhgcfacgiabaaGreat
open Go Go.Am Go.RowKit
set_option linter.unusedVariables false
set_option linter.unusedSimpArgs false
abbrev hdC (b:BlkD):List AV:=[iv b.prev,iv (rootB b),iv b.time,iv b.bits,iv b.nonce]
def tgtB (b:Int):Int:=tgF (b / 256) (b % 256)
theorem bits_i64 {b:BlkD} (h:blkF b=0):isI64 b.bits∧bitsB b.bits=true:=by
 have h1:=(blkF_ok h).1.2.2.1
 refine ⟨?_,h1⟩
 unfold bitsB at h1
 simp only [decide_eq_true_eq] at h1
 unfold isI64; omega
theorem isProven_ret (b:BlkD) (n:Nat) (h:blkF b=0):Ret Tryz.prog 103 [.agg (hdC b)] [] n true (Is (bv (decide (hdrB b≤tgtB b.bits))) [] n):=by
 obtain ⟨hb,hb2⟩:=bits_i64 h
 have hs:=fun n=>header_sum b.prev (rootB b) b.time b.bits b.nonce n (hdr_sumIR h)
 have ht:=fun n=>implTargetOf_ret b.bits n hb
 have e:targR b.bits=[iv 0,iv (tgtB b.bits)]:=by unfold targR; rw [if_pos hb2]; rfl
 rw [e] at ht
 refine Ret.fn ttOk Tryz.func103 rfl Tryz.call103 rfl rfl ?_
 refine Goes ?_
 first | refine CallQ.is (hs _) rfl rfl ?_ | refine CallP.is (hs _) rfl ?_
 refine Goes ?_
 first | refine CallQ.is (ht _) rfl rfl ?_ | refine CallP.is (ht _) rfl ?_
 refine Goes ?_
 refine FinOk.pure rfl rfl rfl ⟨?_,rfl,rfl⟩
 rfl
abbrev treeO (bits:Int) (i j:Nat) (xs:List PlaceD):Hp:=[(i,.box [iv bits,.own j xs.length]),(j,.list 109 5 (xs.map placeRow))]
theorem hasN_ret (bits up:Int) (xs:List PlaceD) (i j n:Nat) (hij:i≠j) (hlen:xs.length≤9):Ret Tryz.prog 126 [.pt i 0 0,iv up] (treeO bits i j xs) n true (Is (bv (decide (-1≤up∧up + 1 < xs.length))) (treeO bits i j xs) n):=by
 refine Ret.of_run (tt:=tt) ttOk Tryz.func126 rfl Tryz.call126 [i,j] [.box [iv bits,.own 1 xs.length],.list 109 5 (xs.map placeRow)] [.pt 0 0 0,iv up] true n _ rfl (nodup2 hij) (by exact Nat.le_of_ble_eq_true rfl) rfl rfl ?_
 refine Goes ?_;repeat' first|apply W2.m|refine W1.m fun h=>?_
 · rw [show IntKind.i64.wrap ((xs.length:Int) + -1)=(xs.length:Int) + -1 from IntWalk.i64_in _ (by omega)]
   refine FinOk.mk' [] rfl rfl rfl rfl rfl rfl rfl ⟨?_,?_,rfl⟩
   · refine bvI ?_
     simp only [decide_eq_decide]
     omega
   · rfl
 · refine FinOk.mk' [] rfl rfl rfl rfl rfl rfl rfl ⟨?_,?_,rfl⟩
   · refine bvI ?_
     rw [decide_eq_false (by omega)]
   · rfl
theorem at_ret (bits:Int) (xs:List PlaceD) (k i j n:Nat) (hij:i≠j) (hk:k < xs.length) (hlen:xs.length≤9):Ret Tryz.prog 73 [.pt i 0 0,iv ((k:Int) + -1)] (treeO bits i j xs) n true (Is (.agg (placeRow xs[k])) (treeO bits i j xs) n):=by
 have hL:(xs.map placeRow).length=xs.length:=by simp
 refine Ret.of_run (tt:=tt) ttOk Tryz.func73 rfl Tryz.call73 [i,j] [.box [iv bits,.own 1 xs.length],.list 109 5 (xs.map placeRow)] [.pt 0 0 0,iv ((k:Int) + -1)] true n _ rfl (nodup2 hij) (by exact Nat.le_of_ble_eq_true rfl) rfl rfl ?_
 refine Goes ?_
 have hw:IntKind.i64.wrap ((k:Int) + -1 - -1)=(k:Int):=by rw [IntWalk.i64_in _ (by omega)]; omega
 rw [hw]
 refine ⟨⟨by omega,by omega⟩,?_⟩
 refine Goes ?_
 rw [rowK placeRow xs k hk]
 refine Goes ?_
 refine FinOk.mk' [] rfl rfl rfl rfl rfl rfl rfl ⟨?_,?_,rfl⟩
 · rfl
 · rfl
def codeP (bits:Int) (p:PlaceD) (b:BlkD):Int :=
 if b.bits≠bits∨b.time≤p.time then 9 else if ¬ hdrB b≤tgtB b.bits then 8 else if (b.txs.headD (0,[],[])).1≠p.h + 1 then 1 else applyB b p.coins (p.h + 1)
def nextP (p:PlaceD) (up:Int) (b:BlkD):PlaceD:=⟨up,hdrB b,b.time,p.h + 1,(runT (p.h + 1) p.coins b.txs).2.1⟩
abbrev placeV (p:PlaceD):AV:=.agg (placeRow p)
abbrev place0:AV:=.agg [iv 0,iv 0,iv 0,iv 0,nl]
set_option maxHeartbeats 2000000 in
theorem codeAfter_ret (bits:Int) (xs:List PlaceD) (k:Nat) (b:BlkD) (i j n:Nat) (hij:i≠j) (hk:k < xs.length) (hlen:xs.length≤9) (hf:FitsB b) (hb:blkF b=0) (hc:coinsC xs[k].coins=0) (hh:inR 0 8 xs[k].h) :
 Ret Tryz.prog 161 [.pt i 0 0,iv ((k:Int) + -1),.agg (sealC b)] (treeO bits i j xs) n true (Is (.tup (if codeP bits xs[k] b=0 then [placeV (nextP xs[k] ((k:Int) + -1) b),iv 0] else [place0,iv (codeP bits xs[k] b)])) (treeO bits i j xs) n):=by
 obtain ⟨_,hl1,hl4,hz⟩:=blkF_ok hb
 obtain ⟨x,r,hxr⟩:∃ x r,b.txs=x::r:=by
  cases h:b.txs with
  | nil=>rw [h] at hl1; simp at hl1
  | cons x r=>exact ⟨x,r,rfl⟩
 have hhd:b.txs.headD (0,[],[])=x:=by rw [hxr]; rfl
 have hbase:=fun n=>base_ret b x r n hxr
 have hhg:inR 1 9999 (xs[k].h + 1):=by unfold inR at hh ⊢; omega
 have happ:=fun n=>applyTo_ret xs[k].coins b (xs[k].h + 1) n hc hf hb hhg
 have hpr:=fun n=>isProven_ret b n hb
 have hsum:=fun n=>header_sum b.prev (rootB b) b.time b.bits b.nonce n (hdr_sumIR hb)
 have hat:=fun i j n hij=>at_ret bits xs k i j n hij hk hlen
 have hw:IntKind.i64.wrap (xs[k].h + 1)=xs[k].h + 1:=by unfold inR at hh; exact IntWalk.i64_in _ (by omega)
 have hC:codeP bits xs[k] b=if b.bits≠bits∨b.time≤xs[k].time then 9 else if ¬ hdrB b≤tgtB b.bits then 8 else if x.1≠xs[k].h + 1 then 1 else applyB b xs[k].coins (xs[k].h + 1):=by unfold codeP; rw [hhd]
 refine Ret.of_run (tt:=tt) ttOk Tryz.func161 rfl Tryz.call161 [i,j] [.box [iv bits,.own 1 xs.length],.list 109 5 (xs.map placeRow)] [.pt 0 0 0,iv ((k:Int) + -1),.agg (sealC b)] true n _ rfl (nodup2 hij) (by exact Nat.le_of_ble_eq_true rfl) rfl rfl ?_
 by_cases h9:b.bits≠bits∨b.time≤xs[k].time
 · rw [if_pos h9] at hC
   rw [hC,if_neg (by decide)]
   refine Goes ?_
   refine CallP.heapIs (hat 0 1 _ (by decide)) rfl ktA rfl ?_
   refine Goes ?_;repeat' first|apply W2.m|refine W1.m fun h=>?_
   all_goals first
    | (exfalso; omega)
    | (refine FinOk.mk' [] rfl rfl rfl rfl rfl rfl rfl ⟨?_,?_,rfl⟩
       · rfl
       · rfl)
 rw [if_neg h9] at hC
 have h9a:b.bits=bits:=Decidable.not_not.1 fun e=>h9 (.inl e)
 have h9b:¬ b.time≤xs[k].time:=fun e=>h9 (.inr e)
 by_cases h8:hdrB b≤tgtB b.bits
 case neg =>
  rw [if_pos h8] at hC
  rw [hC,if_neg (by decide)]
  refine Goes ?_
  refine CallP.heapIs (hat 0 1 _ (by decide)) rfl ktA rfl ?_
  refine Goes ?_;repeat' first|apply W2.m|refine W1.m fun h=>?_
  first | refine CallP.is (hpr _) rfl ?_ | refine CallQ.is (hpr _) rfl rfl ?_
  refine Goes ?_;repeat' first|apply W2.m|refine W1.m fun h=>?_
  all_goals first
   | (exfalso; omega)
   | (refine FinOk.mk' [] rfl rfl rfl rfl rfl rfl rfl ⟨?_,?_,rfl⟩
      · rfl
      · rfl)
 rw [if_neg (show ¬ ¬ hdrB b≤tgtB b.bits from fun e=>e h8)] at hC
 by_cases h1:x.1≠xs[k].h + 1
 · rw [if_pos h1] at hC
   rw [hC,if_neg (by decide)]
   refine Goes ?_
   refine CallP.heapIs (hat 0 1 _ (by decide)) rfl ktA rfl ?_
   refine Goes ?_;repeat' first|apply W2.m|refine W1.m fun h=>?_
   first | refine CallP.is (hpr _) rfl ?_ | refine CallQ.is (hpr _) rfl rfl ?_
   refine Goes ?_;repeat' first|apply W2.m|refine W1.m fun h=>?_
   first | refine CallP.is (hbase _) rfl ?_ | refine CallQ.is (hbase _) rfl rfl ?_
   refine Goes ?_;repeat' first|apply W2.m|refine W1.m fun h=>?_
   all_goals first
    | (exfalso; omega)
    | (refine FinOk.mk' [] rfl rfl rfl rfl rfl rfl rfl ⟨?_,?_,rfl⟩
       · rfl
       · rfl)
 rw [if_neg h1] at hC
 by_cases h0:applyB b xs[k].coins (xs[k].h + 1)=0
 · rw [h0] at hC
   rw [hC,if_pos rfl]
   simp only [if_pos h0] at happ
   refine Goes ?_
   refine CallP.heapIs (hat 0 1 _ (by decide)) rfl ktA rfl ?_
   refine Goes ?_;repeat' first|apply W2.m|refine W1.m fun h=>?_
   first | refine CallP.is (hpr _) rfl ?_ | refine CallQ.is (hpr _) rfl rfl ?_
   refine Goes ?_;repeat' first|apply W2.m|refine W1.m fun h=>?_
   first | refine CallP.is (hbase _) rfl ?_ | refine CallQ.is (hbase _) rfl rfl ?_
   refine Goes ?_;repeat' first|apply W2.m|refine W1.m fun h=>?_
   rw [hw]
   first | refine CallP.is (happ _) rfl ?_ | refine CallQ.is (happ _) rfl rfl ?_
   refine Goes ?_
   first | refine CallQ.is (hsum _) rfl rfl ?_ | refine CallP.is (hsum _) rfl ?_
   refine Goes ?_
   all_goals
    refine FinOk.mk' [] rfl rfl rfl rfl rfl rfl rfl ⟨?_,?_,rfl⟩
    · rfl
    · rfl
 · rw [hC,if_neg h0]
   simp only [if_neg h0] at happ
   refine Goes ?_
   refine CallP.heapIs (hat 0 1 _ (by decide)) rfl ktA rfl ?_
   refine Goes ?_;repeat' first|apply W2.m|refine W1.m fun h=>?_
   first | refine CallP.is (hpr _) rfl ?_ | refine CallQ.is (hpr _) rfl rfl ?_
   refine Goes ?_;repeat' first|apply W2.m|refine W1.m fun h=>?_
   first | refine CallP.is (hbase _) rfl ?_ | refine CallQ.is (hbase _) rfl rfl ?_
   refine Goes ?_;repeat' first|apply W2.m|refine W1.m fun h=>?_
   rw [hw]
   first | refine CallP.is (happ _) rfl ?_ | refine CallQ.is (happ _) rfl rfl ?_
   refine Goes ?_;repeat' first|apply W2.m|refine W1.m fun h=>?_
   all_goals first
    | (exfalso; omega)
    | (refine FinOk.mk' [] rfl rfl rfl rfl rfl rfl rfl ⟨?_,?_,rfl⟩
       · rfl
       · rfl)
def addP (bits:Int) (xs:List PlaceD) (p:PlaceD) (b:BlkD):Int:=if codeP bits p b≠0 then codeP bits p b else if (nodeF xs (hdrB b)).isSome=true then 6 else 0
def grownP (bits:Int) (xs:List PlaceD) (k:Nat) (p:PlaceD) (b:BlkD):List PlaceD:=if addP bits xs p b=0 then xs++[nextP p ((k:Int) + -1) b] else xs
set_option maxHeartbeats 2000000 in
theorem add_ret (bits:Int) (xs:List PlaceD) (k:Nat) (b:BlkD) (i j n:Nat) (hij:i≠j) (hk:k < xs.length) (hlen:xs.length≤9) (hf:FitsB b) (hb:blkF b=0) (hc:coinsC xs[k].coins=0) (hh:inR 0 8 xs[k].h) :
 Ret Tryz.prog 121 [.pt i 0 0,iv ((k:Int) + -1),.agg (sealC b)] (treeO bits i j xs) n false (Is (iv (addP bits xs xs[k] b)) (treeO bits i j (grownP bits xs k xs[k] b)) n):=by
 have hne:xs≠[]:=fun e=>by rw [e] at hk; exact absurd hk (Nat.not_lt_zero _)
 have hL:(xs.map placeRow).length=xs.length:=by simp
 have hca:=fun i j n hij=>codeAfter_ret bits xs k b i j n hij hk hlen hf hb hc hh
 have hnd:=fun i j n hij=>nodeOf_ret bits (hdrB b) xs i j n hij hlen hne
 refine Ret.of_run (tt:=tt) ttOk Tryz.func121 rfl Tryz.call121 [i,j] [.box [iv bits,.own 1 xs.length],.list 109 5 (xs.map placeRow)] [.pt 0 0 0,iv ((k:Int) + -1),.agg (sealC b)] false n _ rfl (nodup2 hij) (by exact Nat.le_of_ble_eq_true rfl) rfl rfl ?_
 by_cases h0:codeP bits xs[k] b=0
 case neg =>
  have hA:addP bits xs xs[k] b=codeP bits xs[k] b:=if_pos h0
  have hG:grownP bits xs k xs[k] b=xs:=by unfold grownP; rw [hA,if_neg h0]
  rw [hA,hG]
  simp only [if_neg h0] at hca
  refine Goes ?_
  refine CallP.heapIs (hca 0 1 _ (by decide)) rfl ktA rfl ?_
  refine Goes ?_;repeat' first|apply W2.m|refine W1.m fun h=>?_
  refine FinOk.mk' [] rfl rfl rfl rfl rfl rfl rfl ⟨?_,?_,rfl⟩
  · rfl
  · rfl
 simp only [if_pos h0] at hca
 unfold nodeR at hnd
 cases hn:nodeF xs (hdrB b) with
 | some m =>
   have hA:addP bits xs xs[k] b=6:=by unfold addP; rw [if_neg (fun e=>e h0),hn]; rfl
   have hG:grownP bits xs k xs[k] b=xs:=by unfold grownP; rw [hA,if_neg (by decide)]
   rw [hA,hG]
   rw [hn] at hnd
   refine Goes ?_
   refine CallP.heapIs (hca 0 1 _ (by decide)) rfl ktA rfl ?_
   refine Goes ?_
   refine CallP.heapIs (hnd 0 1 _ (by decide)) rfl ktA rfl ?_
   refine Goes ?_
   refine FinOk.mk' [] rfl rfl rfl rfl rfl rfl rfl ⟨?_,?_,rfl⟩
   · rfl
   · rfl
 | none =>
   have hA:addP bits xs xs[k] b=0:=by unfold addP; rw [if_neg (fun e=>e h0),hn]; rfl
   have hG:grownP bits xs k xs[k] b=xs++[nextP xs[k] ((k:Int) + -1) b]:=by unfold grownP; rw [hA,if_pos rfl]
   rw [hA,hG]
   rw [hn] at hnd
   refine Goes ?_
   refine CallP.heapIs (hca 0 1 _ (by decide)) rfl ktA rfl ?_
   refine Goes ?_
   refine CallP.heapIs (hnd 0 1 _ (by decide)) rfl ktA rfl ?_
   refine Goes ?_
   refine ⟨⟨lenA,lenA,lenA,lenA,rwsA⟩,?_⟩
   refine Goes ?_
   all_goals
    refine FinOk.mk' [] rfl rfl rfl rfl rfl rfl rfl ⟨?_,?_,rfl⟩
    · rfl
    · rw [List.take_of_length_le (show (xs.map placeRow).length≤xs.length by simp)]
      show [(i,AObj.box [iv bits,.own j (xs.length + 1)]),(j,AObj.list 109 5 (xs.map placeRow++[placeRow (nextP xs[k] ((k:Int) + -1) b)]))]=[(i,AObj.box [iv bits,.own j (xs++[nextP xs[k] ((k:Int) + -1) b]).length]),(j,AObj.list 109 5 ((xs++[nextP xs[k] ((k:Int) + -1) b]).map placeRow))]
      rw [List.length_append,List.map_append]
      rfl
end Go.Proofs.YtllhgcfacgiabaaGreat
namespace Go.Proofs.YtllhgcfacgiabaaGreat
open Go Go.Am Go.RowKit
set_option linter.unusedVariables false
set_option linter.unusedSimpArgs false
structure NodeD where
 up:Int
 blk:BlkD
structure TreeD where
 bits:Int
 nodes:List NodeD
abbrev nodeC (x:NodeD):List AV:=iv x.up::blkC x.blk
abbrev nodesV (l:List NodeD):AV:=.lst (l.map nodeC)
abbrev treeC (t:TreeD):List AV:=[iv t.bits,nodesV t.nodes]
def p0:PlaceD:=⟨0,0,0,0,[]⟩
def upAt (xs:List PlaceD) (x:NodeD):Option Nat:=if -1≤x.up∧x.up + 1 < xs.length∧(xs.getD (x.up + 1).toNat p0).sum=x.blk.prev then some (x.up + 1).toNat else none
def stepC (bits:Int) (xs:List PlaceD) (x:NodeD):Int :=
 if blkF x.blk≠0 then blkF x.blk else match upAt xs x with | some k=>addP bits xs (xs.getD k p0) x.blk | none=>4
def stepX (bits:Int) (xs:List PlaceD) (x:NodeD):List PlaceD :=
 if stepC bits xs x=0 then xs++[nextP (xs.getD (x.up + 1).toNat p0) x.up x.blk] else xs
def PlacesOk (xs:List PlaceD):Prop:=∀ (k:Nat) (p:PlaceD),xs[k]?=some p→coinsC p.coins=0∧0≤p.h∧p.h≤k
theorem upAt_some {xs:List PlaceD} {x:NodeD} {k:Nat} (h:upAt xs x=some k):k < xs.length∧x.up=(k:Int) + -1∧(xs.getD k p0).sum=x.blk.prev:=by
 unfold upAt at h
 split at h
 · rename_i g
   cases h
   exact ⟨by omega,by omega,g.2.2⟩
 · cases h
theorem codeP_ok {bits:Int} {p:PlaceD} {b:BlkD} (h:codeP bits p b=0):applyB b p.coins (p.h + 1)=0∧b.bits=bits∧p.time < b.time∧hdrB b≤tgtB b.bits:=by
 unfold codeP at h
 by_cases h9:b.bits≠bits∨b.time≤p.time
 · rw [if_pos h9] at h; cases h
 rw [if_neg h9] at h
 by_cases h8:¬ hdrB b≤tgtB b.bits
 · rw [if_pos h8] at h; cases h
 rw [if_neg h8] at h
 by_cases h1:(b.txs.headD (0,[],[])).1≠p.h + 1
 · rw [if_pos h1] at h; cases h
 rw [if_neg h1] at h
 exact ⟨h,Decidable.not_not.1 fun e=>h9 (.inl e),Int.not_le.1 fun e=>h9 (.inr e),Decidable.not_not.1 h8⟩
theorem applyB_ok {b:BlkD} {l:List CoinD} {hg:Int} (h0:coinsC l=0) (h:applyB b l hg=0):(runT hg l b.txs).1=0∧coinsC (runT hg l b.txs).2.1=0:=by
 unfold applyB at h
 by_cases h1:(runT hg l b.txs).1≠0
 · rw [if_pos h1] at h; exact absurd h h1
 · have h2:=Decidable.not_not.1 h1
   exact ⟨h2,(runT_ok hg b.txs l h0 h2).1⟩
theorem stepX_ok {bits:Int} {xs:List PlaceD} {x:NodeD} (h:PlacesOk xs):PlacesOk (stepX bits xs x):=by
 unfold stepX
 split
 · rename_i hs
   intro k p hp
   by_cases hk:k < xs.length
   · rw [List.getElem?_append_left hk] at hp; exact h k p hp
   · rw [List.getElem?_append_right (by omega)] at hp
     have hk0:k - xs.length=0:=by
      cases e:k - xs.length with
      | zero=>rfl
      | succ m=>rw [e] at hp; simp at hp
     rw [hk0] at hp
     cases (show some (nextP (xs.getD (x.up + 1).toNat p0) x.up x.blk)=some p from hp)
     unfold stepC at hs
     by_cases hb:blkF x.blk≠0
     · rw [if_pos hb] at hs; exact absurd hs hb
     rw [if_neg hb] at hs
     cases hu:upAt xs x with
     | none=>rw [hu] at hs; cases hs
     | some m =>
       rw [hu] at hs
       dsimp only at hs
       obtain ⟨u1,u2,u3⟩:=upAt_some hu
       have hm:=List.getElem?_eq_getElem u1
       have hg:xs.getD m p0=xs[m]:=by simp [List.getD_eq_getElem?_getD,hm]
       have hm2:(x.up + 1).toNat=m:=by omega
       rw [hm2,hg]
       rw [hg] at hs
       obtain ⟨c1,c2,c3⟩:=h m _ hm
       unfold addP at hs
       by_cases hc:codeP bits xs[m] x.blk≠0
       · rw [if_pos hc] at hs; exact absurd hs hc
       have hc0:=Decidable.not_not.1 hc
       refine ⟨(applyB_ok c1 (codeP_ok hc0).1).2,?_,?_⟩
       · show 0≤xs[m].h + 1; omega
       · show xs[m].h + 1≤k; omega
 · exact h
structure Good (bits:Int) (xs:List PlaceD) (ns:List NodeD):Prop where
 len:xs.length=ns.length + 1
 zero:xs[0]?=some p0
 fit:∀ x∈ns,FitsB x.blk∧blkF x.blk=0
 up:∀ (k:Nat) (x:NodeD),ns[k]?=some x→-1≤x.up∧x.up + 1≤k∧∃ p,xs[(x.up + 1).toNat]?=some p∧xs[k + 1]?=some (nextP p x.up x.blk)∧codeP bits p x.blk=0
 ok:PlacesOk xs
 dist:∀ (i j:Nat) (p q:PlaceD),xs[i]?=some p→xs[j]?=some q→p.sum=q.sum→i=j
theorem nodeF_none {xs:List PlaceD} {s:Int}:nodeF xs s=none↔∀ p∈xs,p.sum≠s:=by
 unfold nodeF
 rw [List.findIdx?_eq_none_iff]
 simp
theorem nodeF_some {xs:List PlaceD} {s:Int} {k:Nat}:nodeF xs s=some k↔∃ p,xs[k]?=some p∧p.sum=s∧∀ (q:Nat) (r:PlaceD),q < k→xs[q]?=some r→r.sum≠s:=by
 unfold nodeF
 rw [List.findIdx?_eq_some_iff_getElem]
 constructor
 · rintro ⟨h,h1,h2⟩
   refine ⟨xs[k],List.getElem?_eq_getElem h,by simpa using h1,fun q r hq hr=>?_⟩
   obtain ⟨hq2,e⟩:=List.getElem?_eq_some_iff.1 hr
   have:=h2 q hq
   subst e
   simpa using this
 · rintro ⟨p,h1,h2,h3⟩
   obtain ⟨h,e⟩:=List.getElem?_eq_some_iff.1 h1
   refine ⟨h,by rw [e]; simpa using h2,fun q hq=>?_⟩
   have:=h3 q _ hq (List.getElem?_eq_getElem (by omega))
   simpa using this
theorem addP_zero {bits:Int} {xs:List PlaceD} {p:PlaceD} {b:BlkD} (h:addP bits xs p b=0):codeP bits p b=0∧nodeF xs (hdrB b)=none:=by
 unfold addP at h
 by_cases h1:codeP bits p b≠0
 · rw [if_pos h1] at h; exact absurd h h1
 rw [if_neg h1] at h
 refine ⟨Decidable.not_not.1 h1,?_⟩
 cases hn:nodeF xs (hdrB b) with
 | none=>rfl
 | some k=>rw [hn] at h; cases h
theorem stepC_zero {bits:Int} {xs:List PlaceD} {x:NodeD} (h:stepC bits xs x=0):blkF x.blk=0∧∃ (k:Nat) (p:PlaceD),xs[k]?=some p∧x.up=(k:Int) + -1∧p.sum=x.blk.prev∧xs.getD (x.up + 1).toNat p0=p∧codeP bits p x.blk=0∧nodeF xs (hdrB x.blk)=none:=by
 unfold stepC at h
 by_cases hb:blkF x.blk≠0
 · rw [if_pos hb] at h; exact absurd h hb
 rw [if_neg hb] at h
 refine ⟨Decidable.not_not.1 hb,?_⟩
 cases hu:upAt xs x with
 | none=>rw [hu] at h; cases h
 | some m =>
   rw [hu] at h
   dsimp only at h
   obtain ⟨u1,u2,u3⟩:=upAt_some hu
   have hm:=List.getElem?_eq_getElem u1
   have hg:xs.getD m p0=xs[m]:=by simp [List.getD_eq_getElem?_getD,hm]
   have hm2:(x.up + 1).toNat=m:=by omega
   rw [hg] at h u3
   exact ⟨m,xs[m],hm,u2,u3,by rw [hm2,hg],addP_zero h⟩
theorem Good.nil (bits:Int):Good bits [p0] [] where
 len:=rfl
 zero:=rfl
 fit:=fun x h=>by cases h
 up:=fun k x h=>by cases h
 ok:=fun k p h=>by
  cases k with
  | zero=>cases h; exact ⟨rfl,Int.le_refl _,Int.le_refl _⟩
  | succ m=>simp at h
 dist:=fun i j p q h1 h2 _=>by
  obtain ⟨h1,_⟩:=List.getElem?_eq_some_iff.1 h1
  obtain ⟨h2,_⟩:=List.getElem?_eq_some_iff.1 h2
  simp at h1 h2
  omega
theorem Good.step {bits:Int} {xs:List PlaceD} {ns:List NodeD} {x:NodeD} (h:Good bits xs ns) (hf:FitsB x.blk) (hs:stepC bits xs x=0):Good bits (stepX bits xs x) (ns++[x]):=by
 obtain ⟨hb,k,p,hk,hu,hp,hg,hc,hn⟩:=stepC_zero hs
 have hX:stepX bits xs x=xs++[nextP p x.up x.blk]:=by unfold stepX; rw [if_pos hs,hg]
 have hok:=stepX_ok (bits:=bits) (x:=x) h.ok
 have hkl:=(List.getElem?_eq_some_iff.1 hk).1
 have hl:=h.len
 rw [hX] at hok ⊢
 have hnew:(xs++[nextP p x.up x.blk])[xs.length]?=some (nextP p x.up x.blk):=by simp
 have hold:∀ q,q < xs.length→(xs++[nextP p x.up x.blk])[q]?=xs[q]?:=fun q hq=>List.getElem?_append_left hq
 refine ⟨by simp [hl],by rw [hold 0 (by omega)]; exact h.zero,?_,?_,hok,?_⟩
 · intro y hy
   rcases List.mem_append.1 hy with hy | hy
   · exact h.fit y hy
   · rw [List.mem_singleton.1 hy]; exact ⟨hf,hb⟩
 · intro m y hy
   by_cases hm:m < ns.length
   · rw [List.getElem?_append_left hm] at hy
     obtain ⟨a1,a2,q,a3,a4,a5⟩:=h.up m y hy
     exact ⟨a1,a2,q,by rw [hold _ (by omega)]; exact a3,by rw [hold _ (by omega)]; exact a4,a5⟩
   · obtain ⟨hm2,_⟩:=List.getElem?_eq_some_iff.1 hy
     simp at hm2
     obtain rfl:m=ns.length:=by omega
     simp at hy
     subst hy
     have hk2:(x.up + 1).toNat=k:=by omega
     exact ⟨by omega,by omega,p,by rw [hk2,hold _ hkl]; exact hk,by rw [← hl]; exact hnew,hc⟩
 · have hne:∀ (q:Nat) (r:PlaceD),xs[q]?=some r→r.sum≠hdrB x.blk:=fun q r hr=>nodeF_none.1 hn r (List.mem_of_getElem? hr)
   intro i j a b ha hb' hab
   obtain ⟨hi,_⟩:=List.getElem?_eq_some_iff.1 ha
   obtain ⟨hj,_⟩:=List.getElem?_eq_some_iff.1 hb'
   simp at hi hj
   by_cases hi2:i < xs.length
   · rw [hold i hi2] at ha
     by_cases hj2:j < xs.length
     · rw [hold j hj2] at hb'
       exact h.dist i j a b ha hb' hab
     · obtain rfl:j=xs.length:=by omega
       rw [hnew] at hb'
       cases hb'
       exact absurd hab (hne i a ha)
   · obtain rfl:i=xs.length:=by omega
     rw [hnew] at ha
     cases ha
     by_cases hj2:j < xs.length
     · rw [hold j hj2] at hb'
       exact absurd hab.symm (hne j b hb')
     · omega
theorem Good.nodeF_at {bits:Int} {xs:List PlaceD} {ns:List NodeD} (h:Good bits xs ns) {k:Nat} {p:PlaceD} (hk:xs[k]?=some p):nodeF xs p.sum=some k :=
 nodeF_some.2 ⟨p,hk,rfl,fun q r hq hr e=>by have:=h.dist q k r p hr hk e; omega⟩
def goC (bits:Int):List PlaceD→List NodeD→Int
 | _,[]=>0
 | xs,x::r=>if stepC bits xs x≠0 then stepC bits xs x else goC bits (stepX bits xs x) r
def treeF (t:TreeD):Int:=if bitsB t.bits=true then (if 8 < t.nodes.length then 2 else goC t.bits [p0] t.nodes) else 3
theorem goC_at (bits:Int) (xs:List PlaceD) (ns:List NodeD) (k:Nat) (h:k < ns.length):goC bits xs (ns.drop k)=if stepC bits xs ns[k]≠0 then stepC bits xs ns[k] else goC bits (stepX bits xs ns[k]) (ns.drop (k + 1)):=by
 rw [List.drop_eq_getElem_cons h,goC]
end Go.Proofs.YtllhgcfacgiabaaGreat
