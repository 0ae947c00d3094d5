import Derived.Test.YtllhgcfacgiabaaGreatP19
namespace Go.Proofs.YtllhgcfacgiabaaGreat
open Go Go.Am Go.RowKit
set_option linter.unusedVariables false
set_option linter.unusedSimpArgs false
theorem all2_flatten {R:AV→AV→Prop}:∀ {l m:List (List AV)},All2 (All2 R) l m→All2 R l.flatten m.flatten
 | [],[],_=>trivial
 | _::_,_::_,h=>by rw [List.flatten_cons,List.flatten_cons]; exact All2.append h.1 (all2_flatten h.2)
 | [],_::_,h=>h.elim
 | _::_,[],h=>h.elim
theorem rd_nilOr {w:World} {S:Nat→Prop} {v:Value} {a b:AV} (h:Rd w S v a) (hw:nilOr a b):Rd w S v b:=by
 rcases hw with rfl | ⟨rfl,rfl⟩
 · exact h
 · cases h; exact .nil _ _ (Nat.zero_le _)
theorem rd_rowsW {w:World} {S:Nat→Prop} {v:Value} {rows rows':List (List AV)} (h:Rd w S v (.lst rows)) (hw:All2 (All2 nilOr) rows rows'):Rd w S v (.lst rows'):=by
 cases h with
 | nil a cap hc =>
   cases rows' with
   | nil=>exact .nil a cap hc
   | cons=>exact hw.elim
 | lst _ b off cap s cells h0 h1 h2 h3 h4 h5 h6 h7 =>
   have hl:=hw.length
   have hf:=all2_flatten hw
   have:=Rd.lst (w:=w) (S:=S) rows' b off cap s cells (fun e=>by subst e; cases rows with | nil=>exact h0 rfl | cons=>exact hw.elim) (by omega) h2 h3 (fun r hr=>by
    obtain ⟨i,hi⟩:=List.mem_iff_getElem?.1 hr
    have hlt:i < rows.length:=by rw [hl]; exact (List.getElem?_eq_some_iff.1 hi).1
    have hr0:=List.getElem?_eq_getElem hlt
    rw [← (hw.at hr0 hi).length]; exact h4 _ (List.getElem_mem hlt)) (by rw [h5,hl]) h6
    (fun i v a hv ha=>by
      have hlt:i < rows.flatten.length:=by rw [hf.length]; exact (List.getElem?_eq_some_iff.1 ha).1
      have h8:=List.getElem?_eq_getElem hlt
      exact rd_nilOr (h7 i v _ hv h8) (hf.at h8 ha))
   rw [← hl] at this
   exact this
theorem Ret.rowsW {P:Program} {f:FuncId} {args:List AV} {n:Nat} {rows rows':List (List AV)} (hw:All2 (All2 nilOr) rows rows') (h:Ret P f args [] n true (Is (.lst rows) [] n)):Ret P f args [] n true (Is (.lst rows') [] n):=by
 refine ⟨h.enter,fun w ι A vs hC h1 h2 h3 h4=>Calls.mono (h.calls w ι A vs hC h1 h2 h3 h4) ?_⟩
 rintro e w' ⟨v,r,ho,m,ι',S',rfl,⟨rfl,rfl,rfl⟩,hnm,hC',hdom,hv,hu,huo,hio,hoi,hkeep⟩
 exact ⟨v,.lst rows',[],m,ι',S',rfl,⟨rfl,rfl,rfl⟩,hnm,hC',hdom,.one (.cell (.rd (rd_rowsW hv.lst_inv hw))),trivial,huo,hio,hoi,hkeep⟩
theorem implPackTx_yes (t:TxD) (n:Nat) (hf:Fits t) (h:faultC t=0):Ret Tryz.prog 177 [txV t] [] n true (Is (.agg [iv 0,.own n (packT t).length]) [(n,.list 5 1 (uvs (packT t)))] (n + 1)):=by
 have hl:=fun n=>implTxFault_ret t n hf.ins hf.outs
 rw [h] at hl
 refine Ret.fn ttOk Tryz.func177 rfl Tryz.call177 rfl rfl ?_
 refine Goes ?_
 first | refine CallP.is (hl _) rfl ?_ | refine CallQ.is (hl _) rfl rfl ?_
 refine Goes ?_
 refine CallP.heapIs (tx_ret 2 _ t (fault_ok h)) rfl ktA rfl ?_
 refine Goes ?_
 refine FinOk.mk' [3] rfl rfl rfl rfl rfl rfl rfl ⟨?_,?_,rfl⟩
 · rfl
 · rfl
theorem implPackTx_no (t:TxD) (n:Nat) (hf:Fits t) (h:faultC t≠0):Ret Tryz.prog 177 [txV t] [] n true (Is (.agg [iv (faultC t),nl]) [] n):=by
 refine Ret.fn ttOk Tryz.func177 rfl Tryz.call177 rfl rfl ?_
 refine Goes ?_
 first | refine CallP.is (implTxFault_ret t _ hf.ins hf.outs) rfl ?_ | refine CallQ.is (implTxFault_ret t _ hf.ins hf.outs) rfl rfl ?_
 refine Goes ?_;repeat' first|apply W2.m|refine W1.m fun h=>?_
 refine FinOk.pure rfl rfl rfl ⟨?_,rfl,rfl⟩
 rfl
def packR (t:TxD):AV:=if faultC t=0 then .agg [iv 0,ul (packT t)] else .agg [iv (faultC t),ul []]
theorem frPack {t:TxD} {n:Nat}:∀ r ho m,Is (AV.agg [iv 0,.own n (packT t).length]) [(n,AObj.list 5 1 (uvs (packT t)))] (n + 1) r ho m→∃ r',FrV ho r r'∧Is (AV.agg [iv 0,ul (packT t)]) [] n r' [] n:=by
 rintro _ _ _ ⟨rfl,rfl,rfl⟩
 exact ⟨_,.agg _ [iv 0,ul (packT t)] ⟨fr0 rfl,frOwn (look_cons_eq _ _ _) (by simp),trivial⟩,rfl,rfl,rfl⟩
theorem frNone {c:Int} {n:Nat}:∀ r ho m,Is (AV.agg [iv c,nl]) [] n r ho m→∃ r',FrV ho r r'∧Is (AV.agg [iv c,ul []]) [] n r' [] n:=by
 rintro _ _ _ ⟨rfl,rfl,rfl⟩
 exact ⟨_,.agg _ [iv c,ul []] ⟨fr0 rfl,.nil,trivial⟩,rfl,rfl,rfl⟩
theorem implPackTx_fr (t:TxD) (n:Nat) (hf:Fits t):Ret Tryz.prog 177 [txV t] [] n true (Is (packR t) [] n):=by
 unfold packR
 split
 · rename_i h; exact Ret.freeze frPack (implPackTx_yes t n hf h)
 · rename_i h; exact Ret.freeze frNone (implPackTx_no t n hf h)
theorem clone_ret (xs:List InD) (n:Nat) (hl:xs.length≤1048576) (hne:xs≠[]):Ret Tryz.prog 197 [insV xs] [] n true (Is (.own n xs.length) [(n,.list 201 3 (xs.map inRow))] (n + 1)):=by
 have hL:(xs.map inRow).length=xs.length:=by simp
 refine Ret.fn ttOk Tryz.func197 rfl Tryz.call197 rfl rfl ?_
 refine Goes ?_
 refine ⟨by simpa using hne,?_⟩
 refine Goes ?_
 refine ⟨⟨lenA,by rw [hL]; show _ * 40≤_; omega,by rw [hL]; unfold maxLen; omega,trivial,fun r hr=>by obtain ⟨x,_,rfl⟩:=List.mem_map.1 hr; rfl⟩,?_⟩
 refine Goes ?_
 refine FinOk.mk' [0] rfl rfl rfl rfl rfl rfl rfl ⟨?_,?_,rfl⟩
 · exact ownI (by simp)
 · exact objI (by simp)
theorem cloneNil_ret (cap:Nat) (n:Nat):Ret Tryz.prog 197 [.val (.slice none 0 cap)] [] n true (Is nl [] n):=by
 refine Ret.fn ttOk Tryz.func197 rfl Tryz.call197 rfl rfl ?_
 refine Goes ?_
 refine FinOk.pure rfl rfl rfl ⟨?_,rfl,rfl⟩
 rfl
theorem cloneEmp_ret (a:Addr) (cap:Nat) (n:Nat):Ret Tryz.prog 197 [.val (.slice (some a) 0 cap)] [] n true (Is (.own n 0) [(n,.list 201 3 [])] (n + 1)):=by
 refine Ret.fn ttOk Tryz.func197 rfl Tryz.call197 rfl rfl ?_
 refine Goes ?_
 refine FinOk.mk' [0] rfl rfl rfl rfl rfl rfl rfl ⟨?_,?_,rfl⟩
 · rfl
 · rfl
abbrev nilRow (x:InD):List AV:=[iv x.1,iv x.2.1,nl]
def nilP (xs:List InD) (k:Nat):List (List AV):=(xs.take k).map nilRow++(xs.drop k).map inRow
theorem nilP_len (xs:List InD) (k:Nat) (h:k≤xs.length):(nilP xs k).length=xs.length:=by simp only [nilP,List.length_append,List.length_map,List.length_take,List.length_drop]; omega
theorem nilP_at (xs:List InD) (k:Nat) (h:k < xs.length):(nilP xs k).getD k []=inRow xs[k]:=by
 unfold nilP
 rw [List.getD_eq_getElem?_getD,List.getElem?_append_right (by simp only [List.length_map,List.length_take]; omega)]
 simp only [List.length_map,List.length_take]
 have:k - min k xs.length=0:=by omega
 rw [this,List.drop_eq_getElem_cons h]; rfl
theorem nilP_set (xs:List InD) (k:Nat) (h:k < xs.length):(nilP xs k).set k (nilRow xs[k])=nilP xs (k + 1):=by
 unfold nilP
 rw [takeS xs k h,List.map_append,List.drop_eq_getElem_cons h,List.map_cons,List.set_append_right _ _ (by simp only [List.length_map,List.length_take]; omega)]
 simp only [List.length_map,List.length_take]
 have:k - min k xs.length=0:=by omega
 rw [this,List.set_cons_zero,List.append_assoc]; rfl
theorem without_ret (xs:List InD) (n:Nat) (hl:xs.length≤1048576) (hne:xs≠[]):Ret Tryz.prog 175 [insV xs] [] n true (Is (.own n xs.length) [(n,.list 201 3 (xs.map nilRow))] (n + 1)):=by
 refine Ret.fn ttOk Tryz.func175 rfl Tryz.call175 rfl rfl ?_
 refine Goes ?_
 first | refine CallP.is (clone_ret xs _ hl hne) rfl ?_ | refine CallQ.is (clone_ret xs _ hl hne) rfl rfl ?_
 refine Goes ?_
 refine LoopP.go (fun k:Nat=>k≤xs.length) (fun k=>⟨[(3,.own 0 xs.length),(8,iv xs.length),(9,iv k)],[(0,.list 201 3 (nilP xs k))],1⟩) (fun k=>xs.length - k) 0 (Nat.zero_le _) ?_ ?_
 · exact (Weak.of rfl rfl ktA ktA)
 intro k hk
 have hfl:=nilP_len xs k hk
 refine Goes ?_;repeat' first|apply W2.m|refine W1.m fun h=>?_
 · have hlt:k < xs.length:=by omega
   refine ⟨k + 1,by omega,by omega,Weak.of rfl rfl ktA ⟨⟨leafO ?_,rfl,rfl⟩,trivial⟩⟩
   have ha:=nilP_at xs k hlt
   have hs:=nilP_set xs k hlt
   show (nilP xs k).set k (((nilP xs k).getD k []).take 2++[nl]++((nilP xs k).getD k []).drop 3)=_
   rw [ha]
   exact hs
 · obtain rfl:k=xs.length:=by omega
   refine FinOk.mk' [0] rfl rfl rfl rfl rfl rfl rfl ⟨?_,?_,rfl⟩
   · rfl
   · refine objI ?_
     unfold nilP; rw [List.take_length,List.drop_length]; simp
theorem withoutNil_ret (cap n:Nat):Ret Tryz.prog 175 [.val (.slice none 0 cap)] [] n true (Is nl [] n):=by
 refine Ret.fn ttOk Tryz.func175 rfl Tryz.call175 rfl rfl ?_
 refine Goes ?_
 first | refine CallP.is (cloneNil_ret cap _) rfl ?_ | refine CallQ.is (cloneNil_ret cap _) rfl rfl ?_
 refine Goes ?_
 refine LoopP.go (fun _:Unit=>True) (fun _=>⟨[(3,nl),(8,iv 0),(9,iv 0)],[],0⟩) (fun _=>0) () trivial (Weak.of rfl rfl ktA trivial) ?_
 intro _ _
 refine Goes ?_
 refine FinOk.pure rfl rfl rfl ⟨?_,rfl,rfl⟩
 rfl
theorem withoutEmp_ret (a:Addr) (cap n:Nat):Ret Tryz.prog 175 [.val (.slice (some a) 0 cap)] [] n true (Is (.own n 0) [(n,.list 201 3 [])] (n + 1)):=by
 refine Ret.fn ttOk Tryz.func175 rfl Tryz.call175 rfl rfl ?_
 refine Goes ?_
 first | refine CallP.is (cloneEmp_ret a cap _) rfl ?_ | refine CallQ.is (cloneEmp_ret a cap _) rfl rfl ?_
 refine Goes ?_
 refine LoopP.go (fun _:Unit=>True) (fun _=>⟨[(3,.own 0 0),(8,iv 0),(9,iv 0)],[(0,.list 201 3 [])],1⟩) (fun _=>0) () trivial (Weak.of rfl rfl ktA ktA) ?_
 intro _ _
 refine Goes ?_
 refine FinOk.mk' [0] rfl rfl rfl rfl rfl rfl rfl ⟨?_,?_,rfl⟩
 · rfl
 · rfl
theorem nilRows:∀ (xs:List InD),All2 (All2 nilOr) (xs.map nilRow) ((xs.map bareI).map inRow)
 | []=>trivial
 | x::r=>⟨⟨.inl rfl,.inl rfl,.inr ⟨rfl,rfl⟩,trivial⟩,nilRows r⟩
theorem without_fr (xs:List InD) (n:Nat) (hl:xs.length≤1048576):Ret Tryz.prog 175 [insV xs] [] n true (Is (insV (xs.map bareI)) [] n):=by
 by_cases hne:xs=[]
 · subst hne
   refine Ret.emp fun a cap=>?_
   cases a with
   | none=>exact Ret.freeze (by rintro _ _ _ ⟨rfl,rfl,rfl⟩; exact ⟨_,.cell (fun _ e=>by cases e) (fun _ e=>by cases e) .nil,rfl,rfl,rfl⟩) (withoutNil_ret cap n)
   | some a=>exact Ret.freeze (by rintro _ _ _ ⟨rfl,rfl,rfl⟩; exact ⟨_,frCell (look_cons_eq _ _ _) rfl,rfl,rfl,rfl⟩) (withoutEmp_ret a cap n)
 · exact Ret.rowsW (nilRows xs) (Ret.freeze (by rintro _ _ _ ⟨rfl,rfl,rfl⟩; exact ⟨_,frCell (look_cons_eq _ _ _) (by simp),rfl,rfl,rfl⟩) (without_ret xs n hl hne))
def sumR (t:TxD):List AV:=if faultC t=0 then [iv 0,iv (sumF (packT (bareT t)))] else [iv (faultC t),iv 0]
theorem fits_bare {t:TxD} (h:Fits t):Fits (bareT t):=⟨by simpa [bareT] using h.ins,h.outs,fun x hx=>by
 obtain ⟨y,_,rfl⟩:=List.mem_map.1 hx
 exact Nat.zero_le _,h.locks⟩
theorem implTxSum_ret (t:TxD) (n:Nat) (hf:Fits t):Ret Tryz.prog 140 [txV t] [] n true (Is (.agg (sumR t)) [] n):=by
 by_cases h:faultC t=0
 · have hl:=fun n=>implTxFault_ret t n hf.ins hf.outs
   rw [h] at hl
   have hb:=fault_bare h
   have hp:=fun n=>implPackTx_fr (bareT t) n (fits_bare hf)
   unfold packR at hp
   simp only [if_pos hb] at hp
   have hk:=fault_ok hb
   refine Ret.fn ttOk Tryz.func140 rfl Tryz.call140 rfl rfl ?_
   refine Goes ?_
   first | refine CallP.is (hl _) rfl ?_ | refine CallQ.is (hl _) rfl rfl ?_
   refine Goes ?_
   first | refine CallP.is (without_fr t.2.1 _ hf.ins) rfl ?_ | refine CallQ.is (without_fr t.2.1 _ hf.ins) rfl rfl ?_
   refine Goes ?_
   first | refine CallP.is (hp _) rfl ?_ | refine CallQ.is (hp _) rfl rfl ?_
   refine Goes ?_
   first | refine CallP.is (implSumOf_ret (packT (bareT t)) _ (packT_u8 hk) (Nat.le_trans (packT_len hk) (by decide))) rfl ?_ | refine CallQ.is (implSumOf_ret (packT (bareT t)) _ (packT_u8 hk) (Nat.le_trans (packT_len hk) (by decide))) rfl rfl ?_
   refine Goes ?_
   refine FinOk.pure rfl rfl rfl ⟨?_,rfl,rfl⟩
   unfold sumR; rw [if_pos h]
 · refine Ret.fn ttOk Tryz.func140 rfl Tryz.call140 rfl rfl ?_
   refine Goes ?_
   first | refine CallP.is (implTxFault_ret t _ hf.ins hf.outs) rfl ?_ | refine CallQ.is (implTxFault_ret t _ hf.ins hf.outs) rfl rfl ?_
   refine Goes ?_;repeat' first|apply W2.m|refine W1.m fun h=>?_
   refine FinOk.pure rfl rfl rfl ⟨?_,rfl,rfl⟩
   unfold sumR; rw [if_neg h]
abbrev textOf (t:TxD):Int:=sumF (packT (bareT t))
theorem isBase_ret (t:TxD) (n:Nat):Ret Tryz.prog 174 [txV t] [] n true (Is (bv (decide (t.2.1.length=0))) [] n):=by
 refine Ret.fn ttOk Tryz.func174 rfl Tryz.call174 rfl rfl ?_
 refine Goes ?_
 refine FinOk.pure rfl rfl rfl ⟨?_,rfl,rfl⟩
 refine bvI ?_
 simp
end Go.Proofs.YtllhgcfacgiabaaGreat
