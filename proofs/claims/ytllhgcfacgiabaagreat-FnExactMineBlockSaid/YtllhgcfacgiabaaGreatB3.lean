import Derived.Test.YtllhgcfacgiabaaGreatP50
namespace Go.Am
open Go.RowKit
theorem Ret.ownNil {P:Program} {f:FuncId} {args:List AV} {n e s:Nat} (hs:0 < s) {Q Q':AV→Hp→Nat→Prop} (hQ:∀ r ho m,Q r ho m→Q' r ho m∨(r=nl∧ho=[]∧m=n∧Q' (.own n 0) [(n,.list e s [])] (n + 1)))
 (h:Ret P f args [] n true Q):Ret P f args [] n true Q':=by
 refine ⟨h.enter,fun w ι A vs hC h1 h2 h3 h4=>Calls.mono (h.calls w ι A vs hC h1 h2 h3 h4) ?_⟩
 rintro e' w' ⟨v,r,ho,m,ι',S',rfl,hq,hnm,hC',hdom,hv,hu,huo,hio,hoi,hkeep⟩
 rcases hQ _ _ _ hq with hq' | ⟨rfl,rfl,rfl,hq'⟩
 · exact ⟨v,r,ho,m,ι',S',rfl,hq',hnm,hC',hdom,hv,hu,huo,hio,hoi,hkeep⟩
 have h0:∀ k:Key,ι' k=none:=fun k=>hdom k rfl
 have hone:∀ (k:Key) p,put ι' (m:Key) (some .nil) k=some p→k=(m:Key)∧p=.nil:=fun k p hp=>by
  by_cases ek:k=(m:Key)
  · subst ek; rw [put_same] at hp; cases hp; exact ⟨rfl,rfl⟩
  · rw [put_ne _ _ ek,h0 k] at hp; cases hp
 refine ⟨v,.own m 0,[(m,.list e s [])],m + 1,put ι' (m:Key) (some .nil),S',rfl,hq',Nat.le_succ _,?_,fun k hk=>?_,?_,?_,fun id o ho=>?_,fun id hid=>absurd rfl hid,fun id hid=>?_,fun id o p ho=>by cases ho⟩
 · refine ⟨hC'.frame,hC'.sub,hC'.lt,?_,?_,?_,?_,?_,fun id p hp=>(by cases hp),hC'.fxs⟩
   · rintro b hb ⟨i,c,z,hm⟩; cases (hone _ _ hm).2
   · intro i g c z hm; cases (hone _ _ hm).2
   · intro i j g c d z r hm; cases (hone _ _ hm).2
   · intro i hi
     have hi':m + 1≤i.id:=hi
     rw [put_id _ _ (by first | omega | (dsimp only; omega) | (dsimp only at *; omega))]; exact h0 i
   · intro id o ho
     rw [look_cons] at ho
     split at ho
     · rename_i ei
       subst ei
       cases ho
       exact ⟨Nat.lt_succ_self _,trivial,.nil e s (put_same _ _ _) hs⟩
     · cases ho
 · rw [look_cons] at hk
   split at hk
   · cases hk
   · rename_i hne
     rw [put_id _ _ (by first | omega | (dsimp only; omega) | (dsimp only at *; omega))]; exact h0 k
 · cases hv with
   | one hv=>cases hv with
     | cell hv=>cases hv with
       | rd hv=>cases hv with
         | val=>exact .one (.cell (.own0 m (put_same _ _ _)))
 · intro e0
   rw [look_cons_eq] at e0
   cases e0
 · rw [look_cons] at ho
   split at ho
   · cases ho; trivial
   · cases ho
 · unfold inH at hid
   rw [look_cons] at hid
   split at hid
   · rename_i ei; exact .inr (by omega)
   · exact absurd rfl hid
end Go.Am
namespace Go.Proofs.YtllhgcfacgiabaaGreat
open Go Go.Am Go.RowKit
set_option linter.unusedVariables false
set_option linter.unusedSimpArgs false
theorem cloneI_own (zs:List Int) (n:Nat) (hl:zs.length≤1048576):Ret Tryz.prog 199 [il zs] [] n true (Is (.own n zs.length) [(n,.list 2 1 (ivs zs))] (n + 1)) :=
 Ret.ownNil (e:=2) (s:=1) (by decide) (by
  rintro r ho m (⟨rfl,rfl,rfl⟩ | ⟨rfl,rfl,rfl,rfl⟩)
  · exact .inl ⟨rfl,rfl,rfl⟩
  · exact .inr ⟨rfl,rfl,rfl,rfl,rfl,rfl⟩) (cloneI zs n hl)
theorem cloneIn_full (xs:List InD) (n:Nat) (hl:xs.length≤1048576) (hne:xs≠[]):Ret Tryz.prog 197 [.lst (xs.map inRow)] [] n true (Is (.own n xs.length) [(n,.list 201 3 (xs.map inRow))] (n + 1)):=by
 have hL:(xs.map inRow).length=xs.length:=by simp
 refine Ret.fn ttOk Tryz.func197 rfl Tryz.call197 rfl rfl ?_
 refine Goes ?_;repeat' first|apply W2.m|refine W1.m fun h=>?_
 refine ⟨by simpa using hne,?_⟩
 refine Goes ?_;repeat' first|apply W2.m|refine W1.m fun h=>?_
 refine ⟨⟨lenA,by rw [hL]; show _ * 40≤_; omega,by rw [hL]; unfold maxLen; omega,trivial,fun r hr=>by obtain ⟨x,_,rfl⟩:=List.mem_map.1 hr; rfl⟩,?_⟩
 refine Goes ?_;repeat' first|apply W2.m|refine W1.m fun h=>?_
 refine FinOk.mk' [0] rfl rfl rfl rfl rfl rfl rfl ⟨?_,?_,rfl⟩
 · exact ownI (by simp)
 · exact objI (by simp)
theorem cloneIn_nil (cap:Nat) (n:Nat):Ret Tryz.prog 197 [.val (.slice none 0 cap)] [] n true (Is nl [] n):=by
 refine Ret.fn ttOk Tryz.func197 rfl Tryz.call197 rfl rfl ?_
 refine Goes ?_;repeat' first|apply W2.m|refine W1.m fun h=>?_
 refine FinOk.pure rfl rfl rfl ⟨?_,rfl,rfl⟩
 rfl
theorem cloneIn_emp (a:Addr) (cap:Nat) (n:Nat):Ret Tryz.prog 197 [.val (.slice (some a) 0 cap)] [] n true (Is (.own n 0) [(n,.list 201 3 [])] (n + 1)):=by
 refine Ret.fn ttOk Tryz.func197 rfl Tryz.call197 rfl rfl ?_
 refine Goes ?_;repeat' first|apply W2.m|refine W1.m fun h=>?_
 refine FinOk.mk' [0] rfl rfl rfl rfl rfl rfl rfl ⟨?_,?_,rfl⟩
 · rfl
 · rfl
theorem cloneIn_own (xs:List InD) (n:Nat) (hl:xs.length≤1048576):Ret Tryz.prog 197 [.lst (xs.map inRow)] [] n true (Is (.own n xs.length) [(n,.list 201 3 (xs.map inRow))] (n + 1)):=by
 by_cases h:xs=[]
 · subst h
   refine Ret.emp fun a cap=>?_
   cases a with
   | none=>exact Ret.ownNil (e:=201) (s:=3) (by decide) (fun r ho m ⟨h1,h2,h3⟩=>.inr ⟨h1,h2,h3,rfl,rfl,rfl⟩) (cloneIn_nil cap n)
   | some a=>exact cloneIn_emp a cap n
 · exact cloneIn_full xs n hl h
theorem cloneOut_full (xs:List OutD) (n:Nat) (hl:xs.length≤1048576) (hne:xs≠[]):Ret Tryz.prog 198 [.lst (xs.map outRow)] [] n true (Is (.own n xs.length) [(n,.list 203 2 (xs.map outRow))] (n + 1)):=by
 have hL:(xs.map outRow).length=xs.length:=by simp
 refine Ret.fn ttOk Tryz.func198 rfl Tryz.call198 rfl rfl ?_
 refine Goes ?_;repeat' first|apply W2.m|refine W1.m fun h=>?_
 refine ⟨by simpa using hne,?_⟩
 refine Goes ?_;repeat' first|apply W2.m|refine W1.m fun h=>?_
 refine ⟨⟨lenA,by rw [hL]; show _ * 32≤_; omega,by rw [hL]; unfold maxLen; omega,trivial,fun r hr=>by obtain ⟨x,_,rfl⟩:=List.mem_map.1 hr; rfl⟩,?_⟩
 refine Goes ?_;repeat' first|apply W2.m|refine W1.m fun h=>?_
 refine FinOk.mk' [0] rfl rfl rfl rfl rfl rfl rfl ⟨?_,?_,rfl⟩
 · exact ownI (by simp)
 · exact objI (by simp)
theorem cloneOut_nil (cap:Nat) (n:Nat):Ret Tryz.prog 198 [.val (.slice none 0 cap)] [] n true (Is nl [] n):=by
 refine Ret.fn ttOk Tryz.func198 rfl Tryz.call198 rfl rfl ?_
 refine Goes ?_;repeat' first|apply W2.m|refine W1.m fun h=>?_
 refine FinOk.pure rfl rfl rfl ⟨?_,rfl,rfl⟩
 rfl
theorem cloneOut_emp (a:Addr) (cap:Nat) (n:Nat):Ret Tryz.prog 198 [.val (.slice (some a) 0 cap)] [] n true (Is (.own n 0) [(n,.list 203 2 [])] (n + 1)):=by
 refine Ret.fn ttOk Tryz.func198 rfl Tryz.call198 rfl rfl ?_
 refine Goes ?_;repeat' first|apply W2.m|refine W1.m fun h=>?_
 refine FinOk.mk' [0] rfl rfl rfl rfl rfl rfl rfl ⟨?_,?_,rfl⟩
 · rfl
 · rfl
theorem cloneOut_own (xs:List OutD) (n:Nat) (hl:xs.length≤1048576):Ret Tryz.prog 198 [.lst (xs.map outRow)] [] n true (Is (.own n xs.length) [(n,.list 203 2 (xs.map outRow))] (n + 1)):=by
 by_cases h:xs=[]
 · subst h
   refine Ret.emp fun a cap=>?_
   cases a with
   | none=>exact Ret.ownNil (e:=203) (s:=2) (by decide) (fun r ho m ⟨h1,h2,h3⟩=>.inr ⟨h1,h2,h3,rfl,rfl,rfl⟩) (cloneOut_nil cap n)
   | some a=>exact cloneOut_emp a cap n
 · exact cloneOut_full xs n hl h
theorem cloneTx_full (xs:List TxD) (n:Nat) (hl:xs.length≤1048576) (hne:xs≠[]):Ret Tryz.prog 162 [.lst (xs.map txC)] [] n true (Is (.own n xs.length) [(n,.list 133 3 (xs.map txC))] (n + 1)):=by
 have hL:(xs.map txC).length=xs.length:=by simp
 refine Ret.fn ttOk Tryz.func162 rfl Tryz.call162 rfl rfl ?_
 refine Goes ?_;repeat' first|apply W2.m|refine W1.m fun h=>?_
 refine ⟨by simpa using hne,?_⟩
 refine Goes ?_;repeat' first|apply W2.m|refine W1.m fun h=>?_
 refine ⟨⟨lenA,by rw [hL]; show _ * 56≤_; omega,by rw [hL]; unfold maxLen; omega,trivial,fun r hr=>by obtain ⟨x,_,rfl⟩:=List.mem_map.1 hr; rfl⟩,?_⟩
 refine Goes ?_;repeat' first|apply W2.m|refine W1.m fun h=>?_
 refine FinOk.mk' [0] rfl rfl rfl rfl rfl rfl rfl ⟨?_,?_,rfl⟩
 · exact ownI (by simp)
 · exact objI (by simp)
theorem cloneTx_nil (cap:Nat) (n:Nat):Ret Tryz.prog 162 [.val (.slice none 0 cap)] [] n true (Is nl [] n):=by
 refine Ret.fn ttOk Tryz.func162 rfl Tryz.call162 rfl rfl ?_
 refine Goes ?_;repeat' first|apply W2.m|refine W1.m fun h=>?_
 refine FinOk.pure rfl rfl rfl ⟨?_,rfl,rfl⟩
 rfl
theorem cloneTx_emp (a:Addr) (cap:Nat) (n:Nat):Ret Tryz.prog 162 [.val (.slice (some a) 0 cap)] [] n true (Is (.own n 0) [(n,.list 133 3 [])] (n + 1)):=by
 refine Ret.fn ttOk Tryz.func162 rfl Tryz.call162 rfl rfl ?_
 refine Goes ?_;repeat' first|apply W2.m|refine W1.m fun h=>?_
 refine FinOk.mk' [0] rfl rfl rfl rfl rfl rfl rfl ⟨?_,?_,rfl⟩
 · rfl
 · rfl
theorem cloneTx_own (xs:List TxD) (n:Nat) (hl:xs.length≤1048576):Ret Tryz.prog 162 [.lst (xs.map txC)] [] n true (Is (.own n xs.length) [(n,.list 133 3 (xs.map txC))] (n + 1)):=by
 by_cases h:xs=[]
 · subst h
   refine Ret.emp fun a cap=>?_
   cases a with
   | none=>exact Ret.ownNil (e:=133) (s:=3) (by decide) (fun r ho m ⟨h1,h2,h3⟩=>.inr ⟨h1,h2,h3,rfl,rfl,rfl⟩) (cloneTx_nil cap n)
   | some a=>exact cloneTx_emp a cap n
 · exact cloneTx_full xs n hl h
end Go.Proofs.YtllhgcfacgiabaaGreat
