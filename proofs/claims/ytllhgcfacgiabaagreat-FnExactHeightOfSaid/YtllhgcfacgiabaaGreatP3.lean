import Derived.Test.YtllhgcfacgiabaaGreatLawA
namespace Go.Proofs.YtllhgcfacgiabaaGreat
open Go Go.Am Go.RowKit
set_option linter.unusedVariables false
set_option linter.unusedSimpArgs false
theorem l2Op_ret (op:Int) (n:Nat):Ret Tryz.prog 231 [iv op] [] n true (Is (bv (opB op)) [] n):=by
 refine Ret.fn ttOk Tryz.func231 rfl Tryz.call231 rfl rfl ?_
 refine Goes ?_
 first | refine CallP.is (l1In_ret _ _ _ _) rfl ?_ | refine CallQ.is (l1In_ret _ _ _ _) rfl rfl ?_
 refine Goes ?_;repeat' first|apply W2.m|refine W1.m fun h=>?_
 · have h1:inR 1 9 op:=by assumption
   refine FinOk.pure rfl rfl rfl ⟨?_,rfl,rfl⟩; refine bvI ?_; rw [opB_eq]; simp [h1]
 have h1:¬ inR 1 9 op:=by assumption
 first | refine CallP.is (l1In_ret _ _ _ _) rfl ?_ | refine CallQ.is (l1In_ret _ _ _ _) rfl rfl ?_
 refine Goes ?_;repeat' first|apply W2.m|refine W1.m fun h=>?_
 refine FinOk.pure rfl rfl rfl ⟨?_,rfl,rfl⟩; refine bvI ?_; rw [opB_eq]; simp [h1]
theorem l2Fault_ret (p:List Int) (n:Nat):Ret Tryz.prog 191 [il p] [] n true (Is (iv (progC p)) [] n):=by
 refine Ret.fn ttOk Tryz.func191 rfl Tryz.call191 rfl rfl ?_
 refine Goes ?_;repeat' first|apply W2.m|refine W1.m fun h=>?_
 · simp only [List.length_map] at h
   refine FinOk.pure rfl rfl rfl ⟨?_,rfl,rfl⟩; unfold progC; rw [if_pos (by omega)]
 simp only [List.length_map] at h
 refine LoopP.go (fun k:Nat=>k≤p.length∧opsB (p.take k)=true) (fun k=>⟨[(0,il p),(3,iv k)],[],0⟩) (fun k=>p.length - k) 0 ⟨Nat.zero_le _,rfl⟩ (Weak.of rfl rfl ktA trivial) ?_
 intro k ⟨hk,hp⟩
 refine Goes ?_;repeat' first|apply W2.m|refine W1.m fun h=>?_
 · simp only [List.length_map] at h
   have hlt:k < p.length:=by omega
   rw [rowK iv1 p k (by omega)]
   refine ⟨by (first | exact ⟨by omega,by omega,rfl⟩ | (simp only [List.length_map]; exact ⟨by omega,by omega,rfl⟩)),?_⟩
   refine Goes ?_
   refine CallP.is (l2Op_ret _ _) rfl ?_
   conv=>whnf
   cases ho:opB p[k] with
   | false =>
     repeat' first
      | (refine CondP.yes ?_; conv=>whnf)
      | (refine CondP.not ?_; conv=>whnf)
      | ((first | refine CondP.dec (fun h=>?_) (fun h=>?_) | refine CondP.ndec (fun h=>?_) (fun h=>?_)) <;> first | (exfalso; first | omega | exact h (by assumption) | exact absurd h (by assumption)) | (conv=>whnf))
      | (refine Both.mk ?_ ?_ <;> (conv=>whnf))
      | (refine Keep.mk (by repeat' first | exact trivial | rfl | refine And.intro ?_ ?_) ?_; conv=>whnf)
      | (refine And.intro (by first | decide | omega) ?_; conv=>whnf)
      | fail
     refine FinOk.pure rfl rfl rfl ⟨?_,rfl,rfl⟩
     unfold progC; rw [if_neg (by omega),opsB_no hlt ho]; rfl
   | true =>
     repeat' first
      | (refine CondP.yes ?_; conv=>whnf)
      | (refine CondP.not ?_; conv=>whnf)
      | ((first | refine CondP.dec (fun h=>?_) (fun h=>?_) | refine CondP.ndec (fun h=>?_) (fun h=>?_)) <;> first | (exfalso; first | omega | exact h (by assumption) | exact absurd h (by assumption)) | (conv=>whnf))
      | (refine Both.mk ?_ ?_ <;> (conv=>whnf))
      | (refine Keep.mk (by repeat' first | exact trivial | rfl | refine And.intro ?_ ?_) ?_; conv=>whnf)
      | (refine And.intro (by first | decide | omega) ?_; conv=>whnf)
      | fail
     exact ⟨k + 1,⟨by omega,by rw [opsB_take hlt,hp,ho]; rfl⟩,by omega,(Weak.of rfl rfl ktA trivial)⟩
 · simp only [List.length_map] at h
   refine FinOk.pure rfl rfl rfl ⟨?_,rfl,rfl⟩
   rw [List.take_of_length_le (by omega)] at hp
   unfold progC; rw [if_neg (by omega),hp]; rfl
def kindI (op:Int):Int:=if op=1 then 2 else if op=2∨op=6∨op=7∨op=9 then 3 else if op=3∨op=4∨op=5∨op=8 then 4 else if 100≤op∧op≤1099 then 1 else 0
theorem kindI_zero (op:Int):kindI op=0↔opB op=false:=by
 unfold kindI opB
 constructor
 · intro h
   repeat' split at h
   all_goals first | omega | (simp; omega)
 · intro h
   simp at h
   repeat' split
   all_goals omega
theorem kindOf_ret (op:Int) (n:Nat):Ret Tryz.prog 259 [iv op] [] n true (Is (iv (kindI op)) [] n):=by
 refine Ret.fn ttOk Tryz.func259 rfl Tryz.call259 rfl rfl ?_
 refine Goes ?_;repeat' first|apply W2.m|refine W1.m fun h=>?_
 all_goals (refine FinOk.pure rfl rfl rfl ⟨?_,rfl,rfl⟩; refine ivI ?_; simp [kindI, *])
theorem implProgramFault_ret (p:List Int) (n:Nat):Ret Tryz.prog 239 [il p] [] n true (Is (iv (progC p)) [] n):=by
 refine Ret.fn ttOk Tryz.func239 rfl Tryz.call239 rfl rfl ?_
 refine Goes ?_;repeat' first|apply W2.m|refine W1.m fun h=>?_
 · simp only [List.length_map] at h
   refine FinOk.pure rfl rfl rfl ⟨?_,rfl,rfl⟩; unfold progC; rw [if_pos (by omega)]
 simp only [List.length_map] at h
 refine LoopP.go (fun k:Nat=>k≤p.length∧opsB (p.take k)=true) (fun k=>⟨[(8,il p),(9,iv p.length),(10,iv k)],[],0⟩) (fun k=>p.length - k) 0 ⟨Nat.zero_le _,rfl⟩ ?_ ?_
 · rw [List.length_map]; exact (Weak.of rfl rfl ktA trivial)
 intro k ⟨hk,hp⟩
 refine Goes ?_;repeat' first|apply W2.m|refine W1.m fun h=>?_
 · have hlt:k < p.length:=by omega
   rw [rowK iv1 p k (by omega)]
   refine ⟨by (first | exact ⟨by omega,by omega,rfl⟩ | (simp only [List.length_map]; exact ⟨by omega,by omega,rfl⟩)),?_⟩
   refine Goes ?_
   first | refine CallP.is (kindOf_ret _ _) rfl ?_ | refine CallQ.is (kindOf_ret _ _) rfl rfl ?_
   refine Goes ?_;repeat' first|apply W2.m|refine W1.m fun h=>?_
   · refine FinOk.pure rfl rfl rfl ⟨?_,rfl,rfl⟩
     unfold progC; rw [if_neg (by omega),opsB_no hlt ((kindI_zero _).1 (by assumption))]; rfl
   · refine ⟨k + 1,⟨by omega,?_⟩,by omega,(Weak.of rfl rfl ktA trivial)⟩
     rw [opsB_take hlt,hp]
     cases ho:opB p[k] with
     | true=>rfl
     | false=>exact absurd ((kindI_zero _).2 ho) (by assumption)
 · refine FinOk.pure rfl rfl rfl ⟨?_,rfl,rfl⟩
   rw [List.take_of_length_le (by omega)] at hp
   unfold progC; rw [if_neg (by omega),hp]; rfl
theorem stackFault_ret (s:List Int) (n:Nat):Ret Tryz.prog 237 [il s] [] n true (Is (iv (stackC s)) [] n):=by
 refine Ret.fn ttOk Tryz.func237 rfl Tryz.call237 rfl rfl ?_
 refine Goes ?_;repeat' first|apply W2.m|refine W1.m fun h=>?_
 · simp only [List.length_map] at h
   refine FinOk.pure rfl rfl rfl ⟨?_,rfl,rfl⟩; unfold stackC; rw [if_pos (by omega)]
 simp only [List.length_map] at h
 refine LoopP.go (fun k:Nat=>k≤s.length∧allB 0 9999 (s.take k)=true) (fun k=>⟨[(8,il s),(9,iv s.length),(10,iv k)],[],0⟩) (fun k=>s.length - k) 0 ⟨Nat.zero_le _,rfl⟩ ?_ ?_
 · rw [List.length_map]; exact (Weak.of rfl rfl ktA trivial)
 intro k ⟨hk,hp⟩
 refine Goes ?_;repeat' first|apply W2.m|refine W1.m fun h=>?_
 · have hlt:k < s.length:=by omega
   rw [rowK iv1 s k (by omega)]
   refine ⟨by (first | exact ⟨by omega,by omega,rfl⟩ | (simp only [List.length_map]; exact ⟨by omega,by omega,rfl⟩)),?_⟩
   refine Goes ?_;repeat' first|apply W2.m|refine W1.m fun h=>?_
   · refine FinOk.pure rfl rfl rfl ⟨?_,rfl,rfl⟩
     unfold stackC; rw [if_neg (by omega),allB_no hlt (by omega)]; rfl
   · refine FinOk.pure rfl rfl rfl ⟨?_,rfl,rfl⟩
     unfold stackC; rw [if_neg (by omega),allB_no hlt (by omega)]; rfl
   · exact ⟨k + 1,⟨by omega,by rw [allB_take hlt,hp]; simp; omega⟩,by omega,(Weak.of rfl rfl ktA trivial)⟩
 · refine FinOk.pure rfl rfl rfl ⟨?_,rfl,rfl⟩
   rw [List.take_of_length_le (by omega)] at hp
   unfold stackC; rw [if_neg (by omega),hp]; rfl
theorem runFault_ret (p s:List Int) (t h:Int) (n:Nat):Ret Tryz.prog 267 [il p,il s,iv t,iv h] [] n true (Is (iv (runC p s t h)) [] n):=by
 refine Ret.fn ttOk Tryz.func267 rfl Tryz.call267 rfl rfl ?_
 refine Goes ?_
 first | refine CallP.is (implProgramFault_ret _ _) rfl ?_ | refine CallQ.is (implProgramFault_ret _ _) rfl rfl ?_
 refine Goes ?_;repeat' first|apply W2.m|refine W1.m fun h=>?_
 · refine FinOk.pure rfl rfl rfl ⟨?_,rfl,rfl⟩
   unfold runC; rw [if_neg (by assumption)]
 first | refine CallP.is (stackFault_ret _ _) rfl ?_ | refine CallQ.is (stackFault_ret _ _) rfl rfl ?_
 refine Goes ?_;repeat' first|apply W2.m|refine W1.m fun h=>?_
 · refine FinOk.pure rfl rfl rfl ⟨?_,rfl,rfl⟩
   unfold runC; rw [if_pos (by omega),if_neg (by assumption)]
 first | refine CallP.is (isSum_ret _ _) rfl ?_ | refine CallQ.is (isSum_ret _ _) rfl rfl ?_
 refine Goes ?_;repeat' first|apply W2.m|refine W1.m fun h=>?_
 · refine FinOk.pure rfl rfl rfl ⟨?_,rfl,rfl⟩
   unfold runC; rw [if_pos (by omega),if_pos (by omega),if_neg (fun h'=>absurd h'.1 (by assumption))]
 first | refine CallP.is (isHeight_ret _ _) rfl ?_ | refine CallQ.is (isHeight_ret _ _) rfl rfl ?_
 refine Goes ?_;repeat' first|apply W2.m|refine W1.m fun h=>?_
 · refine FinOk.pure rfl rfl rfl ⟨?_,rfl,rfl⟩
   unfold runC; rw [if_pos (by omega),if_pos (by omega),if_neg (fun h'=>absurd h'.2 (by assumption))]
 · refine FinOk.pure rfl rfl rfl ⟨?_,rfl,rfl⟩
   unfold runC; rw [if_pos (by omega),if_pos (by omega),if_pos ⟨by assumption,by assumption⟩]
abbrev mh (i j:Nat) (s e:List Int) (t u:Int):Hp:=[(i,.box [.own j s.length,iv t,iv u]),(j,.list 2 1 (ivs (s++e)))]
theorem takeL (s e:List Int):List.take s.length (ivs (s++e))=ivs s:=by
 rw [show ivs (s++e)=ivs s++ivs e from List.map_append ..,List.take_left' (by simp)]
theorem getL (s e:List Int) (x:Int):(ivs (s++[x]++e)).getD (Int.toNat (s.length:Int)) []=[iv x]:=by
 rw [rowK iv1 _ _ (by simp)]; simp
theorem lenS (s:List Int) (x:Int) (h:s.length≤1000):IntKind.i64.wrap (((s++[x]).length:Nat) - 1:Int)=(s.length:Int):=by
 rw [List.length_append]; simp only [List.length_cons,List.length_nil]; rw [IntWalk.i64_in _ (by omega)]; omega
theorem push_ret (i j n:Nat) (hij:i≠j) (s e:List Int) (x t u:Int) (hl:s.length≤1000) :
 Ret Tryz.prog 274 [.pt i 0 0,iv x] (mh i j s e t u) n false (Is (.tup []) (mh i j (s++[x]) [] t u) n):=by
 refine Ret.of_run (tt:=tt) ttOk Tryz.func274 rfl Tryz.call274 [i,j] [.box [.own 1 s.length,iv t,iv u],.list 2 1 (ivs (s++e))] [.pt 0 0 0,iv x] false n _ rfl (nodup2 hij) (by exact Nat.le_of_ble_eq_true rfl) rfl rfl ?_
 refine Goes ?_
 refine ⟨⟨lenA,lenA,lenA,lenA,rwsA⟩,?_⟩
 refine Goes ?_
 refine FinOk.mk' [] rfl rfl rfl rfl rfl rfl rfl ⟨?_,?_,rfl⟩
 · rfl
 · show [(i,AObj.box [.own j (s.length + 1),iv t,iv u]),(j,.list 2 1 (List.take s.length (ivs (s++e))++[[iv x]]))]=_
   unfold mh
   rw [takeL,List.append_nil,List.length_append,show ivs (s++[x])=ivs s++[[iv x]] from by simp]
   rfl
theorem pop_ret (i j n:Nat) (hij:i≠j) (s e:List Int) (x t u:Int) (hl:s.length≤1000) :
 Ret Tryz.prog 291 [.pt i 0 0] (mh i j (s++[x]) e t u) n false (Is (iv x) (mh i j s (x::e) t u) n):=by
 refine Ret.of_run (tt:=tt) ttOk Tryz.func291 rfl Tryz.call291 [i,j] [.box [.own 1 (s++[x]).length,iv t,iv u],.list 2 1 (ivs (s++[x]++e))] [.pt 0 0 0] false n _ rfl (nodup2 hij) (by exact Nat.le_of_ble_eq_true rfl) rfl rfl ?_
 refine Goes ?_
 simp only [lenS s x hl]
 refine ⟨⟨by omega,by simp; omega⟩,?_⟩
 refine Goes ?_
 rw [getL]
 refine ⟨by simp,?_⟩
 refine Goes ?_
 refine ⟨⟨rfl,by omega,by simp; omega⟩,?_⟩
 refine Goes ?_
 refine FinOk.mk' [] rfl rfl rfl rfl rfl rfl rfl ⟨?_,?_,rfl⟩
 · rfl
 · show [(i,AObj.box [.own j s.length,iv t,iv u]),(j,.list 2 1 (ivs (s++[x]++e)))]=_
   unfold mh
   rw [List.append_assoc]; rfl
theorem pushFlag_ret (i j n:Nat) (hij:i≠j) (s e:List Int) (b:Bool) (t u:Int) (hl:s.length≤1000) :
 Ret Tryz.prog 292 [.pt i 0 0,bv b] (mh i j s e t u) n false (Is (.tup []) (mh i j (s++[flagI b]) [] t u) n):=by
 refine Ret.of_run (tt:=tt) ttOk Tryz.func292 rfl Tryz.call292 [i,j] [.box [.own 1 (s).length,iv t,iv u],.list 2 1 (ivs ((s)++(e)))] [.pt 0 0 0,bv b] false n _ rfl (nodup2 hij) (by exact Nat.le_of_ble_eq_true rfl) rfl rfl ?_
 refine Goes ?_
 cases b with
 | true =>
   repeat' first
    | (refine CondP.yes ?_; conv=>whnf)
    | (refine CondP.not ?_; conv=>whnf)
    | ((first | refine CondP.dec (fun h=>?_) (fun h=>?_) | refine CondP.ndec (fun h=>?_) (fun h=>?_)) <;> first | (exfalso; first | omega | exact h (by assumption) | exact absurd h (by assumption)) | (conv=>whnf))
    | (refine Both.mk ?_ ?_ <;> (conv=>whnf))
    | (refine Keep.mk (by repeat' first | exact trivial | rfl | refine And.intro ?_ ?_) ?_; conv=>whnf)
    | (refine And.intro (by first | decide | omega) ?_; conv=>whnf)
    | fail
   refine CallP.heapIs (push_ret 0 1 _ (by decide) (s) (e) (1) t u (lenA)) rfl ktA rfl ?_
   refine Goes ?_
   refine FinOk.mk' [] rfl rfl rfl rfl rfl rfl rfl ⟨?_,?_,rfl⟩
   · rfl
   · rfl
 | false =>
   repeat' first
    | (refine CondP.yes ?_; conv=>whnf)
    | (refine CondP.not ?_; conv=>whnf)
    | ((first | refine CondP.dec (fun h=>?_) (fun h=>?_) | refine CondP.ndec (fun h=>?_) (fun h=>?_)) <;> first | (exfalso; first | omega | exact h (by assumption) | exact absurd h (by assumption)) | (conv=>whnf))
    | (refine Both.mk ?_ ?_ <;> (conv=>whnf))
    | (refine Keep.mk (by repeat' first | exact trivial | rfl | refine And.intro ?_ ?_) ?_; conv=>whnf)
    | (refine And.intro (by first | decide | omega) ?_; conv=>whnf)
    | fail
   refine CallP.heapIs (push_ret 0 1 _ (by decide) (s) (e) (0) t u (lenA)) rfl ktA rfl ?_
   refine Goes ?_
   refine FinOk.mk' [] rfl rfl rfl rfl rfl rfl rfl ⟨?_,?_,rfl⟩
   · rfl
   · rfl
theorem dup_ret (i j n:Nat) (hij:i≠j) (s e:List Int) (x t u:Int) (hl:s.length≤900) :
 Ret Tryz.prog 278 [.pt i 0 0] (mh i j (s++[x]) e t u) n false (Is (iv 0) (mh i j (s++[x]++[x]) [] t u) n):=by
 refine Ret.of_run (tt:=tt) ttOk Tryz.func278 rfl Tryz.call278 [i,j] [.box [.own 1 (s++[x]).length,iv t,iv u],.list 2 1 (ivs ((s++[x])++(e)))] [.pt 0 0 0] false n _ rfl (nodup2 hij) (by exact Nat.le_of_ble_eq_true rfl) rfl rfl ?_
 refine Goes ?_
 refine CallP.heapIs (pop_ret 0 1 _ (by decide) (s) (e) (x) t u (lenA)) rfl ktA rfl ?_
 refine Goes ?_
 refine CallP.heapIs (push_ret 0 1 _ (by decide) (s) (x::e) (x) t u (lenA)) rfl ktA rfl ?_
 refine Goes ?_
 refine CallP.heapIs (push_ret 0 1 _ (by decide) (s++[x]) ([]) (x) t u (lenA)) rfl ktA rfl ?_
 refine Goes ?_
 refine FinOk.mk' [] rfl rfl rfl rfl rfl rfl rfl ⟨?_,?_,rfl⟩
 · rfl
 · rfl
theorem drop_ret (i j n:Nat) (hij:i≠j) (s e:List Int) (x t u:Int) (hl:s.length≤900) :
 Ret Tryz.prog 279 [.pt i 0 0] (mh i j (s++[x]) e t u) n false (Is (iv 0) (mh i j s (x::e) t u) n):=by
 refine Ret.of_run (tt:=tt) ttOk Tryz.func279 rfl Tryz.call279 [i,j] [.box [.own 1 (s++[x]).length,iv t,iv u],.list 2 1 (ivs ((s++[x])++(e)))] [.pt 0 0 0] false n _ rfl (nodup2 hij) (by exact Nat.le_of_ble_eq_true rfl) rfl rfl ?_
 refine Goes ?_
 refine CallP.heapIs (pop_ret 0 1 _ (by decide) (s) (e) (x) t u (lenA)) rfl ktA rfl ?_
 refine Goes ?_
 refine FinOk.mk' [] rfl rfl rfl rfl rfl rfl rfl ⟨?_,?_,rfl⟩
 · rfl
 · rfl
theorem swap_ret (i j n:Nat) (hij:i≠j) (s e:List Int) (y x t u:Int) (hl:s.length≤900) :
 Ret Tryz.prog 280 [.pt i 0 0] (mh i j (s++[y]++[x]) e t u) n false (Is (iv 0) (mh i j (s++[x]++[y]) [] t u) n):=by
 refine Ret.of_run (tt:=tt) ttOk Tryz.func280 rfl Tryz.call280 [i,j] [.box [.own 1 (s++[y]++[x]).length,iv t,iv u],.list 2 1 (ivs ((s++[y]++[x])++(e)))] [.pt 0 0 0] false n _ rfl (nodup2 hij) (by exact Nat.le_of_ble_eq_true rfl) rfl rfl ?_
 refine Goes ?_
 refine CallP.heapIs (pop_ret 0 1 _ (by decide) (s++[y]) (e) (x) t u (lenA)) rfl ktA rfl ?_
 refine Goes ?_
 refine CallP.heapIs (pop_ret 0 1 _ (by decide) (s) (x::e) (y) t u (lenA)) rfl ktA rfl ?_
 refine Goes ?_
 refine CallP.heapIs (push_ret 0 1 _ (by decide) (s) (y::x::e) (x) t u (lenA)) rfl ktA rfl ?_
 refine Goes ?_
 refine CallP.heapIs (push_ret 0 1 _ (by decide) (s++[x]) ([]) (y) t u (lenA)) rfl ktA rfl ?_
 refine Goes ?_
 refine FinOk.mk' [] rfl rfl rfl rfl rfl rfl rfl ⟨?_,?_,rfl⟩
 · rfl
 · rfl
theorem add_yes (i j n:Nat) (hij:i≠j) (s e:List Int) (y x t u:Int) (hl:s.length≤900) (hx:inR 0 9999 x) (hy:inR 0 9999 y) (hs:¬ 9999 < x + y) :
 Ret Tryz.prog 281 [.pt i 0 0] (mh i j (s++[y]++[x]) e t u) n false (Is (iv 0) (mh i j (s++[x + y]) [] t u) n):=by
 unfold inR at hx hy
 have hw:=IntWalk.i64_in (x + y) (by omega)
 refine Ret.of_run (tt:=tt) ttOk Tryz.func281 rfl Tryz.call281 [i,j] [.box [.own 1 (s++[y]++[x]).length,iv t,iv u],.list 2 1 (ivs ((s++[y]++[x])++(e)))] [.pt 0 0 0] false n _ rfl (nodup2 hij) (by exact Nat.le_of_ble_eq_true rfl) rfl rfl ?_
 refine Goes ?_
 refine CallP.heapIs (pop_ret 0 1 _ (by decide) (s++[y]) (e) (x) t u (lenA)) rfl ktA rfl ?_
 refine Goes ?_
 refine CallP.heapIs (pop_ret 0 1 _ (by decide) (s) (x::e) (y) t u (lenA)) rfl ktA rfl ?_
 refine Goes ?_;repeat' first|apply W2.m|refine W1.m fun h=>?_
 rw [hw]
 refine CallP.heapIs (push_ret 0 1 _ (by decide) (s) (y::x::e) (x + y) t u (lenA)) rfl ktA rfl ?_
 refine Goes ?_
 refine FinOk.mk' [] rfl rfl rfl rfl rfl rfl rfl ⟨?_,?_,rfl⟩
 · rfl
 · rfl
theorem add_no (i j n:Nat) (hij:i≠j) (s e:List Int) (y x t u:Int) (hl:s.length≤900) (hx:inR 0 9999 x) (hy:inR 0 9999 y) (hs:9999 < x + y) :
 Ret Tryz.prog 281 [.pt i 0 0] (mh i j (s++[y]++[x]) e t u) n false (Is (iv 3) (mh i j s (y::x::e) t u) n):=by
 unfold inR at hx hy
 have hw:=IntWalk.i64_in (x + y) (by omega)
 refine Ret.of_run (tt:=tt) ttOk Tryz.func281 rfl Tryz.call281 [i,j] [.box [.own 1 (s++[y]++[x]).length,iv t,iv u],.list 2 1 (ivs ((s++[y]++[x])++(e)))] [.pt 0 0 0] false n _ rfl (nodup2 hij) (by exact Nat.le_of_ble_eq_true rfl) rfl rfl ?_
 refine Goes ?_
 refine CallP.heapIs (pop_ret 0 1 _ (by decide) (s++[y]) (e) (x) t u (lenA)) rfl ktA rfl ?_
 refine Goes ?_
 refine CallP.heapIs (pop_ret 0 1 _ (by decide) (s) (x::e) (y) t u (lenA)) rfl ktA rfl ?_
 refine Goes ?_;repeat' first|apply W2.m|refine W1.m fun h=>?_
 refine FinOk.mk' [] rfl rfl rfl rfl rfl rfl rfl ⟨?_,?_,rfl⟩
 · rfl
 · rfl
theorem equal_ret (i j n:Nat) (hij:i≠j) (s e:List Int) (y x t u:Int) (hl:s.length≤900) :
 Ret Tryz.prog 282 [.pt i 0 0] (mh i j (s++[y]++[x]) e t u) n false (Is (iv 0) (mh i j (s++[flagI (decide (x=y))]) [] t u) n):=by
 refine Ret.of_run (tt:=tt) ttOk Tryz.func282 rfl Tryz.call282 [i,j] [.box [.own 1 (s++[y]++[x]).length,iv t,iv u],.list 2 1 (ivs ((s++[y]++[x])++(e)))] [.pt 0 0 0] false n _ rfl (nodup2 hij) (by exact Nat.le_of_ble_eq_true rfl) rfl rfl ?_
 refine Goes ?_
 refine CallP.heapIs (pop_ret 0 1 _ (by decide) (s++[y]) (e) (x) t u (lenA)) rfl ktA rfl ?_
 refine Goes ?_
 refine CallP.heapIs (pop_ret 0 1 _ (by decide) (s) (x::e) (y) t u (lenA)) rfl ktA rfl ?_
 refine Goes ?_
 refine CallP.heapIs (pushFlag_ret 0 1 _ (by decide) s (y::x::e) (decide (x=y)) t u lenA) rfl ktA rfl ?_
 refine Goes ?_
 refine FinOk.mk' [] rfl rfl rfl rfl rfl rfl rfl ⟨?_,?_,rfl⟩
 · rfl
 · rfl
theorem verify_ret (i j n:Nat) (hij:i≠j) (s e:List Int) (x t u:Int) (hl:s.length≤900) :
 Ret Tryz.prog 283 [.pt i 0 0] (mh i j (s++[x]) e t u) n false (Is (iv (if x=0 then 8 else 0)) (mh i j s (x::e) t u) n):=by
 refine Ret.of_run (tt:=tt) ttOk Tryz.func283 rfl Tryz.call283 [i,j] [.box [.own 1 (s++[x]).length,iv t,iv u],.list 2 1 (ivs ((s++[x])++(e)))] [.pt 0 0 0] false n _ rfl (nodup2 hij) (by exact Nat.le_of_ble_eq_true rfl) rfl rfl ?_
 refine Goes ?_
 refine CallP.heapIs (pop_ret 0 1 _ (by decide) (s) (e) (x) t u (lenA)) rfl ktA rfl ?_
 refine Goes ?_;repeat' first|apply W2.m|refine W1.m fun h=>?_
 · refine FinOk.mk' [] rfl rfl rfl rfl rfl rfl rfl ⟨?_,?_,rfl⟩
   · rw [if_pos (by assumption)]; rfl
   · rfl
 · refine FinOk.mk' [] rfl rfl rfl rfl rfl rfl rfl ⟨?_,?_,rfl⟩
   · rw [if_neg (by assumption)]; rfl
   · rfl
theorem allB1 {x:Int} (h:inR 0 9999 x):allB 0 2147483646 [x]=true:=by
 unfold inR at h
 simp [allB]; omega
theorem sum_ret (i j n:Nat) (hij:i≠j) (s e:List Int) (x t u:Int) (hl:s.length≤900) (hx:inR 0 9999 x) :
 Ret Tryz.prog 284 [.pt i 0 0] (mh i j (s++[x]) e t u) n false (Is (iv 0) (mh i j (s++[sumI [x] % 1000]) [] t u) n):=by
 refine Ret.of_run (tt:=tt) ttOk Tryz.func284 rfl Tryz.call284 [i,j] [.box [.own 1 (s++[x]).length,iv t,iv u],.list 2 1 (ivs ((s++[x])++(e)))] [.pt 0 0 0] false n _ rfl (nodup2 hij) (by exact Nat.le_of_ble_eq_true rfl) rfl rfl ?_
 refine Goes ?_
 refine CallP.heapIs (pop_ret 0 1 _ (by decide) (s) (e) (x) t u (lenA)) rfl ktA rfl ?_
 refine Goes ?_
 refine CallP.convIs (shortSum_ret [x] _ (Nat.le_of_ble_eq_true rfl) (allB1 hx)) ?_ ?_ rfl trivial ?_
 · rfl
 · exact (by repeat' first | exact trivial | exact Nat.le_refl _ | (show _≤List.length _; exact lenA) | refine And.intro ?_ ?_)
 refine Goes ?_
 refine CallP.heapIs (push_ret 0 1 _ (by decide) (s) (x::e) (sumI [x] % 1000) t u (lenA)) rfl ktA rfl ?_
 refine Goes ?_
 refine FinOk.mk' [] rfl rfl rfl rfl rfl rfl rfl ⟨?_,?_,rfl⟩
 · rfl
 · rfl
theorem sign_ret (i j n:Nat) (hij:i≠j) (s e:List Int) (y x t u:Int) (hl:s.length≤900) (ht:inR 0 2147483646 t) :
 Ret Tryz.prog 285 [.pt i 0 0] (mh i j (s++[y]++[x]) e t u) n false (Is (iv 0) (mh i j (s++[flagI (decide (inR 0 899 x)&&decide (signF x t=y))]) [] t u) n):=by
 refine Ret.of_run (tt:=tt) ttOk Tryz.func285 rfl Tryz.call285 [i,j] [.box [.own 1 (s++[y]++[x]).length,iv t,iv u],.list 2 1 (ivs ((s++[y]++[x])++(e)))] [.pt 0 0 0] false n _ rfl (nodup2 hij) (by exact Nat.le_of_ble_eq_true rfl) rfl rfl ?_
 refine Goes ?_
 refine CallP.heapIs (pop_ret 0 1 _ (by decide) (s++[y]) (e) (x) t u (lenA)) rfl ktA rfl ?_
 refine Goes ?_
 refine CallP.heapIs (pop_ret 0 1 _ (by decide) (s) (x::e) (y) t u (lenA)) rfl ktA rfl ?_
 refine Goes ?_
 by_cases hk:inR 0 899 x
 · have hs:=implSignOf_ret x t
   have e1:signR x t=[iv 0,iv (signF x t)]:=by unfold signR; rw [if_pos ⟨hk,ht⟩]
   rw [e1] at hs
   first | refine CallP.is (hs _) rfl ?_ | refine CallQ.is (hs _) rfl rfl ?_
   refine Goes ?_
   refine CallP.heapIs (pushFlag_ret 0 1 _ (by decide) s (y::x::e) _ t u lenA) rfl ktA rfl ?_
   refine Goes ?_
   refine FinOk.mk' [] rfl rfl rfl rfl rfl rfl rfl ⟨?_,?_,rfl⟩
   · rfl
   · rw [decide_eq_true hk,Bool.true_and]; rfl
 · have hs:=implSignOf_ret x t
   have e1:signR x t=[iv 3,iv 0]:=by unfold signR; rw [if_neg (fun h'=>hk h'.1)]
   rw [e1] at hs
   first | refine CallP.is (hs _) rfl ?_ | refine CallQ.is (hs _) rfl rfl ?_
   refine Goes ?_
   refine CallP.heapIs (pushFlag_ret 0 1 _ (by decide) s (y::x::e) _ t u lenA) rfl ktA rfl ?_
   refine Goes ?_
   refine FinOk.mk' [] rfl rfl rfl rfl rfl rfl rfl ⟨?_,?_,rfl⟩
   · rfl
   · rw [decide_eq_false hk,Bool.false_and]; rfl
theorem after_ret (i j n:Nat) (hij:i≠j) (s e:List Int) (x t u:Int) (hl:s.length≤900) :
 Ret Tryz.prog 286 [.pt i 0 0] (mh i j (s++[x]) e t u) n false (Is (iv (if u < x then 8 else 0)) (mh i j s (x::e) t u) n):=by
 refine Ret.of_run (tt:=tt) ttOk Tryz.func286 rfl Tryz.call286 [i,j] [.box [.own 1 (s++[x]).length,iv t,iv u],.list 2 1 (ivs ((s++[x])++(e)))] [.pt 0 0 0] false n _ rfl (nodup2 hij) (by exact Nat.le_of_ble_eq_true rfl) rfl rfl ?_
 refine Goes ?_;repeat' first|apply W2.m|refine W1.m fun h=>?_
 all_goals (refine CallP.heapIs (pop_ret 0 1 _ (by decide) (s) (e) (x) t u (lenA)) rfl ktA rfl ?_
            refine Goes ?_;repeat' first|apply W2.m|refine W1.m fun h=>?_)
 all_goals first
  | (have hux:u < x:=by assumption
     refine FinOk.mk' [] rfl rfl rfl rfl rfl rfl rfl ⟨?_,?_,rfl⟩
     · rw [if_pos hux]; rfl
     · rfl)
  | (refine FinOk.mk' [] rfl rfl rfl rfl rfl rfl rfl ⟨?_,?_,rfl⟩
     · rw [if_neg (by assumption)]; rfl
     · rfl)
def faultI (k:Int) (n:Nat):Int:=if k=4 then (if n < 2 then 4 else 0) else if k=3 then (if n < 1 then 4 else 0) else if k=2 then (if n < 1 then 4 else if n=8 then 10 else 0) else if k=1 then (if n=8 then 10 else 0) else 0
theorem stepFault_ret (i j n:Nat) (hij:i≠j) (s e:List Int) (k t u:Int) (hl:s.length≤8) (hk:1≤k∧k≤4) :
 Ret Tryz.prog 273 [.pt i 0 0,iv k] (mh i j s e t u) n true (Is (iv (faultI k s.length)) (mh i j s e t u) n):=by
 refine Ret.of_run (tt:=tt) ttOk Tryz.func273 rfl Tryz.call273 [i,j] [.box [.own 1 s.length,iv t,iv u],.list 2 1 (ivs (s++e))] [.pt 0 0 0,iv k] true n _ rfl (nodup2 hij) (by exact Nat.le_of_ble_eq_true rfl) rfl rfl ?_
 have hk':k=1∨k=2∨k=3∨k=4:=by omega
 rcases hk' with rfl | rfl | rfl | rfl
 all_goals (refine Goes ?_;repeat' first|apply W2.m|refine W1.m fun h=>?_)
 all_goals (refine FinOk.mk' [] rfl rfl rfl rfl rfl rfl rfl ⟨?_,?_,rfl⟩)
 all_goals first
  | rfl
  | (refine ivI ?_; unfold faultI; (repeat' split) <;> omega)
abbrev fv (f:Nat):AV:=.val (.func (.func f) #[] #[])
abbrev opsV:List AV:=[.val .nilFunc,fv 278,fv 279,fv 280,fv 281,fv 282,fv 283,fv 284,fv 285,fv 286]
theorem operations_ret (n:Nat):Ret Tryz.prog 275 [] [] n true (Is (.agg opsV) [] n):=by
 refine Ret.fn ttOk Tryz.func275 rfl Tryz.call275 rfl rfl ?_
 refine Goes ?_
 refine FinOk.pure rfl rfl rfl ⟨?_,rfl,rfl⟩
 rfl
end Go.Proofs.YtllhgcfacgiabaaGreat
