import Derived.Test.YtllhgcfacgiabaaGreatP1
namespace Go.Proofs.YtllhgcfacgiabaaGreat
open Go Go.Am Go.RowKit
set_option linter.unusedVariables false
set_option linter.unusedSimpArgs false
theorem l2Op_ret (op:Int) (n:Nat):Ret Tryz.prog 231 [iv op] [] n true (Is (bv (opB op)) [] n):=by
 refine Ret.fn ttOk Tryz.func231 rfl Tryz.call231 rfl rfl ?_
 refine Goes ?_
 first | refine CallP.is (l1In_ret _ _ _ _) rfl ?_ | refine CallQ.is (l1In_ret _ _ _ _) rfl rfl ?_
 refine Goes ?_;repeat' first|apply W2.m|refine W1.m fun h=>?_
 · have h1:inR 1 9 op:=by assumption
   refine FinOk.pure rfl rfl rfl ⟨?_,rfl,rfl⟩; refine bvI ?_; rw [opB_eq]; simp [h1]
 have h1:¬ inR 1 9 op:=by assumption
 first | refine CallP.is (l1In_ret _ _ _ _) rfl ?_ | refine CallQ.is (l1In_ret _ _ _ _) rfl rfl ?_
 refine Goes ?_;repeat' first|apply W2.m|refine W1.m fun h=>?_
 refine FinOk.pure rfl rfl rfl ⟨?_,rfl,rfl⟩; refine bvI ?_; rw [opB_eq]; simp [h1]
theorem l2Fault_ret (p:List Int) (n:Nat):Ret Tryz.prog 191 [il p] [] n true (Is (iv (progC p)) [] n):=by
 refine Ret.fn ttOk Tryz.func191 rfl Tryz.call191 rfl rfl ?_
 refine Goes ?_;repeat' first|apply W2.m|refine W1.m fun h=>?_
 · simp only [List.length_map] at h
   refine FinOk.pure rfl rfl rfl ⟨?_,rfl,rfl⟩; unfold progC; rw [if_pos (by omega)]
 simp only [List.length_map] at h
 refine LoopP.go (fun k:Nat=>k≤p.length∧opsB (p.take k)=true) (fun k=>⟨[(0,il p),(3,iv k)],[],0⟩) (fun k=>p.length - k) 0 ⟨Nat.zero_le _,rfl⟩ (Weak.of rfl rfl ktA trivial) ?_
 intro k ⟨hk,hp⟩
 refine Goes ?_;repeat' first|apply W2.m|refine W1.m fun h=>?_
 · simp only [List.length_map] at h
   have hlt:k < p.length:=by omega
   rw [rowK iv1 p k (by omega)]
   refine ⟨by (first | exact ⟨by omega,by omega,rfl⟩ | (simp only [List.length_map]; exact ⟨by omega,by omega,rfl⟩)),?_⟩
   refine Goes ?_
   refine CallP.is (l2Op_ret _ _) rfl ?_
   conv=>whnf
   cases ho:opB p[k] with
   | false =>
     repeat' first
      | (refine CondP.yes ?_; conv=>whnf)
      | (refine CondP.not ?_; conv=>whnf)
      | ((first | refine CondP.dec (fun h=>?_) (fun h=>?_) | refine CondP.ndec (fun h=>?_) (fun h=>?_)) <;> first | (exfalso; first | omega | exact h (by assumption) | exact absurd h (by assumption)) | (conv=>whnf))
      | (refine Both.mk ?_ ?_ <;> (conv=>whnf))
      | (refine Keep.mk (by repeat' first | exact trivial | rfl | refine And.intro ?_ ?_) ?_; conv=>whnf)
      | (refine And.intro (by first | decide | omega) ?_; conv=>whnf)
      | fail
     refine FinOk.pure rfl rfl rfl ⟨?_,rfl,rfl⟩
     unfold progC; rw [if_neg (by omega),opsB_no hlt ho]; rfl
   | true =>
     repeat' first
      | (refine CondP.yes ?_; conv=>whnf)
      | (refine CondP.not ?_; conv=>whnf)
      | ((first | refine CondP.dec (fun h=>?_) (fun h=>?_) | refine CondP.ndec (fun h=>?_) (fun h=>?_)) <;> first | (exfalso; first | omega | exact h (by assumption) | exact absurd h (by assumption)) | (conv=>whnf))
      | (refine Both.mk ?_ ?_ <;> (conv=>whnf))
      | (refine Keep.mk (by repeat' first | exact trivial | rfl | refine And.intro ?_ ?_) ?_; conv=>whnf)
      | (refine And.intro (by first | decide | omega) ?_; conv=>whnf)
      | fail
     exact ⟨k + 1,⟨by omega,by rw [opsB_take hlt,hp,ho]; rfl⟩,by omega,(Weak.of rfl rfl ktA trivial)⟩
 · simp only [List.length_map] at h
   refine FinOk.pure rfl rfl rfl ⟨?_,rfl,rfl⟩
   rw [List.take_of_length_le (by omega)] at hp
   unfold progC; rw [if_neg (by omega),hp]; rfl
def kindI (op:Int):Int:=if op=1 then 2 else if op=2∨op=6∨op=7∨op=9 then 3 else if op=3∨op=4∨op=5∨op=8 then 4 else if 100≤op∧op≤1099 then 1 else 0
theorem kindI_zero (op:Int):kindI op=0↔opB op=false:=by
 unfold kindI opB
 constructor
 · intro h
   repeat' split at h
   all_goals first | omega | (simp; omega)
 · intro h
   simp at h
   repeat' split
   all_goals omega
theorem kindOf_ret (op:Int) (n:Nat):Ret Tryz.prog 259 [iv op] [] n true (Is (iv (kindI op)) [] n):=by
 refine Ret.fn ttOk Tryz.func259 rfl Tryz.call259 rfl rfl ?_
 refine Goes ?_;repeat' first|apply W2.m|refine W1.m fun h=>?_
 all_goals (refine FinOk.pure rfl rfl rfl ⟨?_,rfl,rfl⟩; refine ivI ?_; simp [kindI, *])
theorem implProgramFault_ret (p:List Int) (n:Nat):Ret Tryz.prog 239 [il p] [] n true (Is (iv (progC p)) [] n):=by
 refine Ret.fn ttOk Tryz.func239 rfl Tryz.call239 rfl rfl ?_
 refine Goes ?_;repeat' first|apply W2.m|refine W1.m fun h=>?_
 · simp only [List.length_map] at h
   refine FinOk.pure rfl rfl rfl ⟨?_,rfl,rfl⟩; unfold progC; rw [if_pos (by omega)]
 simp only [List.length_map] at h
 refine LoopP.go (fun k:Nat=>k≤p.length∧opsB (p.take k)=true) (fun k=>⟨[(8,il p),(9,iv p.length),(10,iv k)],[],0⟩) (fun k=>p.length - k) 0 ⟨Nat.zero_le _,rfl⟩ ?_ ?_
 · rw [List.length_map]; exact (Weak.of rfl rfl ktA trivial)
 intro k ⟨hk,hp⟩
 refine Goes ?_;repeat' first|apply W2.m|refine W1.m fun h=>?_
 · have hlt:k < p.length:=by omega
   rw [rowK iv1 p k (by omega)]
   refine ⟨by (first | exact ⟨by omega,by omega,rfl⟩ | (simp only [List.length_map]; exact ⟨by omega,by omega,rfl⟩)),?_⟩
   refine Goes ?_
   first | refine CallP.is (kindOf_ret _ _) rfl ?_ | refine CallQ.is (kindOf_ret _ _) rfl rfl ?_
   refine Goes ?_;repeat' first|apply W2.m|refine W1.m fun h=>?_
   · refine FinOk.pure rfl rfl rfl ⟨?_,rfl,rfl⟩
     unfold progC; rw [if_neg (by omega),opsB_no hlt ((kindI_zero _).1 (by assumption))]; rfl
   · refine ⟨k + 1,⟨by omega,?_⟩,by omega,(Weak.of rfl rfl ktA trivial)⟩
     rw [opsB_take hlt,hp]
     cases ho:opB p[k] with
     | true=>rfl
     | false=>exact absurd ((kindI_zero _).2 ho) (by assumption)
 · refine FinOk.pure rfl rfl rfl ⟨?_,rfl,rfl⟩
   rw [List.take_of_length_le (by omega)] at hp
   unfold progC; rw [if_neg (by omega),hp]; rfl
theorem stackFault_ret (s:List Int) (n:Nat):Ret Tryz.prog 237 [il s] [] n true (Is (iv (stackC s)) [] n):=by
 refine Ret.fn ttOk Tryz.func237 rfl Tryz.call237 rfl rfl ?_
 refine Goes ?_;repeat' first|apply W2.m|refine W1.m fun h=>?_
 · simp only [List.length_map] at h
   refine FinOk.pure rfl rfl rfl ⟨?_,rfl,rfl⟩; unfold stackC; rw [if_pos (by omega)]
 simp only [List.length_map] at h
 refine LoopP.go (fun k:Nat=>k≤s.length∧allB 0 9999 (s.take k)=true) (fun k=>⟨[(8,il s),(9,iv s.length),(10,iv k)],[],0⟩) (fun k=>s.length - k) 0 ⟨Nat.zero_le _,rfl⟩ ?_ ?_
 · rw [List.length_map]; exact (Weak.of rfl rfl ktA trivial)
 intro k ⟨hk,hp⟩
 refine Goes ?_;repeat' first|apply W2.m|refine W1.m fun h=>?_
 · have hlt:k < s.length:=by omega
   rw [rowK iv1 s k (by omega)]
   refine ⟨by (first | exact ⟨by omega,by omega,rfl⟩ | (simp only [List.length_map]; exact ⟨by omega,by omega,rfl⟩)),?_⟩
   refine Goes ?_;repeat' first|apply W2.m|refine W1.m fun h=>?_
   · refine FinOk.pure rfl rfl rfl ⟨?_,rfl,rfl⟩
     unfold stackC; rw [if_neg (by omega),allB_no hlt (by omega)]; rfl
   · refine FinOk.pure rfl rfl rfl ⟨?_,rfl,rfl⟩
     unfold stackC; rw [if_neg (by omega),allB_no hlt (by omega)]; rfl
   · exact ⟨k + 1,⟨by omega,by rw [allB_take hlt,hp]; simp; omega⟩,by omega,(Weak.of rfl rfl ktA trivial)⟩
 · refine FinOk.pure rfl rfl rfl ⟨?_,rfl,rfl⟩
   rw [List.take_of_length_le (by omega)] at hp
   unfold stackC; rw [if_neg (by omega),hp]; rfl
end Go.Proofs.YtllhgcfacgiabaaGreat
