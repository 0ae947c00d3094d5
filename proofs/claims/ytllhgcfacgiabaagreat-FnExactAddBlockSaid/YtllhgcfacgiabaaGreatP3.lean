import Derived.Test.YtllhgcfacgiabaaGreatLawA
namespace Go.Proofs.YtllhgcfacgiabaaGreat
open Go Go.Am Go.RowKit
set_option linter.unusedVariables false
set_option linter.unusedSimpArgs false
theorem a9v (op:Int) (n:Nat):Ret Tryz.prog 231 [iv op] [] n true (Is (bv (opB op)) [] n):=by
 refine Ret.fn Ad Tryz.func231 rfl Tryz.call231 rfl rfl ?_
 refine Goes ?_
 refine Aa.is (Ck _ _ _ _) rfl ?_
 refine Goes ?_;repeat' first|apply W2.m|refine W1.m fun h=>?_
 · have h1:inR 1 9 op:=by assumption
   refine Ab.pure rfl rfl rfl ⟨?_,rfl,rfl⟩; refine bvI ?_; rw [a9t]; simp [h1]
 have h1:¬ inR 1 9 op:=by assumption
 refine Aa.is (Ck _ _ _ _) rfl ?_
 refine Goes ?_;repeat' first|apply W2.m|refine W1.m fun h=>?_
 refine Ab.pure rfl rfl rfl ⟨?_,rfl,rfl⟩; refine bvI ?_; rw [a9t]; simp [h1]
theorem Kl (p:List Int) (n:Nat):Ret Tryz.prog 191 [il p] [] n true (Is (iv (C3 p)) [] n):=by
 refine Ret.fn Ad Tryz.func191 rfl Tryz.call191 rfl rfl ?_
 refine Goes ?_;repeat' first|apply W2.m|refine W1.m fun h=>?_
 · simp only [List.length_map] at h
   refine Ab.pure rfl rfl rfl ⟨?_,rfl,rfl⟩; unfold C3; rw [if_pos (by omega)]
 simp only [List.length_map] at h
 refine Ao.go (fun k:Nat=>k<=p.length/\Qv (p.take k)=true) (fun k=>⟨[(0,il p),(3,iv k)],[],0⟩) (fun k=>p.length - k) 0 ⟨Nat.zero_le _,rfl⟩ (Ac.of rfl rfl ktA trivial) ?_
 intro k ⟨hk,hp⟩
 refine Goes ?_;repeat' first|apply W2.m|refine W1.m fun h=>?_
 · simp only [List.length_map] at h
   have aa:k < p.length:=by omega
   rw [A1 iv1 p k (by omega)]
   refine ⟨by (first | exact ⟨by omega,by omega,rfl⟩ | (simp only [List.length_map]; exact ⟨by omega,by omega,rfl⟩)),?_⟩
   refine Goes ?_
   refine Aa.is (a9v _ _) rfl ?_
   conv=>whnf
   cases ho:opB p[k] with
   | false =>
     repeat' first
      | (refine Bt.yes ?_; conv=>whnf)
      | (refine Bt.not ?_; conv=>whnf)
      | ((first | refine Bt.dec (fun h=>?_) (fun h=>?_) | refine Bt.ndec (fun h=>?_) (fun h=>?_)) <;> first | (exfalso; first | omega | exact h (by assumption) | exact absurd h (by assumption)) | (conv=>whnf))
      | (refine a7j.mk ?_ ?_ <;> (conv=>whnf))
      | (refine Pu.mk (by repeat' first | exact trivial | rfl | refine And.intro ?_ ?_) ?_; conv=>whnf)
      | (refine And.intro (by first | decide | omega) ?_; conv=>whnf)
      | fail
     refine Ab.pure rfl rfl rfl ⟨?_,rfl,rfl⟩
     unfold C3; rw [if_neg (by omega),a6G aa ho]; rfl
   | true =>
     repeat' first
      | (refine Bt.yes ?_; conv=>whnf)
      | (refine Bt.not ?_; conv=>whnf)
      | ((first | refine Bt.dec (fun h=>?_) (fun h=>?_) | refine Bt.ndec (fun h=>?_) (fun h=>?_)) <;> first | (exfalso; first | omega | exact h (by assumption) | exact absurd h (by assumption)) | (conv=>whnf))
      | (refine a7j.mk ?_ ?_ <;> (conv=>whnf))
      | (refine Pu.mk (by repeat' first | exact trivial | rfl | refine And.intro ?_ ?_) ?_; conv=>whnf)
      | (refine And.intro (by first | decide | omega) ?_; conv=>whnf)
      | fail
     exact ⟨k + 1,⟨by omega,by rw [a01 aa,hp,ho]; rfl⟩,by omega,(Ac.of rfl rfl ktA trivial)⟩
 · simp only [List.length_map] at h
   refine Ab.pure rfl rfl rfl ⟨?_,rfl,rfl⟩
   rw [List.take_of_length_le (by omega)] at hp
   unfold C3; rw [if_neg (by omega),hp]; rfl
def Eh (op:Int):Int:=if op=1 then 2 else if op=2∨op=6∨op=7∨op=9 then 3 else if op=3∨op=4∨op=5∨op=8 then 4 else if 100<=op/\op<=1099 then 1 else 0
theorem Ya (op:Int):Eh op=0↔opB op=false:=by
 unfold Eh opB
 constructor
 · intro h
   repeat' split at h
   all_goals first | omega | (simp; omega)
 · intro h
   simp at h
   repeat' split
   all_goals omega
theorem Bm (op:Int) (n:Nat):Ret Tryz.prog 259 [iv op] [] n true (Is (iv (Eh op)) [] n):=by
 refine Ret.fn Ad Tryz.func259 rfl Tryz.call259 rfl rfl ?_
 refine Goes ?_;repeat' first|apply W2.m|refine W1.m fun h=>?_
 all_goals (refine Ab.pure rfl rfl rfl ⟨?_,rfl,rfl⟩; refine ivI ?_; simp [Eh, *])
theorem Fh (p:List Int) (n:Nat):Ret Tryz.prog 239 [il p] [] n true (Is (iv (C3 p)) [] n):=by
 refine Ret.fn Ad Tryz.func239 rfl Tryz.call239 rfl rfl ?_
 refine Goes ?_;repeat' first|apply W2.m|refine W1.m fun h=>?_
 · simp only [List.length_map] at h
   refine Ab.pure rfl rfl rfl ⟨?_,rfl,rfl⟩; unfold C3; rw [if_pos (by omega)]
 simp only [List.length_map] at h
 refine Ao.go (fun k:Nat=>k<=p.length/\Qv (p.take k)=true) (fun k=>⟨[(8,il p),(9,iv p.length),(10,iv k)],[],0⟩) (fun k=>p.length - k) 0 ⟨Nat.zero_le _,rfl⟩ ?_ ?_
 · rw [List.length_map]; exact (Ac.of rfl rfl ktA trivial)
 intro k ⟨hk,hp⟩
 refine Goes ?_;repeat' first|apply W2.m|refine W1.m fun h=>?_
 · have aa:k < p.length:=by omega
   rw [A1 iv1 p k (by omega)]
   refine ⟨by (first | exact ⟨by omega,by omega,rfl⟩ | (simp only [List.length_map]; exact ⟨by omega,by omega,rfl⟩)),?_⟩
   refine Goes ?_
   refine Aa.is (Bm _ _) rfl ?_
   refine Goes ?_;repeat' first|apply W2.m|refine W1.m fun h=>?_
   · refine Ab.pure rfl rfl rfl ⟨?_,rfl,rfl⟩
     unfold C3; rw [if_neg (by omega),a6G aa ((Ya _).1 (by assumption))]; rfl
   · refine ⟨k + 1,⟨by omega,?_⟩,by omega,(Ac.of rfl rfl ktA trivial)⟩
     rw [a01 aa,hp]
     cases ho:opB p[k] with
     | true=>rfl
     | false=>exact absurd ((Ya _).2 ho) (by assumption)
 · refine Ab.pure rfl rfl rfl ⟨?_,rfl,rfl⟩
   rw [List.take_of_length_le (by omega)] at hp
   unfold C3; rw [if_neg (by omega),hp]; rfl
theorem N0 (s:List Int) (n:Nat):Ret Tryz.prog 237 [il s] [] n true (Is (iv (C9 s)) [] n):=by
 refine Ret.fn Ad Tryz.func237 rfl Tryz.call237 rfl rfl ?_
 refine Goes ?_;repeat' first|apply W2.m|refine W1.m fun h=>?_
 · simp only [List.length_map] at h
   refine Ab.pure rfl rfl rfl ⟨?_,rfl,rfl⟩; unfold C9; rw [if_pos (by omega)]
 simp only [List.length_map] at h
 refine Ao.go (fun k:Nat=>k<=s.length/\Dg 0 9999 (s.take k)=true) (fun k=>⟨[(8,il s),(9,iv s.length),(10,iv k)],[],0⟩) (fun k=>s.length - k) 0 ⟨Nat.zero_le _,rfl⟩ ?_ ?_
 · rw [List.length_map]; exact (Ac.of rfl rfl ktA trivial)
 intro k ⟨hk,hp⟩
 refine Goes ?_;repeat' first|apply W2.m|refine W1.m fun h=>?_
 · have aa:k < s.length:=by omega
   rw [A1 iv1 s k (by omega)]
   refine ⟨by (first | exact ⟨by omega,by omega,rfl⟩ | (simp only [List.length_map]; exact ⟨by omega,by omega,rfl⟩)),?_⟩
   refine Goes ?_;repeat' first|apply W2.m|refine W1.m fun h=>?_
   · refine Ab.pure rfl rfl rfl ⟨?_,rfl,rfl⟩
     unfold C9; rw [if_neg (by omega),R3 aa (by omega)]; rfl
   · refine Ab.pure rfl rfl rfl ⟨?_,rfl,rfl⟩
     unfold C9; rw [if_neg (by omega),R3 aa (by omega)]; rfl
   · exact ⟨k + 1,⟨by omega,by rw [O5 aa,hp]; simp; omega⟩,by omega,(Ac.of rfl rfl ktA trivial)⟩
 · refine Ab.pure rfl rfl rfl ⟨?_,rfl,rfl⟩
   rw [List.take_of_length_le (by omega)] at hp
   unfold C9; rw [if_neg (by omega),hp]; rfl
theorem Se (p s:List Int) (t h:Int) (n:Nat):Ret Tryz.prog 267 [il p,il s,iv t,iv h] [] n true (Is (iv (Jy p s t h)) [] n):=by
 refine Ret.fn Ad Tryz.func267 rfl Tryz.call267 rfl rfl ?_
 refine Goes ?_
 refine Aa.is (Fh _ _) rfl ?_
 refine Goes ?_;repeat' first|apply W2.m|refine W1.m fun h=>?_
 · refine Ab.pure rfl rfl rfl ⟨?_,rfl,rfl⟩
   unfold Jy; rw [if_neg (by assumption)]
 refine Aa.is (N0 _ _) rfl ?_
 refine Goes ?_;repeat' first|apply W2.m|refine W1.m fun h=>?_
 · refine Ab.pure rfl rfl rfl ⟨?_,rfl,rfl⟩
   unfold Jy; rw [if_pos (by omega),if_neg (by assumption)]
 refine Aa.is (Hr _ _) rfl ?_
 refine Goes ?_;repeat' first|apply W2.m|refine W1.m fun h=>?_
 · refine Ab.pure rfl rfl rfl ⟨?_,rfl,rfl⟩
   unfold Jy; rw [if_pos (by omega),if_pos (by omega),if_neg (fun h'=>absurd h'.1 (by assumption))]
 refine Aa.is (Jc _ _) rfl ?_
 refine Goes ?_;repeat' first|apply W2.m|refine W1.m fun h=>?_
 · refine Ab.pure rfl rfl rfl ⟨?_,rfl,rfl⟩
   unfold Jy; rw [if_pos (by omega),if_pos (by omega),if_neg (fun h'=>absurd h'.2 (by assumption))]
 · refine Ab.pure rfl rfl rfl ⟨?_,rfl,rfl⟩
   unfold Jy; rw [if_pos (by omega),if_pos (by omega),if_pos ⟨by assumption,by assumption⟩]
abbrev mh (i j:Nat) (s e:List Int) (t u:Int):Hp:=[(i,.box [.own j s.length,iv t,iv u]),(j,.list 2 1 (ivs (s++e)))]
theorem b1k (s e:List Int):List.take s.length (ivs (s++e))=ivs s:=by
 rw [show ivs (s++e)=ivs s++ivs e from List.map_append ..,List.take_left' (by simp)]
theorem b1w (s e:List Int) (x:Int):(ivs (s++[x]++e)).getD (Int.toNat (s.length:Int)) []=[iv x]:=by
 rw [A1 iv1 _ _ (by simp)]; simp
theorem b1x (s:List Int) (x:Int) (h:s.length<=1000):IntKind.i64.wrap (((s++[x]).length:Nat) - 1:Int)=(s.length:Int):=by
 rw [List.length_append]; simp only [List.length_cons,List.length_nil]; rw [IntWalk.i64_in _ (by omega)]; omega
theorem G7 (i j n:Nat) (ah:i≠j) (s e:List Int) (x t u:Int) (hl:s.length<=1000) :
 Ret Tryz.prog 274 [.pt i 0 0,iv x] (mh i j s e t u) n false (Is (.tup []) (mh i j (s++[x]) [] t u) n):=by
 refine Ret.of_run (tt:=tt) Ad Tryz.func274 rfl Tryz.call274 [i,j] [.box [.own 1 s.length,iv t,iv u],.list 2 1 (ivs (s++e))] [.pt 0 0 0,iv x] false n _ rfl (Bc ah) (by exact Nat.le_of_ble_eq_true rfl) rfl rfl ?_
 refine Goes ?_
 refine ⟨⟨Az,Az,Az,Az,Ky⟩,?_⟩
 refine Goes ?_
 refine Ab.mk' [] rfl rfl rfl rfl rfl rfl rfl ⟨?_,?_,rfl⟩
 · rfl
 · show [(i,A2.box [.own j (s.length + 1),iv t,iv u]),(j,.list 2 1 (List.take s.length (ivs (s++e))++[[iv x]]))]=_
   unfold mh
   rw [b1k,List.append_nil,List.length_append,show ivs (s++[x])=ivs s++[[iv x]] from by simp]
   rfl
theorem El (i j n:Nat) (ah:i≠j) (s e:List Int) (x t u:Int) (hl:s.length<=1000) :
 Ret Tryz.prog 291 [.pt i 0 0] (mh i j (s++[x]) e t u) n false (Is (iv x) (mh i j s (x::e) t u) n):=by
 refine Ret.of_run (tt:=tt) Ad Tryz.func291 rfl Tryz.call291 [i,j] [.box [.own 1 (s++[x]).length,iv t,iv u],.list 2 1 (ivs (s++[x]++e))] [.pt 0 0 0] false n _ rfl (Bc ah) (by exact Nat.le_of_ble_eq_true rfl) rfl rfl ?_
 refine Goes ?_
 simp only [b1x s x hl]
 refine ⟨⟨by omega,by simp; omega⟩,?_⟩
 refine Goes ?_
 rw [b1w]
 refine ⟨by simp,?_⟩
 refine Goes ?_
 refine ⟨⟨rfl,by omega,by simp; omega⟩,?_⟩
 refine Goes ?_
 refine Ab.mk' [] rfl rfl rfl rfl rfl rfl rfl ⟨?_,?_,rfl⟩
 · rfl
 · show [(i,A2.box [.own j s.length,iv t,iv u]),(j,.list 2 1 (ivs (s++[x]++e)))]=_
   unfold mh
   rw [List.append_assoc]; rfl
theorem Ms (i j n:Nat) (ah:i≠j) (s e:List Int) (b:Bool) (t u:Int) (hl:s.length<=1000) :
 Ret Tryz.prog 292 [.pt i 0 0,bv b] (mh i j s e t u) n false (Is (.tup []) (mh i j (s++[Kh b]) [] t u) n):=by
 refine Ret.of_run (tt:=tt) Ad Tryz.func292 rfl Tryz.call292 [i,j] [.box [.own 1 (s).length,iv t,iv u],.list 2 1 (ivs ((s)++(e)))] [.pt 0 0 0,bv b] false n _ rfl (Bc ah) (by exact Nat.le_of_ble_eq_true rfl) rfl rfl ?_
 refine Goes ?_
 cases b with
 | true =>
   repeat' first
    | (refine Bt.yes ?_; conv=>whnf)
    | (refine Bt.not ?_; conv=>whnf)
    | ((first | refine Bt.dec (fun h=>?_) (fun h=>?_) | refine Bt.ndec (fun h=>?_) (fun h=>?_)) <;> first | (exfalso; first | omega | exact h (by assumption) | exact absurd h (by assumption)) | (conv=>whnf))
    | (refine a7j.mk ?_ ?_ <;> (conv=>whnf))
    | (refine Pu.mk (by repeat' first | exact trivial | rfl | refine And.intro ?_ ?_) ?_; conv=>whnf)
    | (refine And.intro (by first | decide | omega) ?_; conv=>whnf)
    | fail
   refine Aa.heapIs (G7 0 1 _ (by decide) (s) (e) (1) t u (Az)) rfl ktA rfl ?_
   refine Goes ?_
   refine Ab.mk' [] rfl rfl rfl rfl rfl rfl rfl ⟨?_,?_,rfl⟩
   · rfl
   · rfl
 | false =>
   repeat' first
    | (refine Bt.yes ?_; conv=>whnf)
    | (refine Bt.not ?_; conv=>whnf)
    | ((first | refine Bt.dec (fun h=>?_) (fun h=>?_) | refine Bt.ndec (fun h=>?_) (fun h=>?_)) <;> first | (exfalso; first | omega | exact h (by assumption) | exact absurd h (by assumption)) | (conv=>whnf))
    | (refine a7j.mk ?_ ?_ <;> (conv=>whnf))
    | (refine Pu.mk (by repeat' first | exact trivial | rfl | refine And.intro ?_ ?_) ?_; conv=>whnf)
    | (refine And.intro (by first | decide | omega) ?_; conv=>whnf)
    | fail
   refine Aa.heapIs (G7 0 1 _ (by decide) (s) (e) (0) t u (Az)) rfl ktA rfl ?_
   refine Goes ?_
   refine Ab.mk' [] rfl rfl rfl rfl rfl rfl rfl ⟨?_,?_,rfl⟩
   · rfl
   · rfl
theorem b0M (i j n:Nat) (ah:i≠j) (s e:List Int) (x t u:Int) (hl:s.length<=900) :
 Ret Tryz.prog 278 [.pt i 0 0] (mh i j (s++[x]) e t u) n false (Is (iv 0) (mh i j (s++[x]++[x]) [] t u) n):=by
 refine Ret.of_run (tt:=tt) Ad Tryz.func278 rfl Tryz.call278 [i,j] [.box [.own 1 (s++[x]).length,iv t,iv u],.list 2 1 (ivs ((s++[x])++(e)))] [.pt 0 0 0] false n _ rfl (Bc ah) (by exact Nat.le_of_ble_eq_true rfl) rfl rfl ?_
 refine Goes ?_
 refine Aa.heapIs (El 0 1 _ (by decide) (s) (e) (x) t u (Az)) rfl ktA rfl ?_
 refine Goes ?_
 refine Aa.heapIs (G7 0 1 _ (by decide) (s) (x::e) (x) t u (Az)) rfl ktA rfl ?_
 refine Goes ?_
 refine Aa.heapIs (G7 0 1 _ (by decide) (s++[x]) ([]) (x) t u (Az)) rfl ktA rfl ?_
 refine Goes ?_
 refine Ab.mk' [] rfl rfl rfl rfl rfl rfl rfl ⟨?_,?_,rfl⟩
 · rfl
 · rfl
theorem a9w (i j n:Nat) (ah:i≠j) (s e:List Int) (x t u:Int) (hl:s.length<=900) :
 Ret Tryz.prog 279 [.pt i 0 0] (mh i j (s++[x]) e t u) n false (Is (iv 0) (mh i j s (x::e) t u) n):=by
 refine Ret.of_run (tt:=tt) Ad Tryz.func279 rfl Tryz.call279 [i,j] [.box [.own 1 (s++[x]).length,iv t,iv u],.list 2 1 (ivs ((s++[x])++(e)))] [.pt 0 0 0] false n _ rfl (Bc ah) (by exact Nat.le_of_ble_eq_true rfl) rfl rfl ?_
 refine Goes ?_
 refine Aa.heapIs (El 0 1 _ (by decide) (s) (e) (x) t u (Az)) rfl ktA rfl ?_
 refine Goes ?_
 refine Ab.mk' [] rfl rfl rfl rfl rfl rfl rfl ⟨?_,?_,rfl⟩
 · rfl
 · rfl
theorem a9x (i j n:Nat) (ah:i≠j) (s e:List Int) (y x t u:Int) (hl:s.length<=900) :
 Ret Tryz.prog 280 [.pt i 0 0] (mh i j (s++[y]++[x]) e t u) n false (Is (iv 0) (mh i j (s++[x]++[y]) [] t u) n):=by
 refine Ret.of_run (tt:=tt) Ad Tryz.func280 rfl Tryz.call280 [i,j] [.box [.own 1 (s++[y]++[x]).length,iv t,iv u],.list 2 1 (ivs ((s++[y]++[x])++(e)))] [.pt 0 0 0] false n _ rfl (Bc ah) (by exact Nat.le_of_ble_eq_true rfl) rfl rfl ?_
 refine Goes ?_
 refine Aa.heapIs (El 0 1 _ (by decide) (s++[y]) (e) (x) t u (Az)) rfl ktA rfl ?_
 refine Goes ?_
 refine Aa.heapIs (El 0 1 _ (by decide) (s) (x::e) (y) t u (Az)) rfl ktA rfl ?_
 refine Goes ?_
 refine Aa.heapIs (G7 0 1 _ (by decide) (s) (y::x::e) (x) t u (Az)) rfl ktA rfl ?_
 refine Goes ?_
 refine Aa.heapIs (G7 0 1 _ (by decide) (s++[x]) ([]) (y) t u (Az)) rfl ktA rfl ?_
 refine Goes ?_
 refine Ab.mk' [] rfl rfl rfl rfl rfl rfl rfl ⟨?_,?_,rfl⟩
 · rfl
 · rfl
theorem b0N (i j n:Nat) (ah:i≠j) (s e:List Int) (y x t u:Int) (hl:s.length<=900) (hx:inR 0 9999 x) (hy:inR 0 9999 y) (hs:¬ 9999 < x + y) :
 Ret Tryz.prog 281 [.pt i 0 0] (mh i j (s++[y]++[x]) e t u) n false (Is (iv 0) (mh i j (s++[x + y]) [] t u) n):=by
 unfold inR at hx hy
 have hw:=IntWalk.i64_in (x + y) (by omega)
 refine Ret.of_run (tt:=tt) Ad Tryz.func281 rfl Tryz.call281 [i,j] [.box [.own 1 (s++[y]++[x]).length,iv t,iv u],.list 2 1 (ivs ((s++[y]++[x])++(e)))] [.pt 0 0 0] false n _ rfl (Bc ah) (by exact Nat.le_of_ble_eq_true rfl) rfl rfl ?_
 refine Goes ?_
 refine Aa.heapIs (El 0 1 _ (by decide) (s++[y]) (e) (x) t u (Az)) rfl ktA rfl ?_
 refine Goes ?_
 refine Aa.heapIs (El 0 1 _ (by decide) (s) (x::e) (y) t u (Az)) rfl ktA rfl ?_
 refine Goes ?_;repeat' first|apply W2.m|refine W1.m fun h=>?_
 rw [hw]
 refine Aa.heapIs (G7 0 1 _ (by decide) (s) (y::x::e) (x + y) t u (Az)) rfl ktA rfl ?_
 refine Goes ?_
 refine Ab.mk' [] rfl rfl rfl rfl rfl rfl rfl ⟨?_,?_,rfl⟩
 · rfl
 · rfl
theorem b1y (i j n:Nat) (ah:i≠j) (s e:List Int) (y x t u:Int) (hl:s.length<=900) (hx:inR 0 9999 x) (hy:inR 0 9999 y) (hs:9999 < x + y) :
 Ret Tryz.prog 281 [.pt i 0 0] (mh i j (s++[y]++[x]) e t u) n false (Is (iv 3) (mh i j s (y::x::e) t u) n):=by
 unfold inR at hx hy
 have hw:=IntWalk.i64_in (x + y) (by omega)
 refine Ret.of_run (tt:=tt) Ad Tryz.func281 rfl Tryz.call281 [i,j] [.box [.own 1 (s++[y]++[x]).length,iv t,iv u],.list 2 1 (ivs ((s++[y]++[x])++(e)))] [.pt 0 0 0] false n _ rfl (Bc ah) (by exact Nat.le_of_ble_eq_true rfl) rfl rfl ?_
 refine Goes ?_
 refine Aa.heapIs (El 0 1 _ (by decide) (s++[y]) (e) (x) t u (Az)) rfl ktA rfl ?_
 refine Goes ?_
 refine Aa.heapIs (El 0 1 _ (by decide) (s) (x::e) (y) t u (Az)) rfl ktA rfl ?_
 refine Goes ?_;repeat' first|apply W2.m|refine W1.m fun h=>?_
 refine Ab.mk' [] rfl rfl rfl rfl rfl rfl rfl ⟨?_,?_,rfl⟩
 · rfl
 · rfl
theorem a7K (i j n:Nat) (ah:i≠j) (s e:List Int) (y x t u:Int) (hl:s.length<=900) :
 Ret Tryz.prog 282 [.pt i 0 0] (mh i j (s++[y]++[x]) e t u) n false (Is (iv 0) (mh i j (s++[Kh (decide (x=y))]) [] t u) n):=by
 refine Ret.of_run (tt:=tt) Ad Tryz.func282 rfl Tryz.call282 [i,j] [.box [.own 1 (s++[y]++[x]).length,iv t,iv u],.list 2 1 (ivs ((s++[y]++[x])++(e)))] [.pt 0 0 0] false n _ rfl (Bc ah) (by exact Nat.le_of_ble_eq_true rfl) rfl rfl ?_
 refine Goes ?_
 refine Aa.heapIs (El 0 1 _ (by decide) (s++[y]) (e) (x) t u (Az)) rfl ktA rfl ?_
 refine Goes ?_
 refine Aa.heapIs (El 0 1 _ (by decide) (s) (x::e) (y) t u (Az)) rfl ktA rfl ?_
 refine Goes ?_
 refine Aa.heapIs (Ms 0 1 _ (by decide) s (y::x::e) (decide (x=y)) t u Az) rfl ktA rfl ?_
 refine Goes ?_
 refine Ab.mk' [] rfl rfl rfl rfl rfl rfl rfl ⟨?_,?_,rfl⟩
 · rfl
 · rfl
theorem a5p (i j n:Nat) (ah:i≠j) (s e:List Int) (x t u:Int) (hl:s.length<=900) :
 Ret Tryz.prog 283 [.pt i 0 0] (mh i j (s++[x]) e t u) n false (Is (iv (if x=0 then 8 else 0)) (mh i j s (x::e) t u) n):=by
 refine Ret.of_run (tt:=tt) Ad Tryz.func283 rfl Tryz.call283 [i,j] [.box [.own 1 (s++[x]).length,iv t,iv u],.list 2 1 (ivs ((s++[x])++(e)))] [.pt 0 0 0] false n _ rfl (Bc ah) (by exact Nat.le_of_ble_eq_true rfl) rfl rfl ?_
 refine Goes ?_
 refine Aa.heapIs (El 0 1 _ (by decide) (s) (e) (x) t u (Az)) rfl ktA rfl ?_
 refine Goes ?_;repeat' first|apply W2.m|refine W1.m fun h=>?_
 · refine Ab.mk' [] rfl rfl rfl rfl rfl rfl rfl ⟨?_,?_,rfl⟩
   · rw [if_pos (by assumption)]; rfl
   · rfl
 · refine Ab.mk' [] rfl rfl rfl rfl rfl rfl rfl ⟨?_,?_,rfl⟩
   · rw [if_neg (by assumption)]; rfl
   · rfl
theorem b11 {x:Int} (h:inR 0 9999 x):Dg 0 2147483646 [x]=true:=by
 unfold inR at h
 simp [Dg]; omega
theorem b0O (i j n:Nat) (ah:i≠j) (s e:List Int) (x t u:Int) (hl:s.length<=900) (hx:inR 0 9999 x) :
 Ret Tryz.prog 284 [.pt i 0 0] (mh i j (s++[x]) e t u) n false (Is (iv 0) (mh i j (s++[Mo [x] % 1000]) [] t u) n):=by
 refine Ret.of_run (tt:=tt) Ad Tryz.func284 rfl Tryz.call284 [i,j] [.box [.own 1 (s++[x]).length,iv t,iv u],.list 2 1 (ivs ((s++[x])++(e)))] [.pt 0 0 0] false n _ rfl (Bc ah) (by exact Nat.le_of_ble_eq_true rfl) rfl rfl ?_
 refine Goes ?_
 refine Aa.heapIs (El 0 1 _ (by decide) (s) (e) (x) t u (Az)) rfl ktA rfl ?_
 refine Goes ?_
 refine Aa.convIs (Sa [x] _ (Nat.le_of_ble_eq_true rfl) (b11 hx)) ?_ ?_ rfl trivial ?_
 · rfl
 · exact (by repeat' first | exact trivial | exact Nat.le_refl _ | (show _<=List.length _; exact Az) | refine And.intro ?_ ?_)
 refine Goes ?_
 refine Aa.heapIs (G7 0 1 _ (by decide) (s) (x::e) (Mo [x] % 1000) t u (Az)) rfl ktA rfl ?_
 refine Goes ?_
 refine Ab.mk' [] rfl rfl rfl rfl rfl rfl rfl ⟨?_,?_,rfl⟩
 · rfl
 · rfl
theorem a9y (i j n:Nat) (ah:i≠j) (s e:List Int) (y x t u:Int) (hl:s.length<=900) (ht:inR 0 2147483646 t) :
 Ret Tryz.prog 285 [.pt i 0 0] (mh i j (s++[y]++[x]) e t u) n false (Is (iv 0) (mh i j (s++[Kh (decide (inR 0 899 x)&&decide (Ve x t=y))]) [] t u) n):=by
 refine Ret.of_run (tt:=tt) Ad Tryz.func285 rfl Tryz.call285 [i,j] [.box [.own 1 (s++[y]++[x]).length,iv t,iv u],.list 2 1 (ivs ((s++[y]++[x])++(e)))] [.pt 0 0 0] false n _ rfl (Bc ah) (by exact Nat.le_of_ble_eq_true rfl) rfl rfl ?_
 refine Goes ?_
 refine Aa.heapIs (El 0 1 _ (by decide) (s++[y]) (e) (x) t u (Az)) rfl ktA rfl ?_
 refine Goes ?_
 refine Aa.heapIs (El 0 1 _ (by decide) (s) (x::e) (y) t u (Az)) rfl ktA rfl ?_
 refine Goes ?_
 by_cases hk:inR 0 899 x
 · have hs:=Ny x t
   have e1:Vf x t=[iv 0,iv (Ve x t)]:=by unfold Vf; rw [if_pos ⟨hk,ht⟩]
   rw [e1] at hs
   refine Aa.is (hs _) rfl ?_
   refine Goes ?_
   refine Aa.heapIs (Ms 0 1 _ (by decide) s (y::x::e) _ t u Az) rfl ktA rfl ?_
   refine Goes ?_
   refine Ab.mk' [] rfl rfl rfl rfl rfl rfl rfl ⟨?_,?_,rfl⟩
   · rfl
   · rw [decide_eq_true hk,Bool.true_and]; rfl
 · have hs:=Ny x t
   have e1:Vf x t=[iv 3,iv 0]:=by unfold Vf; rw [if_neg (fun h'=>hk h'.1)]
   rw [e1] at hs
   refine Aa.is (hs _) rfl ?_
   refine Goes ?_
   refine Aa.heapIs (Ms 0 1 _ (by decide) s (y::x::e) _ t u Az) rfl ktA rfl ?_
   refine Goes ?_
   refine Ab.mk' [] rfl rfl rfl rfl rfl rfl rfl ⟨?_,?_,rfl⟩
   · rfl
   · rw [decide_eq_false hk,Bool.false_and]; rfl
theorem a7L (i j n:Nat) (ah:i≠j) (s e:List Int) (x t u:Int) (hl:s.length<=900) :
 Ret Tryz.prog 286 [.pt i 0 0] (mh i j (s++[x]) e t u) n false (Is (iv (if u < x then 8 else 0)) (mh i j s (x::e) t u) n):=by
 refine Ret.of_run (tt:=tt) Ad Tryz.func286 rfl Tryz.call286 [i,j] [.box [.own 1 (s++[x]).length,iv t,iv u],.list 2 1 (ivs ((s++[x])++(e)))] [.pt 0 0 0] false n _ rfl (Bc ah) (by exact Nat.le_of_ble_eq_true rfl) rfl rfl ?_
 refine Goes ?_;repeat' first|apply W2.m|refine W1.m fun h=>?_
 all_goals (refine Aa.heapIs (El 0 1 _ (by decide) (s) (e) (x) t u (Az)) rfl ktA rfl ?_
            refine Goes ?_;repeat' first|apply W2.m|refine W1.m fun h=>?_)
 all_goals first
  | (have m6:u < x:=by assumption
     refine Ab.mk' [] rfl rfl rfl rfl rfl rfl rfl ⟨?_,?_,rfl⟩
     · rw [if_pos m6]; rfl
     · rfl)
  | (refine Ab.mk' [] rfl rfl rfl rfl rfl rfl rfl ⟨?_,?_,rfl⟩
     · rw [if_neg (by assumption)]; rfl
     · rfl)
def Bj (k:Int) (n:Nat):Int:=if k=4 then (if n < 2 then 4 else 0) else if k=3 then (if n < 1 then 4 else 0) else if k=2 then (if n < 1 then 4 else if n=8 then 10 else 0) else if k=1 then (if n=8 then 10 else 0) else 0
theorem A6 (i j n:Nat) (ah:i≠j) (s e:List Int) (k t u:Int) (hl:s.length<=8) (hk:1<=k/\k<=4) :
 Ret Tryz.prog 273 [.pt i 0 0,iv k] (mh i j s e t u) n true (Is (iv (Bj k s.length)) (mh i j s e t u) n):=by
 refine Ret.of_run (tt:=tt) Ad Tryz.func273 rfl Tryz.call273 [i,j] [.box [.own 1 s.length,iv t,iv u],.list 2 1 (ivs (s++e))] [.pt 0 0 0,iv k] true n _ rfl (Bc ah) (by exact Nat.le_of_ble_eq_true rfl) rfl rfl ?_
 have aW:k=1∨k=2∨k=3∨k=4:=by omega
 rcases aW with rfl | rfl | rfl | rfl
 all_goals (refine Goes ?_;repeat' first|apply W2.m|refine W1.m fun h=>?_)
 all_goals (refine Ab.mk' [] rfl rfl rfl rfl rfl rfl rfl ⟨?_,?_,rfl⟩)
 all_goals first
  | rfl
  | (refine ivI ?_; unfold Bj; (repeat' split) <;> omega)
abbrev fv (f:Nat):AV:=.val (.func (.func f) #[] #[])
abbrev b2j:List AV:=[.val .nilFunc,fv 278,fv 279,fv 280,fv 281,fv 282,fv 283,fv 284,fv 285,fv 286]
theorem Cl (n:Nat):Ret Tryz.prog 275 [] [] n true (Is (.agg b2j) [] n):=by
 refine Ret.fn Ad Tryz.func275 rfl Tryz.call275 rfl rfl ?_
 refine Goes ?_
 refine Ab.pure rfl rfl rfl ⟨?_,rfl,rfl⟩
 rfl
end Go.Proofs.YtllhgcfacgiabaaGreat
