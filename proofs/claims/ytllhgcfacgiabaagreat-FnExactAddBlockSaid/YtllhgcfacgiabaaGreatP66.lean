import Derived.Test.YtllhgcfacgiabaaGreatP41
namespace Go.Proofs.YtllhgcfacgiabaaGreat
open Go Go.Am Go.RowKit
set_option linter.unusedVariables false
set_option linter.unusedSimpArgs false
structure Bw (α:Type) where
 tx:α->Int
 out:α->Int
 v2:α->Value
 v3:α->Value
 v4:α->Value
 v5:α->Value
namespace Bw
variable {α:Type} (C:Bw α)
abbrev row (x:α):List AV:=[iv (C.tx x),iv (C.out x),.val (C.v2 x),.val (C.v3 x),.val (C.v4 x),.val (C.v5 x)]
def lt (x y:α):Prop:=C.tx x < C.tx y∨C.tx x=C.tx y/\C.out x < C.out y
instance (x y:α):Decidable (C.lt x y):=inferInstanceAs (Decidable (_∨_))
def le (x y:α):Prop:=¬ C.lt y x
theorem le_trans {x y z:α} (h:C.le x y) (k:C.le y z):C.le x z:=by unfold le lt at *; omega
theorem lt_le {x y:α} (h:C.lt x y):C.le x y:=by unfold le lt at *; omega
theorem le_refl (x:α):C.le x x:=by unfold le lt; omega
def cmp (x y:α):Int:=if Sr (C.tx x) (C.tx y)≠0 then Sr (C.tx x) (C.tx y) else Sr (C.out x) (C.out y)
theorem cmp_lt (x y:α):C.cmp x y < 0↔C.lt x y:=by
 unfold cmp lt Sr
 repeat' split
 all_goals omega
def rows (f:Nat->α) (N:Nat):List (List AV):=(List.range N).map fun k=>C.row (f k)
theorem rows_len (f:Nat->α) (N:Nat):(C.rows f N).length=N:=by simp [rows]
theorem rows_at (f:Nat->α) {N k:Nat} (h:k < N):(C.rows f N).getD k []=C.row (f k):=by
 simp [rows,List.getD_eq_getElem?_getD,h]
end Bw
def b14 {α:Type} (f:Nat->α) (k:Nat) (x:α):Nat->α:=fun q=>if q=k then x else f q
theorem Bw.rows_set {α:Type} (C:Bw α) (f:Nat->α) {N k:Nat} (h:k < N) (x:α) (s:Nat) (hs:s=6) :
 (C.rows f N).set k (((C.rows f N).getD k []).take 0++(AV.agg (C.row x)).cells++((C.rows f N).getD k []).drop (0 + s))=C.rows (b14 f k x) N:=by
 subst hs
 rw [C.rows_at f h]
 simp only [List.take_zero,List.nil_append,AV.cells,List.drop_succ_cons,List.drop_zero,List.append_nil,Nat.zero_add]
 apply List.ext_getElem
 · simp [Bw.rows]
 · intro i h1 h2
   simp only [Bw.rows,List.getElem_set,List.getElem_map,List.getElem_range,b14]
   by_cases e:k=i
   · subst e; simp
   · rw [if_neg e,if_neg (fun e'=>e e'.symm)]
theorem Bw.rows_congr {α:Type} (C:Bw α) {f g:Nat->α} {N:Nat} (h:∀ k,k < N->f k=g k):C.rows f N=C.rows g N:=by
 unfold Bw.rows
 exact List.map_congr_left fun k hk=>by rw [h k (List.mem_range.1 hk)]
theorem D2 {α:Type} (C:Bw α) (x y:α) (n:Nat):Ret Tryz.prog 252 [.agg (C.row x),.agg (C.row y)] [] n true (Is (iv (C.cmp x y)) [] n):=by
 refine Ret.fn Ad Tryz.func252 rfl Tryz.call252 rfl rfl ?_
 refine Goes ?_
 refine B8.is (Kp (C.tx x) (C.tx y) _) rfl rfl ?_
 refine Goes ?_
 refine B8.is (Kp (C.out x) (C.out y) _) rfl rfl ?_
 refine Goes ?_
 refine Aa.is (a1e [Sr (C.tx x) (C.tx y),Sr (C.out x) (C.out y)] _ (Nat.le_of_ble_eq_true rfl)) rfl ?_
 refine Goes ?_
 refine Ab.pure rfl rfl rfl ⟨?_,rfl,rfl⟩
 refine ivI ?_
 simp only [orF,Bw.cmp]
 split <;> first | rfl | (split <;> first | rfl | omega)
abbrev F0:AV:=fv 252
theorem Bw.rowsK {α:Type} (C:Bw α) (f:Nat->α) {N:Nat} (k:Nat) (h:k < N):(C.rows f N).getD (Int.toNat (k:Int)) []=C.row (f k):=C.rows_at f h
theorem Bw.rows_swap {α:Type} (C:Bw α) (f:Nat->α) {N i j:Nat} (hi:i < N) (hj:j < N) (s:Nat) (hs:s=6) :
 ((C.rows f N).set (Int.toNat (i:Int)) (((C.rows f N).getD (Int.toNat (i:Int)) []).take 0++(AV.agg (C.row (f j))).cells++((C.rows f N).getD (Int.toNat (i:Int)) []).drop (0 + s))).set (Int.toNat (j:Int))
   ((((C.rows f N).set (Int.toNat (i:Int)) (((C.rows f N).getD (Int.toNat (i:Int)) []).take 0++(AV.agg (C.row (f j))).cells++((C.rows f N).getD (Int.toNat (i:Int)) []).drop (0 + s))).getD (Int.toNat (j:Int)) []).take 0++(AV.agg (C.row (f i))).cells ++
     (((C.rows f N).set (Int.toNat (i:Int)) (((C.rows f N).getD (Int.toNat (i:Int)) []).take 0++(AV.agg (C.row (f j))).cells++((C.rows f N).getD (Int.toNat (i:Int)) []).drop (0 + s))).getD (Int.toNat (j:Int)) []).drop (0 + s))=C.rows (fun k=>if k=j then f i else if k=i then f j else f k) N:=by
 simp only [Int.toNat_natCast]
 rw [C.rows_set f hi (f j) s hs,C.rows_set _ hj (f i) s hs]
 rfl
theorem Bw.set_len {α:Type} (C:Bw α) (f:Nat->α) (N i:Nat) (x:List AV):((C.rows f N).set i x).length=N:=by simp [C.rows_len]
def Lo {α:Type} (f:Nat->α) (a b m:Nat):Nat->α:=fun k=>if a<=k/\k < a + m then f (k - a + b) else if b<=k/\k < b + m then f (k - b + a) else f k
theorem K1 {α:Type} (C:Bw α) (f:Nat->α) (N i a b m n:Nat) (hN:N<=1048576) (h1:a + m<=b) (h2:b + m<=N) :
 Ret Tryz.prog 287 [.own i N,iv a,iv b,iv m,F0] [(i,.list 184 6 (C.rows f N))] n true (Is (.tup []) [(i,.list 184 6 (C.rows (Lo f a b m) N))] n):=by
 refine Ret.of_run (tt:=tt) Ad Tryz.func287 rfl Tryz.call287 [i] [.list 184 6 (C.rows f N)] [.own 0 N,iv a,iv b,iv m,F0] true n _ rfl (Cj i) (by exact Nat.le_of_ble_eq_true rfl) rfl rfl ?_
 refine Goes ?_
 refine Ao.go (fun q:Nat=>q<=m) (fun q=>⟨[(0,.own 0 N),(1,iv a),(2,iv b),(3,iv m),(10,iv q)],[(0,.list 184 6 (C.rows (Lo f a b q) N))],1⟩) (fun q=>m - q) 0 (Nat.zero_le _) ?_ ?_
 · refine Ac.of rfl rfl ktA ⟨⟨Ch ?_,rfl,rfl⟩,trivial⟩
   exact C.rows_congr fun k hk=>by unfold Lo; rw [if_neg (by omega),if_neg (by omega)]
 intro q hq
 obtain ⟨g,hg⟩:∃ g,g=Lo f a b q:=⟨_,rfl⟩
 rw [<- hg]
 by_cases aa:q < m
 · have kQ:IntKind.i64.wrap ((a:Int) + q)=((a + q:Nat):Int):=by rw [IntWalk.i64_in _ (by omega)]; omega
   have eL:IntKind.i64.wrap ((b:Int) + q)=((b + q:Nat):Int):=by rw [IntWalk.i64_in _ (by omega)]; omega
   refine Goes ?_;repeat' first|apply W2.m|refine W1.m fun h=>?_
   all_goals
    try rw [kQ]
    try rw [eL]
   all_goals repeat' first
    | (first | rw [C.rowsK g (a + q) (by omega)] | rw [C.rowsK g (b + q) (by omega)])
      refine And.intro (by first | (rw [C.rows_len]; omega) | (rw [C.set_len]; omega)) ?_
      refine Goes ?_
    | refine And.intro (by first | (rw [C.rows_len]; omega) | (rw [C.set_len]; omega)) ?_
      refine Goes ?_
   all_goals
    refine ⟨q + 1,by omega,by omega,Ac.of rfl rfl ktA ⟨⟨Ch ?_,rfl,rfl⟩,trivial⟩⟩
    have hs:=C.rows_swap g (i:=a + q) (j:=b + q) (N:=N) (by omega) (by omega) 6 rfl
    rw [C.rowsK g (a + q) (by omega)] at hs
    refine hs.trans (C.rows_congr fun k hk=>?_)
    rw [hg]
    simp only [Lo]
    repeat' split
    all_goals first | (exfalso; omega) | (congr 1; omega) | rfl
 · refine Goes ?_;repeat' first|apply W2.m|refine W1.m fun h=>?_
   obtain rfl:q=m:=by omega
   rw [hg]
   refine Ab.mk' [] rfl rfl rfl rfl rfl rfl rfl ⟨?_,?_,rfl⟩
   · rfl
   · rfl
end Go.Proofs.YtllhgcfacgiabaaGreat
namespace Go.Proofs.YtllhgcfacgiabaaGreat
open Go Go.Am Go.RowKit
set_option linter.unusedVariables false
set_option linter.unusedSimpArgs false
def Ca {α:Type} (f:Nat->α) (a m b:Nat):Nat->α:=fun k=>if a<=k/\k < a + (b - m) then f (k - a + m) else if a + (b - m)<=k/\k < b then f (k - (b - m)) else f k
theorem a9X {α:Type} (h:Nat->α) {m i j k:Nat} (h0:0 < j) (ah:j < i) (hi:i<=m):Ca (Lo h (m - i) m j) (m - (i - j)) m (m + j) k=Ca h (m - i) m (m + j) k:=by
 simp only [Ca,Lo]
 repeat' split
 all_goals first | (exfalso; omega) | (congr 1; omega) | rfl
theorem a9Y {α:Type} (h:Nat->α) {m i j k:Nat} (h0:0 < i) (ah:i < j) (hi:i<=m):Ca (Lo h (m - i) (m + j - i) i) (m - i) m (m + (j - i)) k=Ca h (m - i) m (m + j) k:=by
 simp only [Ca,Lo]
 repeat' split
 all_goals first | (exfalso; omega) | (congr 1; omega) | rfl
theorem a9Z {α:Type} (h:Nat->α) {m i k:Nat} (h0:0 < i) (hi:i<=m):Lo h (m - i) m i k=Ca h (m - i) m (m + i) k:=by
 simp only [Ca,Lo]
 repeat' split
 all_goals first | (exfalso; omega) | (congr 1; omega) | rfl
theorem Cg {α:Type} (C:Bw α) (f:Nat->α) (N i a m b n:Nat) (hN:N<=1048576) (h1:a < m) (h2:m < b) (h3:b<=N) :
 Ret Tryz.prog 276 [.own i N,iv a,iv m,iv b,F0] [(i,.list 184 6 (C.rows f N))] n true (Is (.tup []) [(i,.list 184 6 (C.rows (Ca f a m b) N))] n):=by
 have e1:IntKind.i64.wrap ((m:Int) - a)=((m - a:Nat):Int):=by rw [IntWalk.i64_in _ (by omega)]; omega
 have e2:IntKind.i64.wrap ((b:Int) - m)=((b - m:Nat):Int):=by rw [IntWalk.i64_in _ (by omega)]; omega
 refine Ret.of_run (tt:=tt) Ad Tryz.func276 rfl Tryz.call276 [i] [.list 184 6 (C.rows f N)] [.own 0 N,iv a,iv m,iv b,F0] true n _ rfl (Cj i) (by exact Nat.le_of_ble_eq_true rfl) rfl rfl ?_
 refine Goes ?_
 rw [e1,e2]
 refine Ao.go (fun y:Nat × Nat × (Nat->α)=>0 < y.1/\0 < y.2.1/\y.1<=m/\m + y.2.1<=N/\∀ k,Ca y.2.2 (m - y.1) m (m + y.2.1) k=Ca f a m b k) (fun y=>⟨[(0,.own 0 N),(2,iv m),(4,F0),(10,iv y.1),(11,iv y.2.1)],[(0,.list 184 6 (C.rows y.2.2 N))],1⟩) (fun y=>y.1 + y.2.1) (m - a,b - m,f) ⟨by dsimp only; omega,by dsimp only; omega,by dsimp only; omega,by dsimp only; omega,fun k=>by dsimp only; rw [show m - (m - a)=a by omega,show m + (b - m)=b by omega]⟩ (Ac.of rfl rfl ktA ktA) ?_
 rintro ⟨p,q,u⟩ ⟨g1,g2,g3,g4,g5⟩
 dsimp only at g1 g2 g3 g4 g5 ⊢
 have w1:IntKind.i64.wrap ((m:Int) - p)=((m - p:Nat):Int):=by rw [IntWalk.i64_in _ (by omega)]; omega
 have w2:IntKind.i64.wrap ((m:Int) + q)=((m + q:Nat):Int):=by rw [IntWalk.i64_in _ (by omega)]; omega
 have w3:IntKind.i64.wrap (((m + q:Nat):Int) - p)=((m + q - p:Nat):Int):=by rw [IntWalk.i64_in _ (by omega)]; omega
 by_cases g8:p=q
 · subst g8
   refine Goes ?_;repeat' first|apply W2.m|refine W1.m fun h=>?_
   rw [w1]
   refine Aa.heapIs (K1 C u N 0 (m - p) m p _ hN (by omega) (by omega)) rfl ktA rfl ?_
   refine Goes ?_
   refine Ab.mk' [] rfl rfl rfl rfl rfl rfl rfl ⟨?_,?_,rfl⟩
   · rfl
   · rw [C.rows_congr fun k _=>(a9Z u g1 g3).trans (g5 k)]; rfl
 · by_cases aa:q < p
   · have w4:IntKind.i64.wrap ((p:Int) - q)=((p - q:Nat):Int):=by rw [IntWalk.i64_in _ (by omega)]; omega
     refine Goes ?_;repeat' first|apply W2.m|refine W1.m fun h=>?_
     rw [w1]
     refine Aa.heapIs (K1 C u N 0 (m - p) m q _ hN (by omega) (by omega)) rfl ktA rfl ?_
     refine Goes ?_
     refine ⟨(p - q,q,Lo u (m - p) m q),⟨by dsimp only; omega,g2,by dsimp only; omega,g4,fun k=>(a9X u g2 aa g3).trans (g5 k)⟩,by dsimp only; omega,?_⟩
     rw [w4]
     exact (Ac.of rfl rfl ktA ktA)
   · have w4:IntKind.i64.wrap ((q:Int) - p)=((q - p:Nat):Int):=by rw [IntWalk.i64_in _ (by omega)]; omega
     refine Goes ?_;repeat' first|apply W2.m|refine W1.m fun h=>?_
     rw [w1,w2,w3]
     refine Aa.heapIs (K1 C u N 0 (m - p) (m + q - p) p _ hN (by omega) (by omega)) rfl ktA rfl ?_
     refine Goes ?_
     refine ⟨(p,q - p,Lo u (m - p) (m + q - p) p),⟨g1,by dsimp only; omega,g3,by dsimp only; omega,fun k=>(a9Y u g1 (by omega) g3).trans (g5 k)⟩,by dsimp only; omega,?_⟩
     rw [w4]
     exact (Ac.of rfl rfl ktA ktA)
def seg {α:Type} (f:Nat->α) (a b:Nat):List α:=(List.range' a (b - a)).map f
theorem Pd {α:Type} {f g:Nat->α} {a b:Nat} (h:∀ k,a<=k->k < b->g k=f k):seg g a b=seg f a b:=by
 unfold seg
 refine List.map_congr_left fun k hk=>?_
 obtain ⟨i,hi,rfl⟩:=List.mem_range'.1 hk
 exact h _ (by omega) (by omega)
theorem Pe {α:Type} (f:Nat->α) {a m b:Nat} (h1:a<=m) (h2:m<=b):seg f a b=seg f a m++seg f m b:=by
 unfold seg
 rw [<- List.map_append]
 congr 1
 have:=@List.range'_append_1 a (m - a) (b - m)
 rw [show a + (m - a)=m by omega,show m - a + (b - m)=b - a by omega] at this
 exact this.symm
theorem a3T {α:Type} (f:Nat->α) {a b:Nat} (σ τ:Nat->Nat) (hσ:∀ k,a<=k->k < b->a<=σ k/\σ k < b) (hτ:∀ k,a<=k->k < b->a<=τ k/\τ k < b) (h1:∀ k,a<=k->k < b->σ (τ k)=k) (h2:∀ k,a<=k->k < b->τ (σ k)=k) :
 (seg (fun k=>f (σ k)) a b).Perm (seg f a b):=by
 have hp:((List.range' a (b - a)).map σ).Perm (List.range' a (b - a)):=by
  rw [List.perm_ext_iff_of_nodup]
  · intro x
    rw [List.mem_map]
    constructor
    · rintro ⟨k,hk,rfl⟩
      obtain ⟨i,hi,rfl⟩:=List.mem_range'.1 hk
      have:=hσ (a + 1 * i) (by omega) (by omega)
      exact List.mem_range'.2 ⟨σ (a + 1 * i) - a,by omega,by omega⟩
    · intro hk
      obtain ⟨i,hi,rfl⟩:=List.mem_range'.1 hk
      have:=hτ (a + 1 * i) (by omega) (by omega)
      exact ⟨τ (a + 1 * i),List.mem_range'.2 ⟨τ (a + 1 * i) - a,by omega,by omega⟩,h1 _ (by omega) (by omega)⟩
  · unfold List.Nodup
    rw [List.pairwise_map]
    refine List.Pairwise.imp_of_mem (fun {x y} hx hy cV e=>?_) (List.nodup_range' (s:=a) (n:=b - a) 1)
    obtain ⟨i,hi,rfl⟩:=List.mem_range'.1 hx
    obtain ⟨j,hj,rfl⟩:=List.mem_range'.1 hy
    exact cV (by rw [<- h2 (a + 1 * i) (by omega) (by omega),e,h2 _ (by omega) (by omega)])
  · exact List.nodup_range' 1
 have:=hp.map f
 unfold seg
 rwa [List.map_map] at this
def J4 {α:Type} (f:Nat->α) (i j:Nat):Nat->α:=fun k=>if k=j then f i else if k=i then f j else f k
theorem a8d {α:Type} (f:Nat->α) {a b i j:Nat} (hi:a<=i/\i < b) (hj:a<=j/\j < b):(seg (J4 f i j) a b).Perm (seg f a b):=by
 have:=a3T f (a:=a) (b:=b) (fun k=>if k=j then i else if k=i then j else k) (fun k=>if k=j then i else if k=i then j else k) (fun k h1 h2=>by (repeat' split) <;> omega) (fun k h1 h2=>by (repeat' split) <;> omega)
  (fun k h1 h2=>by (repeat' split) <;> omega) (fun k h1 h2=>by (repeat' split) <;> omega)
 have e:J4 f i j=fun k=>f (if k=j then i else if k=i then j else k):=by
  funext k; unfold J4
  by_cases h1:k=j
  · rw [if_pos h1,if_pos h1]
  · rw [if_neg h1,if_neg h1]
    by_cases h2:k=i
    · rw [if_pos h2,if_pos h2]
    · rw [if_neg h2,if_neg h2]
 rw [e]; exact this
structure Srt {α:Type} (C:Bw α) (f g:Nat->α) (a b:Nat):Prop where
 out:∀ k,k < a∨b<=k->g k=f k
 perm:(seg g a b).Perm (seg f a b)
 srt:∀ i j,a<=i->i<=j->j < b->C.le (g i) (g j)
structure Ins {α:Type} (C:Bw α) (f g:Nat->α) (a b i j:Nat):Prop where
 out:∀ k,k < a∨b<=k->g k=f k
 perm:(seg g a b).Perm (seg f a b)
 off:∀ p q,a<=p->p<=q->q<=i->p≠j->q≠j->C.le (g p) (g q)
 up:∀ q,j < q->q<=i->C.le (g j) (g q)
theorem Ins.step {α:Type} {C:Bw α} {f g:Nat->α} {a b i j:Nat} (h:Ins C f g a b i j) (h1:a < j) (h2:j<=i) (h3:i < b) (hl:C.lt (g j) (g (j - 1))):Ins C f (J4 g j (j - 1)) a b i (j - 1):=by
 have e1:J4 g j (j - 1) (j - 1)=g j:=by simp [J4]
 have e2:J4 g j (j - 1) j=g (j - 1):=by simp only [J4]; rw [if_neg (by omega)]; simp
 have e3:∀ k,k≠j->k≠j - 1->J4 g j (j - 1) k=g k:=fun k k1 k2=>by simp only [J4]; rw [if_neg k2,if_neg k1]
 refine ⟨fun k hk=>by rw [e3 k (by omega) (by omega)]; exact h.out k hk,(a8d g ⟨by omega,by omega⟩ ⟨by omega,by omega⟩).trans h.perm,fun p q p1 p2 p3 p4 p5=>?_,fun q q1 q2=>?_⟩
 · by_cases hp:p=j
   · subst hp
     rw [e2]
     by_cases hq:q=p
     · subst hq; rw [e2]; exact C.le_refl _
     · rw [e3 q hq p5]; exact h.off (p - 1) q (by omega) (by omega) p3 (by omega) hq
   · rw [e3 p hp p4]
     by_cases hq:q=j
     · subst hq; rw [e2]; exact h.off p (q - 1) p1 (by omega) (by omega) hp (by omega)
     · rw [e3 q hq p5]; exact h.off p q p1 p2 p3 hp hq
 · rw [e1]
   by_cases hq:q=j
   · subst hq; rw [e2]; exact C.lt_le hl
   · rw [e3 q hq (by omega)]; exact h.up q (by omega) q2
theorem Ins.done {α:Type} {C:Bw α} {f g:Nat->α} {a b i j:Nat} (h:Ins C f g a b i j) (h1:a<=j) (h2:j<=i) (hl:j=a∨C.le (g (j - 1)) (g j)):∀ p q,a<=p->p<=q->q < i + 1->C.le (g p) (g q):=by
 intro p q p1 p2 p3
 by_cases g8:p=q
 · subst g8; exact C.le_refl _
 by_cases hp:p=j
 · subst hp; exact h.up q (by omega) (by omega)
 by_cases hq:q=j
 · subst hq
   rcases hl with hl | hl
   · omega
   · by_cases gK:p=q - 1
     · rw [gK]; exact hl
     · exact C.le_trans (h.off p (q - 1) p1 (by omega) (by omega) hp (by omega)) hl
 · exact h.off p q p1 p2 (by omega) hp hq
def a2q {α:Type} (C:Bw α) (f:Nat->α) (N i n a b:Nat) (T:Nat):AV->Hp->Nat->Prop:=fun r ho m=>r=.tup []/\m=n/\∃ g,ho=[(i,.list T 6 (C.rows g N))]/\Srt C f g a b
theorem Vn {α:Type} (C:Bw α) (f:Nat->α) (N i a b n:Nat) (hN:N<=1048576) (h1:a<=b) (h2:b<=N) :
 Ret Tryz.prog 269 [.own i N,iv a,iv b,F0] [(i,.list 184 6 (C.rows f N))] n true (a2q C f N i n a b 184):=by
 have e1:IntKind.i64.wrap ((a:Int) + 1)=((a + 1:Nat):Int):=by rw [IntWalk.i64_in _ (by omega)]; omega
 refine Ret.of_run (tt:=tt) Ad Tryz.func269 rfl Tryz.call269 [i] [.list 184 6 (C.rows f N)] [.own 0 N,iv a,iv b,F0] true n _ rfl (Cj i) (by exact Nat.le_of_ble_eq_true rfl) rfl rfl ?_
 refine Goes ?_
 rw [e1]
 refine Ao.go (fun y:Nat × (Nat->α)=>a + 1<=y.1/\(y.1<=b∨b<=a)/\(∀ k,k < a∨b<=k->y.2 k=f k)/\(seg y.2 a b).Perm (seg f a b)/\∀ p q,a<=p->p<=q->q < y.1->q < b->C.le (y.2 p) (y.2 q)) (fun y=>⟨[(0,.own 0 N),(1,iv a),(2,iv b),(3,F0),(8,iv y.1)],[(0,.list 184 6 (C.rows y.2 N))],1⟩) (fun y=>b + 1 - y.1) (a + 1,f) ⟨Nat.le_refl _,by omega,fun _ _=>rfl,List.Perm.refl _,fun p q p1 p2 p3 p4=>(show p=q by omega) ▸ C.le_refl _⟩ (Ac.of rfl rfl ktA ktA) ?_
 rintro ⟨y,u⟩ ⟨g1,g2,g3,g4,g5⟩
 dsimp only at g1 g2 g3 g4 g5 ⊢
 by_cases hy:y < b
 · refine Goes ?_;repeat' first|apply W2.m|refine W1.m fun h=>?_
   refine Ao.go (fun z:Nat × (Nat->α)=>a<=z.1/\z.1<=y/\Ins C f z.2 a b y z.1) (fun z=>⟨[(0,.own 0 N),(1,iv a),(2,iv b),(3,F0),(8,iv y),(9,iv z.1)],[(0,.list 184 6 (C.rows z.2 N))],1⟩) (fun z=>z.1) (y,u) ⟨by omega,Nat.le_refl _,g3,g4,fun p q p1 p2 p3 p4 p5=>g5 p q p1 p2 (by omega) (by omega),fun q q1 q2=>by omega⟩ (Ac.of rfl rfl ktA ktA) ?_
   rintro ⟨z,v⟩ ⟨k1,k2,k3⟩
   dsimp only at k1 k2 k3 ⊢
   have e2:IntKind.i64.wrap ((y:Int) + 1)=((y + 1:Nat):Int):=by rw [IntWalk.i64_in _ (by omega)]; omega
   have fin:(z=a∨C.le (v (z - 1)) (v z))->∀ p q,a<=p->p<=q->q < y + 1->q < b->C.le (v p) (v q):=fun hl p q p1 p2 p3 p4=>k3.done k1 k2 hl p q p1 p2 p3
   by_cases hz:a < z
   · have e3:IntKind.i64.wrap ((z:Int) - 1)=((z - 1:Nat):Int):=by rw [IntWalk.i64_in _ (by omega)]; omega
     by_cases hl:C.lt (v z) (v (z - 1))
     · have hc:=(C.cmp_lt _ _).2 hl
       refine Goes ?_;repeat' first|apply W2.m|refine W1.m fun h=>?_
       rw [C.rowsK v z (by omega)]
       refine And.intro (by rw [C.rows_len]; omega) ?_
       refine Goes ?_;repeat' first|apply W2.m|refine W1.m fun h=>?_
       rw [e3,C.rowsK v (z - 1) (by omega)]
       refine And.intro (by rw [C.rows_len]; omega) ?_
       refine Goes ?_;repeat' first|apply W2.m|refine W1.m fun h=>?_
       refine Aa.is (D2 C (v z) (v (z - 1)) _) rfl ?_
       refine Goes ?_;repeat' first|apply W2.m|refine W1.m fun h=>?_
       all_goals try rw [e3]
       all_goals repeat' first
        | (first | rw [C.rowsK v (z) (by omega)] | rw [C.rowsK v (z - 1) (by omega)])
          refine And.intro (by first | (rw [C.rows_len]; omega) | (rw [C.set_len]; omega)) ?_
          refine Goes ?_
        | refine And.intro (by first | (rw [C.rows_len]; omega) | (rw [C.set_len]; omega)) ?_
          refine Goes ?_
       all_goals
        refine ⟨(z - 1,J4 v z (z - 1)),⟨by dsimp only; omega,by dsimp only; omega,k3.step hz k2 hy hl⟩,by dsimp only; omega,Ac.of rfl rfl ⟨⟨rfl,rfl⟩,⟨rfl,rfl⟩,⟨rfl,rfl⟩,⟨rfl,rfl⟩,⟨rfl,rfl⟩,⟨Aw Cm,rfl⟩,trivial⟩ ⟨⟨Ch ?_,rfl,rfl⟩,trivial⟩⟩
        have hs:=C.rows_swap v (i:=z) (j:=z - 1) (N:=N) (by omega) (by omega) 6 rfl
        rw [C.rowsK v (z) (by omega)] at hs
        refine hs.trans (C.rows_congr fun k hk=>?_)
        rfl
     · have hc:¬ C.cmp (v z) (v (z - 1)) < 0:=fun h=>hl ((C.cmp_lt _ _).1 h)
       refine Goes ?_;repeat' first|apply W2.m|refine W1.m fun h=>?_
       rw [C.rowsK v z (by omega)]
       refine And.intro (by rw [C.rows_len]; omega) ?_
       refine Goes ?_;repeat' first|apply W2.m|refine W1.m fun h=>?_
       rw [e3,C.rowsK v (z - 1) (by omega)]
       refine And.intro (by rw [C.rows_len]; omega) ?_
       refine Goes ?_;repeat' first|apply W2.m|refine W1.m fun h=>?_
       refine Aa.is (D2 C (v z) (v (z - 1)) _) rfl ?_
       refine Goes ?_;repeat' first|apply W2.m|refine W1.m fun h=>?_
       exact ⟨(y + 1,v),⟨by dsimp only; omega,by dsimp only; omega,k3.out,k3.perm,fun p q p1 p2 p3 p4=>fin (.inr hl) p q p1 p2 p3 p4⟩,by dsimp only; omega,by rw [e2]; exact (Ac.of rfl rfl ktA ktA)⟩
   · refine Goes ?_;repeat' first|apply W2.m|refine W1.m fun h=>?_
     exact ⟨(y + 1,v),⟨by dsimp only; omega,by dsimp only; omega,k3.out,k3.perm,fun p q p1 p2 p3 p4=>fin (.inl (by omega)) p q p1 p2 p3 p4⟩,by dsimp only; omega,by rw [e2]; exact (Ac.of rfl rfl ktA ktA)⟩
 · refine Goes ?_;repeat' first|apply W2.m|refine W1.m fun h=>?_
   refine Ab.mk' [] rfl rfl rfl rfl rfl rfl rfl ⟨rfl,rfl,u,rfl,g3,g4,fun p q p1 p2 p3=>g5 p q p1 p2 (by omega) p3⟩
def Sd {α:Type} (C:Bw α) (f:Nat->α) (a b:Nat):Prop:=∀ i j,a<=i->i<=j->j < b->C.le (f i) (f j)
theorem Bw.le_lt {α:Type} (C:Bw α) {x y z:α} (h:C.le x y) (k:C.lt y z):C.lt x z:=by unfold Bw.le Bw.lt at *; omega
theorem Bw.lt_le_trans {α:Type} (C:Bw α) {x y z:α} (h:C.lt x y) (k:C.le y z):C.lt x z:=by unfold Bw.le Bw.lt at *; omega
section
variable {α:Type} {C:Bw α} {f g u:Nat->α} {a m b s e:Nat}
theorem a2r {x:Nat} (h:x < s):Ca f s m e x=f x:=by
 unfold Ca; rw [if_neg (by omega),if_neg (by omega)]
theorem a8e {x:Nat} (h:s<=x) (k:x < s + (e - m)):Ca f s m e x=f (x - s + m):=by
 unfold Ca; rw [if_pos ⟨h,k⟩]
theorem a5L {x:Nat} (h:s + (e - m)<=x) (k:x < e):Ca f s m e x=f (x - (e - m)):=by
 unfold Ca; rw [if_neg (by omega),if_pos ⟨h,k⟩]
theorem a0a {x:Nat} (hs:s<=m) (hm:m<=e) (h:e<=x):Ca f s m e x=f x:=by
 unfold Ca; rw [if_neg (by omega),if_neg (by omega)]
theorem a2s (hs:s<=m) (hm:m<=e) (h:s=m∨m=e):Ca f s m e=f:=by
 funext k
 unfold Ca
 repeat' split
 · congr 1; omega
 · congr 1; omega
 · rfl
theorem Un (h1:Sd C f a m) (h2:Sd C f m b) (ha:a<=s) (hs:s<=m) (hm:m<=e) (he:e<=b) (hX:a < s->e < b->C.le (f (s - 1)) (f e)) (hY:s < m->m < e->C.lt (f (e - 1)) (f s)) :
 ∀ x y,a<=x->x < s + (e - m)->s + (e - m)<=y->y < b->C.le (Ca f s m e x) (Ca f s m e y):=by
 intro x y x1 x2 y1 y2
 by_cases hx:x < s
 · rw [a2r hx]
   by_cases hy:y < e
   · rw [a5L y1 hy]; exact h1 _ _ x1 (by omega) (by omega)
   · rw [a0a hs hm (by omega)]
     exact C.le_trans (h1 x (s - 1) x1 (by omega) (by omega)) (C.le_trans (hX (by omega) (by omega)) (h2 e y hm (by omega) y2))
 · rw [a8e (by omega) x2]
   by_cases hy:y < e
   · rw [a5L y1 hy]
     exact C.le_trans (h2 (x - s + m) (e - 1) (by omega) (by omega) (by omega)) (C.le_trans (C.lt_le (hY (by omega) (by omega))) (h1 s _ ha (by omega) (by omega)))
   · rw [a0a hs hm (by omega)]; exact h2 _ _ (by omega) (by omega) y2
theorem Yt (ha:a<=s) (hs:s<=m) (hm:m<=e) (he:e<=b):(seg (Ca f s m e) a b).Perm (seg f a b):=by
 have:=a3T f (a:=a) (b:=b) (fun k=>if s<=k/\k < s + (e - m) then k - s + m else if s + (e - m)<=k/\k < e then k - (e - m) else k) (fun k=>if m<=k/\k < e then k - m + s else if s<=k/\k < m then k + (e - m) else k)
  (fun k h1 h2=>by (repeat' split) <;> omega) (fun k h1 h2=>by (repeat' split) <;> omega) (fun k h1 h2=>by (repeat' split) <;> omega) (fun k h1 h2=>by (repeat' split) <;> omega)
 have e':Ca f s m e=fun k=>f (if s<=k/\k < s + (e - m) then k - s + m else if s + (e - m)<=k/\k < e then k - (e - m) else k):=by
  funext k; unfold Ca
  by_cases h1:s<=k/\k < s + (e - m)
  · rw [if_pos h1,if_pos h1]
  · rw [if_neg h1,if_neg h1]
    by_cases h2:s + (e - m)<=k/\k < e
    · rw [if_pos h2,if_pos h2]
    · rw [if_neg h2,if_neg h2]
 rw [e']; exact this
theorem a2t {k:Nat} (h1:a<=k) (h2:k < b):f k∈seg f a b:=List.mem_map.2 ⟨k,List.mem_range'.2 ⟨k - a,by omega,by omega⟩,rfl⟩
theorem a90 {x:α} (h:x∈seg f a b):∃ k,a<=k/\k < b/\f k=x:=by
 obtain ⟨k,hk,rfl⟩:=List.mem_map.1 h
 obtain ⟨i,hi,rfl⟩:=List.mem_range'.1 hk
 exact ⟨_,by omega,by omega,rfl⟩
theorem Yu {R:Nat->α} {c:Nat} (h1:a<=c) (h2:c<=b) (hR:∀ k,k < a∨b<=k->R k=f k) (hp:(seg R a b).Perm (seg f a b)) (hc:∀ x y,a<=x->x < c->c<=y->y < b->C.le (R x) (R y))
 (hg:Srt C R g a c) (hu:Srt C g u c b):Srt C f u a b:=by
 have e1:seg u a c=seg g a c:=Pd fun k k1 k2=>hu.out k (.inl k2)
 have e2:seg g c b=seg R c b:=Pd fun k k1 k2=>hg.out k (.inr k1)
 refine ⟨fun k hk=>?_,?_,fun i j i1 i2 i3=>?_⟩
 · rw [hu.out k (by omega),hg.out k (by omega),hR k hk]
 · refine List.Perm.trans ?_ hp
   rw [Pe u h1 h2,Pe R h1 h2,e1]
   exact (hg.perm).append (by rw [<- e2]; exact hu.perm)
 · by_cases hj:j < c
   · rw [hu.out i (.inl (by omega)),hu.out j (.inl hj)]; exact hg.srt i j i1 i2 hj
   · by_cases hi:i < c
     · rw [hu.out i (.inl hi)]
       have m1:=hg.perm.mem_iff.1 (a2t (f:=g) i1 hi)
       have m2:=hu.perm.mem_iff.1 (a2t (f:=u) (a:=c) (b:=b) (k:=j) (by omega) i3)
       rw [e2] at m2
       obtain ⟨x,x1,x2,ex⟩:=a90 m1
       obtain ⟨y,y1,y2,ey⟩:=a90 m2
       rw [<- ex,<- ey]
       exact hc x y x1 x2 y1 y2
     · exact hu.srt i j (by omega) i2 i3
theorem Srt.same (h:Sd C f a b):Srt C f f a b:=⟨fun _ _=>rfl,List.Perm.refl _,h⟩
end
end Go.Proofs.YtllhgcfacgiabaaGreat
