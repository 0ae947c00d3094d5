import Derived.Test.YtllhgcfacgiabaaGreatR1
import Derived.Test.YtllhgcfacgiabaaGreatAmG
import Derived.Below
import Derived.Test.YtllhgcfacgiabaaGreatM1
import Derived.Test.YtllhgcfacgiabaaGreatAmT
namespace Go.Proofs.YtllhgcfacgiabaaGreat
open Go Go.RowKit Go.Shelf
attribute [local go_sem] Oper.semAt_some
set_option linter.unusedVariables false
set_option linter.unusedSimpArgs false
def BoxedP (W:World) (B:Nat) (x:PW):Prop:=W.heap[B]?=some (.cells #[.int .i64 x.up,.int .i64 x.sum,.int .i64 x.time,.int .i64 x.h,.slice x.a x.len x.cap] 109 (0,0))
theorem BoxedP.lt {W:World} {B:Nat} {x:PW} (h:BoxedP W B x):B < W.heap.size:=(Array.getElem?_eq_some_iff.1 h).1
theorem BoxedP.cell1 {W:World} {B:Nat} {x:PW} (h:BoxedP W B x):W.cell? ⟨B,1,none⟩=some (.int .i64 x.sum):=by simp [World.cell?,show W.heap[B]?=_ from h]
theorem BoxedP.new (W:World) (x:PW):BoxedP (W.alloc (.cells #[.int .i64 x.up,.int .i64 x.sum,.int .i64 x.time,.int .i64 x.h,.slice x.a x.len x.cap] 109)) W.heap.size x:=World.alloc_heap_new W _
theorem BoxedP.kept {W W':World} {row:Option Nat} {B:Nat} {x:PW} (h:BoxedP W B x) (hg:W.grownBy W' row) (hrow:∀ r,row=some r→∃ o:Obj,W.heap[r]?=some o∧o.isCells=false):BoxedP W' B x :=
 (hg.block B h.lt (fun e=>by obtain ⟨o,ho,hc⟩:=hrow B e.symm; rw [show W.heap[B]?=_ from h] at ho; cases ho; cases hc)).trans h
theorem boxed_kept {W W':World} {row:Option Nat} {B:Nat} {t:TypeId} {v:Value} (h:Boxed W B t v) (hg:W.grownBy W' row) (hrow:∀ r,row=some r→∃ o:Obj,W.heap[r]?=some o∧o.isCells=false):Boxed W' B t v :=
 boxed_own B t (fun (_:Unit)=>v) () W W' row h hg hrow
set_option maxRecDepth 100000 in
set_option maxHeartbeats 4000000 in
theorem nodeOf_in (n:Nat) (hn:3≤n) (g:Nat) (sum:Int) (p0:PW) (xs:List PW) (hlen:xs.length≤1000) (w:World) (hP:PlacesAt w.heap.size w g xs) :
 CallsIn Fence.wide n Tryz.prog 120 #[.pointer (some ⟨g,0,none⟩),.int .i64 sum] w fun e W' =>
  ((e=.returned (.tuple #[.int .i64 0,.bool false])∧∀ x∈xs,x.sum≠sum)∨(∃ (k:Nat) (x:PW),xs[k]?=some x∧x.sum=sum∧(∀ j y,j < k→xs[j]?=some y→y.sum≠sum)∧e=.returned (.tuple #[.int .i64 ((k:Int) + -1),.bool true])))∧Below w.heap.size w W':=by
 have h1:1≤n:=by omega
 refine callsIn_of_wp_marks Tryz.func120 rfl trivial ?_ rfl
 simp only [Tryz.ntmps120,List.size_toArray,List.length_cons,List.length_nil,Nat.reduceAdd,Nat.reduceSub,Array.replicate_succ,Array.replicate_zero,List.push_toArray,List.append_toArray,List.nil_append,List.cons_append]
 gi_wp2_with (refine ⟨trivial,?_⟩; gi_at_call 125; refine (all_in (n - 1) _ _).mono ?_; rintro e w' ⟨rfl,rfl⟩)
 have bS:=(((Boxed.new w 2 (.int .i64 sum)).alloc (.cells #[.int .i64 0] 2)).alloc (.cells #[.bool false] 4)).alloc (.cells #[.pointer (some ⟨g,0,none⟩)] 171)
 have bR:=((Boxed.new (w.alloc (.cells #[.int .i64 sum] 2)) 2 (.int .i64 0)).alloc (.cells #[.bool false] 4)).alloc (.cells #[.pointer (some ⟨g,0,none⟩)] 171)
 have bF:=(Boxed.new ((w.alloc (.cells #[.int .i64 sum] 2)).alloc (.cells #[.int .i64 0] 2)) 4 (.bool false)).alloc (.cells #[.pointer (some ⟨g,0,none⟩)] 171)
 have bN:=Boxed.new (((w.alloc (.cells #[.int .i64 sum] 2)).alloc (.cells #[.int .i64 0] 2)).alloc (.cells #[.bool false] 4)) 171 (.pointer (some ⟨g,0,none⟩))
 simp only [World.size_alloc] at bR bF bN
 have hB0:Below w.heap.size w ((((w.alloc (.cells #[.int .i64 sum] 2)).alloc (.cells #[.int .i64 0] 2)).alloc (.cells #[.bool false] 4)).alloc (.cells #[.pointer (some ⟨g,0,none⟩)] 171)):=((((Below.refl _ w).alloc (Nat.le_refl _) _).alloc (by simp) _).alloc (by simp; omega) _).alloc (by simp; omega) _
 have hsz:((((w.alloc (.cells #[.int .i64 sum] 2)).alloc (.cells #[.int .i64 0] 2)).alloc (.cells #[.bool false] 4)).alloc (.cells #[.pointer (some ⟨g,0,none⟩)] 171)).heap.size=w.heap.size + 4:=by simp
 obtain ⟨W0,hW0⟩:∃ W0,(((w.alloc (.cells #[.int .i64 sum] 2)).alloc (.cells #[.int .i64 0] 2)).alloc (.cells #[.bool false] 4)).alloc (.cells #[.pointer (some ⟨g,0,none⟩)] 171)=W0:=⟨_,rfl⟩
 rw [hW0] at bS bR bF bN hB0 hsz ⊢
 clear hW0
 refine wpIn_rangeFunc_ownH rfl h1 (gf:=164) (lb:=#[.pointer (some ⟨w.heap.size + 1 + 1 + 1,0,none⟩)]) rfl trivial (enters_of Tryz.func164 (by kernel_rfl) rfl)
  (all_stops (n - 1) (by omega) (w.heap.size + 1 + 1 + 1) g w.heap.size p0 xs hlen W0 (by omega) (by omega) bN.cell (hP.below hB0)) belowK_t (belowK_b (by omega)) (Below.refl _ _) (fun _=>rfl)
  (fun pre W=>((∀ p∈pre,p.2.sum≠sum)∧Boxed W w.heap.size 2 (.int .i64 sum)∧Boxed W (w.heap.size + 1) 2 (.int .i64 0)∧Boxed W (w.heap.size + 1 + 1) 4 (.bool false))∧Below w.heap.size w W)
  (fun c pre W=>(c=.ret∧∃ ini last,pre=ini++[last]∧(∀ p∈ini,p.2.sum≠sum)∧last.2.sum=sum∧Boxed W (w.heap.size + 1) 2 (.int .i64 ((last.1:Int) + -1))∧Boxed W (w.heap.size + 1 + 1) 4 (.bool true))∧Below w.heap.size w W)
  (OwnFrom.and (Own.from (fun s A B row hs hg hr=>⟨hs.1,boxed_kept hs.2.1 hg hr,boxed_kept hs.2.2.1 hg hr,boxed_kept hs.2.2.2 hg hr⟩) _) (ownFrom_below (Nat.le_refl _) (by omega)))
  (fun c=>OwnFrom.and (Own.from (fun s A B row hs hg hr=>by obtain ⟨hc,ini,last,e1,e2,e3,e4,e5⟩:=hs; exact ⟨hc,ini,last,e1,e2,e3,boxed_kept e4 hg hr,boxed_kept e5 hg hr⟩) _) (ownFrom_below (Nat.le_refl _) (by omega)))
  ⟨⟨by simp,bS,bR,bF⟩,hB0⟩
  (fun x a' W=>∃ Bx,w.heap.size + 1 + 1 < Bx∧BoxedP W Bx x.2∧a'={ tmps:=#[.pointer (some ⟨g,0,none⟩),.int .i64 sum,undef,.pointer (some ⟨w.heap.size,0,none⟩),.pointer (some ⟨w.heap.size + 1,0,none⟩),.pointer (some ⟨w.heap.size + 1 + 1,0,none⟩),.int .i64 ((x.1:Int) + -1),.pointer (some ⟨Bx,0,none⟩),.pointer (some ⟨g,0,none⟩),.func (.func 164) #[] #[.pointer (some ⟨w.heap.size + 1 + 1 + 1,0,none⟩)],.int .i64 ((x.1:Int) + -1),x.2.v,undef,undef,undef,undef,undef],defers:=[] })
  (fun x a' _ X Y row hs hg hr=>by obtain ⟨Bx,h1,h2,h3⟩:=hs; exact ⟨Bx,h1,h2.kept hg (fun r e=>(hr r e).2),h3⟩)
  ?assign ?body ?done ?stop
 case assign =>
  rintro l pre x W K ⟨⟨hp,bS1,bR1,bF1⟩,hB1⟩ hK
  have hxv:x.2.v=.agg #[.int .i64 x.2.up,.int .i64 x.2.sum,.int .i64 x.2.time,.int .i64 x.2.h,.slice x.2.a x.2.len x.2.cap]:=rfl
  rw [hxv]
  gi_wp2
  exact hK _ _ ((KeepsOthers.alloc _ _).from _) ((Below.refl _ W).alloc hB1.size _) ⟨⟨hp,bS1.alloc _,bR1.alloc _,bF1.alloc _⟩,hB1.alloc hB1.size _⟩ ⟨W.heap.size,bF1.lt,BoxedP.new W x.2,rfl⟩
 case body =>
  rintro l pre x a' W hl ⟨r,hr⟩ ⟨⟨hp,bS1,bR1,bF1⟩,hB1⟩ ⟨Bx,hBx,bX,rfl⟩ hlt
  have cX:=bX.cell1
  have cS:=bS1.cell
  have cR:=bR1.cell
  have fR:=bR1.frozen
  have cF:=bF1.cell
  have fF:=bF1.frozen
  gi_wp2
  · rename_i hb
    have hx:x.2.sum=sum:=by simpa using hb
    exact ⟨((KeepsOthers.setCell _ _ _).trans (KeepsOthers.setCell _ _ _)).from _,⟨rfl,pre,x,rfl,hp,hx,(bR1.set _).other (by omega) _,(bF1.other (by omega) _).set _⟩,(hB1.setCell (p:=⟨w.heap.size + 1,0,none⟩) (by simp) _).setCell (p:=⟨w.heap.size + 1 + 1,0,none⟩) (by simp; omega) _⟩
  · rename_i hb
    have hx:x.2.sum≠sum:=by simpa using hb
    exact ⟨KeepsFrom.refl _ _,Below.refl _ _,⟨fun p hp'=>(List.mem_append.1 hp').elim (hp p) (fun e=>by simp at e; subst e; exact hx),bS1,bR1,bF1⟩,hB1⟩
 case done =>
  rintro D ys W hD rfl ⟨⟨hne,bS1,bR1,bF1⟩,hB⟩ hK
  have cR:=bR1.cell
  have fR:=bR1.frozen
  have cF:=bF1.cell
  have fF:=bF1.frozen
  gi_wp2
  have hK':=((KeepsOthers.setCell W ⟨w.heap.size + 1,0,none⟩ (.int .i64 0)).trans (KeepsOthers.setCell _ ⟨w.heap.size + 1 + 1,0,none⟩ (.bool false))).same D _ hK rfl
  refine ⟨by simp,.inl ⟨_,_,rfl,run_takeDeferred hK',?_⟩⟩
  have b1:=(boxed_kept ((bR1.set (.int .i64 0)).other (B':=w.heap.size + 1 + 1) (by omega) (.bool false)) (grownBy_putObj' _ D (.deferred none)) (fun r e=>by cases e; exact ⟨_,hK',rfl⟩)).cell
  have b2:=(boxed_kept ((bF1.other (B':=w.heap.size + 1) (by omega) (.int .i64 0)).set (.bool false)) (grownBy_putObj' _ D (.deferred none)) (fun r e=>by cases e; exact ⟨_,hK',rfl⟩)).cell
  refine ⟨.tuple #[.int .i64 0,.bool false],?_,.inl ⟨rfl,fun x hx=>?_⟩,((hB.setCell (p:=⟨w.heap.size + 1,0,none⟩) (by simp) _).setCell (p:=⟨w.heap.size + 1 + 1,0,none⟩) (by simp; omega) _).trans (belowK_b (w:=w) (Nat.le_refl _) _ D _ _ (by omega) hK' rfl rfl)⟩
  · simp [results,Tryz.f120,go_sem,b1,b2]
  · obtain ⟨j,hj,rfl⟩:=List.mem_iff_getElem.1 hx
    exact hne (j,xs[j]) (by simp only [upto,List.mem_map,List.mem_range]; exact ⟨j,hj,by rw [List.getElem?_eq_getElem hj]; rfl⟩)
 case stop =>
  rintro D c pre W hD ⟨k,hk,rfl⟩ ⟨⟨rfl,ini,last,e1,e2,e3,b4,b5⟩,hB⟩ hK
  gi_wp2
  refine ⟨by simp,.inl ⟨_,_,rfl,run_takeDeferred hK,?_⟩⟩
  have b1:=(boxed_kept b4 (grownBy_putObj' _ D (.deferred none)) (fun r e=>by cases e; exact ⟨_,hK,rfl⟩)).cell
  have b2:=(boxed_kept b5 (grownBy_putObj' _ D (.deferred none)) (fun r e=>by cases e; exact ⟨_,hK,rfl⟩)).cell
  obtain ⟨k',rfl⟩:∃ k',k=k' + 1:=by
   cases k with
   | zero=>simp [upto] at e1
   | succ k'=>exact ⟨k',rfl⟩
  rw [upto_succ] at e1
  obtain ⟨rfl,e5⟩:=List.append_inj' e1 rfl
  obtain rfl:(k',xs[k']?.getD p0)=last:=by simpa using e5
  have hk':k' < xs.length:=by omega
  have hget:=List.getElem?_eq_getElem hk'
  refine ⟨.tuple #[.int .i64 ((k':Int) + -1),.bool true],?_,.inr ⟨k',xs[k'],hget,?_,fun j y hj hy=>?_,rfl⟩,hB.trans (belowK_b (w:=w) (Nat.le_refl _) W D _ _ (by omega) hK rfl rfl)⟩
  · simp [results,Tryz.f120,go_sem,b1,b2]
  · rw [hget] at e3; exact e3
  · have:=e2 (j,xs[j]?.getD p0) (by simp only [upto,List.mem_map,List.mem_range]; exact ⟨j,hj,rfl⟩)
    rw [hy] at this
    exact this
end Go.Proofs.YtllhgcfacgiabaaGreat
namespace Go.Am
open Go.RowKit
set_option linter.unusedVariables false
set_option linter.unusedSimpArgs false
theorem Core.below {ι:Loc} {A:Nat→Prop} {hi:Hp} {n:Nat} {P:Program} {w w':World} (hC:Core ⟨P,w,Mut ι,A,0,fun _=>none,[0]⟩ ι A hi n w) (hb:Below w.heap.size w w'):Core ⟨P,w,Mut ι,A,0,fun _=>none,[0]⟩ ι A hi n w':=by
 have hsz:=hb.size
 have hk:∀ b,b < w.heap.size→w'.heap[b]?=w.heap[b]?:=fun b h=>(Frame.of_below (D:=fun _=>False) hb).block b h (fun e=>e)
 refine ⟨Frame.of_below hb,hC.sub,fun b h=>Nat.lt_of_lt_of_le (hC.lt b h) hsz,hC.dis,fun k g c s h=>⟨Nat.lt_of_lt_of_le (hC.own k g c s h).1 hsz,(hC.own k g c s h).2⟩,hC.inj,hC.new,fun id o h=>?_,fun id p h=>(by cases h),⟨fun _ _=>rfl,fun e=>(by cases e)⟩⟩
 obtain ⟨h1,h2,h3⟩:=hC.obj id o h
 refine ⟨h1,h2,h3.mono (K:=fun _=>True) ⟨fun b h=>⟨h,hk b (hC.lt b h)⟩,fun _ _ _ h=>h⟩ trivial (by cases o <;> simp [AObj.uses]) (fun _ _ _ _ h=>h) (fun k g c s _ hg=>hk g (hC.own k g c s hg).1)⟩
theorem Ret.of_below {P:Program} {f:FuncId} {args:List AV} {hi:Hp} {n:Nat} {r:AV} (hent:∀ args w,(callFunc f args).run P w=.ok (.enter f args) w) (hu:∀ K,r.uses K)
 (h:∀ (w:World) (ι:Loc) (A:Nat→Prop) (vs:List Value),Core ⟨P,w,Mut ι,A,0,fun _=>none,[0]⟩ ι A hi n w→All2 (VRel w A ι) vs args→∃ v,(∀ w',VRel w' A ι v r)∧Calls P f vs.toArray w fun e w'=>e=.returned v∧Below w.heap.size w w') :
 Ret P f args hi n true (Is r hi n):=by
 refine ⟨hent,fun w ι A vs hC h1 h2 h3 h4=>?_⟩
 obtain ⟨v,hv,hc⟩:=h w ι A vs hC h2
 refine Calls.mono hc ?_
 rintro e w' ⟨rfl,hb⟩
 refine ⟨v,r,hi,n,ι,A,rfl,⟨rfl,rfl,rfl⟩,Nat.le_refl _,hC.below hb,fun k hk=>h1 k ?_,hv w',hu _,h4,fun id h=>h,fun id h=>.inl h,fun id o p _ _ h=>h⟩
 unfold placeB
 rw [hk]
end Go.Am
namespace Go.Am
open Go.RowKit
set_option linter.unusedVariables false
structure CoinD where
 tx:Int
 out:Int
 val:Int
 lock:List Int
 h:Int
 base:Bool
deriving DecidableEq
abbrev coinRow (c:CoinD):List AV:=[iv c.tx,iv c.out,iv c.val,il c.lock,iv c.h,bv c.base]
abbrev coinV (c:CoinD):AV:=.agg (coinRow c)
abbrev coinsV (l:List CoinD):AV:=.lst (l.map coinRow)
def coinC (c:CoinD):Int:=if inR 0 2147483646 c.tx∧inR 0 3 c.out∧inR 0 1000000 c.val∧inR 0 9999 c.h then progC c.lock else 3
def lessP (a b:CoinD):Prop:=a.tx < b.tx∨a.tx=b.tx∧a.out < b.out
instance (a b:CoinD):Decidable (lessP a b):=inferInstanceAs (Decidable (_∨_∧_))
def ordP:Option CoinD→CoinD→Bool
 | none,_=>true
 | some q,c=>decide (lessP q c)
def cgC (p:Option CoinD):List CoinD→Int
 | []=>0
 | c::r=>if coinC c≠0 then coinC c else if ordP p c=true then cgC (some c) r else 1
abbrev valsC (l:List CoinD):List Int:=l.map (·.val)
def coinsC (l:List CoinD):Int:=if 40 < l.length then 2 else if cgC none l≠0 then cgC none l else if inR 0 1000000 (sumV (valsC l)) then 0 else 7
def prevC (l:List CoinD) (k:Nat):Option CoinD:=(l.take k).getLast?
theorem prevC_zero (l:List CoinD):prevC l 0=none:=by simp [prevC]
theorem prevC_succ (l:List CoinD) (k:Nat) (h:k < l.length):prevC l (k + 1)=some l[k]:=by
 rw [prevC,takeS l k h,List.getLast?_append]; rfl
theorem cgC_at (l:List CoinD) (k:Nat) (h:k < l.length):cgC (prevC l k) (l.drop k)=if coinC l[k]≠0 then coinC l[k] else if ordP (prevC l k) l[k]=true then cgC (prevC l (k + 1)) (l.drop (k + 1)) else 1:=by
 rw [prevC_succ l k h,List.drop_eq_getElem_cons h,cgC]
theorem cgC_end (l:List CoinD):cgC (prevC l l.length) (l.drop l.length)=0:=by rw [List.drop_length,cgC]
theorem coinC_val {c:CoinD} (h:¬ coinC c≠0):inR 0 1000000 c.val:=by
 unfold coinC at h
 split at h
 · rename_i h'; exact h'.2.2.1
 · simp at h
def cmpI (a b:Int):Int:=if a < b then -1 else if b < a then 1 else 0
def cmpC (a b:CoinD):Int:=if cmpI a.tx b.tx≠0 then cmpI a.tx b.tx else cmpI a.out b.out
theorem cmpC_less (a b:CoinD):¬ 0≤cmpC a b↔lessP a b:=by
 unfold cmpC cmpI lessP
 repeat' split
 all_goals omega
abbrev pCoin (c:CoinD):Nat:=c.lock.length
structure FitsC (l:List CoinD):Prop where
 len:l.length≤1048576
 locks:∀ c∈l,pCoin c≤1048576
end Go.Am
namespace Go.Proofs.YtllhgcfacgiabaaGreat
open Go Go.Am Go.RowKit
set_option linter.unusedVariables false
set_option linter.unusedSimpArgs false
structure PlaceD where
 up:Int
 sum:Int
 time:Int
 h:Int
 coins:List CoinD
abbrev placeRow (x:PlaceD):List AV:=[iv x.up,iv x.sum,iv x.time,iv x.h,.lst (x.coins.map coinRow)]
def nodeF (xs:List PlaceD) (sum:Int):Option Nat:=xs.findIdx? fun x=>decide (x.sum=sum)
def nodeR (xs:List PlaceD) (sum:Int):List AV:=match nodeF xs sum with | some k=>[iv ((k:Int) + -1),bv true] | none=>[iv 0,bv false]
theorem flat5:∀ (xs:List PlaceD) (k i:Nat) (x:PlaceD),xs[k]?=some x→i < 5→((xs.map placeRow).flatten)[k * 5 + i]?=(placeRow x)[i]?
 | [],k,i,x,h,_=>by simp at h
 | y::r,0,i,x,h,hi=>by
   simp at h; subst h
   rw [List.map_cons,List.flatten_cons,List.getElem?_append_left (by simp; omega),Nat.zero_mul,Nat.zero_add]
 | y::r,k + 1,i,x,h,hi=>by
   rw [List.map_cons,List.flatten_cons,List.getElem?_append_right (by simp; omega)]
   have:=flat5 r k i x (by simpa using h) hi
   rw [← this]
   congr 1
   simp; omega
theorem choose_list {α:Type} {Q:Nat→α→Prop}:∀ (n:Nat),(∀ k,k < n→∃ y,Q k y)→∃ ys:List α,ys.length=n∧∀ k y,ys[k]?=some y→Q k y
 | 0,_=>⟨[],rfl,fun k y h=>by simp at h⟩
 | n + 1,h=>by
   obtain ⟨ys,h1,h2⟩:=choose_list n fun k hk=>h k (by omega)
   obtain ⟨y,hy⟩:=h n (by omega)
   refine ⟨ys++[y],by simp [h1],fun k z hz=>?_⟩
   by_cases hk:k < ys.length
   · rw [List.getElem?_append_left hk] at hz; exact h2 k z hz
   · rw [List.getElem?_append_right (by omega)] at hz
     have:k - ys.length=0:=by
      cases hh:k - ys.length with
      | zero=>rfl
      | succ m=>rw [hh] at hz; simp at hz
     rw [this] at hz
     simp at hz
     subst hz
     obtain rfl:k=n:=by omega
     exact hy
theorem places_of {P:Program} {w:World} {ι:Am.Loc} {A:Nat→Prop} {n:Nat} {bits:Int} {xs:List PlaceD} {i j:Nat} {v0:Value} {M:Nat→Prop} (hC:Core ⟨P,w,M,A,0,fun _=>none,[0]⟩ ι A [(i,.box [iv bits,.own j xs.length]),(j,.list 109 5 (xs.map placeRow))] n w) (hij:i≠j) (hne:xs≠[]) (r0:VRel w A ι v0 (.pt i 0 0)) :
 ∃ (g:Nat) (ys:List PW),v0=.pointer (some ⟨g,0,none⟩)∧PlacesAt w.heap.size w g ys∧ys.length=xs.length∧∀ (k:Nat) (y:PW),ys[k]?=some y→∃ x:PlaceD,xs[k]?=some x∧y.up=x.up∧y.sum=x.sum∧y.time=x.time∧y.h=x.h:=by
 obtain ⟨g,cg,sg,hι,rfl⟩:∃ g c s,ι ⟨i,[]⟩=some (.blk g c s)∧v0=.pointer (some ⟨g,0,none⟩):=by
  cases r0 with
  | one h=>cases h with
    | cell h=>cases h with
      | pt _ _ _ g c s h=>exact ⟨g,c,s,h,by simp⟩
      | rd h=>cases h
 obtain ⟨_,_,hob⟩:=hC.obj i _ (look_cons_eq _ _ _)
 obtain ⟨_,_,hol⟩:=hC.obj j _ ((look_cons_ne _ _ hij).trans (look_cons_eq _ _ _))
 have hglt:g < w.heap.size:=(hC.own ⟨i,[]⟩ g cg sg hι).1
 cases hob with
 | box g' c' s' T _ us hι' hs0 hw hc =>
 have hgg:g'=g:=by
  have:(i:Key)=⟨i,[]⟩:=rfl
  rw [this] at hι'
  rw [hι] at hι'; cases hι'; rfl
 subst hgg
 match us,hc with
 | [u0,u1],⟨c0,c1,_⟩ =>
 have hpos:0 < xs.length:=List.length_pos_iff.2 hne
 obtain ⟨b,cap,sj,hιj,rfl⟩:∃ b cap s,ι ⟨j,[]⟩=some (.blk b cap s)∧u1=.slice (some ⟨b,0,none⟩) xs.length cap:=by
  generalize hL:xs.length=L at c1
  cases c1 with
  | own _ _ b cap s h _ _=>exact ⟨b,cap,s,h,rfl⟩
  | own0 _ h=>omega
  | rd h=>cases h
 have hblt:b < w.heap.size:=(hC.own ⟨j,[]⟩ b cap sj hιj).1
 obtain ⟨e,ws,hwb,hcells⟩:∃ e ws,w.heap[b]?=some (.cells ws e (0,0))∧∀ (k i:Nat) (x:PlaceD) (av:AV),xs[k]?=some x→i < 5→(placeRow x)[i]?=some av→∃ v,ws[k * 5 + i]?=some v∧Rd w A v av:=by
  generalize hrows:xs.map placeRow=rows at hol
  cases hol with
  | nil e s h hs =>
    exfalso
    have:(xs.map placeRow).length=0:=by rw [hrows]; rfl
    rw [List.length_map] at this; omega
  | list g2 cap2 _ _ _ ws h hs hr hl hm hw2 hn hcc =>
    have:(j:Key)=⟨j,[]⟩:=rfl
    rw [this,hιj] at h
    cases h
    refine ⟨_,ws.toArray,hw2,fun k i x av hx hi hav=>?_⟩
    have hlt:k < xs.length:=(List.getElem?_eq_some_iff.1 hx).1
    have hidx:k * 5 + i < ws.length:=by
     rw [hn]
     have:xs.length≤cap:=by rw [← hrows,List.length_map] at hl; exact hl
     omega
    have hv:=List.getElem?_eq_getElem hidx
    refine ⟨ws[k * 5 + i],by simp,hcc (k * 5 + i) _ _ hv ?_⟩
    rw [← hrows,flat5 xs k i x hx hi]; exact hav
 obtain ⟨ys,hyl,hys⟩:∃ ys:List PW,ys.length=xs.length∧∀ k y,ys[k]?=some y→(∃ x,xs[k]?=some x∧y.up=x.up∧y.sum=x.sum∧y.time=x.time∧y.h=x.h)∧∀ i,i < 5→w.cell? ⟨b,k * 5 + i,none⟩=some (y.cell i):=by
  refine choose_list xs.length fun k hk=>?_
  have hx:=List.getElem?_eq_getElem hk
  have hcell:∀ i v,ws[k * 5 + i]?=some v→w.cell? ⟨b,k * 5 + i,none⟩=some v:=fun i v hv=>by
   simp only [World.cell?,hwb]
   simpa using hv
  obtain ⟨v0,k0,q0⟩:=hcells k 0 _ _ hx (by omega) rfl
  obtain ⟨v1,k1,q1⟩:=hcells k 1 _ _ hx (by omega) rfl
  obtain ⟨v2,k2,q2⟩:=hcells k 2 _ _ hx (by omega) rfl
  obtain ⟨v3,k3,q3⟩:=hcells k 3 _ _ hx (by omega) rfl
  obtain ⟨v4,k4,q4⟩:=hcells k 4 _ _ hx (by omega) rfl
  have z:∀ {v:Value} {z:Int},Rd w A v (iv z)→v=.int .i64 z:=fun h=>by cases h; rfl
  have e0:=z q0
  have e1:=z q1
  have e2:=z q2
  have e3:=z q3
  obtain ⟨a4,l4,c4,e4⟩:∃ a l c,v4=.slice a l c:=by
   have q5:Rd w A v4 (.lst (xs[k].coins.map coinRow)):=q4
   clear q4 k4
   generalize xs[k].coins.map coinRow=rws at q5
   cases q5 with
   | nil a cap _=>exact ⟨_,_,_,rfl⟩
   | lst=>exact ⟨_,_,_,rfl⟩
  subst e0 e1 e2 e3 e4
  refine ⟨⟨xs[k].up,xs[k].sum,xs[k].time,xs[k].h,a4,l4,c4⟩,⟨_,hx,rfl,rfl,rfl,rfl⟩,fun i hi=>?_⟩
  match i,hi with
  | 0,_=>exact hcell 0 _ k0
  | 1,_=>exact hcell 1 _ k1
  | 2,_=>exact hcell 2 _ k2
  | 3,_=>exact hcell 3 _ k3
  | 4,_=>exact hcell 4 _ k4
 have hP:PlacesAt w.heap.size w g' ys:=by
  refine ⟨b,cap,hglt,hblt,?_,fun k y hy i hi=>(hys k y hy).2 i hi⟩
  rw [hyl]
  simp only [World.cell?,hw]
  rfl
 exact ⟨g',ys,rfl,hP,hyl,fun k y hy=>(hys k y hy).1⟩
theorem nodeOf_ret (bits sum:Int) (xs:List PlaceD) (i j n:Nat) (hij:i≠j) (hlen:xs.length≤9) (hne:xs≠[]) :
 Ret Tryz.prog 120 [.pt i 0 0,iv sum] [(i,.box [iv bits,.own j xs.length]),(j,.list 109 5 (xs.map placeRow))] n true (Is (.tup (nodeR xs sum)) [(i,.box [iv bits,.own j xs.length]),(j,.list 109 5 (xs.map placeRow))] n):=by
 have hent:∀ args w,(callFunc 120 args).run Tryz.prog w=.ok (.enter 120 args) w:=enters_of Tryz.func120 (by kernel_rfl) rfl
 refine Ret.of_below hent ?_ ?_
 · intro K
   unfold nodeR
   split <;> (intro v hv; simp only [List.mem_cons,List.not_mem_nil,or_false] at hv; rcases hv with rfl | rfl <;> exact ⟨fun id h=>(by cases h),fun cs h=>(by cases h)⟩)
 intro w ι A vs hC hrel
 match vs,hrel with
 | [v0,v1],⟨r0,r1,_⟩ =>
 have e1:v1=.int .i64 sum:=r1.val_inv.1
 subst e1
 obtain ⟨g',ys,rfl,hP,hyl,hys⟩:=places_of hC hij hne r0
 have hcall:=nodeOf_in 3 (Nat.le_refl _) g' sum ⟨0,0,0,0,none,0,0⟩ ys (by omega) w hP
 have hcall':=callsIn_wide.1 hcall
 have hsum:∀ k:Nat,(ys[k]?).map (·.sum)=(xs[k]?).map (·.sum):=fun k=>by
  cases hy:ys[k]? with
  | none =>
    have:xs[k]?=none:=by rw [List.getElem?_eq_none_iff] at hy ⊢; omega
    rw [this]; rfl
  | some y =>
    obtain ⟨x,hx,_,e,_⟩:=hys k y hy
    rw [hx]; simp [e]
 refine ⟨.tuple (match nodeF xs sum with | some k=>#[.int .i64 ((k:Int) + -1),.bool true] | none=>#[.int .i64 0,.bool false]),fun w'=>?_,Calls.mono hcall' ?_⟩
 · unfold nodeR
   cases nodeF xs sum with
   | some k=>exact .tup [_,_] _ ⟨.cell (.rd (.val _ rfl)),.cell (.rd (.val _ rfl)),trivial⟩
   | none=>exact .tup [_,_] _ ⟨.cell (.rd (.val _ rfl)),.cell (.rd (.val _ rfl)),trivial⟩
 · rintro e w' ⟨h,hb⟩
   refine ⟨?_,hb⟩
   rcases h with ⟨rfl,hno⟩ | ⟨k,y,hy,e1,hno,rfl⟩
   · have:nodeF xs sum=none:=by
      unfold nodeF
      rw [List.findIdx?_eq_none_iff]
      intro x hx
      obtain ⟨k,hk,rfl⟩:=List.mem_iff_getElem.1 hx
      have h1:=hsum k
      rw [List.getElem?_eq_getElem hk,List.getElem?_eq_getElem (by omega)] at h1
      simp only [Option.map_some,Option.some.injEq] at h1
      rw [← h1]
      simpa using hno _ (List.getElem_mem (by omega))
     rw [this]
   · have:nodeF xs sum=some k:=by
      unfold nodeF
      have hk:k < ys.length:=(List.getElem?_eq_some_iff.1 hy).1
      rw [List.findIdx?_eq_some_iff_getElem]
      refine ⟨by omega,?_,fun j hj=>?_⟩
      · have h1:=hsum k
        rw [hy,List.getElem?_eq_getElem (by omega)] at h1
        simp only [Option.map_some,Option.some.injEq] at h1
        rw [← h1]; simpa using e1
      · have h1:=hsum j
        have hy2:=List.getElem?_eq_getElem (show j < ys.length by omega)
        rw [hy2,List.getElem?_eq_getElem (show j < xs.length by omega)] at h1
        simp only [Option.map_some,Option.some.injEq] at h1
        rw [← h1]
        simpa using hno j _ hj hy2
     rw [this]
end Go.Proofs.YtllhgcfacgiabaaGreat
