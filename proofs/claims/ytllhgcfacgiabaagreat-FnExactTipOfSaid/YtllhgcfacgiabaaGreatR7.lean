import Derived.Test.YtllhgcfacgiabaaGreatR16
import Derived.Test.YtllhgcfacgiabaaGreatR6
namespace Go.Proofs.YtllhgcfacgiabaaGreat
open Go Go.RowKit Go.Shelf
attribute [local go_sem] Oper.semAt_some
set_option linter.unusedVariables false
set_option linter.unusedSimpArgs false
@[local go_sem] theorem field_place3 (a b c d:Int) (s:Option Addr) (m k:Nat) (w:World):(Instr.field 109 (.agg #[.int .i64 a,.int .i64 b,.int .i64 c,.int .i64 d,.slice s m k]) 3).run Tryz.prog w=.ok (.int .i64 d) w:=by kernel_rfl
def tipS (h:Nat→Int) (n:Nat) (pre:List (Fin n)):Nat:=pre.foldl (fun b x=>if h b < h x.1 then x.1 else b) 0
theorem tipS_snoc (h:Nat→Int) (n:Nat) (pre:List (Fin n)) (x:Fin n):tipS h n (pre++[x])=if h (tipS h n pre) < h x.1 then x.1 else tipS h n pre:=by unfold tipS; rw [List.foldl_append]; rfl
theorem tipS_lt (h:Nat→Int) (n:Nat) (hn:0 < n) (pre:List (Fin n)):tipS h n pre < n:=by
 have:∀ (l:List (Fin n)) (b:Nat),b < n→l.foldl (fun b x=>if h b < h x.1 then x.1 else b) b < n:=by
  intro l
  induction l with
  | nil=>intro b hb; exact hb
  | cons x r ih =>
    intro b hb
    rw [List.foldl_cons]
    refine ih _ ?_
    split
    · exact x.2
    · exact hb
 exact this pre 0 hn
def tipN (h:Nat→Int):Nat→Nat
 | 0=>0
 | k + 1=>if h (tipN h k) < h k then k else tipN h k
theorem tipS_upF (h:Nat→Int) (n:Nat):∀ (k:Nat) (hk:k≤n),tipS h n (upF n k hk)=tipN h k
 | 0,_=>rfl
 | k + 1,hk=>by rw [upF,tipS_snoc,tipS_upF h n k,tipN]
def hsP (xs:List PW) (k:Nat):Int:=match xs[k]? with | some x=>x.h | none=>0
theorem hsP_at (xs:List PW) (k:Nat) (h:k < xs.length):hsP xs k=xs[k].h:=by unfold hsP; rw [List.getElem?_eq_getElem h]
theorem boxed_below {W W':World} {B:Nat} {t:TypeId} {v:Value} (h:Boxed W B t v) (hb:Below W.heap.size W W'):Boxed W' B t v:=by
 have hlt:B < W.heap.size:=(Array.getElem?_eq_some_iff.1 h).1
 exact (hb.block B hlt).trans h
theorem BoxedP.cell3 {W:World} {B:Nat} {x:PW} (h:BoxedP W B x):W.cell? ⟨B,3,none⟩=some (.int .i64 x.h):=by simp [World.cell?,show W.heap[B]?=_ from h]
set_option maxRecDepth 100000 in
set_option maxHeartbeats 4000000 in
theorem tip_in (n:Nat) (hn:4≤n) (g:Nat) (xs:List PW) (h0:0 < xs.length) (hlen:xs.length≤1000) (w:World) (hP:PlacesAt w.heap.size w g xs) :
 CallsIn Fence.wide n Tryz.prog 69 #[.pointer (some ⟨g,0,none⟩)] w fun e W'=>e=.returned (.int .i64 ((tipN (hsP xs) xs.length:Int) + -1))∧Below w.heap.size w W':=by
 have h1:1≤n:=by omega
 refine callsIn_of_wp_marks Tryz.func69 rfl trivial ?_ rfl
 simp only [Tryz.ntmps69,List.size_toArray,List.length_cons,List.length_nil,Nat.reduceAdd,Nat.reduceSub,Array.replicate_succ,Array.replicate_zero,List.push_toArray,List.append_toArray,List.nil_append,List.cons_append]
 gi_wp2_with (refine ⟨trivial,?_⟩; gi_at_call 125; refine (all_in (n - 1) _ _).mono ?_; rintro e w' ⟨rfl,rfl⟩)
 have bT:=((Boxed.new w 171 (.pointer (some ⟨g,0,none⟩))).alloc (.cells #[.int .i64 (-1)] 2)).alloc (.cells #[.pointer (some ⟨g,0,none⟩)] 171)
 have bI:=(Boxed.new (w.alloc (.cells #[.pointer (some ⟨g,0,none⟩)] 171)) 2 (.int .i64 (-1))).alloc (.cells #[.pointer (some ⟨g,0,none⟩)] 171)
 have bN:=Boxed.new ((w.alloc (.cells #[.pointer (some ⟨g,0,none⟩)] 171)).alloc (.cells #[.int .i64 (-1)] 2)) 171 (.pointer (some ⟨g,0,none⟩))
 simp only [World.size_alloc] at bI bN
 have hB0:Below w.heap.size w (((w.alloc (.cells #[.pointer (some ⟨g,0,none⟩)] 171)).alloc (.cells #[.int .i64 (-1)] 2)).alloc (.cells #[.pointer (some ⟨g,0,none⟩)] 171)):=(((Below.refl _ w).alloc (Nat.le_refl _) _).alloc (by simp) _).alloc (by simp; omega) _
 have hsz:(((w.alloc (.cells #[.pointer (some ⟨g,0,none⟩)] 171)).alloc (.cells #[.int .i64 (-1)] 2)).alloc (.cells #[.pointer (some ⟨g,0,none⟩)] 171)).heap.size=w.heap.size + 3:=by simp
 obtain ⟨W0,hW0⟩:∃ W0,((w.alloc (.cells #[.pointer (some ⟨g,0,none⟩)] 171)).alloc (.cells #[.int .i64 (-1)] 2)).alloc (.cells #[.pointer (some ⟨g,0,none⟩)] 171)=W0:=⟨_,rfl⟩
 rw [hW0] at bT bI bN hB0 hsz ⊢
 clear hW0
 refine wpIn_rangeFunc_ownH rfl h1 (gf:=164) (lb:=#[.pointer (some ⟨w.heap.size + 1 + 1,0,none⟩)]) rfl trivial (enters_of Tryz.func164 (by kernel_rfl) rfl)
  (allF_stops (n - 1) (by omega) (w.heap.size + 1 + 1) g w.heap.size xs hlen W0 (by omega) (by omega) bN.cell (hP.below hB0)) belowK_t (belowK_b (by omega)) (Below.refl _ _) (fun _=>rfl)
  (fun pre W=>(Boxed W w.heap.size 171 (.pointer (some ⟨g,0,none⟩))∧Boxed W (w.heap.size + 1) 2 (.int .i64 ((tipS (hsP xs) xs.length pre:Int) + -1)))∧Below w.heap.size w W)
  (fun c pre W=>False∧Below w.heap.size w W)
  (OwnFrom.and (Own.from (fun s A B row hs hg hr=>⟨boxed_kept hs.1 hg hr,boxed_kept hs.2 hg hr⟩) _) (ownFrom_below (Nat.le_refl _) (by omega)))
  (fun c=>OwnFrom.and (Own.from (fun s A B row hs hg hr=>hs) _) (ownFrom_below (Nat.le_refl _) (by omega)))
  ⟨⟨bT,by rw [show ((tipS (hsP xs) xs.length []:Nat):Int) + -1=-1 from rfl]; exact bI⟩,hB0⟩
  (fun x a' W=>∃ Bx,w.heap.size + 1 < Bx∧BoxedP W Bx xs[x.1]∧a'={ tmps:=#[.pointer (some ⟨g,0,none⟩),.pointer (some ⟨w.heap.size,0,none⟩),.int .i64 0,.pointer (some ⟨w.heap.size + 1,0,none⟩),.int .i64 ((x.1:Int) + -1),.pointer (some ⟨Bx,0,none⟩),.pointer (some ⟨g,0,none⟩),.func (.func 164) #[] #[.pointer (some ⟨w.heap.size + 1 + 1,0,none⟩)],.int .i64 ((x.1:Int) + -1),xs[x.1].v,undef,undef,undef,undef,undef,undef,undef,undef,undef],defers:=[] })
  (fun x a' _ X Y row hs hg hr=>by obtain ⟨Bx,h1,h2,h3⟩:=hs; exact ⟨Bx,h1,h2.kept hg (fun r e=>(hr r e).2),h3⟩)
  ?assign ?body ?done ?stop
 case assign =>
  rintro l pre x W K ⟨⟨bT1,bI1⟩,hB1⟩ hK
  have hxv:enF xs x=#[.int .i64 ((x.1:Int) + -1),.agg #[.int .i64 xs[x.1].up,.int .i64 xs[x.1].sum,.int .i64 xs[x.1].time,.int .i64 xs[x.1].h,.slice xs[x.1].a xs[x.1].len xs[x.1].cap]]:=rfl
  rw [hxv]
  gi_wp2
  exact hK _ _ ((KeepsOthers.alloc _ _).from _) ((Below.refl _ W).alloc hB1.size _) ⟨⟨bT1.alloc _,bI1.alloc _⟩,hB1.alloc hB1.size _⟩ ⟨W.heap.size,bI1.lt,BoxedP.new W xs[x.1],rfl⟩
 case body =>
  rintro l pre x a' W hl ⟨r,hr⟩ ⟨⟨bT1,bI1⟩,hB1⟩ ⟨Bx,hBx,bX,rfl⟩ hlt
  have hk:=tipS_lt (hsP xs) xs.length h0 pre
  have cX:=bX.cell3
  have cT:=bT1.cell
  have cI:=bI1.cell
  have fI:=bI1.frozen
  have hdr:Below w.heap.size w W.drew:=hB1.drew
  have hPd:PlacesAt w.heap.size W.drew g xs:=hP.below hdr
  have hxl:=bX.lt
  have hd:1≤n - 1 - 1:=by omega
  gi_wp2
  gi_region_with (refine ⟨trivial,?_⟩; gi_at_call 73; refine (CallsIn.inRound l (at_in _ g w.heap.size (tipS (hsP xs) xs.length pre) xs hk hlen _ hdr.size hPd)).mono ?_; rintro e w' ⟨rfl,hbw⟩; have cX':w'.cell? ⟨Bx,3,none⟩=some (.int .i64 xs[x.1].h):=(hbw.cell (p:=⟨Bx,3,none⟩) hxl).trans cX; have hbW:Below W.heap.size W.drew w':=hbw; clear hbw)
  all_goals
   have bT2:Boxed w' w.heap.size 171 (.pointer (some ⟨g,0,none⟩)):=boxed_below (W:=W.drew) bT1 hbW
   have bI2:Boxed w' (w.heap.size + 1) 2 (.int .i64 ((tipS (hsP xs) xs.length pre:Int) + -1)):=boxed_below (W:=W.drew) bI1 hbW
   have hK2:KeepsFrom W0.heap.size W w':=⟨hbW.size,fun k o _ hk _=>(hbW.block k (Array.getElem?_eq_some_iff.1 hk).1).trans hk⟩
   have hB2:Below w.heap.size W w':=(Below.refl _ W).drew.trans (hbW.mono hB1.size)
   have hB3:=hB1.trans hB2
   have cI2:=bI2.cell
   have fI2:=bI2.frozen
   have hsn:=tipS_snoc (hsP xs) xs.length pre x
   rw [hsP_at xs _ hk,hsP_at xs _ x.2] at hsn
   gi_wp2
   · rename_i hb
     rw [if_pos (by simpa using hb)] at hsn
     exact ⟨hK2.trans ((KeepsOthers.setCell _ _ _).from _),hB2.setCell (p:=⟨w.heap.size + 1,0,none⟩) (by simp) _,⟨bT2.other (by omega) _,by rw [hsn]; exact bI2.set _⟩,hB3.setCell (p:=⟨w.heap.size + 1,0,none⟩) (by simp) _⟩
   · rename_i hb
     rw [if_neg (by simpa using hb)] at hsn
     exact ⟨hK2,hB2,⟨bT2,by rw [hsn]; exact bI2⟩,hB3⟩
 case done =>
  rintro D ys W hD rfl ⟨⟨bT1,bI1⟩,hB⟩ hK
  have cI:=bI1.cell
  rw [tipS_upF] at cI
  gi_wp2
  refine ⟨by simp,.inl ⟨_,_,rfl,run_takeDeferred hK,?_⟩⟩
  exact ⟨_,results_tmp rfl _ _ _,by simp,hB.trans (belowK_b (w:=w) (Nat.le_refl _) W D _ _ (by omega) hK rfl rfl)⟩
 case stop =>
  rintro D c pre W hD _ ⟨hF,_⟩ hK
  exact hF.elim
end Go.Proofs.YtllhgcfacgiabaaGreat
namespace Go.Proofs.YtllhgcfacgiabaaGreat
open Go Go.Am Go.RowKit
set_option linter.unusedVariables false
set_option linter.unusedSimpArgs false
theorem l1Target_ret (b:Int) (n:Nat) (hb:bitsB b=true):Ret Tryz.prog 100 [iv b] [] n true (Is (iv (tgtB b)) [] n):=by
 unfold bitsB at hb
 simp only [decide_eq_true_eq] at hb
 have hr:b.tmod 256=b % 256:=Int.tmod_eq_emod_of_nonneg (by omega)
 unfold tgtB tgF
 obtain ⟨e,he⟩:∃ e,e=b / 256:=⟨_,rfl⟩
 have hq:IntKind.i64.wrap (b.tdiv 256)=e:=by rw [Int.tdiv_eq_ediv_of_nonneg (by omega),IntWalk.i64_in _ (by omega),he]
 rw [← he]
 rcases (by omega:e=0∨e=1∨e=2∨e=3) with rfl | rfl | rfl | rfl
 all_goals
  refine Ret.fn ttOk Tryz.func100 rfl Tryz.call100 rfl rfl ?_
  refine Goes ?_
  rw [hq]
  refine ⟨by decide,?_⟩
  refine Goes ?_
  refine FinOk.pure rfl rfl rfl ⟨?_,rfl,rfl⟩
  refine ivI ?_
  rw [hr]
  simp (disch:=omega) [IntKind.bits,IntWalk.i64_in,IntWalk.u64_in]
  try (simp (disch:=omega) [IntWalk.i64_in])
  try rw [Int.add_mul]
  try rw [Int.one_mul]
def findP (xs:List PlaceD) (s:Int):Int:=match nodeF xs s with | some k=>(k:Int) + -1 | none=>-2
structure Upto (t:TreeD) (xs:List PlaceD) (i:Nat):Prop where
 good:Good t.bits xs (t.nodes.take i)
 le:i≤t.nodes.length
 cap:t.nodes.length≤8
theorem Upto.len {t:TreeD} {xs:List PlaceD} {i:Nat} (h:Upto t xs i):xs.length=i + 1:=by
 have:=h.le
 rw [h.good.len,List.length_take]; omega
theorem Upto.at {t:TreeD} {xs:List PlaceD} {i k:Nat} (h:Upto t xs i) (hk:k < i) (hk2:k < t.nodes.length):-1≤t.nodes[k].up∧t.nodes[k].up + 1≤k∧FitsB t.nodes[k].blk∧blkF t.nodes[k].blk=0∧∃ p,xs[(t.nodes[k].up + 1).toNat]?=some p∧xs[k + 1]?=some (nextP p t.nodes[k].up t.nodes[k].blk)∧codeP t.bits p t.nodes[k].blk=0:=by
 have hn:(t.nodes.take i)[k]?=some t.nodes[k]:=by rw [List.getElem?_take_of_lt hk]; exact List.getElem?_eq_getElem hk2
 obtain ⟨a1,a2,a3⟩:=h.good.up k _ hn
 obtain ⟨b1,b2⟩:=h.good.fit _ (List.mem_of_getElem? hn)
 exact ⟨a1,a2,b1,b2,a3⟩
theorem l6Find_rp (t:TreeD) (xs:List PlaceD) (s:Int) (i n:Nat) (hu:Upto t xs i):Ret Tryz.prog 117 [.rp (treeC t),iv s,iv i] [] n true (Is (iv (findP xs s)) [] n):=by
 have hL:(t.nodes.map nodeC).length=t.nodes.length:=by simp
 have hxl:=hu.len
 have hi:=hu.le
 have h8:=hu.cap
 have hz0:nodeF xs 0=some 0:=hu.good.nodeF_at hu.good.zero
 by_cases h0:s=0
 · subst h0
   have hf:findP xs 0=-1:=by unfold findP; rw [hz0]; rfl
   rw [hf]
   refine Ret.fn ttOk Tryz.func117 rfl Tryz.call117 rfl rfl ?_
   refine Goes ?_
   refine FinOk.pure rfl rfl rfl ⟨?_,rfl,rfl⟩
   rfl
 have hs0:∀ (q:Nat) (r:PlaceD),q < 0 + 1→xs[q]?=some r→r.sum≠s:=fun q r hq hr e=>by
  obtain rfl:q=0:=by omega
  rw [hu.good.zero] at hr
  cases hr
  exact h0 e.symm
 refine Ret.fn ttOk Tryz.func117 rfl Tryz.call117 rfl rfl ?_
 refine Goes ?_;repeat' first|apply W2.m|refine W1.m fun h=>?_
 refine LoopP.go (fun k:Nat=>k≤i∧∀ (q:Nat) (r:PlaceD),q < k + 1→xs[q]?=some r→r.sum≠s) (fun k=>⟨[(0,.rp (treeC t)),(1,iv s),(2,iv i),(7,iv k)],[],0⟩) (fun k=>i - k) 0 ⟨Nat.zero_le _,hs0⟩ (Weak.of rfl rfl ktA trivial) ?_
 intro k ⟨hk,hp⟩
 by_cases hlt:k < i
 · have hlt2:k < t.nodes.length:=by omega
   obtain ⟨a1,a2,hf,hb,p,a3,a4,a5⟩:=hu.at hlt hlt2
   obtain ⟨_,hl1,hl4,hz⟩:=blkF_ok hb
   have hh:=fun n=>l6Header_rp t.nodes[k].blk n hl1 hl4 hz
   refine Goes ?_;repeat' first|apply W2.m|refine W1.m fun h=>?_
   rw [rowK nodeC t.nodes k hlt2]
   refine ⟨by rw [hL]; exact ⟨by omega,by omega,rfl⟩,?_⟩
   refine Goes ?_
   first | refine CallP.is (hh _) rfl ?_ | refine CallQ.is (hh _) rfl rfl ?_
   refine Goes ?_;repeat' first|apply W2.m|refine W1.m fun h=>?_
   · have hF:findP xs s=(k:Int):=by
      unfold findP
      rw [nodeF_some.2 ⟨_,a4,by assumption,hp⟩]
      show ((k + 1:Nat):Int) + -1=k
      omega
     rw [hF]
     refine FinOk.pure rfl rfl rfl ⟨?_,rfl,rfl⟩
     rfl
   · exact ⟨k + 1,⟨by omega,fun q r hq hr e=>by
      by_cases hq2:q < k + 1
      · exact hp q r hq2 hr e
      · obtain rfl:q=k + 1:=by omega
        rw [a4] at hr
        cases hr
        exact absurd e (by assumption)⟩,by omega,(Weak.of rfl rfl ktA trivial)⟩
 · obtain rfl:k=i:=by omega
   have hF:findP xs s=-2:=by
    unfold findP
    rw [nodeF_none.2 fun p hp' e=>by
     obtain ⟨q,hq,rfl⟩:=List.getElem_of_mem hp'
     exact hp q _ (by omega) (List.getElem?_eq_getElem hq) e]
   rw [hF]
   refine Goes ?_;repeat' first|apply W2.m|refine W1.m fun h=>?_
   refine FinOk.pure rfl rfl rfl ⟨?_,rfl,rfl⟩
   rfl
theorem l6Height_rp (t:TreeD) (xs:List PlaceD) (i k n:Nat) (z:Int) (p:PlaceD) (hu:Upto t xs i) (hz:z=(k:Int) + -1) (hp:xs[k]?=some p):Ret Tryz.prog 71 [.rp (treeC t),iv z] [] n true (Is (iv p.h) [] n):=by
 have hL:(t.nodes.map nodeC).length=t.nodes.length:=by simp
 have hxl:=hu.len
 have hi:=hu.le
 have h8:=hu.cap
 have hP:=hu.good.ok
 obtain ⟨_,q1,q2⟩:=hP k p hp
 have hkl:=(List.getElem?_eq_some_iff.1 hp).1
 refine Ret.fn ttOk Tryz.func71 rfl Tryz.call71 rfl rfl ?_
 refine Goes ?_
 refine LoopP.go (fun y:Int × Int=>0≤y.2∧∃ (k:Nat) (q:PlaceD),y.1=(k:Int) + -1∧xs[k]?=some q∧y.2 + q.h=p.h) (fun y=>⟨[(0,.rp (treeC t)),(1,iv y.1),(5,iv y.2)],[],0⟩) (fun y=>(y.1 + 1).toNat) (z,0) ⟨Int.le_refl _,k,p,hz,hp,by show 0 + p.h=p.h; omega⟩ (Weak.of rfl rfl ktA trivial) ?_
 rintro ⟨z,m⟩ ⟨h1,k,q,hz,h2,h3⟩
 dsimp only at h1 hz h2 h3 ⊢
 cases k with
 | zero =>
   obtain rfl:z=-1:=by omega
   rw [hu.good.zero] at h2
   cases h2
   have:m=p.h:=by have:p0.h=0:=rfl; omega
   refine Goes ?_
   refine FinOk.pure rfl rfl rfl ⟨?_,rfl,rfl⟩
   rw [this]
 | succ u =>
   obtain rfl:z=(u:Int):=by omega
   have hku:=(List.getElem?_eq_some_iff.1 h2).1
   have hlt2:u < t.nodes.length:=by omega
   obtain ⟨a1,a2,hf,hb,r,a3,a4,a5⟩:=hu.at (show u < i by omega) hlt2
   rw [a4] at h2
   cases h2
   have hh:(nextP r t.nodes[u].up t.nodes[u].blk).h=r.h + 1:=rfl
   obtain ⟨_,r1,r2⟩:=hP _ r a3
   rw [hh] at h3
   refine Goes ?_
   rw [rowK nodeC t.nodes u hlt2]
   refine ⟨by rw [hL]; exact ⟨by omega,by omega,rfl⟩,?_⟩
   refine Goes ?_
   exact ⟨(t.nodes[u].up,m + 1),⟨by show 0≤m + 1; omega,(t.nodes[u].up + 1).toNat,r,by show t.nodes[u].up=_; omega,a3,by show m + 1 + r.h=p.h; omega⟩,by show (t.nodes[u].up + 1).toNat < ((u:Int) + 1).toNat; omega,Weak.of rfl rfl ⟨⟨rfl,rfl⟩,⟨rfl,rfl⟩,⟨leafI (by rw [IntWalk.i64_in _ (by omega)]),rfl⟩,trivial⟩ trivial⟩
theorem l6Coins_rp (t:TreeD) (xs:List PlaceD) (i:Nat) (hu:Upto t xs i):∀ (k n:Nat) (z:Int) (p:PlaceD),z=(k:Int) + -1→xs[k]?=some p→Ret Tryz.prog 75 [.rp (treeC t),iv z] [] n true (Is (coinsV p.coins) [] n):=by
 have hL:(t.nodes.map nodeC).length=t.nodes.length:=by simp
 have hxl:=hu.len
 have hi:=hu.le
 have h8:=hu.cap
 have hP:=hu.good.ok
 intro k
 induction k using Nat.strongRecOn with
 | _ k ih =>
 intro n z p hz hp
 cases k with
 | zero =>
   obtain rfl:z=-1:=by omega
   rw [hu.good.zero] at hp
   cases hp
   refine Ret.frList (len:=0) (rows:=[]) (e:=184) (s:=6) rfl ?_
   refine Ret.fn ttOk Tryz.func75 rfl Tryz.call75 rfl rfl ?_
   refine Goes ?_
   refine FinOk.mk' [0] rfl rfl rfl rfl rfl rfl rfl ⟨?_,?_,rfl⟩
   · rfl
   · rfl
 | succ u =>
   obtain rfl:z=(u:Int):=by omega
   have hku:=(List.getElem?_eq_some_iff.1 hp).1
   have hlt2:u < t.nodes.length:=by omega
   obtain ⟨a1,a2,hf,hb,r,a3,a4,a5⟩:=hu.at (show u < i by omega) hlt2
   have hhg:=fun n=>l6Height_rp t xs i (u + 1) n (u:Int) p hu (by omega) hp
   rw [a4] at hp
   cases hp
   have hh:(nextP r t.nodes[u].up t.nodes[u].blk).h=r.h + 1:=rfl
   rw [hh] at hhg
   obtain ⟨c0,r1,r2⟩:=hP _ r a3
   have hrl:=(List.getElem?_eq_some_iff.1 a3).1
   obtain ⟨_,hl1,hl4,hz⟩:=blkF_ok hb
   obtain ⟨t1,t2⟩:=applyB_ok c0 (codeP_ok a5).1
   have hcs:=fun n=>ih (t.nodes[u].up + 1).toNat (by omega) n t.nodes[u].up r (by omega) a3
   have htx:=fun n=>l6Txs_rp r.coins t.nodes[u].blk (r.h + 1) n c0 hf hl4 hz ⟨by omega,by omega⟩
   simp only [if_pos t1] at htx
   refine Ret.fn ttOk Tryz.func75 rfl Tryz.call75 rfl rfl ?_
   refine Goes ?_
   rw [rowK nodeC t.nodes u hlt2]
   refine ⟨by rw [hL]; exact ⟨by omega,by omega,rfl⟩,?_⟩
   refine Goes ?_
   rw [rowK nodeC t.nodes u hlt2]
   refine ⟨by rw [hL]; exact ⟨by omega,by omega,rfl⟩,?_⟩
   refine Goes ?_
   repeat' first
    | (first | refine CallQ.is (hcs _) rfl rfl ?_ | refine CallP.is (hcs _) rfl ?_
       refine Goes ?_)
    | (first | refine CallQ.is (hhg _) rfl rfl ?_ | refine CallP.is (hhg _) rfl ?_
       refine Goes ?_)
    | (first | refine CallQ.is (htx _) rfl rfl ?_ | refine CallP.is (htx _) rfl ?_
       refine Goes ?_;repeat' first|apply W2.m|refine W1.m fun h=>?_)
   all_goals
    refine FinOk.pure rfl rfl rfl ⟨?_,rfl,rfl⟩
    rfl
end Go.Proofs.YtllhgcfacgiabaaGreat
