import Derived.Test.YtllhgcfacgiabaaGreatAmG
import Derived.Below
import Derived.Test.YtllhgcfacgiabaaGreatM1
import Derived.Test.YtllhgcfacgiabaaGreatR2
import Derived.Test.YtllhgcfacgiabaaGreatLawC
namespace Go.Am
open Go.RowKit
set_option linter.unusedVariables false
set_option linter.unusedSimpArgs false
theorem Core.below {ι:Loc} {A:Nat->Prop} {hi:Hp} {n:Nat} {P:Program} {w w':World} (hC:Core ⟨P,w,Mut ι,A,0,fun _=>none,[0]⟩ ι A hi n w) (hb:Below w.heap.size w w'):Core ⟨P,w,Mut ι,A,0,fun _=>none,[0]⟩ ι A hi n w':=by
 have ao:=hb.size
 have hk:∀ b,b < w.heap.size->w'.heap[b]?=w.heap[b]?:=fun b h=>(Frame.of_below (D:=fun _=>False) hb).block b h (fun e=>e)
 refine ⟨Frame.of_below hb,hC.sub,fun b h=>Nat.lt_of_lt_of_le (hC.lt b h) ao,hC.dis,fun k g c s h=>⟨Nat.lt_of_lt_of_le (hC.own k g c s h).1 ao,(hC.own k g c s h).2⟩,hC.inj,hC.new,fun id o h=>?_,fun id p h=>(by cases h),⟨fun _ _=>rfl,fun e=>(by cases e)⟩⟩
 obtain ⟨h1,h2,h3⟩:=hC.obj id o h
 refine ⟨h1,h2,h3.mono (K:=fun _=>True) ⟨fun b h=>⟨h,hk b (hC.lt b h)⟩,fun _ _ _ h=>h⟩ trivial (by cases o <;> simp [A2.uses]) (fun _ _ _ _ h=>h) (fun k g c s _ hg=>hk g (hC.own k g c s hg).1)⟩
theorem Ret.of_below {P:Program} {f:FuncId} {args:List AV} {hi:Hp} {n:Nat} {r:AV} (cf:∀ args w,(callFunc f args).run P w=.ok (.enter f args) w) (hu:∀ K,r.uses K)
 (h:∀ (w:World) (ι:Loc) (A:Nat->Prop) (vs:List Value),Core ⟨P,w,Mut ι,A,0,fun _=>none,[0]⟩ ι A hi n w->Al (Bi w A ι) vs args->∃ v,(∀ w',Bi w' A ι v r)/\Calls P f vs.toArray w fun e w'=>e=.returned v/\Below w.heap.size w w') :
 Ret P f args hi n true (Is r hi n):=by
 refine ⟨cf,fun w ι A vs hC h1 h2 h3 h4=>?_⟩
 obtain ⟨v,hv,hc⟩:=h w ι A vs hC h2
 refine Calls.mono hc ?_
 rintro e w' ⟨rfl,hb⟩
 refine ⟨v,r,hi,n,ι,A,rfl,⟨rfl,rfl,rfl⟩,Nat.le_refl _,hC.below hb,fun k hk=>h1 k ?_,hv w',hu _,h4,fun id h=>h,fun id h=>.inl h,fun id o p _ _ h=>h⟩
 unfold D7
 rw [hk]
end Go.Am
namespace Go.Am
open Go.RowKit
set_option linter.unusedVariables false
structure Ah where
 tx:Int
 out:Int
 val:Int
 lock:List Int
 h:Int
 base:Bool
deriving DecidableEq
abbrev Ai (c:Ah):List AV:=[iv c.tx,iv c.out,iv c.val,il c.lock,iv c.h,bv c.base]
abbrev Gr (c:Ah):AV:=.agg (Ai c)
abbrev A0 (l:List Ah):AV:=.lst (l.map Ai)
def Ed (c:Ah):Int:=if inR 0 2147483646 c.tx/\inR 0 3 c.out/\inR 0 1000000 c.val/\inR 0 9999 c.h then C3 c.lock else 3
def Bz (a b:Ah):Prop:=a.tx < b.tx∨a.tx=b.tx/\a.out < b.out
instance (a b:Ah):Decidable (Bz a b):=inferInstanceAs (Decidable (_∨_/\_))
def Sq:Option Ah->Ah->Bool
 | none,_=>true
 | some q,c=>decide (Bz q c)
def cgC (p:Option Ah):List Ah->Int
 | []=>0
 | c::r=>if Ed c≠0 then Ed c else if Sq p c=true then cgC (some c) r else 1
abbrev Cn (l:List Ah):List Int:=l.map (·.val)
def A5 (l:List Ah):Int:=if 40 < l.length then 2 else if cgC none l≠0 then cgC none l else if inR 0 1000000 (Cf (Cn l)) then 0 else 7
def P9 (l:List Ah) (k:Nat):Option Ah:=(l.take k).getLast?
theorem Hs (l:List Ah):P9 l 0=none:=by simp [P9]
theorem Ge (l:List Ah) (k:Nat) (h:k < l.length):P9 l (k + 1)=some l[k]:=by
 rw [P9,Bo l k h,List.getLast?_append]; rfl
theorem a9W (l:List Ah) (k:Nat) (h:k < l.length):cgC (P9 l k) (l.drop k)=if Ed l[k]≠0 then Ed l[k] else if Sq (P9 l k) l[k]=true then cgC (P9 l (k + 1)) (l.drop (k + 1)) else 1:=by
 rw [Ge l k h,List.drop_eq_getElem_cons h,cgC]
theorem a6U (l:List Ah):cgC (P9 l l.length) (l.drop l.length)=0:=by rw [List.drop_length,cgC]
theorem a8b {c:Ah} (h:¬ Ed c≠0):inR 0 1000000 c.val:=by
 unfold Ed at h
 split at h
 · rename_i h'; exact h'.2.2.1
 · simp at h
def Sr (a b:Int):Int:=if a < b then -1 else if b < a then 1 else 0
def b00 (a b:Ah):Int:=if Sr a.tx b.tx≠0 then Sr a.tx b.tx else Sr a.out b.out
theorem a1c (a b:Ah):¬ 0<=b00 a b↔Bz a b:=by
 unfold b00 Sr Bz
 repeat' split
 all_goals omega
abbrev J3 (c:Ah):Nat:=c.lock.length
structure Qa (l:List Ah):Prop where
 len:l.length<=1048576
 locks:∀ c∈l,J3 c<=1048576
end Go.Am
namespace Go.Proofs.YtllhgcfacgiabaaGreat
open Go Go.Am Go.RowKit
set_option linter.unusedVariables false
set_option linter.unusedSimpArgs false
structure Ar where
 up:Int
 sum:Int
 time:Int
 h:Int
 coins:List Ah
abbrev Bd (x:Ar):List AV:=[iv x.up,iv x.sum,iv x.time,iv x.h,.lst (x.coins.map Ai)]
def C1 (xs:List Ar) (sum:Int):Option Nat:=xs.findIdx? fun x=>decide (x.sum=sum)
def a3R (xs:List Ar) (sum:Int):List AV:=match C1 xs sum with | some k=>[iv ((k:Int) + -1),bv true] | none=>[iv 0,bv false]
theorem flat5:∀ (xs:List Ar) (k i:Nat) (x:Ar),xs[k]?=some x->i < 5->((xs.map Bd).flatten)[k * 5 + i]?=(Bd x)[i]?
 | [],k,i,x,h,_=>by simp at h
 | y::r,0,i,x,h,hi=>by
   simp at h; subst h
   rw [List.map_cons,List.flatten_cons,List.getElem?_append_left (by simp; omega),Nat.zero_mul,Nat.zero_add]
 | y::r,k + 1,i,x,h,hi=>by
   rw [List.map_cons,List.flatten_cons,List.getElem?_append_right (by simp; omega)]
   have:=flat5 r k i x (by simpa using h) hi
   rw [<- this]
   congr 1
   simp; omega
theorem Vl {α:Type} {Q:Nat->α->Prop}:∀ (n:Nat),(∀ k,k < n->∃ y,Q k y)->∃ ys:List α,ys.length=n/\∀ k y,ys[k]?=some y->Q k y
 | 0,_=>⟨[],rfl,fun k y h=>by simp at h⟩
 | n + 1,h=>by
   obtain ⟨ys,h1,h2⟩:=Vl n fun k hk=>h k (by omega)
   obtain ⟨y,hy⟩:=h n (by omega)
   refine ⟨ys++[y],by simp [h1],fun k z hz=>?_⟩
   by_cases hk:k < ys.length
   · rw [List.getElem?_append_left hk] at hz; exact h2 k z hz
   · rw [List.getElem?_append_right (by omega)] at hz
     have:k - ys.length=0:=by
      cases hh:k - ys.length with
      | zero=>rfl
      | succ m=>rw [hh] at hz; simp at hz
     rw [this] at hz
     simp at hz
     subst hz
     obtain rfl:k=n:=by omega
     exact hy
theorem a8c {P:Program} {w:World} {ι:Am.Loc} {A:Nat->Prop} {n:Nat} {bits:Int} {xs:List Ar} {i j:Nat} {v0:Value} {M:Nat->Prop} (hC:Core ⟨P,w,M,A,0,fun _=>none,[0]⟩ ι A [(i,.box [iv bits,.own j xs.length]),(j,.list 109 5 (xs.map Bd))] n w) (ah:i≠j) (aj:xs≠[]) (r0:Bi w A ι v0 (.pt i 0 0)) :
 ∃ (g:Nat) (ys:List PW),v0=.pointer (some ⟨g,0,none⟩)/\Io w.heap.size w g ys/\ys.length=xs.length/\∀ (k:Nat) (y:PW),ys[k]?=some y->∃ x:Ar,xs[k]?=some x/\y.up=x.up/\y.sum=x.sum/\y.time=x.time/\y.h=x.h:=by
 obtain ⟨g,cg,sg,hι,rfl⟩:∃ g c s,ι ⟨i,[]⟩=some (.blk g c s)/\v0=.pointer (some ⟨g,0,none⟩):=by
  cases r0 with
  | one h=>cases h with
    | cell h=>cases h with
      | pt _ _ _ g c s h=>exact ⟨g,c,s,h,by simp⟩
      | rd h=>cases h
 obtain ⟨_,_,an⟩:=hC.obj i _ (Ae _ _ _)
 obtain ⟨_,_,fo⟩:=hC.obj j _ ((An _ _ ah).trans (Ae _ _ _))
 have kN:g < w.heap.size:=(hC.own ⟨i,[]⟩ g cg sg hι).1
 cases an with
 | box g' c' s' T _ us hι' eA hw hc =>
 have dL:g'=g:=by
  have:(i:Key)=⟨i,[]⟩:=rfl
  rw [this] at hι'
  rw [hι] at hι'; cases hι'; rfl
 subst dL
 match us,hc with
 | [u0,u1],⟨c0,c1,_⟩ =>
 have aE:0 < xs.length:=List.length_pos_iff.2 aj
 obtain ⟨b,cap,sj,hιj,rfl⟩:∃ b cap s,ι ⟨j,[]⟩=some (.blk b cap s)/\u1=.slice (some ⟨b,0,none⟩) xs.length cap:=by
  generalize hL:xs.length=L at c1
  cases c1 with
  | own _ _ b cap s h _ _=>exact ⟨b,cap,s,h,rfl⟩
  | own0 _ h=>omega
  | rd h=>cases h
 have kO:b < w.heap.size:=(hC.own ⟨j,[]⟩ b cap sj hιj).1
 obtain ⟨e,ws,nm,aG⟩:∃ e ws,w.heap[b]?=some (.cells ws e (0,0))/\∀ (k i:Nat) (x:Ar) (av:AV),xs[k]?=some x->i < 5->(Bd x)[i]?=some av->∃ v,ws[k * 5 + i]?=some v/\Rd w A v av:=by
  generalize cA:xs.map Bd=rows at fo
  cases fo with
  | nil e s h hs =>
    exfalso
    have:(xs.map Bd).length=0:=by rw [cA]; rfl
    rw [List.length_map] at this; omega
  | list g2 cap2 _ _ _ ws h hs hr hl hm eL hn bn =>
    have:(j:Key)=⟨j,[]⟩:=rfl
    rw [this,hιj] at h
    cases h
    refine ⟨_,ws.toArray,eL,fun k i x av hx hi cK=>?_⟩
    have aa:k < xs.length:=(List.getElem?_eq_some_iff.1 hx).1
    have kP:k * 5 + i < ws.length:=by
     rw [hn]
     have:xs.length<=cap:=by rw [<- cA,List.length_map] at hl; exact hl
     omega
    have hv:=List.getElem?_eq_getElem kP
    refine ⟨ws[k * 5 + i],by simp,bn (k * 5 + i) _ _ hv ?_⟩
    rw [<- cA,flat5 xs k i x hx hi]; exact cK
 obtain ⟨ys,fe,bL⟩:∃ ys:List PW,ys.length=xs.length/\∀ k y,ys[k]?=some y->(∃ x,xs[k]?=some x/\y.up=x.up/\y.sum=x.sum/\y.time=x.time/\y.h=x.h)/\∀ i,i < 5->w.cell? ⟨b,k * 5 + i,none⟩=some (y.cell i):=by
  refine Vl xs.length fun k hk=>?_
  have hx:=List.getElem?_eq_getElem hk
  have aA:∀ i v,ws[k * 5 + i]?=some v->w.cell? ⟨b,k * 5 + i,none⟩=some v:=fun i v hv=>by
   simp only [World.cell?,nm]
   simpa using hv
  obtain ⟨v0,k0,q0⟩:=aG k 0 _ _ hx (by omega) rfl
  obtain ⟨v1,k1,q1⟩:=aG k 1 _ _ hx (by omega) rfl
  obtain ⟨v2,k2,q2⟩:=aG k 2 _ _ hx (by omega) rfl
  obtain ⟨v3,k3,q3⟩:=aG k 3 _ _ hx (by omega) rfl
  obtain ⟨v4,k4,q4⟩:=aG k 4 _ _ hx (by omega) rfl
  have z:∀ {v:Value} {z:Int},Rd w A v (iv z)->v=.int .i64 z:=fun h=>by cases h; rfl
  have e0:=z q0
  have e1:=z q1
  have e2:=z q2
  have e3:=z q3
  obtain ⟨a4,l4,c4,e4⟩:∃ a l c,v4=.slice a l c:=by
   have q5:Rd w A v4 (.lst (xs[k].coins.map Ai)):=q4
   clear q4 k4
   generalize xs[k].coins.map Ai=rws at q5
   cases q5 with
   | nil a cap _=>exact ⟨_,_,_,rfl⟩
   | lst=>exact ⟨_,_,_,rfl⟩
  subst e0 e1 e2 e3 e4
  refine ⟨⟨xs[k].up,xs[k].sum,xs[k].time,xs[k].h,a4,l4,c4⟩,⟨_,hx,rfl,rfl,rfl,rfl⟩,fun i hi=>?_⟩
  match i,hi with
  | 0,_=>exact aA 0 _ k0
  | 1,_=>exact aA 1 _ k1
  | 2,_=>exact aA 2 _ k2
  | 3,_=>exact aA 3 _ k3
  | 4,_=>exact aA 4 _ k4
 have hP:Io w.heap.size w g' ys:=by
  refine ⟨b,cap,kN,kO,?_,fun k y hy i hi=>(bL k y hy).2 i hi⟩
  rw [fe]
  simp only [World.cell?,hw]
  rfl
 exact ⟨g',ys,rfl,hP,fe,fun k y hy=>(bL k y hy).1⟩
theorem Yr (bits sum:Int) (xs:List Ar) (i j n:Nat) (ah:i≠j) (ae:xs.length<=9) (aj:xs≠[]) :
 Ret Tryz.prog 120 [.pt i 0 0,iv sum] [(i,.box [iv bits,.own j xs.length]),(j,.list 109 5 (xs.map Bd))] n true (Is (.tup (a3R xs sum)) [(i,.box [iv bits,.own j xs.length]),(j,.list 109 5 (xs.map Bd))] n):=by
 have cf:∀ args w,(callFunc 120 args).run Tryz.prog w=.ok (.enter 120 args) w:=enters_of Tryz.func120 (by kernel_rfl) rfl
 refine Ret.of_below cf ?_ ?_
 · intro K
   unfold a3R
   split <;> (intro v hv; simp only [List.mem_cons,List.not_mem_nil,or_false] at hv; rcases hv with rfl | rfl <;> exact ⟨fun id h=>(by cases h),fun cs h=>(by cases h)⟩)
 intro w ι A vs hC hrel
 match vs,hrel with
 | [v0,v1],⟨r0,r1,_⟩ =>
 have e1:v1=.int .i64 sum:=r1.val_inv.1
 subst e1
 obtain ⟨g',ys,rfl,hP,fe,bL⟩:=a8c hC ah aj r0
 have du:=a8a 3 (Nat.le_refl _) g' sum ⟨0,0,0,0,none,0,0⟩ ys (by omega) w hP
 have gZ:=callsIn_wide.1 du
 have cu:∀ k:Nat,(ys[k]?).map (·.sum)=(xs[k]?).map (·.sum):=fun k=>by
  cases hy:ys[k]? with
  | none =>
    have:xs[k]?=none:=by rw [List.getElem?_eq_none_iff] at hy ⊢; omega
    rw [this]; rfl
  | some y =>
    obtain ⟨x,hx,_,e,_⟩:=bL k y hy
    rw [hx]; simp [e]
 refine ⟨.tuple (match C1 xs sum with | some k=>#[.int .i64 ((k:Int) + -1),.bool true] | none=>#[.int .i64 0,.bool false]),fun w'=>?_,Calls.mono gZ ?_⟩
 · unfold a3R
   cases C1 xs sum with
   | some k=>exact .tup [_,_] _ ⟨.cell (.rd (.val _ rfl)),.cell (.rd (.val _ rfl)),trivial⟩
   | none=>exact .tup [_,_] _ ⟨.cell (.rd (.val _ rfl)),.cell (.rd (.val _ rfl)),trivial⟩
 · rintro e w' ⟨h,hb⟩
   refine ⟨?_,hb⟩
   rcases h with ⟨rfl,aJ⟩ | ⟨k,y,hy,e1,aJ,rfl⟩
   · have:C1 xs sum=none:=by
      unfold C1
      rw [List.findIdx?_eq_none_iff]
      intro x hx
      obtain ⟨k,hk,rfl⟩:=List.mem_iff_getElem.1 hx
      have h1:=cu k
      rw [List.getElem?_eq_getElem hk,List.getElem?_eq_getElem (by omega)] at h1
      simp only [Option.map_some,Option.some.injEq] at h1
      rw [<- h1]
      simpa using aJ _ (List.getElem_mem (by omega))
     rw [this]
   · have:C1 xs sum=some k:=by
      unfold C1
      have hk:k < ys.length:=(List.getElem?_eq_some_iff.1 hy).1
      rw [List.findIdx?_eq_some_iff_getElem]
      refine ⟨by omega,?_,fun j hj=>?_⟩
      · have h1:=cu k
        rw [hy,List.getElem?_eq_getElem (by omega)] at h1
        simp only [Option.map_some,Option.some.injEq] at h1
        rw [<- h1]; simpa using e1
      · have h1:=cu j
        have jz:=List.getElem?_eq_getElem (show j < ys.length by omega)
        rw [jz,List.getElem?_eq_getElem (show j < xs.length by omega)] at h1
        simp only [Option.map_some,Option.some.injEq] at h1
        rw [<- h1]
        simpa using aJ j _ hj jz
     rw [this]
theorem a1d (a:Int) (n:Nat):Ret Tryz.prog 271 [iv a] [] n true (Is (bv false) [] n):=by
 refine Ret.fn Ad Tryz.func271 rfl Tryz.call271 rfl rfl ?_
 refine Goes ?_
 refine Ab.pure rfl rfl rfl ⟨?_,rfl,rfl⟩
 refine bvI ?_
 simp
theorem Kp (a b:Int) (n:Nat):Ret Tryz.prog 265 [iv a,iv b] [] n true (Is (iv (Sr a b)) [] n):=by
 refine Ret.fn Ad Tryz.func265 rfl Tryz.call265 rfl rfl ?_
 refine Goes ?_
 refine Aa.is (a1d a _) rfl ?_
 refine Goes ?_
 refine Aa.is (a1d b _) rfl ?_
 refine Goes ?_;repeat' first|apply W2.m|refine W1.m fun h=>?_
 all_goals (refine Ab.pure rfl rfl rfl ⟨?_,rfl,rfl⟩; refine ivI ?_; simp [Sr, *])
def orF:List Int->Int
 | []=>0
 | x::r=>if x≠0 then x else orF r
theorem b1F (l:List Int) (k:Nat) (h:k < l.length):orF (l.drop k)=if l[k]≠0 then l[k] else orF (l.drop (k + 1)):=by rw [List.drop_eq_getElem_cons h,orF]
theorem a1e (l:List Int) (n:Nat) (hl:l.length<=100):Ret Tryz.prog 264 [il l] [] n true (Is (iv (orF l)) [] n):=by
 have hL:(ivs l).length=l.length:=by simp
 refine Ret.fn Ad Tryz.func264 rfl Tryz.call264 rfl rfl ?_
 refine Goes ?_
 rw [hL]
 refine Ao.go (fun k:Nat=>k<=l.length/\orF l=orF (l.drop k)) (fun k=>⟨[(3,iv 0),(6,il l),(7,iv l.length),(8,iv k)],[],0⟩) (fun k=>l.length - k) 0 ⟨Nat.zero_le _,rfl⟩ (Ac.of rfl rfl ktA trivial) ?_
 intro k ⟨hk,hp⟩
 refine Goes ?_;repeat' first|apply W2.m|refine W1.m fun h=>?_
 · have aa:k < l.length:=by omega
   have ai:=b1F l k aa
   rw [A1 iv1 l k (by omega)]
   refine ⟨by (first | exact ⟨by omega,by omega,rfl⟩ | (simp only [List.length_map]; exact ⟨by omega,by omega,rfl⟩)),?_⟩
   refine Goes ?_;repeat' first|apply W2.m|refine W1.m fun h=>?_
   · have h':l[k]≠0:=h
     rw [if_pos h'] at ai
     refine Ab.pure rfl rfl rfl ⟨?_,rfl,rfl⟩
     rw [hp,ai]
   · have h':¬ l[k]≠0:=h
     rw [if_neg h'] at ai
     exact ⟨k + 1,⟨by omega,by rw [hp,ai]⟩,by omega,(Ac.of rfl rfl ktA trivial)⟩
 · obtain rfl:k=l.length:=by omega
   rw [List.drop_length] at hp
   refine Ab.pure rfl rfl rfl ⟨?_,rfl,rfl⟩
   rw [hp,orF]
theorem Um (a b:Ah) (n:Nat):Ret Tryz.prog 252 [Gr a,Gr b] [] n true (Is (iv (b00 a b)) [] n):=by
 refine Ret.fn Ad Tryz.func252 rfl Tryz.call252 rfl rfl ?_
 refine Goes ?_
 refine B8.is (Kp a.tx b.tx _) rfl rfl ?_
 refine Goes ?_
 refine B8.is (Kp a.out b.out _) rfl rfl ?_
 refine Goes ?_
 refine Aa.is (a1e [Sr a.tx b.tx,Sr a.out b.out] _ (Nat.le_of_ble_eq_true rfl)) rfl ?_
 refine Goes ?_
 refine Ab.pure rfl rfl rfl ⟨?_,rfl,rfl⟩
 refine ivI ?_
 simp only [orF,b00]
 split <;> first | rfl | (split <;> first | rfl | omega)
theorem Ys (a b:Ah) (n:Nat):Ret Tryz.prog 235 [.rp (Ai a),.rp (Ai b)] [] n true (Is (bv (decide (Bz a b))) [] n):=by
 refine Ret.fn Ad Tryz.func235 rfl Tryz.call235 rfl rfl ?_
 refine Goes ?_;repeat' first|apply W2.m|refine W1.m fun h=>?_
 all_goals (refine Ab.pure rfl rfl rfl ⟨?_,rfl,rfl⟩; refine bvI ?_; simp [Bz, *])
theorem N5 (l:List Ah) (n:Nat) (hl:l.length<=1048576) (hv:∀ z∈Cn l,inR 0 1000000 z):Ret Tryz.prog 208 [A0 l] [] n true (Is (iv (Cf (Cn l))) [] n):=by
 have hL:(l.map Ai).length=l.length:=by simp
 have hV:(Cn l).length=l.length:=by simp
 refine Ret.fn Ad Tryz.func208 rfl Tryz.call208 rfl rfl ?_
 refine Goes ?_
 refine Ao.go (fun k:Nat=>k<=l.length) (fun k=>⟨[(0,A0 l),(3,iv (Cf ((Cn l).take k))),(4,iv k)],[],0⟩) (fun k=>l.length - k) 0 (Nat.zero_le _) (Ac.of rfl rfl ktA trivial) ?_
 intro k hk
 refine Goes ?_;repeat' first|apply W2.m|refine W1.m fun h=>?_
 · have aa:k < l.length:=by omega
   have ak:=Eb (Cn l) k (by omega)
   have hb:=a6J _ (fun z hz=>hv z (List.mem_of_mem_take hz):∀ z∈(Cn l).take (k + 1),inR 0 1000000 z)
   rw [List.length_take] at hb
   rw [A1 Ai l k aa]
   refine ⟨by rw [hL]; exact ⟨by omega,by omega,rfl⟩,?_⟩
   refine Goes ?_
   have hg:(Cn l)[k]=l[k].val:=by simp
   rw [hg] at ak
   exact ⟨k + 1,by omega,by omega,Ac.of rfl rfl ⟨⟨rfl,rfl⟩,⟨Aw (by rw [ak] at hb ⊢; rw [IntWalk.i64_in _ (by omega)]),rfl⟩,⟨Aw Cm,rfl⟩,trivial⟩ trivial⟩
 · obtain rfl:k=l.length:=by omega
   rw [List.take_of_length_le (by omega)]
   refine Ab.pure rfl rfl rfl ⟨?_,rfl,rfl⟩
   rfl
theorem Vm (l:List Ah) (n:Nat) (hl:l.length<=1048576):Ret Tryz.prog 207 [A0 l] [] n true (Is (iv (A5 l)) [] n):=by
 have hL:(l.map Ai).length=l.length:=by simp
 refine Ret.fn Ad Tryz.func207 rfl Tryz.call207 rfl rfl ?_
 refine Goes ?_;repeat' first|apply W2.m|refine W1.m fun h=>?_
 · refine Ab.pure rfl rfl rfl ⟨?_,rfl,rfl⟩
   unfold A5; rw [if_pos (by omega)]
 have g0:¬ 40 < l.length:=by omega
 refine Ao.go (fun k:Nat=>k<=l.length/\cgC none l=cgC (P9 l k) (l.drop k)/\∀ z∈(Cn l).take k,inR 0 1000000 z) (fun k=>⟨[(0,A0 l),(3,iv k)],[],0⟩) (fun k=>l.length - k) 0 ⟨Nat.zero_le _,by rw [Hs]; rfl,by simp⟩ (Ac.of rfl rfl ktA trivial) ?_
 intro k ⟨hk,hp,hv⟩
 refine Goes ?_;repeat' first|apply W2.m|refine W1.m fun h=>?_
 · have aa:k < l.length:=by omega
   have ai:=a9W l k aa
   rw [A1 Ai l k aa]
   refine ⟨by rw [hL]; exact ⟨by omega,by omega,rfl⟩,?_⟩
   refine Goes ?_
   have bad:¬ (inR 0 2147483646 l[k].tx/\inR 0 3 l[k].out/\inR 0 1000000 l[k].val/\inR 0 9999 l[k].h)->A5 l=3:=fun h'=>by
    have:Ed l[k]=3:=by unfold Ed; rw [if_neg h']
    unfold A5
    rw [if_neg g0,hp,ai,this]; rfl
   refine Aa.is (Ck _ _ _ _) rfl ?_
   refine Goes ?_;repeat' first|apply W2.m|refine W1.m fun h=>?_
   · have h':¬ inR 0 2147483646 l[k].tx:=h
     refine Ab.pure rfl rfl rfl ⟨?_,rfl,rfl⟩
     rw [bad (fun e=>h' e.1)]
   have q1:inR 0 2147483646 l[k].tx:=h
   refine Aa.is (Ck _ _ _ _) rfl ?_
   refine Goes ?_;repeat' first|apply W2.m|refine W1.m fun h=>?_
   · have h':¬ inR 0 3 l[k].out:=h
     refine Ab.pure rfl rfl rfl ⟨?_,rfl,rfl⟩
     rw [bad (fun e=>h' e.2.1)]
   have q2:inR 0 3 l[k].out:=h
   refine Aa.is (Jd _ _) rfl ?_
   refine Goes ?_;repeat' first|apply W2.m|refine W1.m fun h=>?_
   · have h':¬ inR 0 1000000 l[k].val:=h
     refine Ab.pure rfl rfl rfl ⟨?_,rfl,rfl⟩
     rw [bad (fun e=>h' e.2.2.1)]
   have q3:inR 0 1000000 l[k].val:=h
   refine Aa.is (Ck _ _ _ _) rfl ?_
   refine Goes ?_;repeat' first|apply W2.m|refine W1.m fun h=>?_
   · have h':¬ inR 0 9999 l[k].h:=h
     refine Ab.pure rfl rfl rfl ⟨?_,rfl,rfl⟩
     rw [bad (fun e=>h' e.2.2.2)]
   have q4:inR 0 9999 l[k].h:=h
   have hc:Ed l[k]=C3 l[k].lock:=by unfold Ed; rw [if_pos ⟨q1,q2,q3,q4⟩]
   rw [hc] at ai
   refine Aa.is (Kl l[k].lock _) rfl ?_
   refine Goes ?_;repeat' first|apply W2.m|refine W1.m fun h=>?_
   · have h':C3 l[k].lock≠0:=h
     rw [if_pos h'] at ai
     refine Ab.pure rfl rfl rfl ⟨?_,rfl,rfl⟩
     unfold A5
     rw [if_neg g0,hp,ai,if_pos h']
   · have h':¬ C3 l[k].lock≠0:=by assumption
     rw [if_neg h'] at ai
     obtain ⟨j,rfl⟩:∃ j,k=j + 1:=⟨k - 1,by omega⟩
     have hj:j < l.length:=by omega
     rw [show IntKind.i64.wrap (((j + 1:Nat):Int) - 1)=(j:Int) from by rw [IntWalk.i64_in _ (by omega)]; omega,A1 Ai l j hj]
     refine ⟨by rw [hL]; exact ⟨by omega,by omega,rfl⟩,?_⟩
     refine Goes ?_;repeat' first|apply W2.m|refine W1.m fun h=>?_
     rw [Ge l j hj] at ai
     refine Aa.is (Ys l[j] l[j + 1] _) rfl ?_
     refine Goes ?_;repeat' first|apply W2.m|refine W1.m fun h=>?_
     · have h2:¬ Bz l[j] l[j + 1]:=h
       rw [if_neg (by simp [Sq,h2])] at ai
       refine Ab.pure rfl rfl rfl ⟨?_,rfl,rfl⟩
       unfold A5
       rw [if_neg g0,hp,Ge l j hj,ai]; rfl
     · have h2:Bz l[j] l[j + 1]:=by assumption
       rw [if_pos (by simp [Sq,h2])] at ai
       exact ⟨j + 1 + 1,⟨by omega,by rw [hp,Ge l j hj,ai],by
        rw [Bo (Cn l) (j + 1) (by simpa using aa)]
        intro z hz
        rcases List.mem_append.1 hz with hz | hz
        · exact hv z hz
        · simp only [List.mem_singleton,List.getElem_map] at hz; subst hz; exact q3⟩,by omega,(Ac.of rfl rfl ktA trivial)⟩
   · have h':¬ C3 l[k].lock≠0:=by assumption
     rw [if_neg h'] at ai
     obtain rfl:k=0:=by omega
     rw [Hs,if_pos (show Sq none l[0]=true from rfl)] at ai
     exact ⟨0 + 1,⟨by omega,by rw [hp,Hs,ai],by
      rw [Bo (Cn l) 0 (by simpa using aa)]
      intro z hz
      rcases List.mem_append.1 hz with hz | hz
      · exact hv z hz
      · simp only [List.mem_singleton,List.getElem_map] at hz; subst hz; exact q3⟩,by omega,(Ac.of rfl rfl ktA trivial)⟩
 · obtain rfl:k=l.length:=by omega
   rw [a6U] at hp
   rw [List.take_of_length_le (by simp)] at hv
   refine Aa.is (N5 l _ hl hv) rfl ?_
   refine Goes ?_
   refine Aa.is (Jd _ _) rfl ?_
   refine Goes ?_;repeat' first|apply W2.m|refine W1.m fun h=>?_
   · have h':¬ inR 0 1000000 (Cf (Cn l)):=h
     refine Ab.pure rfl rfl rfl ⟨?_,rfl,rfl⟩
     unfold A5; rw [if_neg g0,hp,if_neg h']; rfl
   · have h':inR 0 1000000 (Cf (Cn l)):=h
     refine Ab.pure rfl rfl rfl ⟨?_,rfl,rfl⟩
     unfold A5; rw [if_neg g0,hp,if_pos h']; rfl
theorem N6:∀ (l:List Ah) (p:Option Ah),cgC p l=0->∀ z∈Cn l,inR 0 1000000 z
 | [],p,_=>by simp
 | c::r,p,h=>by
   rw [cgC] at h
   by_cases h1:Ed c≠0
   · rw [if_pos h1] at h; exact absurd h h1
   · rw [if_neg h1] at h
     by_cases h2:Sq p c=true
     · rw [if_pos h2] at h
       intro z hz
       rcases List.mem_cons.1 hz with rfl | hz
       · exact a8b h1
       · exact N6 r (some c) h z hz
     · rw [if_neg h2] at h; exact absurd h (by decide)
theorem Dp {l:List Ah} (h:A5 l=0):l.length<=40/\cgC none l=0/\inR 0 1000000 (Cf (Cn l)):=by
 unfold A5 at h
 split at h
 · exact absurd h (by decide)
 · split at h
   · rename_i h1; exact absurd h h1
   · rename_i h1
     split at h
     · rename_i h2; exact ⟨by omega,Decidable.not_not.1 h1,h2⟩
     · exact absurd h (by decide)
theorem Z9 (c:Ah) (n:Nat):Ret Tryz.prog 253 [Gr c] [] n true (Is (iv (Ed c)) [] n):=by
 have bad:¬ (inR 0 2147483646 c.tx/\inR 0 3 c.out/\inR 0 1000000 c.val/\inR 0 9999 c.h)->Ed c=3:=fun h'=>by unfold Ed; rw [if_neg h']
 refine Ret.fn Ad Tryz.func253 rfl Tryz.call253 rfl rfl ?_
 refine Goes ?_
 refine Aa.is (Hr _ _) rfl ?_
 refine Goes ?_;repeat' first|apply W2.m|refine W1.m fun h=>?_
 · have h':¬ inR 0 2147483646 c.tx:=h
   refine Ab.pure rfl rfl rfl ⟨?_,rfl,rfl⟩
   rw [bad (fun e=>h' e.1)]
 have q1:inR 0 2147483646 c.tx:=h
 refine Aa.is (a08 _ _) rfl ?_
 refine Goes ?_;repeat' first|apply W2.m|refine W1.m fun h=>?_
 · have h':¬ inR 0 3 c.out:=h
   refine Ab.pure rfl rfl rfl ⟨?_,rfl,rfl⟩
   rw [bad (fun e=>h' e.2.1)]
 have q2:inR 0 3 c.out:=h
 refine Aa.is (O8 _ _) rfl ?_
 refine Goes ?_;repeat' first|apply W2.m|refine W1.m fun h=>?_
 · have h':¬ inR 0 1000000 c.val:=h
   refine Ab.pure rfl rfl rfl ⟨?_,rfl,rfl⟩
   rw [bad (fun e=>h' e.2.2.1)]
 have q3:inR 0 1000000 c.val:=h
 refine Aa.is (Jc _ _) rfl ?_
 refine Goes ?_;repeat' first|apply W2.m|refine W1.m fun h=>?_
 · have h':¬ inR 0 9999 c.h:=h
   refine Ab.pure rfl rfl rfl ⟨?_,rfl,rfl⟩
   rw [bad (fun e=>h' e.2.2.2)]
 have q4:inR 0 9999 c.h:=h
 refine Aa.is (Fh c.lock _) rfl ?_
 refine Goes ?_
 refine Ab.pure rfl rfl rfl ⟨?_,rfl,rfl⟩
 unfold Ed; rw [if_pos ⟨q1,q2,q3,q4⟩]
theorem a2p (l:List Ah) (n:Nat) (hl:l.length<=1048576):Ret Tryz.prog 254 [A0 l] [] n true (Is (.own n l.length) [(n,.list 2 1 (ivs (Cn l)))] (n + 1)):=by
 have hL:(l.map Ai).length=l.length:=by simp
 have hV:(Cn l).length=l.length:=by simp
 refine Ret.fn Ad Tryz.func254 rfl Tryz.call254 rfl rfl ?_
 refine Goes ?_
 rw [hL]
 refine ⟨⟨by omega,by omega,by omega,by show _ * 8<=_; omega⟩,?_⟩
 refine Goes ?_
 rw [hL]
 refine Ao.go (fun k:Nat=>k<=l.length) (fun k=>⟨[(9,A0 l),(10,iv l.length),(11,iv k),(3,.own 0 l.length)],[(0,.list 2 1 (ivs (Jw (Cn l) k)))],1⟩) (fun k=>l.length - k) 0 (Nat.zero_le _) ?_ ?_
 · refine Ac.of rfl rfl ktA ⟨⟨Ch ?_,rfl,rfl⟩,trivial⟩
   rw [Qu,hV]; simp
 intro k hk
 have bh:=Ub (Cn l) k (by omega)
 refine Goes ?_;repeat' first|apply W2.m|refine W1.m fun h=>?_
 · have aa:k < l.length:=by omega
   rw [A1 Ai l k aa]
   refine ⟨by rw [hL]; exact ⟨by omega,by omega,rfl⟩,?_⟩
   refine Goes ?_
   refine ⟨by rw [List.length_map]; omega,?_⟩
   refine Goes ?_
   refine ⟨k + 1,by omega,by omega,Ac.of rfl rfl ktA ⟨⟨Ch ?_,rfl,rfl⟩,trivial⟩⟩
   have e:(Cn l)[k]'(by omega)=l[k].val:=by simp
   rw [<- e,<- Uc (Cn l) k (by omega)]
   exact setRow _ k _ (by omega) _ rfl
 · obtain rfl:k=l.length:=by omega
   have:=Ud (Cn l)
   rw [hV] at this
   rw [this]
   refine Ab.mk' [0] rfl rfl rfl rfl rfl rfl rfl ⟨?_,?_,rfl⟩
   · rfl
   · rfl
theorem a3S (l:List Ah) (n:Nat) (hl:l.length<=1048576):Ret Tryz.prog 254 [A0 l] [] n true (Is (il (Cn l)) [] n) :=
 Ret.freeze (by rintro _ _ _ ⟨rfl,rfl,rfl⟩; exact ⟨_,Jz (Ae _ _ _) (by simp),rfl,rfl,rfl⟩) (a2p l n hl)
theorem Gf (l:List Ah) (n:Nat) (hl:l.length<=1048576):Ret Tryz.prog 227 [A0 l] [] n true (Is (iv (A5 l)) [] n):=by
 have hL:(l.map Ai).length=l.length:=by simp
 refine Ret.fn Ad Tryz.func227 rfl Tryz.call227 rfl rfl ?_
 refine Goes ?_;repeat' first|apply W2.m|refine W1.m fun h=>?_
 · refine Ab.pure rfl rfl rfl ⟨?_,rfl,rfl⟩
   unfold A5; rw [if_pos (by omega)]
 have g0:¬ 40 < l.length:=by omega
 rw [hL]
 refine Ao.go (fun k:Nat=>k<=l.length/\cgC none l=cgC (P9 l k) (l.drop k)) (fun k=>⟨[(0,A0 l),(9,A0 l),(10,iv l.length),(11,iv k)],[],0⟩) (fun k=>l.length - k) 0 ⟨Nat.zero_le _,by rw [Hs]; rfl⟩ (Ac.of rfl rfl ktA trivial) ?_
 intro k ⟨hk,hp⟩
 refine Goes ?_;repeat' first|apply W2.m|refine W1.m fun h=>?_
 · have aa:k < l.length:=by omega
   have ai:=a9W l k aa
   rw [A1 Ai l k aa]
   refine ⟨by rw [hL]; exact ⟨by omega,by omega,rfl⟩,?_⟩
   refine Goes ?_
   refine Aa.is (Z9 l[k] _) rfl ?_
   refine Goes ?_;repeat' first|apply W2.m|refine W1.m fun h=>?_
   · have h':Ed l[k]≠0:=h
     rw [if_pos h'] at ai
     refine Ab.pure rfl rfl rfl ⟨?_,rfl,rfl⟩
     unfold A5
     rw [if_neg g0,hp,ai,if_pos h']
   · have h':¬ Ed l[k]≠0:=by assumption
     rw [if_neg h'] at ai
     obtain ⟨j,rfl⟩:∃ j,k=j + 1:=⟨k - 1,by omega⟩
     have hj:j < l.length:=by omega
     rw [show IntKind.i64.wrap (((j + 1:Nat):Int) - 1)=(j:Int) from by rw [IntWalk.i64_in _ (by omega)]; omega,A1 Ai l j hj]
     refine ⟨by rw [hL]; exact ⟨by omega,by omega,rfl⟩,?_⟩
     refine Goes ?_;repeat' first|apply W2.m|refine W1.m fun h=>?_
     rw [Ge l j hj] at ai
     refine Aa.is (Um l[j] l[j + 1] _) rfl ?_
     refine Goes ?_;repeat' first|apply W2.m|refine W1.m fun h=>?_
     · have h2:¬ Bz l[j] l[j + 1]:=fun e=>(a1c _ _).2 e h
       rw [if_neg (by simp [Sq,h2])] at ai
       refine Ab.pure rfl rfl rfl ⟨?_,rfl,rfl⟩
       unfold A5
       rw [if_neg g0,hp,Ge l j hj,ai]; rfl
     · have h2:Bz l[j] l[j + 1]:=(a1c _ _).1 h
       rw [if_pos (by simp [Sq,h2])] at ai
       exact ⟨j + 1 + 1,⟨by omega,by rw [hp,Ge l j hj,ai]⟩,by omega,(Ac.of rfl rfl ktA trivial)⟩
   · have h':¬ Ed l[k]≠0:=by assumption
     rw [if_neg h'] at ai
     obtain rfl:k=0:=by omega
     rw [Hs,if_pos (show Sq none l[0]=true from rfl)] at ai
     exact ⟨0 + 1,⟨by omega,by rw [hp,Hs,ai]⟩,by omega,(Ac.of rfl rfl ktA trivial)⟩
 · obtain rfl:k=l.length:=by omega
   rw [a6U] at hp
   refine Aa.is (a3S l _ hl) rfl ?_
   refine Goes ?_
   have ht:=fun n=>M7 (Cn l) n (N6 l none hp) (by simp; omega)
   by_cases hm:inR 0 1000000 (Cf (Cn l))
   · simp only [if_pos hm] at ht
     refine Aa.is (ht _) rfl ?_
     refine Goes ?_
     refine Ab.pure rfl rfl rfl ⟨?_,rfl,rfl⟩
     unfold A5; rw [if_neg g0,hp,if_pos hm]; rfl
   · simp only [if_neg hm] at ht
     refine Aa.is (ht _) rfl ?_
     refine Goes ?_
     refine Ab.pure rfl rfl rfl ⟨?_,rfl,rfl⟩
     unfold A5; rw [if_neg g0,hp,if_neg hm]; rfl
theorem Qb (c:Ah) (n:Nat):Ret Tryz.prog 246 [Gr c] [] n true (Is (.agg [iv c.tx,iv c.out]) [] n):=by
 refine Ret.fn Ad Tryz.func246 rfl Tryz.call246 rfl rfl ?_
 refine Goes ?_
 refine Ab.pure rfl rfl rfl ⟨?_,rfl,rfl⟩
 rfl
end Go.Proofs.YtllhgcfacgiabaaGreat
