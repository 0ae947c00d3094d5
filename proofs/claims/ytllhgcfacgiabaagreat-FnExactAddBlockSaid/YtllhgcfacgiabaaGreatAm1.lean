import Derived.Test.YtllhgcfacgiabaaGreatAm0
import Derived.Laws.BytesArg
namespace Go.Am
open Go.RowKit
set_option linter.unusedVariables false
set_option linter.unusedSimpArgs false
inductive TK where
 | word
 | struct (fs:List (Nat × Nat × Bool))
 | array (n e:Nat)
 | slice (e:Nat)
 | str
 | bool
 | map (k e:Nat)
structure TI where
 size:Nat
 bytes:Nat
 zero:List Value
 kind:TK
 int:Option IntKind
 keys:List KK
def TK.isAgg:TK->Bool
 | .struct _=>true
 | .array _ _=>true
 | _=>false
abbrev Tab:=List (Nat × TI)
def a4M:Value->Option AV
 | .agg cs=>bif cs.toList.all (·.oneCell') then some (.agg (cs.toList.map .val)) else none
 | .tuple _=>none
 | v=>some (.val v)
def Au (tm:List (Nat × AV)):Operand->Option AV
 | .tmp t=>match look tm t with
   | some .junk=>none
   | r=>r
 | .const v=>a4M v
 | .global g=>some (.val (.pointer (some ⟨g,0,none⟩)))
 | .func f=>some (.val (.func (.func f) #[] #[]))
def Iz (tm:List (Nat × AV)):List Operand->Option (List AV)
 | []=>some []
 | o::r=>match Au tm o with
   | some a=>match Iz tm r with
     | some as=>some (a::as)
     | none=>none
   | none=>none
inductive SR where
 | no
 | ok (v:AV)
 | cond (p:Prop) (v:AV)
 | newP (o:A2)
 | newM (o:A2)
 | newC (o:A2)
 | newL0 (len:Nat) (o:A2)
 | newL (p:Prop) (len:Nat) (o:A2)
 | kill (p:Prop) (id:Nat) (v:AV) (o:A2)
 | setB (id:Nat) (o:A2)
 | set (p:Prop) (id:Nat) (o:A2)
 | setV (p:Prop) (id:Nat) (v:AV) (o:A2)
 | call (f:Nat) (args:List AV)
 | pick (b:Bool) (x y:Operand)
 | each (id:Nat) (ks:List KK) (left:List (List KV × AV))
inductive EV where
 | no
 | ok (v:Value)
 | cond (p:Prop) (v:Value)
def Tf (op:BinOp) (k:IntKind) (a b:Int):EV :=
 match op with
 | .shl=>.cond (0<=b) (.int k (k.wrap (a * 2 ^ (min b.toNat k.bits))))
 | .shr=>.cond (0<=b) (.int k (a.fdiv (2 ^ (min b.toNat k.bits))))
 | _=>.no
def a8R (k:IntKind) (a b:Int):Int:=k.wrap (BitVec.ofInt k.bits a ^^^ BitVec.ofInt k.bits b).toNat
def a1E (op:BinOp) (k:IntKind) (a b:Int):EV :=
 match op with
 | .add=>.ok (.int k (k.wrap (a + b)))
 | .sub=>.ok (.int k (k.wrap (a - b)))
 | .mul=>.ok (.int k (k.wrap (a * b)))
 | .quo=>.cond (¬ b=0) (.int k (k.wrap (a.tdiv b)))
 | .rem=>.cond (¬ b=0) (.int k (a.tmod b))
 | .eql=>.ok (.bool (decide (a=b)))
 | .neq=>.ok (.bool (decide (¬ a=b)))
 | .lss=>.ok (.bool (decide (a < b)))
 | .leq=>.ok (.bool (decide (a<=b)))
 | .gtr=>.ok (.bool (decide (b < a)))
 | .geq=>.ok (.bool (decide (b<=a)))
 | .xor=>.ok (.int k (a8R k a b))
 | _=>.no
def a1F (op:BinOp) (x y:ByteArray):EV :=
 match op with
 | .eql=>.ok (.bool (x.toList==y.toList))
 | .neq=>.ok (.bool (!(x.toList==y.toList)))
 | .add=>.cond (x.size + y.size<=maxLen) (.string (x++y))
 | _=>.no
def Re (op:BinOp) (a b:Bool):EV :=
 match op with
 | .eql=>.ok (.bool (a==b))
 | .neq=>.ok (.bool (!(a==b)))
 | _=>.no
def a6v:BinOp->Bool
 | .shl=>true
 | .shr=>true
 | _=>false
def V3 (op:BinOp):Value->Value->EV
 | .int k a,.int k' b=>bif a6v op then Tf op k a b else bif k==k' then a1E op k a b else .no
 | .string x,.string y=>a1F op x y
 | _,_=>.no
def b1p (op:UnOp):Value->EV
 | .bool b=>match op with | .not=>.ok (.bool (!b)) | _=>.no
 | .int k n=>match op with | .neg=>.ok (.int k (k.wrap (0 - n))) | _=>.no
 | _=>.no
def AV.cells:AV->List AV
 | .agg cs=>cs
 | v=>[v]
def Dr (ti:TI):List AV:=ti.zero.map .val
def Lz {α β:Type}:List α->(List α->β)->β
 | [],k=>k []
 | a::r,k=>Lz r fun r'=>k (a::r')
theorem C0 {α β:Type}:∀ (l:List α) (k:List α->β),Lz l k=k l
 | [],k=>rfl
 | a::r,k=>C0 r _
def Rf {α β:Type}:List (List α)->(List (List α)->β)->β
 | [],k=>k []
 | a::r,k=>Lz a fun a'=>Rf r fun r'=>k (a'::r')
theorem L0 {α β:Type}:∀ (l:List (List α)) (k:List (List α)->β),Rf l k=k l
 | [],k=>rfl
 | a::r,k=>by rw [Rf,C0,L0 r]
def a8S {β:Type} (te:TI) (k:Nat->β):β:=match te with
 | ⟨sz,_,_,_,_,_⟩=>k sz
theorem L1 {β:Type} (te:TI) (k:Nat->β):a8S te k=k te.size:=by cases te; rfl
def H6 (place:Nat->Option (Nat × Nat)) (cells:List AV):List (Nat × AV)->Option (List AV)
 | []=>some cells
 | (i,v)::rest =>
   match place i with
   | none=>none
   | some (off,size) =>
     bif Nat.beq v.cells.length size&&Nat.ble (off + size) cells.length then H6 place (cells.take off++v.cells++cells.drop (off + size)) rest else none
def Hg (tm:List (Nat × AV)):List (Nat × Operand)->Option (List (Nat × AV))
 | []=>some []
 | (i,x)::r=>match Au tm x with
   | some (.tup _)=>none
   | some a=>match Hg tm r with
     | some as=>some ((i,a)::as)
     | none=>none
   | none=>none
def placeOf (tt:Tab):TK->Nat->Option (Nat × Nat)
 | .struct fs,i=>match fs[i]? with | some (o,s,_)=>some (o,s) | none=>none
 | .array n e,i=>match look tt e with | some te=>bif Nat.blt i n then some (i * te.size,te.size) else none | none=>none
 | _,_=>none
def a6w:Value->Option (List (List AV) × Prop)
 | .slice _ 0 _=>some ([],True)
 | _=>none
def Gz (hp:List (Nat × A2)):AV->Option (List (List AV) × Prop)
 | .lst rows=>some (rows,True)
 | .own id len=>match look hp id with
   | some (.list _ _ rows)=>some (rows.take len,len<=rows.length)
   | _=>none
 | .val v=>a6w v
 | _=>none
def Fw (agg:Bool) (size:Nat) (cs:List AV) (off:Nat):Option AV :=
 match agg with
 | true=>bif Nat.ble (off + size) cs.length then Lz ((cs.drop off).take size) fun l=>some (.agg l) else none
 | false=>cs[off]?
def Dw:AV->Bool
 | .val _=>true
 | .lst _=>true
 | _=>false
def Eg (ks:List Nat):AV->AV
 | .own i len=>bif Af i ks then .junk else .own i len
 | .pt i r o=>bif Af i ks then .junk else .pt i r o
 | .sb i r o l=>bif Af i ks then .junk else .sb i r o l
 | .mp i=>bif Af i ks then .junk else .mp i
 | .clo i=>bif Af i ks then .junk else .clo i
 | a=>a
def Wl (ks:List Nat):AV->AV
 | .agg cs=>.agg (cs.map (Eg ks))
 | .tup _=>.junk
 | a=>Eg ks a
def Rh (ks:List Nat):A2->A2
 | .box cs=>.box (cs.map (Eg ks))
 | .list e s rows=>.list e s rows
 | .map kk rows=>.map kk rows
 | .ranged kk cur left=>.ranged kk cur left
 | .clo f fs cs=>.clo f (fs.map (Eg ks)) (cs.map (Eg ks))
 | @A2.nest b e s rows=>match b with
   | true=>.nest (c:=true) e s rows
   | false=>.nest (c:=false) e s (rows.map fun r=>r.map (Eg ks))
def Nf (ks:List Nat):List (Nat × AV)->List (Nat × AV)
 | []=>[]
 | (t,a)::r=>(t,Wl ks a)::Nf ks r
def K5 (ks:List Nat):List (Nat × A2)->List (Nat × A2)
 | []=>[]
 | (i,o)::r=>(i,Rh ks o)::K5 ks r
def int64 (n:Int):AV:=.val (.int .i64 n)
def chunks (s:Nat):Nat->List AV->List (List AV)
 | 0,_=>[]
 | n + 1,cs=>cs.take s::chunks s n (cs.drop s)
def moveA (s:St) (x:Operand):SR:=match Au s.tm x with | some a=>.ok a | none=>.no
def a8T (s:St) (x:Operand):SR:=match Au s.tm x with
 | some (.pt id r o)=>.ok (.pt id r o)
 | some (.rp cs)=>.ok (.rp cs)
 | some (.clo id)=>match look s.hp id with
   | some (.clo _ _ _)=>.ok (.clo id)
   | _=>.no
 | some (.val (.func (.func f) a b))=>.ok (.val (.func (.func f) a b))
 | _=>.no
def a1G (tt:Tab) (s:St) (t:TypeId):SR:=match look tt t with
 | some ti=>Lz (Dr ti) fun l=>.newP (.box l)
 | none=>.no
def a8U (s:St) (x:Operand):SR:=match Au s.tm x with
 | some (.tup _)=>.no
 | some a=>Lz a.cells fun l=>.newP (.box l)
 | none=>.no
def Wm (tt:Tab) (s:St) (t:TypeId) (ps:List (Nat × Operand)):SR:=match look tt t with
 | some ti=>match Hg s.tm ps with
   | some as=>match H6 (placeOf tt ti.kind) (Dr ti) as with
     | some cs=>bif ti.kind.isAgg then Lz cs fun l=>.ok (.agg l) else .no
     | none=>.no
   | none=>.no
 | none=>.no
def a1H:AV->Bool
 | .tree _ _ _=>false
 | _=>true
def L2 (s:St) (agg:Bool) (size:Nat):AV->SR
 | .pt id row off=>match look s.hp id with
   | some (.box cs)=>match row with
     | 0=>(match Fw agg size cs off with
       | some a=>.ok a
       | none=>.no)
     | _ + 1=>(match agg with
       | true=>.no
       | false=>.cond (off < cs.length) (cs.getD off .junk))
   | some (.list e sz rows)=>match agg with
     | true=>bif Nat.ble (off + size) sz then .cond (row < rows.length) (.agg (((rows.getD row []).drop off).take size)) else .no
     | false=>bif Nat.blt off sz then .cond (row < rows.length) ((rows.getD row []).getD off .junk) else .no
   | some (.nest _ sz rows)=>match agg with
     | true=>bif Nat.ble (off + size) sz then .cond (row < rows.length/\(rows.getD row []).all a1H=true) (.agg (((rows.getD row []).drop off).take size)) else .no
     | false=>bif Nat.blt off sz then .cond (row < rows.length/\a1H ((rows.getD row []).getD off .junk)=true) ((rows.getD row []).getD off .junk) else .no
   | some (.map _ _)=>.no
   | some (.ranged _ _ _)=>.no
   | some (.clo _ _ _)=>.no
   | none=>.no
 | .rp cs=>match Fw agg size cs 0 with
   | some a=>.ok a
   | none=>.no
 | _=>.no
def Tg (tt:Tab) (s:St) (t:TypeId) (x:Operand):SR:=match look tt t with
 | some ti=>match Au s.tm x with
   | some a=>L2 s ti.kind.isAgg ti.size a
   | none=>.no
 | none=>.no
def Ol (s:St) (size:Nat) (a:AV):AV->SR
 | .pt id row off=>match look s.hp id with
   | some (.box cs)=>match row with
     | 0=>bif Nat.beq a.cells.length size&&Nat.ble (off + size) cs.length then
       Lz (cs.take off++a.cells++cs.drop (off + size)) fun l=>.setB id (.box l) else .no
     | _ + 1=>bif Nat.beq a.cells.length size then .set (off + size<=cs.length) id (.box (cs.take off++a.cells++cs.drop (off + size))) else .no
   | some (.list e sz rows)=>bif Nat.beq a.cells.length size&&Nat.ble (off + size) sz&&a.cells.all Dw then
      .set (row < rows.length) id (.list e sz (rows.set row ((rows.getD row []).take off++a.cells++(rows.getD row []).drop (off + size)))) else .no
   | some (@A2.nest b e sz rows)=>bif Nat.beq a.cells.length size&&Nat.ble (off + size) sz&&a.cells.all Pz then
      .set (row < rows.length) id (.nest (c:=b&&a.cells.all Dw) e sz (rows.set row ((rows.getD row []).take off++a.cells++(rows.getD row []).drop (off + size)))) else .no
   | some (.map _ _)=>.no
   | some (.ranged _ _ _)=>.no
   | some (.clo _ _ _)=>.no
   | none=>.no
 | _=>.no
def Ti (tt:Tab) (s:St) (t:TypeId) (x v:Operand):SR:=match look tt t with
 | some ti=>match Au s.tm x with
   | some p=>match Au s.tm v with
     | some (.tup _)=>.no
     | some a=>Ol s ti.size a p
     | none=>.no
   | none=>.no
 | none=>.no
def evA (s:St):EV->SR
 | .ok v=>.ok (.val v)
 | .cond p v=>.cond p (.val v)
 | .no=>.no
def a8V (s:St) (op:BinOp) (x y:Operand):SR:=match Au s.tm x with
 | some (.val a)=>match Au s.tm y with
   | some (.val b)=>evA s (V3 op a b)
   | _=>.no
 | _=>.no
def a20 (s:St) (op:BinOp) (x y:Operand):SR:=match Au s.tm x with
 | some (.val (.bool a))=>match Au s.tm y with
   | some (.val (.bool b))=>evA s (Re op a b)
   | _=>.no
 | _=>.no
def L3 (tt:Tab) (t:TypeId):Option (List KK):=match look tt t with
 | some ti=>(match ti.keys with | []=>none | k::ks=>some (k::ks))
 | none=>none
def a8W (s:St) (ks:List KK) (op:BinOp) (x y:Operand):SR:=match Au s.tm x with
 | some (.agg as)=>match Au s.tm y with
   | some (.agg bs)=>match Bv ks as with
     | some u=>match Bv ks bs with
       | some v=>match op with
         | .eql=>.ok (.val (.bool (decide (u=v))))
         | .neq=>.ok (.val (.bool (decide (¬ u=v))))
         | _=>.no
       | none=>.no
     | none=>.no
   | _=>.no
 | _=>.no
def V4 (tt:Tab) (t:TypeId):Bool:=match look tt t with
 | some ti=>(match ti.kind with | .bool=>true | _=>false)
 | none=>false
def unA (s:St) (op:UnOp) (x:Operand):SR:=match Au s.tm x with
 | some (.val a)=>evA s (b1p op a)
 | _=>.no
def convA (tt:Tab) (s:St) (src dst:TypeId) (x:Operand):SR:=match look tt src with
 | some _=>match look tt dst with
   | some ti=>match ti.int with
     | some k=>match Au s.tm x with
       | some (.val (.int _ n))=>.ok (.val (.int k (k.wrap n)))
       | _=>.no
     | none=>.no
   | none=>.no
 | none=>.no
def a1I (op:BinOp):AV->SR
 | .lst rows=>match op with
   | .eql=>.cond (rows≠[]) (.val (.bool false))
   | .neq=>.cond (rows≠[]) (.val (.bool true))
   | _=>.no
 | .val (.slice a _ _)=>match op with
   | .eql=>.ok (.val (.bool a.isNone))
   | .neq=>.ok (.val (.bool (!a.isNone)))
   | _=>.no
 | _=>.no
def Wn (s:St) (op:BinOp) (x y:Operand):SR:=match Au s.tm y with
 | some (.val (.slice none 0 0))=>match Au s.tm x with
   | some a=>a1I op a
   | none=>.no
 | _=>.no
def numOf:List AV->Int
 | [.val (.int _ n)]=>n
 | _=>0
def a8X (ys:List (List AV)):Prop:=∀ r∈ys,∃ n,r=[.val (.int .u8 n)]
def strOf (ys:List (List AV)):ByteArray:=strOfNums (ys.map numOf)
def Tj (tt:Tab) (t:TypeId):Bool:=match look tt t with
 | some ti=>(match ti.kind with | .str=>true | _=>false)
 | none=>false
def H7 (s:St) (o:Nat):AV->SR
 | .pt id row off=>.ok (.pt id row (off + o))
 | .rp cs=>bif Nat.ble o cs.length then .ok (.rp (cs.drop o)) else .no
 | _=>.no
def Om (tt:Tab) (t f:Nat):Option (Nat × Nat × Bool):=match look tt t with
 | some ti=>match ti.kind with
   | .struct fs=>fs[f]?
   | _=>none
 | none=>none
def Jn (tt:Tab) (s:St) (t:TypeId) (x:Operand) (f:Nat):SR:=match Om tt t f with
 | some (o,sz,_)=>bif Nat.beq sz 0 then .no else match Au s.tm x with
   | some a=>H7 s o a
   | none=>.no
 | none=>.no
def Wo (tt:Tab) (s:St) (t:TypeId) (x:Operand) (f:Nat):SR:=match Om tt t f with
 | some (o,sz,ag)=>match Au s.tm x with
   | some (.agg cs)=>match Fw ag sz cs o with
     | some a=>.ok a
     | none=>.no
   | _=>.no
 | none=>.no
def B2 (tt:Tab) (t:Nat):Option (Nat × TI):=match look tt t with
 | some ti=>match ti.kind with
   | .slice e=>match look tt e with
     | some te=>some (e,te)
     | none=>none
   | _=>none
 | none=>none
def G0 (tt:Tab) (t:Nat):Option (Nat × Nat × TI):=match look tt t with
 | some ti=>match ti.kind with
   | .array n e=>match look tt e with
     | some te=>some (n,e,te)
     | none=>none
   | _=>none
 | none=>none
def G1 (s:St) (x:Operand):Option Int:=match Au s.tm x with
 | some (.val (.int _ n))=>some n
 | _=>none
def L4 (s:St) (te:TI) (n:Int):AV->SR
 | .own id len=>match look s.hp id with
   | some (.list _ sz _)=>bif Nat.beq sz te.size then .cond (0<=n/\n < len) (.pt id n.toNat 0) else .no
   | some (.nest _ sz _)=>bif Nat.beq sz te.size then .cond (0<=n/\n < len) (.pt id n.toNat 0) else .no
   | _=>.no
 | .lst rows=>.cond (0<=n/\n < rows.length/\(rows.getD n.toNat []).length=te.size) (.rp (rows.getD n.toNat []))
 | _=>.no
def L5 (s:St) (te:TI) (m:Nat) (n:Int):AV->SR
 | .pt id row off=>match look s.hp id with
   | some (.box _)=>.cond (0<=n/\n < m) (.pt id (row + 1) (off + n.toNat * te.size))
   | some (.list _ _ _)=>.cond (0<=n/\n < m) (.pt id row (off + n.toNat * te.size))
   | some (.nest _ _ _)=>.no
   | some (.map _ _)=>.no
   | some (.ranged _ _ _)=>.no
   | some (.clo _ _ _)=>.no
   | none=>.no
 | _=>.no
def Hh (tt:Tab) (s:St) (t:TypeId) (x i:Operand):SR:=match G1 s i with
 | some n=>match Au s.tm x with
   | some a=>match B2 tt t with
     | some (_,te)=>L4 s te n a
     | none=>match G0 tt t with
       | some (m,_,te)=>bif Nat.blt 1 m then L5 s te m n a else .no
       | none=>.no
   | none=>.no
 | none=>.no
def Ri (tt:Tab) (s:St) (t:TypeId) (x i:Operand):SR:=match G1 s i with
 | some n=>match G0 tt t with
   | some (m,_,te)=>match Au s.tm x with
     | some (.agg cs)=>bif !te.kind.isAgg&&Nat.beq te.size 1&&Nat.ble m cs.length then .cond (0<=n/\n < m) (cs.getD n.toNat .junk) else .no
     | _=>.no
   | none=>.no
 | none=>.no
def Ng (s:St) (x:Operand) (i:Nat):SR:=match Au s.tm x with
 | some (.tup vs)=>match vs[i]? with
   | some a=>.ok a
   | none=>.no
 | _=>.no
def H8 (tt:Tab) (s:St) (t:TypeId) (n:Nat) (ps:List (Nat × Operand)):SR:=match B2 tt t with
 | some (e,te)=>match Hg s.tm ps with
   | some as=>match H6 (fun i=>some (i * te.size,te.size)) ((List.replicate n (Dr te)).flatten) as with
     | some cs=>bif cs.all Dw&&Nat.blt 0 te.size&&Nat.ble (n * te.size) 65536 then a8S te fun sz=>Rf (chunks te.size n cs) fun rows=>.newL0 n (.list e sz rows) else
        bif cs.all Pz&&Nat.blt 0 te.size&&Nat.ble (n * te.size) 65536 then a8S te fun sz=>Rf (chunks te.size n cs) fun rows=>.newL0 n (.nest (c:=false) e sz rows) else .no
     | none=>.no
   | none=>.no
 | none=>.no
def Jo (tt:Tab) (s:St) (t:TypeId) (l c:Operand):SR:=match B2 tt t with
 | some (e,te)=>match G1 s l with
   | some a=>match G1 s c with
     | some b=>bif Nat.blt 0 te.size then a8S te fun sz=>Lz (Dr te) fun z=>.newL (0<=a/\a<=b/\b<=140737488355328/\b * te.bytes<=140737488355328) a.toNat (.list e sz (List.replicate a.toNat z)) else .no
     | none=>.no
   | none=>.no
 | none=>.no
def a21 (h:Option Int) (n:Nat):Nat:=match h with
 | some b=>b.toNat
 | none=>n
def Rj (s:St) (sz:Nat) (l:Int) (h:Option Int):AV->SR
 | .own id len=>match h with
   | some b=>.cond (l=0/\0<=b/\b<=len) (.own id b.toNat)
   | none=>.cond (l=0) (.own id len)
 | .lst rows=>match h with
   | some b=>.cond (0<=l/\l<=b/\b<=rows.length/\(l=0∨(rows.getD 0 []).length=sz)) (.lst ((rows.drop l.toNat).take (b.toNat - l.toNat)))
   | none=>.cond (0<=l/\l<=rows.length/\(l=0∨(rows.getD 0 []).length=sz)) (.lst (rows.drop l.toNat))
 | _=>.no
def Hz (s:St) (sz:Nat) (l:Int) (h:Option Int):AV->SR
 | .own id len=>match look s.hp id with
   | some (.list _ sz' rows)=>bif Nat.beq sz' sz then (match h with
     | some b=>.cond (0<=l/\l<=b/\b<=len) (.sb id l.toNat 0 (b.toNat - l.toNat))
     | none=>.cond (0<=l/\l<=len) (.sb id l.toNat 0 (len - l.toNat))) else .no
   | _=>.no
 | a=>Rj s sz l h a
def a1J (te:TI) (m:Nat):AV->SR
 | .pt id row off=>bif Nat.ble m 65536 then .ok (.sb id row off m) else .no
 | _=>.no
def Gh (tt:Tab) (s:St) (t:TypeId) (x:Operand) (lo hi:Option Operand):SR:=match G0 tt t with
 | none=>.no
 | some (m,_,te)=>match Au s.tm x with
   | none=>.no
   | some a=>match lo with
     | none=>match hi with
       | none=>a1J te m a
       | some _=>.no
     | some _=>.no
def I2 (tt:Tab) (s:St) (t:TypeId) (x:Operand) (lo hi:Option Operand):SR :=
 match B2 tt t with
 | none=>Gh tt s t x lo hi
 | some (_,te)=>match Au s.tm x with
   | none=>.no
   | some a=>match lo with
     | none=>match hi with
       | none=>Rj s te.size 0 none a
       | some h=>match G1 s h with
         | some b=>Rj s te.size 0 (some b) a
         | none=>.no
     | some l=>match G1 s l with
       | none=>.no
       | some i=>match hi with
         | none=>Hz s te.size i none a
         | some h=>match G1 s h with
           | some b=>Hz s te.size i (some b) a
           | none=>.no
def a0p (s:St) (f:Operand) (args:List Operand):SR:=match Au s.tm f with
 | some (.clo id)=>match look s.hp id with
   | some (.clo n fs cs)=>match Iz s.tm args with
     | some as=>.call n (fs++as++cs)
     | none=>.no
   | _=>.no
 | some (.val (.func (.func n) f1 c1))=>bif f1.size==0&&c1.size==0 then (match Iz s.tm args with
   | some as=>.call n as
   | none=>.no) else .no
 | _=>.no
def a0q (tt:Tab) (s:St) (t:TypeId) (x:Operand):SR:=match look tt t with
 | some ti=>match ti.kind with
   | .slice _=>match Au s.tm x with
     | some (.own _ len)=>.ok (.val (.int .i64 (len:Int)))
     | some (.lst rows)=>.ok (.val (.int .i64 (rows.length:Int)))
     | some (.val (.slice _ n _))=>.ok (.val (.int .i64 (n:Int)))
     | _=>.no
   | .map _ _=>match Au s.tm x with
     | some (.mp id)=>match look s.hp id with
       | some (.map _ rows)=>.ok (.val (.int .i64 (rows.length:Int)))
       | _=>.no
     | _=>.no
   | .str=>match Au s.tm x with
     | some (.val (.string b))=>.ok (.val (.int .i64 (b.size:Int)))
     | _=>.no
   | _=>.no
 | none=>.no
def K6 (s:St) (e:Nat) (te:TI) (ys:List (List AV)) (p:Prop):AV->SR
 | .own id len=>match look s.hp id with
   | some (.list e' sz rows)=>bif Nat.beq e e'&&Nat.beq sz te.size then
      .kill (len<=rows.length/\(len + ys.length) * te.bytes<=140737488355328/\len + ys.length<=maxLen/\p/\∀ r∈ys,r.length=te.size) id (.own id (len + ys.length)) (.list e sz (rows.take len++ys)) else .no
   | _=>.no
 | .val (.slice none 0 0)=>bif Nat.blt 0 te.size then a8S te fun sz=>.newL (ys.length * te.bytes<=140737488355328/\ys.length<=maxLen/\p/\∀ r∈ys,r.length=te.size) ys.length (.list e sz ys) else .no
 | _=>.no
def Nh (s:St) (e:Nat) (te:TI):AV->AV->SR
 | .own j n,.own id len=>match look s.hp id with
   | some (.nest e' sz rows)=>(match look s.hp j with
     | some (.nest _ sz2 ys)=>bif Nat.beq e e'&&Nat.beq sz te.size&&Nat.beq sz2 te.size&&(ys.all fun r=>r.all Pz) then
        .kill (len<=rows.length/\n<=ys.length/\(len + n) * te.bytes<=140737488355328/\len + n<=maxLen/\(∀ c∈rows.flatten,c.idOf≠some id)/\∀ c∈ys.flatten,c.idOf≠some id) id (.own id (len + n)) (.nest (c:=false) e sz (rows.take len++ys.take n)) else .no
     | _=>.no)
   | _=>.no
 | _,_=>.no
def On (tt:Tab) (s:St) (t:TypeId) (x y:Operand):SR:=match B2 tt t with
 | some (e,te)=>match Au s.tm x with
   | some a=>match Au s.tm y with
     | some b=>match Gz s.hp b with
       | some (ys,p)=>K6 s e te ys p a
       | none=>Nh s e te b a
     | none=>.no
   | none=>.no
 | none=>.no
def a67 (a b:Int):Int:=if b < a then b else a
def a8Y (s:St) (x y:Operand):SR:=match Au s.tm x with
 | some (.val (.int k a))=>match Au s.tm y with
   | some (.val (.int k' b))=>.ok (.val (.int k (a67 a b)))
   | _=>.no
 | _=>.no
def Wp (s:St) (te:TI) (ys:List (List AV)) (p:Prop):AV->SR
 | .sb id row off len=>match look s.hp id with
   | some (.box cs)=>bif Nat.beq te.size 1&&Nat.blt 0 len then .setV (p/\(∀ r∈ys,r.length=1)/\off + len<=cs.length) id (int64 ((Nat.min ys.length len:Nat):Int)) (.box (cs.take off++(ys.take len).flatten++cs.drop (off + (ys.take len).flatten.length))) else .no
   | _=>.no
 | _=>.no
def a0r (tt:Tab) (s:St) (t:TypeId) (x y:Operand):SR:=match B2 tt t with
 | some (_,te)=>match Au s.tm x with
   | some a=>match Au s.tm y with
     | some b=>match Gz s.hp b with
       | some (ys,p)=>Wp s te ys p a
       | none=>.no
     | none=>.no
   | none=>.no
 | none=>.no
def Ga (tt:Tab) (t:TypeId):Option (List KK × TI):=match look tt t with
 | some ti=>match ti.kind with
   | .map k e=>match L3 tt k with
     | some ks=>match look tt e with
       | some te=>some (ks,te)
       | none=>none
     | none=>none
   | _=>none
 | none=>none
def a8Z:KK->KK->Bool
 | .int a,.int b=>a==b
 | .bool,.bool=>true
 | _,_=>false
def Kd:List KK->List KK->Bool
 | [],[]=>true
 | a::as,b::bs=>a8Z a b&&Kd as bs
 | _,_=>false
def Rk (k:List KV) (a:AV):List (List KV × AV)->List (List KV × AV)
 | []=>[(k,a)]
 | r::rs=>if r.1=k then (k,a)::rs else r::Rk k a rs
def Gi (k:List KV):List (List KV × AV)->Option AV
 | []=>none
 | r::rs=>if r.1=k then some r.2 else Gi k rs
def zeroV (te:TI):AV:=.agg (Dr te)
def a80 (te:TI) (r:Option AV):Bool->AV
 | true=>.tup [r.getD (zeroV te),.val (.bool r.isSome)]
 | false=>r.getD (zeroV te)
def Ask (k:List KV) (rows:List (List KV × AV)):Prop:=True
def Qh:AV->Bool
 | .agg cs=>cs.all Dw
 | a=>Dw a
def K7 (tt:Tab) (s:St) (t:TypeId):Option Operand->SR
 | none=>match Ga tt t with
   | some (ks,_)=>.newM (.map ks [])
   | none=>.no
 | some x=>match Ga tt t with
   | some (ks,_)=>match Au s.tm x with
     | some (.val (.int _ _))=>.newM (.map ks [])
     | _=>.no
   | none=>.no
def Oo (tt:Tab) (s:St) (t:TypeId) (m k v:Operand):SR:=match Ga tt t with
 | some (ks,_)=>match Au s.tm m with
   | some (.mp id)=>match look s.hp id with
     | some (.map ks' rows)=>match Au s.tm k with
       | some (.agg as)=>match Bv ks as with
         | some kv=>match Au s.tm v with
           | some a=>bif Kd ks ks'&&Qh a then .set (Ask kv rows) id (.map ks' (Rk kv a rows)) else .no
           | none=>.no
         | none=>.no
       | _=>.no
     | _=>.no
   | _=>.no
 | none=>.no
def Oq (tt:Tab) (s:St) (t:TypeId) (m k:Operand) (b:Bool):SR:=match Ga tt t with
 | some (ks,te)=>match Au s.tm m with
   | some (.mp id)=>match look s.hp id with
     | some (.map ks' rows)=>match Au s.tm k with
       | some (.agg as)=>match Bv ks as with
         | some kv=>bif Kd ks ks'&&!Nat.beq te.size 1 then .cond (Ask kv rows) (a80 te (Gi kv rows) b) else .no
         | none=>.no
       | _=>.no
     | _=>.no
   | _=>.no
 | none=>.no
def Wq (k:List KV):List (List KV × AV)->List (List KV × AV)
 | []=>[]
 | r::rs=>if r.1=k then rs else r::Wq k rs
def Ot (tt:Tab) (s:St) (t:TypeId) (m k:Operand):SR:=match Ga tt t with
 | some (ks,_)=>match Au s.tm m with
   | some (.mp id)=>match look s.hp id with
     | some (.map ks' rows)=>match Au s.tm k with
       | some (.agg as)=>match Bv ks as with
         | some kv=>bif Kd ks ks' then .setV (Ask kv rows) id (.tup []) (.map ks' (Wq kv rows)) else .no
         | none=>.no
       | _=>.no
     | _=>.no
   | _=>.no
 | none=>.no
def a1K:AV->Bool
 | .agg _=>false
 | .tup _=>false
 | .tree _ _ _=>false
 | .junk=>false
 | _=>true
def kvA:List KK->List KV->List AV
 | .int k::ks,.int n::r=>.val (.int k n)::kvA ks r
 | .bool::ks,.bool b::r=>.val (.bool b)::kvA ks r
 | _::ks,_::r=>.junk::kvA ks r
 | _,_=>[]
def Tk (tt:Tab) (s:St) (t:TypeId) (x:Operand):SR:=match Ga tt t with
 | some (ks,_)=>match Au s.tm x with
   | some (.mp id)=>match look s.hp id with
     | some (.map ks' rows)=>.kill True id (.pt id 0 0) (.ranged ks' none rows)
     | _=>.no
   | _=>.no
 | none=>.no
def a0s (s:St) (x:Operand):SR:=match Au s.tm x with
 | some (.pt id 0 0)=>match look s.hp id with
   | some (.ranged ks _ left)=>.each id ks left
   | _=>.no
 | _=>.no
def Tl (s:St) (x:Operand):SR:=match Au s.tm x with
 | some (.pt id 0 0)=>match look s.hp id with
   | some (.ranged ks (some r) _)=>.ok (.tup [.agg (kvA ks r.1),r.2])
   | _=>.no
 | _=>.no
def a81 (s:St) (f:Nat) (fs cs:List Operand):SR:=match Iz s.tm fs with
 | some a=>match Iz s.tm cs with
   | some b=>bif a.all (fun x=>a1K x)&&b.all (fun x=>a1K x) then .newC (.clo f a b) else .no
   | none=>.no
 | none=>.no
def D6 (tt:Tab) (s:St) (b:Builtin) (args:List Operand) (tys:List TypeId):SR:=match b with
 | .len=>match args with
   | [x]=>match tys with
     | [t]=>a0q tt s t x
     | _=>.no
   | _=>.no
 | .append=>match args with
   | [x,y]=>match tys with
     | [t,t']=>bif Nat.beq t t' then On tt s t x y else .no
     | _=>.no
   | _=>.no
 | .min=>match args with
   | [x,y]=>a8Y s x y
   | _=>.no
 | .copy=>match args with
   | [x,y]=>match tys with
     | [t,t']=>bif Nat.beq t t' then a0r tt s t x y else .no
     | _=>.no
   | _=>.no
 | .delete=>match args with
   | [m,k]=>match tys with
     | [t,_]=>Ot tt s t m k
     | _=>.no
   | _=>.no
 | _=>.no
def a1L (tt:Tab) (s:St) (src:TypeId) (x:Operand):SR:=match B2 tt src with
 | some (_,te)=>match te.int with
   | some .u8=>match Au s.tm x with
     | some a=>match Gz s.hp a with
       | some (ys,p)=>.cond (p/\a8X ys) (.val (.string (strOf ys)))
       | none=>.no
     | none=>.no
   | _=>.no
 | none=>.no
def Av (tt:Tab) (o:Op) (s:St):SR :=
 match o with
 | .move x=>moveA s x
 | .assign x=>moveA s x
 | .alloc t=>a1G tt s t
 | .nilCheck x=>a8T s x
 | .pick c x y=>match Au s.tm c with
   | some (.val (.bool b))=>.pick b x y
   | _=>.no
 | .box t x=>a8U s x
 | .build t ps=>Wm tt s t ps.toList
 | .load t x=>Tg tt s t x
 | .store t x v=>Ti tt s t x v
 | .binOp op t x y _=>match V4 tt t with
   | true=>a20 s op x y
   | false=>match B2 tt t with
     | some _=>Wn s op x y
     | none=>match L3 tt t with
       | some ks=>a8W s ks op x y
       | none=>a8V s op x y
 | .unOp op t x=>unA s op x
 | .convert src dst x=>match Tj tt dst with
   | true=>a1L tt s src x
   | false=>convA tt s src dst x
 | .fieldAddr t x f=>Jn tt s t x f
 | .field t x f=>Wo tt s t x f
 | .indexAddr t x i=>Hh tt s t x i
 | .index t x i=>Ri tt s t x i
 | .extract x i=>Ng s x i
 | .buildSlice t n ps=>H8 tt s t n ps.toList
 | .makeSlice t l c=>Jo tt s t l c
 | .makeMap t r=>K7 tt s t r
 | .mapUpdate t m k v=>Oo tt s t m k v
 | .lookup t x i b=>Oq tt s t x i b
 | .slice t x lo hi mx=>match mx with
   | none=>I2 tt s t x lo hi
   | some _=>.no
 | .makeFunc fn f c=>bif f.size==0&&c.size==0 then .ok (.val (.func fn #[] #[])) else (match fn with
   | .func n=>a81 s n f.toList c.toList
   | _=>.no)
 | .range t x=>Tk tt s t x
 | .next x b=>bif b then .no else a0s s x
 | .entry x=>Tl s x
 | .call c=>match c.callee with
   | .value f=>a0p s f c.args.toList
   | .builtin b=>D6 tt s b c.args.toList c.argTypes.toList
   | .invoke _ _=>.no
 | _=>.no
end Go.Am
