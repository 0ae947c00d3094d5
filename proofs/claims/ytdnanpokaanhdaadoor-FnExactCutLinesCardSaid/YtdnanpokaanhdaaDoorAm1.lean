/-
  THE READING, STEP BY STEP: what an operation makes of what the temporaries read as; what a code asks for.
-/
import Derived.Test.YtdnanpokaanhdaaDoorAm0
import Derived.Laws.BytesArg
namespace Go.Am
open Go.RowKit
set_option linter.unusedVariables false
set_option linter.unusedSimpArgs false

/-- What is known of a type. -/
inductive TK where
  | word
  | struct (fs : List (Nat × Nat × Bool))
  | array (n e : Nat)
  | slice (e : Nat)
  | str
  | bool
  | map (k e : Nat)
  | iface
structure TI where
  size : Nat
  bytes : Nat
  zero : List Value
  kind : TK
  int : Option IntKind
  keys : List KK

def TK.isAgg : TK → Bool
  | .struct _ => true
  | .array _ _ => true
  | _ => false

abbrev Tab := List (Nat × TI)

def avOf : Value → Option AV
  | .agg cs => bif cs.toList.all (·.oneCell') then some (.agg (cs.toList.map .val)) else none
  | .tuple _ => none
  | v => some (.val v)

def opnd (tm : List (Nat × AV)) : Operand → Option AV
  | .tmp t => match look tm t with
    | some .junk => none
    | r => r
  | .const v => avOf v
  | .global g => some (.val (.pointer (some ⟨g, 0, none⟩)))
  | .func f => some (.val (.func (.func f) #[] #[]))

def opnds (tm : List (Nat × AV)) : List Operand → Option (List AV)
  | [] => some []
  | o :: r => match opnd tm o with
    | some a => match opnds tm r with
      | some as => some (a :: as)
      | none => none
    | none => none

/-- What a step gives: a value and a state; under a condition; a call. -/
inductive SR where
  | no
  | ok (v : AV)
  | cond (p : Prop) (v : AV)
  | newP (o : AObj)
  | newM (o : AObj)
  | newC (o : AObj)
  | newL0 (len : Nat) (o : AObj)
  | newL (p : Prop) (len : Nat) (o : AObj)
  | kill (p : Prop) (id : Nat) (v : AV) (o : AObj)
  | setB (id : Nat) (o : AObj)
  | set (p : Prop) (id : Nat) (o : AObj)
  | setV (p : Prop) (id : Nat) (v : AV) (o : AObj)
  | call (f : Nat) (args : List AV)
  | pick (b : Bool) (x y : Operand)
  | each (id : Nat) (ks : List KK) (left : List (List KV × AV))

inductive EV where
  | no
  | ok (v : Value)
  | cond (p : Prop) (v : Value)

def evalShift (op : BinOp) (k : IntKind) (a b : Int) : EV :=
  match op with
  | .shl => .cond (0 ≤ b) (.int k (k.wrap (a * 2 ^ (min b.toNat k.bits))))
  | .shr => .cond (0 ≤ b) (.int k (a.fdiv (2 ^ (min b.toNat k.bits))))
  | _ => .no
def xorI (k : IntKind) (a b : Int) : Int := k.wrap (BitVec.ofInt k.bits a ^^^ BitVec.ofInt k.bits b).toNat
def evalInt (op : BinOp) (k : IntKind) (a b : Int) : EV :=
  match op with
  | .add => .ok (.int k (k.wrap (a + b)))
  | .sub => .ok (.int k (k.wrap (a - b)))
  | .mul => .ok (.int k (k.wrap (a * b)))
  | .quo => .cond (¬ b = 0) (.int k (k.wrap (a.tdiv b)))
  | .rem => .cond (¬ b = 0) (.int k (a.tmod b))
  | .eql => .ok (.bool (decide (a = b)))
  | .neq => .ok (.bool (decide (¬ a = b)))
  | .lss => .ok (.bool (decide (a < b)))
  | .leq => .ok (.bool (decide (a ≤ b)))
  | .gtr => .ok (.bool (decide (b < a)))
  | .geq => .ok (.bool (decide (b ≤ a)))
  | .xor => .ok (.int k (xorI k a b))
  | _ => .no
def evalStr (op : BinOp) (x y : ByteArray) : EV :=
  match op with
  | .eql => .ok (.bool (x.toList == y.toList))
  | .neq => .ok (.bool (!(x.toList == y.toList)))
  | .add => .cond (x.size + y.size ≤ maxLen) (.string (x ++ y))
  | .lss => .ok (.bool (Op.bytesLess x.toList y.toList))
  | .leq => .ok (.bool (Op.bytesLess x.toList y.toList || x.toList == y.toList))
  | .gtr => .ok (.bool (!(Op.bytesLess x.toList y.toList || x.toList == y.toList)))
  | .geq => .ok (.bool (!Op.bytesLess x.toList y.toList))
  | _ => .no
def evalBool (op : BinOp) (a b : Bool) : EV :=
  match op with
  | .eql => .ok (.bool (a == b))
  | .neq => .ok (.bool (!(a == b)))
  | _ => .no
def isShift : BinOp → Bool
  | .shl => true
  | .shr => true
  | _ => false
def evalBin (op : BinOp) : Value → Value → EV
  | .int k a, .int k' b => bif isShift op then evalShift op k a b else bif k == k' then evalInt op k a b else .no
  | .string x, .string y => evalStr op x y
  | _, _ => .no

def evalUn (op : UnOp) : Value → EV
  | .bool b => match op with | .not => .ok (.bool (!b)) | _ => .no
  | .int k n => match op with | .neg => .ok (.int k (k.wrap (0 - n))) | _ => .no
  | _ => .no

def AV.cells : AV → List AV
  | .agg cs => cs
  | v => [v]

def zeroA (ti : TI) : List AV := ti.zero.map .val

/-- A list by its cells, ahead of what goes on from it (so that it is reckoned once). -/
def forceL {α β : Type} : List α → (List α → β) → β
  | [], k => k []
  | a :: r, k => forceL r fun r' => k (a :: r')
theorem forceL_eq {α β : Type} : ∀ (l : List α) (k : List α → β), forceL l k = k l
  | [], k => rfl
  | a :: r, k => forceL_eq r _
def forceLL {α β : Type} : List (List α) → (List (List α) → β) → β
  | [], k => k []
  | a :: r, k => forceL a fun a' => forceLL r fun r' => k (a' :: r')
theorem forceLL_eq {α β : Type} : ∀ (l : List (List α)) (k : List (List α) → β), forceLL l k = k l
  | [], k => rfl
  | a :: r, k => by rw [forceLL, forceL_eq, forceLL_eq r]
def szOf {β : Type} (te : TI) (k : Nat → β) : β := match te with
  | ⟨sz, _, _, _, _, _⟩ => k sz
theorem szOf_eq {β : Type} (te : TI) (k : Nat → β) : szOf te k = k te.size := by cases te; rfl

/-- Parts laid into the cells of a struct or an array. -/
def fillA (place : Nat → Option (Nat × Nat)) (cells : List AV) : List (Nat × AV) → Option (List AV)
  | [] => some cells
  | (i, v) :: rest =>
    match place i with
    | none => none
    | some (off, size) =>
      bif Nat.beq v.cells.length size && Nat.ble (off + size) cells.length then fillA place (cells.take off ++ v.cells ++ cells.drop (off + size)) rest else none

def partsA (tm : List (Nat × AV)) : List (Nat × Operand) → Option (List (Nat × AV))
  | [] => some []
  | (i, x) :: r => match opnd tm x with
    | some (.tup _) => none
    | some a => match partsA tm r with
      | some as => some ((i, a) :: as)
      | none => none
    | none => none

def placeOf (tt : Tab) : TK → Nat → Option (Nat × Nat)
  | .struct fs, i => match fs[i]? with | some (o, s, _) => some (o, s) | none => none
  | .array n e, i => match look tt e with | some te => bif Nat.blt i n then some (i * te.size, te.size) else none | none => none
  | _, _ => none

def valRows : Value → Option (List (List AV) × Prop)
  | .slice _ 0 _ => some ([], True)
  | _ => none
/-- The rows that a slice shows, and when. -/
def rowsA (hp : List (Nat × AObj)) : AV → Option (List (List AV) × Prop)
  | .lst rows => some (rows, True)
  | .own id len => match look hp id with
    | some (.list _ _ rows) => some (rows.take len, len ≤ rows.length)
    | _ => none
  | .val v => valRows v
  | _ => none

def loadA (agg : Bool) (size : Nat) (cs : List AV) (off : Nat) : Option AV :=
  match agg with
  | true => bif Nat.ble (off + size) cs.length then forceL ((cs.drop off).take size) fun l => some (.agg l) else none
  | false => cs[off]?

/-- What lies behind a pointer: the cells of a row. -/
def plainA : AV → Bool
  | .val _ => true
  | .lst _ => true
  | _ => false

def killC (ks : List Nat) : AV → AV
  | .own i len => bif memB i ks then .junk else .own i len
  | .pt i r o => bif memB i ks then .junk else .pt i r o
  | .sb i r o l => bif memB i ks then .junk else .sb i r o l
  | .mp i => bif memB i ks then .junk else .mp i
  | .clo i => bif memB i ks then .junk else .clo i
  | a => a
def killV (ks : List Nat) : AV → AV
  | .agg cs => .agg (cs.map (killC ks))
  | .tup _ => .junk
  | a => killC ks a
def killO (ks : List Nat) : AObj → AObj
  | .box cs => .box (cs.map (killC ks))
  | .list e s rows => .list e s rows
  | .map kk rows => .map kk rows
  | .ranged kk cur left => .ranged kk cur left
  | .clo f fs cs => .clo f (fs.map (killC ks)) (cs.map (killC ks))
  | @AObj.nest b e s rows => match b with
    | true => .nest (c := true) e s rows
    | false => .nest (c := false) e s (rows.map fun r => r.map (killC ks))
def killT (ks : List Nat) : List (Nat × AV) → List (Nat × AV)
  | [] => []
  | (t, a) :: r => (t, killV ks a) :: killT ks r
def killH (ks : List Nat) : List (Nat × AObj) → List (Nat × AObj)
  | [] => []
  | (i, o) :: r => (i, killO ks o) :: killH ks r

def int64 (n : Int) : AV := .val (.int .i64 n)


def chunks (s : Nat) : Nat → List AV → List (List AV)
  | 0, _ => []
  | n + 1, cs => cs.take s :: chunks s n (cs.drop s)

def moveA (s : St) (x : Operand) : SR := match opnd s.tm x with | some a => .ok a | none => .no
def nilA (s : St) (x : Operand) : SR := match opnd s.tm x with
  | some (.pt id r o) => .ok (.pt id r o)
  | some (.rp cs) => .ok (.rp cs)
  | some (.clo id) => match look s.hp id with
    | some (.clo _ _ _) => .ok (.clo id)
    | _ => .no
  | some (.val (.func (.func f) a b)) => .ok (.val (.func (.func f) a b))
  | _ => .no
def allocA (tt : Tab) (s : St) (t : TypeId) : SR := match look tt t with
  | some ti => forceL (zeroA ti) fun l => .newP (.box l)
  | none => .no
def boxA (s : St) (x : Operand) : SR := match opnd s.tm x with
  | some (.tup _) => .no
  | some a => forceL a.cells fun l => .newP (.box l)
  | none => .no
def buildA (tt : Tab) (s : St) (t : TypeId) (ps : List (Nat × Operand)) : SR := match look tt t with
  | some ti => match partsA s.tm ps with
    | some as => match fillA (placeOf tt ti.kind) (zeroA ti) as with
      | some cs => bif ti.kind.isAgg then forceL cs fun l => .ok (.agg l) else .no
      | none => .no
    | none => .no
  | none => .no
def noTree : AV → Bool
  | .tree _ _ _ => false
  | _ => true
def loadPA (s : St) (agg : Bool) (size : Nat) : AV → SR
  | .pt id row off => match look s.hp id with
    | some (.box cs) => match row with
      | 0 => (match loadA agg size cs off with
        | some a => .ok a
        | none => .no)
      | _ + 1 => (match agg with
        | true => .no
        | false => .cond (off < cs.length) (cs.getD off .junk))
    | some (.list e sz rows) => match agg with
      | true => bif Nat.ble (off + size) sz then .cond (row < rows.length) (.agg (((rows.getD row []).drop off).take size)) else .no
      | false => bif Nat.blt off sz then .cond (row < rows.length) ((rows.getD row []).getD off .junk) else .no
    | some (.nest _ sz rows) => match agg with
      | true => bif Nat.ble (off + size) sz then .cond (row < rows.length ∧ (rows.getD row []).all noTree = true) (.agg (((rows.getD row []).drop off).take size)) else .no
      | false => bif Nat.blt off sz then .cond (row < rows.length ∧ noTree ((rows.getD row []).getD off .junk) = true) ((rows.getD row []).getD off .junk) else .no
    | some (.map _ _) => .no
    | some (.ranged _ _ _) => .no
    | some (.clo _ _ _) => .no
    | none => .no
  | .rp cs => match loadA agg size cs 0 with
    | some a => .ok a
    | none => .no
  | _ => .no
def loadOA (tt : Tab) (s : St) (t : TypeId) (x : Operand) : SR := match look tt t with
  | some ti => match opnd s.tm x with
    | some a => loadPA s ti.kind.isAgg ti.size a
    | none => .no
  | none => .no
def storePA (s : St) (size : Nat) (a : AV) : AV → SR
  | .pt id row off => match look s.hp id with
    | some (.box cs) => match row with
      | 0 => bif Nat.beq a.cells.length size && Nat.ble (off + size) cs.length then
        forceL (cs.take off ++ a.cells ++ cs.drop (off + size)) fun l => .setB id (.box l) else .no
      | _ + 1 => bif Nat.beq a.cells.length size then .set (off + size ≤ cs.length) id (.box (cs.take off ++ a.cells ++ cs.drop (off + size))) else .no
    | some (.list e sz rows) => bif Nat.beq a.cells.length size && Nat.ble (off + size) sz && a.cells.all plainA then
        .set (row < rows.length) id (.list e sz (rows.set row ((rows.getD row []).take off ++ a.cells ++ (rows.getD row []).drop (off + size)))) else .no
    | some (@AObj.nest b e sz rows) => bif Nat.beq a.cells.length size && Nat.ble (off + size) sz && a.cells.all cellN then
        .set (row < rows.length) id (.nest (c := b && a.cells.all plainA) e sz (rows.set row ((rows.getD row []).take off ++ a.cells ++ (rows.getD row []).drop (off + size)))) else .no
    | some (.map _ _) => .no
    | some (.ranged _ _ _) => .no
    | some (.clo _ _ _) => .no
    | none => .no
  | _ => .no
def storeA (tt : Tab) (s : St) (t : TypeId) (x v : Operand) : SR := match look tt t with
  | some ti => match opnd s.tm x with
    | some p => match opnd s.tm v with
      | some (.tup _) => .no
      | some a => storePA s ti.size a p
      | none => .no
    | none => .no
  | none => .no
def evA (s : St) : EV → SR
  | .ok v => .ok (.val v)
  | .cond p v => .cond p (.val v)
  | .no => .no
def binA (s : St) (op : BinOp) (x y : Operand) : SR := match opnd s.tm x with
  | some (.val a) => match opnd s.tm y with
    | some (.val b) => evA s (evalBin op a b)
    | _ => .no
  | _ => .no
def boolA (s : St) (op : BinOp) (x y : Operand) : SR := match opnd s.tm x with
  | some (.val (.bool a)) => match opnd s.tm y with
    | some (.val (.bool b)) => evA s (evalBool op a b)
    | _ => .no
  | _ => .no
def keysOfT (tt : Tab) (t : TypeId) : Option (List KK) := match look tt t with
  | some ti => (match ti.keys with | [] => none | k :: ks => some (k :: ks))
  | none => none
/-- Two structs are compared. -/
def keyA (s : St) (ks : List KK) (op : BinOp) (x y : Operand) : SR := match opnd s.tm x with
  | some (.agg as) => match opnd s.tm y with
    | some (.agg bs) => match kvsOf ks as with
      | some u => match kvsOf ks bs with
        | some v => match op with
          | .eql => .ok (.val (.bool (decide (u = v))))
          | .neq => .ok (.val (.bool (decide (¬ u = v))))
          | _ => .no
        | none => .no
      | none => .no
    | _ => .no
  | _ => .no
def isBoolT (tt : Tab) (t : TypeId) : Bool := match look tt t with
  | some ti => (match ti.kind with | .bool => true | _ => false)
  | none => false
/-- An interface's type. -/
def isIfaceT (tt : Tab) (t : TypeId) : Bool := match look tt t with
  | some ti => (match ti.kind with | .iface => true | _ => false)
  | none => false
/-- An interface's value is compared with nil. -/
def nilIfV (op : BinOp) (b : Bool) : SR := match op with
  | .eql => .ok (.val (.bool b))
  | .neq => .ok (.val (.bool (!b)))
  | _ => .no
def nilIfA (s : St) (op : BinOp) (x y : Operand) : SR := match y with
  | .const .nilIface => match opnd s.tm x with
    | some (.val .nilIface) => nilIfV op true
    | some (.val (.iface _ _)) => nilIfV op false
    | _ => .no
  | _ => .no
def valsOf : List AV → Option (List Value)
  | [] => some []
  | .val v :: r => match valsOf r with
    | some vs => some (v :: vs)
    | none => none
  | _ :: _ => none
/-- A struct of plain cells as a value of an interface. -/
def ifaceA (tt : Tab) (s : St) (t : TypeId) (x : Operand) : SR := match look tt t with
  | some ti => match ti.kind with
    | .struct _ => match opnd s.tm x with
      | some (.agg cs) => match valsOf cs with
        | some vs => .ok (.val (.iface t (.agg vs.toArray)))
        | none => .no
      | _ => .no
    | _ => .no
  | none => .no
def unA (s : St) (op : UnOp) (x : Operand) : SR := match opnd s.tm x with
  | some (.val a) => evA s (evalUn op a)
  | _ => .no
def convA (tt : Tab) (s : St) (src dst : TypeId) (x : Operand) : SR := match look tt src with
  | some _ => match look tt dst with
    | some ti => match ti.int with
      | some k => match opnd s.tm x with
        | some (.val (.int _ n)) => .ok (.val (.int k (k.wrap n)))
        | _ => .no
      | none => .no
    | none => .no
  | none => .no
/-- A slice against nil. -/
def eqNilPA (op : BinOp) : AV → SR
  | .lst rows => match op with
    | .eql => .cond (rows ≠ []) (.val (.bool false))
    | .neq => .cond (rows ≠ []) (.val (.bool true))
    | _ => .no
  | .val (.slice a _ _) => match op with
    | .eql => .ok (.val (.bool a.isNone))
    | .neq => .ok (.val (.bool (!a.isNone)))
    | _ => .no
  | _ => .no
def eqNilA (s : St) (op : BinOp) (x y : Operand) : SR := match opnd s.tm y with
  | some (.val (.slice none 0 0)) => match opnd s.tm x with
    | some a => eqNilPA op a
    | none => .no
  | _ => .no
/-- Bytes as a string. -/
def numOf : List AV → Int
  | [.val (.int _ n)] => n
  | _ => 0
def bytesP (ys : List (List AV)) : Prop := ∀ r ∈ ys, ∃ n, r = [.val (.int .u8 n)]
def strOf (ys : List (List AV)) : ByteArray := strOfNums (ys.map numOf)
def isStrT (tt : Tab) (t : TypeId) : Bool := match look tt t with
  | some ti => (match ti.kind with | .str => true | _ => false)
  | none => false
def fieldAddrPA (s : St) (o : Nat) : AV → SR
  | .pt id row off => .ok (.pt id row (off + o))
  | .rp cs => bif Nat.ble o cs.length then .ok (.rp (cs.drop o)) else .no
  | _ => .no
def fieldOf (tt : Tab) (t f : Nat) : Option (Nat × Nat × Bool) := match look tt t with
  | some ti => match ti.kind with
    | .struct fs => fs[f]?
    | _ => none
  | none => none
def fieldAddrA (tt : Tab) (s : St) (t : TypeId) (x : Operand) (f : Nat) : SR := match fieldOf tt t f with
  | some (o, sz, _) => bif Nat.beq sz 0 then .no else match opnd s.tm x with
    | some a => fieldAddrPA s o a
    | none => .no
  | none => .no
def fieldA (tt : Tab) (s : St) (t : TypeId) (x : Operand) (f : Nat) : SR := match fieldOf tt t f with
  | some (o, sz, ag) => match opnd s.tm x with
    | some (.agg cs) => match loadA ag sz cs o with
      | some a => .ok a
      | none => .no
    | _ => .no
  | none => .no
def elemOfA (tt : Tab) (t : Nat) : Option (Nat × TI) := match look tt t with
  | some ti => match ti.kind with
    | .slice e => match look tt e with
      | some te => some (e, te)
      | none => none
    | _ => none
  | none => none
def arrayOfA (tt : Tab) (t : Nat) : Option (Nat × Nat × TI) := match look tt t with
  | some ti => match ti.kind with
    | .array n e => match look tt e with
      | some te => some (n, e, te)
      | none => none
    | _ => none
  | none => none
def intA (s : St) (x : Operand) : Option Int := match opnd s.tm x with
  | some (.val (.int _ n)) => some n
  | _ => none
def indexSA (s : St) (te : TI) (n : Int) : AV → SR
  | .own id len => match look s.hp id with
    | some (.list _ sz _) => bif Nat.beq sz te.size then .cond (0 ≤ n ∧ n < len) (.pt id n.toNat 0) else .no
    | some (.nest _ sz _) => bif Nat.beq sz te.size then .cond (0 ≤ n ∧ n < len) (.pt id n.toNat 0) else .no
    | _ => .no
  | .lst rows => .cond (0 ≤ n ∧ n < rows.length ∧ (rows.getD n.toNat []).length = te.size) (.rp (rows.getD n.toNat []))
  | _ => .no
def indexRA (s : St) (te : TI) (m : Nat) (n : Int) : AV → SR
  | .pt id row off => match look s.hp id with
    | some (.box _) => .cond (0 ≤ n ∧ n < m) (.pt id (row + 1) (off + n.toNat * te.size))
    | some (.list _ _ _) => .cond (0 ≤ n ∧ n < m) (.pt id row (off + n.toNat * te.size))
    | some (.nest _ _ _) => .no
    | some (.map _ _) => .no
    | some (.ranged _ _ _) => .no
    | some (.clo _ _ _) => .no
    | none => .no
  | _ => .no
def indexAddrA (tt : Tab) (s : St) (t : TypeId) (x i : Operand) : SR := match intA s i with
  | some n => match opnd s.tm x with
    | some a => match elemOfA tt t with
      | some (_, te) => indexSA s te n a
      | none => match arrayOfA tt t with
        | some (m, _, te) => bif Nat.blt 1 m then indexRA s te m n a else .no
        | none => .no
    | none => .no
  | none => .no
/-- A string's bytes. -/
def byteV (c : UInt8) : AV := .val (.int .u8 (c.toNat : Int))
def byteRows (b : ByteArray) : List (List AV) := b.toList.map fun c => [byteV c]
def byteAt (b : ByteArray) (n : Int) : AV := byteV (b.toList.getD n.toNat 0)
def cutS (b : ByteArray) (i j : Int) : ByteArray := b.extract i.toNat j.toNat
def strIdxA (tt : Tab) (s : St) (t : TypeId) (x : Operand) (n : Int) : SR := match isStrT tt t with
  | true => match opnd s.tm x with
    | some (.val (.string b)) => .cond (0 ≤ n ∧ n < b.size) (byteAt b n)
    | _ => .no
  | false => .no
def strCutA (s : St) (lo hi : Option Operand) : AV → SR
  | .val (.string b) => match lo with
    | none => match hi with
      | none => .ok (.val (.string (cutS b 0 b.size)))
      | some h => match intA s h with
        | some j => .cond (0 ≤ j ∧ j ≤ b.size) (.val (.string (cutS b 0 j)))
        | none => .no
    | some l => match intA s l with
      | some i => match hi with
        | none => .cond (0 ≤ i ∧ i ≤ b.size) (.val (.string (cutS b i b.size)))
        | some h => match intA s h with
          | some j => .cond (0 ≤ i ∧ i ≤ j ∧ j ≤ b.size) (.val (.string (cutS b i j)))
          | none => .no
      | none => .no
  | _ => .no
/-- A string as bytes: they are only read. -/
def strToA (tt : Tab) (s : St) (dst : TypeId) (x : Operand) : SR := match elemOfA tt dst with
  | some (_, te) => match te.int with
    | some .u8 => match opnd s.tm x with
      | some (.val (.string b)) => .cond (b.size ≤ maxLen) (.lst (byteRows b))
      | _ => .no
    | _ => .no
  | none => .no
def indexVA (tt : Tab) (s : St) (t : TypeId) (x i : Operand) : SR := match intA s i with
  | some n => match arrayOfA tt t with
    | some (m, _, te) => match opnd s.tm x with
      | some (.agg cs) => bif !te.kind.isAgg && Nat.beq te.size 1 && Nat.ble m cs.length then .cond (0 ≤ n ∧ n < m) (cs.getD n.toNat .junk) else .no
      | _ => .no
    | none => strIdxA tt s t x n
  | none => .no
def extractA (s : St) (x : Operand) (i : Nat) : SR := match opnd s.tm x with
  | some (.tup vs) => match vs[i]? with
    | some a => .ok a
    | none => .no
  | _ => .no
def buildSliceA (tt : Tab) (s : St) (t : TypeId) (n : Nat) (ps : List (Nat × Operand)) : SR := match elemOfA tt t with
  | some (e, te) => match partsA s.tm ps with
    | some as => match fillA (fun i => some (i * te.size, te.size)) ((List.replicate n (zeroA te)).flatten) as with
      | some cs => bif cs.all plainA && Nat.blt 0 te.size && Nat.ble (n * te.size) 65536 then szOf te fun sz => forceLL (chunks te.size n cs) fun rows => .newL0 n (.list e sz rows) else
          bif cs.all cellN && Nat.blt 0 te.size && Nat.ble (n * te.size) 65536 then szOf te fun sz => forceLL (chunks te.size n cs) fun rows => .newL0 n (.nest (c := false) e sz rows) else .no
      | none => .no
    | none => .no
  | none => .no
def makeSliceA (tt : Tab) (s : St) (t : TypeId) (l c : Operand) : SR := match elemOfA tt t with
  | some (e, te) => match intA s l with
    | some a => match intA s c with
      | some b => bif Nat.blt 0 te.size then szOf te fun sz => forceL (zeroA te) fun z => .newL (0 ≤ a ∧ a ≤ b ∧ b ≤ 140737488355328 ∧ b * te.bytes ≤ 140737488355328) a.toNat (.list e sz (List.replicate a.toNat z)) else .no
      | none => .no
    | none => .no
  | none => .no
def hiOf (h : Option Int) (n : Nat) : Nat := match h with
  | some b => b.toNat
  | none => n
def sliceHA (s : St) (sz : Nat) (l : Int) (h : Option Int) : AV → SR
  | .own id len => match h with
    | some b => .cond (l = 0 ∧ 0 ≤ b ∧ b ≤ len) (.own id b.toNat)
    | none => .cond (l = 0) (.own id len)
  | .lst rows => match h with
    | some b => .cond (0 ≤ l ∧ l ≤ b ∧ b ≤ rows.length ∧ (l = 0 ∨ (rows.getD 0 []).length = sz)) (.lst ((rows.drop l.toNat).take (b.toNat - l.toNat)))
    | none => .cond (0 ≤ l ∧ l ≤ rows.length ∧ (l = 0 ∨ (rows.getD 0 []).length = sz)) (.lst (rows.drop l.toNat))
  | _ => .no
/-- A part of an own list that does not begin at its first place. -/
def sliceLA (s : St) (sz : Nat) (l : Int) (h : Option Int) : AV → SR
  | .own id len => match look s.hp id with
    | some (.list _ sz' rows) => bif Nat.beq sz' sz then (match h with
      | some b => .cond (0 ≤ l ∧ l ≤ b ∧ (b ≤ len ∨ b ≤ rows.length)) (.sb id l.toNat 0 (b.toNat - l.toNat))
      | none => .cond (0 ≤ l ∧ l ≤ len) (.sb id l.toNat 0 (len - l.toNat))) else .no
    | _ => .no
  | a => sliceHA s sz l h a
def sliceRA (te : TI) (m : Nat) : AV → SR
  | .pt id row off => bif Nat.ble m 65536 then .ok (.sb id row off m) else .no
  | _ => .no
def sliceArrA (tt : Tab) (s : St) (t : TypeId) (x : Operand) (lo hi : Option Operand) : SR := match arrayOfA tt t with
  | none => .no
  | some (m, _, te) => match opnd s.tm x with
    | none => .no
    | some a => match lo with
      | none => match hi with
        | none => sliceRA te m a
        | some _ => .no
      | some _ => .no
def sliceOA (tt : Tab) (s : St) (t : TypeId) (x : Operand) (lo hi : Option Operand) : SR :=
  match elemOfA tt t with
  | none => (match isStrT tt t with
    | true => (match opnd s.tm x with
      | some a => strCutA s lo hi a
      | none => .no)
    | false => sliceArrA tt s t x lo hi)
  | some (_, te) => match opnd s.tm x with
    | none => .no
    | some a => match lo with
      | none => match hi with
        | none => sliceHA s te.size 0 none a
        | some h => match intA s h with
          | some b => sliceHA s te.size 0 (some b) a
          | none => .no
      | some l => match intA s l with
        | none => .no
        | some i => match hi with
          | none => sliceLA s te.size i none a
          | some h => match intA s h with
            | some b => sliceLA s te.size i (some b) a
            | none => .no
/-- A slice with a bound of its own: it can be taken; what it shows is not read. -/
def sliceMA (tt : Tab) (s : St) (t : TypeId) (x : Operand) (lo hi : Option Operand) (mx : Operand) : SR := match elemOfA tt t with
  | some _ => match opnd s.tm x with
    | some (.own _ len) => match lo with
      | some l => match hi with
        | some h => match intA s l with
          | some i => match intA s h with
            | some j => match intA s mx with
              | some m => .cond (0 ≤ i ∧ i ≤ j ∧ j ≤ m ∧ m ≤ len) .junk
              | none => .no
            | none => .no
          | none => .no
        | none => .no
      | none => .no
    | _ => .no
  | none => .no
/-- A part of an own list is cleared. -/
def clearA (tt : Tab) (s : St) (t : TypeId) (x : Operand) : SR := match elemOfA tt t with
  | some (e, te) => match opnd s.tm x with
    | some (.sb id row off l) => match look s.hp id with
      | some (.list e' sz rows) => bif Nat.beq off 0 && Nat.beq sz te.size && Nat.blt 0 te.size then
          .setV (0 < l ∧ row + l ≤ rows.length) id (.tup []) (.list e' sz (rows.take row ++ List.replicate l (zeroA te) ++ rows.drop (row + l))) else .no
      | _ => .no
    | _ => .no
  | none => .no
def callA (s : St) (f : Operand) (args : List Operand) : SR := match opnd s.tm f with
  | some (.clo id) => match look s.hp id with
    | some (.clo n fs cs) => match opnds s.tm args with
      | some as => .call n (fs ++ as ++ cs)
      | none => .no
    | _ => .no
  | some (.val (.func (.func n) f1 c1)) => bif f1.size == 0 && c1.size == 0 then (match opnds s.tm args with
    | some as => .call n as
    | none => .no) else .no
  | _ => .no
def lenOA (tt : Tab) (s : St) (t : TypeId) (x : Operand) : SR := match look tt t with
  | some ti => match ti.kind with
    | .slice _ => match opnd s.tm x with
      | some (.own _ len) => .ok (.val (.int .i64 (len : Int)))
      | some (.lst rows) => .ok (.val (.int .i64 (rows.length : Int)))
      | some (.val (.slice _ n _)) => .ok (.val (.int .i64 (n : Int)))
      | _ => .no
    | .map _ _ => match opnd s.tm x with
      | some (.mp id) => match look s.hp id with
        | some (.map _ rows) => .ok (.val (.int .i64 (rows.length : Int)))
        | _ => .no
      | _ => .no
    | .str => match opnd s.tm x with
      | some (.val (.string b)) => .ok (.val (.int .i64 (b.size : Int)))
      | _ => .no
    | _ => .no
  | none => .no
def appendPA (s : St) (e : Nat) (te : TI) (ys : List (List AV)) (p : Prop) : AV → SR
  | .own id len => match look s.hp id with
    | some (.list e' sz rows) => bif Nat.beq e e' && Nat.beq sz te.size then
        .kill (len ≤ rows.length ∧ (len + ys.length) * te.bytes ≤ 140737488355328 ∧ len + ys.length ≤ maxLen ∧ p ∧ ∀ r ∈ ys, r.length = te.size) id (.own id (len + ys.length)) (.list e sz (rows.take len ++ ys)) else .no
    | _ => .no
  | .val (.slice none 0 0) => bif Nat.blt 0 te.size then szOf te fun sz => .newL (ys.length * te.bytes ≤ 140737488355328 ∧ ys.length ≤ maxLen ∧ p ∧ ∀ r ∈ ys, r.length = te.size) ys.length (.list e sz ys) else .no
  | _ => .no
/-- A part of an own list is appended to its beginning: it stays where it is. -/
def appendSA (s : St) (e : Nat) (te : TI) (j row off l id len : Nat) : SR := match look s.hp id with
  | some (.list e' sz rows) => bif Nat.beq j id && Nat.beq off 0 && Nat.beq e e' && Nat.beq sz te.size then
      .setV (0 < rows.length ∧ len + l ≤ rows.length ∧ row + l ≤ rows.length) id (.own id (len + l)) (.list e' sz (rows.take len ++ (rows.drop row).take l ++ rows.drop (len + l))) else .no
  | _ => .no
/-- Rows of an own list that may hold own lists are appended to another such list. -/
def appendNA (s : St) (e : Nat) (te : TI) : AV → AV → SR
  | .sb j row off l, .own id len => appendSA s e te j row off l id len
  | .own j n, .own id len => match look s.hp id with
    | some (.nest e' sz rows) => (match look s.hp j with
      | some (.nest _ sz2 ys) => bif Nat.beq e e' && Nat.beq sz te.size && Nat.beq sz2 te.size && (ys.all fun r => r.all cellN) then
          .kill (len ≤ rows.length ∧ n ≤ ys.length ∧ (len + n) * te.bytes ≤ 140737488355328 ∧ len + n ≤ maxLen ∧ (∀ c ∈ rows.flatten, c.idOf ≠ some id) ∧ ∀ c ∈ ys.flatten, c.idOf ≠ some id) id (.own id (len + n)) (.nest (c := false) e sz (rows.take len ++ ys.take n)) else .no
      | _ => .no)
    | _ => .no
  | _, _ => .no
def appendA (tt : Tab) (s : St) (t : TypeId) (x y : Operand) : SR := match elemOfA tt t with
  | some (e, te) => match opnd s.tm x with
    | some a => match opnd s.tm y with
      | some b => match rowsA s.hp b with
        | some (ys, p) => appendPA s e te ys p a
        | none => appendNA s e te b a
      | none => .no
    | none => .no
  | none => .no
def minI (a b : Int) : Int := if b < a then b else a
def minA (s : St) (x y : Operand) : SR := match opnd s.tm x with
  | some (.val (.int k a)) => match opnd s.tm y with
    | some (.val (.int k' b)) => .ok (.val (.int k (minI a b)))
    | _ => .no
  | _ => .no
def copyPA (s : St) (te : TI) (ys : List (List AV)) (p : Prop) : AV → SR
  | .sb id row off len => match look s.hp id with
    | some (.box cs) => bif Nat.beq te.size 1 && Nat.blt 0 len then .setV (p ∧ (∀ r ∈ ys, r.length = 1) ∧ off + len ≤ cs.length) id (int64 ((Nat.min ys.length len : Nat) : Int)) (.box (cs.take off ++ (ys.take len).flatten ++ cs.drop (off + (ys.take len).flatten.length))) else .no
    | _ => .no
  | _ => .no
def copyA (tt : Tab) (s : St) (t : TypeId) (x y : Operand) : SR := match elemOfA tt t with
  | some (_, te) => match opnd s.tm x with
    | some a => match opnd s.tm y with
      | some b => match rowsA s.hp b with
        | some (ys, p) => copyPA s te ys p a
        | none => .no
      | none => .no
    | none => .no
  | none => .no
/-- A map's keys are structs that can be compared. -/
def mapOfA (tt : Tab) (t : TypeId) : Option (List KK × TI) := match look tt t with
  | some ti => match ti.kind with
    | .map k e => match keysOfT tt k with
      | some ks => match look tt e with
        | some te => some (ks, te)
        | none => none
      | none => none
    | _ => none
  | none => none
def kkEq : KK → KK → Bool
  | .int a, .int b => a == b
  | .bool, .bool => true
  | _, _ => false
def kksEq : List KK → List KK → Bool
  | [], [] => true
  | a :: as, b :: bs => kkEq a b && kksEq as bs
  | _, _ => false
def putM (k : List KV) (a : AV) : List (List KV × AV) → List (List KV × AV)
  | [] => [(k, a)]
  | r :: rs => if r.1 = k then (k, a) :: rs else r :: putM k a rs
def findM (k : List KV) : List (List KV × AV) → Option AV
  | [] => none
  | r :: rs => if r.1 = k then some r.2 else findM k rs
def zeroV (te : TI) : AV := .agg (zeroA te)
def lookV (te : TI) (r : Option AV) : Bool → AV
  | true => .tup [r.getD (zeroV te), .val (.bool r.isSome)]
  | false => r.getD (zeroV te)
/-- A stop: to say what the map holds at the key. -/
def Ask (k : List KV) (rows : List (List KV × AV)) : Prop := True
def plainM : AV → Bool
  | .agg cs => cs.all plainA
  | a => plainA a
def makeMapA (tt : Tab) (s : St) (t : TypeId) : Option Operand → SR
  | none => match mapOfA tt t with
    | some (ks, _) => .newM (.map ks [])
    | none => .no
  | some x => match mapOfA tt t with
    | some (ks, _) => match opnd s.tm x with
      | some (.val (.int _ _)) => .newM (.map ks [])
      | _ => .no
    | none => .no
def mapSetA (tt : Tab) (s : St) (t : TypeId) (m k v : Operand) : SR := match mapOfA tt t with
  | some (ks, _) => match opnd s.tm m with
    | some (.mp id) => match look s.hp id with
      | some (.map ks' rows) => match opnd s.tm k with
        | some (.agg as) => match kvsOf ks as with
          | some kv => match opnd s.tm v with
            | some a => bif kksEq ks ks' && plainM a then .set (Ask kv rows) id (.map ks' (putM kv a rows)) else .no
            | none => .no
          | none => .no
        | _ => .no
      | _ => .no
    | _ => .no
  | none => .no
def lookupA (tt : Tab) (s : St) (t : TypeId) (m k : Operand) (b : Bool) : SR := match mapOfA tt t with
  | some (ks, te) => match opnd s.tm m with
    | some (.mp id) => match look s.hp id with
      | some (.map ks' rows) => match opnd s.tm k with
        | some (.agg as) => match kvsOf ks as with
          | some kv => bif kksEq ks ks' && !Nat.beq te.size 1 then .cond (Ask kv rows) (lookV te (findM kv rows) b) else .no
          | none => .no
        | _ => .no
      | _ => .no
    | _ => .no
  | none => .no
def delM (k : List KV) : List (List KV × AV) → List (List KV × AV)
  | [] => []
  | r :: rs => if r.1 = k then rs else r :: delM k rs
def deleteA (tt : Tab) (s : St) (t : TypeId) (m k : Operand) : SR := match mapOfA tt t with
  | some (ks, _) => match opnd s.tm m with
    | some (.mp id) => match look s.hp id with
      | some (.map ks' rows) => match opnd s.tm k with
        | some (.agg as) => match kvsOf ks as with
          | some kv => bif kksEq ks ks' then .setV (Ask kv rows) id (.tup []) (.map ks' (delM kv rows)) else .no
          | none => .no
        | _ => .no
      | _ => .no
    | _ => .no
  | none => .no
/-- What a closure may hold. -/
def cloC : AV → Bool
  | .agg _ => false
  | .tup _ => false
  | .tree _ _ _ => false
  | .junk => false
  | _ => true
/-- A key, as it is read. -/
def kvA : List KK → List KV → List AV
  | .int k :: ks, .int n :: r => .val (.int k n) :: kvA ks r
  | .bool :: ks, .bool b :: r => .val (.bool b) :: kvA ks r
  | _ :: ks, _ :: r => .junk :: kvA ks r
  | _, _ => []
/-- A range over a map: the map is given up, its entries are still to come, in an order that is drawn. -/
def rangeA (tt : Tab) (s : St) (t : TypeId) (x : Operand) : SR := match mapOfA tt t with
  | some (ks, _) => match opnd s.tm x with
    | some (.mp id) => match look s.hp id with
      | some (.map ks' rows) => .kill True id (.pt id 0 0) (.ranged ks' none rows)
      | _ => .no
    | _ => .no
  | none => .no
def nextA (s : St) (x : Operand) : SR := match opnd s.tm x with
  | some (.pt id 0 0) => match look s.hp id with
    | some (.ranged ks _ left) => .each id ks left
    | _ => .no
  | _ => .no
def entryA (s : St) (x : Operand) : SR := match opnd s.tm x with
  | some (.pt id 0 0) => match look s.hp id with
    | some (.ranged ks (some r) _) => .ok (.tup [.agg (kvA ks r.1), r.2])
    | _ => .no
  | _ => .no
def cloA (s : St) (f : Nat) (fs cs : List Operand) : SR := match opnds s.tm fs with
  | some a => match opnds s.tm cs with
    | some b => bif a.all (fun x => cloC x) && b.all (fun x => cloC x) then .newC (.clo f a b) else .no
    | none => .no
  | none => .no
def builtinA (tt : Tab) (s : St) (b : Builtin) (args : List Operand) (tys : List TypeId) : SR := match b with
  | .len => match args with
    | [x] => match tys with
      | [t] => lenOA tt s t x
      | _ => .no
    | _ => .no
  | .append => match args with
    | [x, y] => match tys with
      | [t, t'] => bif Nat.beq t t' then appendA tt s t x y else .no
      | _ => .no
    | _ => .no
  | .min => match args with
    | [x, y] => minA s x y
    | _ => .no
  | .copy => match args with
    | [x, y] => match tys with
      | [t, t'] => bif Nat.beq t t' then copyA tt s t x y else .no
      | _ => .no
    | _ => .no
  | .clear => match args with
    | [x] => match tys with
      | [t] => clearA tt s t x
      | _ => .no
    | _ => .no
  | .delete => match args with
    | [m, k] => match tys with
      | [t, _] => deleteA tt s t m k
      | _ => .no
    | _ => .no
  | _ => .no

def strA (tt : Tab) (s : St) (src : TypeId) (x : Operand) : SR := match elemOfA tt src with
  | some (_, te) => match te.int with
    | some .u8 => match opnd s.tm x with
      | some a => match rowsA s.hp a with
        | some (ys, p) => .cond (p ∧ bytesP ys) (.val (.string (strOf ys)))
        | none => .no
      | none => .no
    | _ => .no
  | none => .no
def stepA (tt : Tab) (o : Op) (s : St) : SR :=
  match o with
  | .move x => moveA s x
  | .assign x => moveA s x
  | .alloc t => allocA tt s t
  | .nilCheck x => nilA s x
  | .pick c x y => match opnd s.tm c with
    | some (.val (.bool b)) => .pick b x y
    | _ => .no
  | .box t x => boxA s x
  | .build t ps => buildA tt s t ps.toList
  | .load t x => loadOA tt s t x
  | .store t x v => storeA tt s t x v
  | .binOp op t x y _ => match isBoolT tt t with
    | true => boolA s op x y
    | false => match elemOfA tt t with
      | some _ => eqNilA s op x y
      | none => match keysOfT tt t with
        | some ks => keyA s ks op x y
        | none => match isIfaceT tt t with
          | true => nilIfA s op x y
          | false => binA s op x y
  | .makeInterface t x => ifaceA tt s t x
  | .unOp op t x => unA s op x
  | .convert src dst x => match isStrT tt dst with
    | true => strA tt s src x
    | false => (match isStrT tt src with
      | true => strToA tt s dst x
      | false => convA tt s src dst x)
  | .fieldAddr t x f => fieldAddrA tt s t x f
  | .field t x f => fieldA tt s t x f
  | .indexAddr t x i => indexAddrA tt s t x i
  | .index t x i => indexVA tt s t x i
  | .extract x i => extractA s x i
  | .buildSlice t n ps => buildSliceA tt s t n ps.toList
  | .makeSlice t l c => makeSliceA tt s t l c
  | .makeMap t r => makeMapA tt s t r
  | .mapUpdate t m k v => mapSetA tt s t m k v
  | .lookup t x i b => lookupA tt s t x i b
  | .slice t x lo hi mx => match mx with
    | none => sliceOA tt s t x lo hi
    | some m => sliceMA tt s t x lo hi m
  | .makeFunc fn f c => bif f.size == 0 && c.size == 0 then .ok (.val (.func fn #[] #[])) else (match fn with
    | .func n => cloA s n f.toList c.toList
    | _ => .no)
  | .range t x => rangeA tt s t x
  | .next x b => bif b then .no else nextA s x
  | .entry x => entryA s x
  | .call c => match c.callee with
    | .value f => callA s f c.args.toList
    | .builtin b => builtinA tt s b c.args.toList c.argTypes.toList
    | .invoke _ _ => .no
  | _ => .no

end Go.Am
