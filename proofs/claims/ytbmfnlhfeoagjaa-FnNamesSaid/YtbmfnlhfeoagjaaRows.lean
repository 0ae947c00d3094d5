/-
  No cell of these rows narrows 'for every input' (looked for: loops, veiled, ifaces, maps, wideKeys, modest, calm, conditions, laid).
  DERIVED. THE GIVEN ROWS OF THIS SEAT. 9 by the template 'for every input the law returns true; each argument reads behind the call as it read before'; 0 by the template 'total and deterministic' (their statements: YtbmfnlhfeoagjaaTotals.lean).
  GIVEN WITH THE SEED: the statements are not yours to turn. If you find one false, say at which input.
  Laid BY PROGRAM, IN A SANDBOX (cutbox-rows.mjs): the forced cells as the released guide's own fill.sh prints them over the translation 9b768b13c985670c… (all of the seat's roots in one cut). By AI agents, Wed Nov 11 2026. No macro, syntax, notation, axiom, sorry.
-/
import Derived.Test.YtbmfnlhfeoagjaaChecked
import GoSem.Claim
import GoSem.ClaimJoined
import GoSem.ClaimMapViews
import Derived.JoinedTies
import Derived.KernelRfl
namespace Go.Proofs.Ytbmfnlhfeoagjaa
/- THE CELL 'sum', in the pinned program and in every row, IS THE sha256 OF THE DUMP (.gsa) THAT YtbmfnlhfeoagjaaProg.lean LOADS. Nothing in Lean hashes anything: it is a label: what it is worth is what the hold of that sum in a sandbox is worth. -/
noncomputable def Try.pinned : Pinned := { name := "ytbmfnlhfeoagjaa", sum := "9b768b13c985670c0d52dce5171e822f04bb5c138c2b28a10bcedddd5a4cf5bb", checked := Try.checked }
namespace Rows
def none {H : Type} : Left H := { results := [], args := [] }

/-- 'laws.FnTxs': WHATEVER THE INPUT: true; the input reads as it did. -/
def fnTxsSpec : ChangeSpec := { name := "fnTxs", fn := fun _ => fun
  | [d] => { results := [.lit (.bool true)], args := [d] }
  | _ => none }
def fnTxsRow : OpenClaim := { program := "ytbmfnlhfeoagjaa", sum := "9b768b13c985670c0d52dce5171e822f04bb5c138c2b28a10bcedddd5a4cf5bb", func := "loop.example/g00539/laws.FnTxs", spec := "fnTxs", unfollowed := true, recurses := true, apart := false }
def FnTxsSaid : Prop := fnTxsRow.holds Try.pinned (OpenSpec.ofChange fnTxsSpec)

/-- ITS FALSE NEIGHBOUR: 'it returns false'. Refute it at one input. -/
def fnTxsWrong : ChangeSpec := { name := "fnTxs", fn := fun _ => fun
  | [d] => { results := [.lit (.bool false)], args := [d] }
  | _ => none }
def FnTxsWrongFalsely : Prop := fnTxsRow.holds Try.pinned (OpenSpec.ofChange fnTxsWrong)

/-- 'laws.FnNames': WHATEVER THE INPUT: true; the input reads as it did. -/
def fnNamesSpec : ChangeSpec := { name := "fnNames", fn := fun _ => fun
  | [d] => { results := [.lit (.bool true)], args := [d] }
  | _ => none }
def fnNamesRow : OpenClaim := { program := "ytbmfnlhfeoagjaa", sum := "9b768b13c985670c0d52dce5171e822f04bb5c138c2b28a10bcedddd5a4cf5bb", func := "loop.example/g00539/laws.FnNames", spec := "fnNames", apart := false }
def FnNamesSaid : Prop := fnNamesRow.holds Try.pinned (OpenSpec.ofChange fnNamesSpec)

/-- ITS FALSE NEIGHBOUR: 'it returns false'. Refute it at one input. -/
def fnNamesWrong : ChangeSpec := { name := "fnNames", fn := fun _ => fun
  | [d] => { results := [.lit (.bool false)], args := [d] }
  | _ => none }
def FnNamesWrongFalsely : Prop := fnNamesRow.holds Try.pinned (OpenSpec.ofChange fnNamesWrong)

/-- 'laws.FnExactPutVar': WHATEVER THE INPUT: true; the input reads as it did. -/
def fnExactPutVarSpec : ChangeSpec := { name := "fnExactPutVar", fn := fun _ => fun
  | [d] => { results := [.lit (.bool true)], args := [d] }
  | _ => none }
def fnExactPutVarRow : OpenClaim := { program := "ytbmfnlhfeoagjaa", sum := "9b768b13c985670c0d52dce5171e822f04bb5c138c2b28a10bcedddd5a4cf5bb", func := "loop.example/g00539/laws.FnExactPutVar", spec := "fnExactPutVar", apart := false }
def FnExactPutVarSaid : Prop := fnExactPutVarRow.holds Try.pinned (OpenSpec.ofChange fnExactPutVarSpec)

/-- ITS FALSE NEIGHBOUR: 'it returns false'. Refute it at one input. -/
def fnExactPutVarWrong : ChangeSpec := { name := "fnExactPutVar", fn := fun _ => fun
  | [d] => { results := [.lit (.bool false)], args := [d] }
  | _ => none }
def FnExactPutVarWrongFalsely : Prop := fnExactPutVarRow.holds Try.pinned (OpenSpec.ofChange fnExactPutVarWrong)

/-- 'laws.FnExactReadVar': WHATEVER THE INPUT: true; the input reads as it did. -/
def fnExactReadVarSpec : ChangeSpec := { name := "fnExactReadVar", fn := fun _ => fun
  | [d] => { results := [.lit (.bool true)], args := [d] }
  | _ => none }
def fnExactReadVarRow : OpenClaim := { program := "ytbmfnlhfeoagjaa", sum := "9b768b13c985670c0d52dce5171e822f04bb5c138c2b28a10bcedddd5a4cf5bb", func := "loop.example/g00539/laws.FnExactReadVar", spec := "fnExactReadVar", apart := false }
def FnExactReadVarSaid : Prop := fnExactReadVarRow.holds Try.pinned (OpenSpec.ofChange fnExactReadVarSpec)

/-- ITS FALSE NEIGHBOUR: 'it returns false'. Refute it at one input. -/
def fnExactReadVarWrong : ChangeSpec := { name := "fnExactReadVar", fn := fun _ => fun
  | [d] => { results := [.lit (.bool false)], args := [d] }
  | _ => none }
def FnExactReadVarWrongFalsely : Prop := fnExactReadVarRow.holds Try.pinned (OpenSpec.ofChange fnExactReadVarWrong)

/-- 'laws.FnExactTxFault': WHATEVER THE INPUT: true; the input reads as it did. -/
def fnExactTxFaultSpec : ChangeSpec := { name := "fnExactTxFault", fn := fun _ => fun
  | [d] => { results := [.lit (.bool true)], args := [d] }
  | _ => none }
def fnExactTxFaultRow : OpenClaim := { program := "ytbmfnlhfeoagjaa", sum := "9b768b13c985670c0d52dce5171e822f04bb5c138c2b28a10bcedddd5a4cf5bb", func := "loop.example/g00539/laws.FnExactTxFault", spec := "fnExactTxFault", apart := false }
def FnExactTxFaultSaid : Prop := fnExactTxFaultRow.holds Try.pinned (OpenSpec.ofChange fnExactTxFaultSpec)

/-- ITS FALSE NEIGHBOUR: 'it returns false'. Refute it at one input. -/
def fnExactTxFaultWrong : ChangeSpec := { name := "fnExactTxFault", fn := fun _ => fun
  | [d] => { results := [.lit (.bool false)], args := [d] }
  | _ => none }
def FnExactTxFaultWrongFalsely : Prop := fnExactTxFaultRow.holds Try.pinned (OpenSpec.ofChange fnExactTxFaultWrong)

/-- 'laws.FnExactPackTx': WHATEVER THE INPUT: true; the input reads as it did. -/
def fnExactPackTxSpec : ChangeSpec := { name := "fnExactPackTx", fn := fun _ => fun
  | [d] => { results := [.lit (.bool true)], args := [d] }
  | _ => none }
def fnExactPackTxRow : OpenClaim := { program := "ytbmfnlhfeoagjaa", sum := "9b768b13c985670c0d52dce5171e822f04bb5c138c2b28a10bcedddd5a4cf5bb", func := "loop.example/g00539/laws.FnExactPackTx", spec := "fnExactPackTx", apart := false }
def FnExactPackTxSaid : Prop := fnExactPackTxRow.holds Try.pinned (OpenSpec.ofChange fnExactPackTxSpec)

/-- ITS FALSE NEIGHBOUR: 'it returns false'. Refute it at one input. -/
def fnExactPackTxWrong : ChangeSpec := { name := "fnExactPackTx", fn := fun _ => fun
  | [d] => { results := [.lit (.bool false)], args := [d] }
  | _ => none }
def FnExactPackTxWrongFalsely : Prop := fnExactPackTxRow.holds Try.pinned (OpenSpec.ofChange fnExactPackTxWrong)

/-- 'laws.FnExactReadTx': WHATEVER THE INPUT: true; the input reads as it did. -/
def fnExactReadTxSpec : ChangeSpec := { name := "fnExactReadTx", fn := fun _ => fun
  | [d] => { results := [.lit (.bool true)], args := [d] }
  | _ => none }
def fnExactReadTxRow : OpenClaim := { program := "ytbmfnlhfeoagjaa", sum := "9b768b13c985670c0d52dce5171e822f04bb5c138c2b28a10bcedddd5a4cf5bb", func := "loop.example/g00539/laws.FnExactReadTx", spec := "fnExactReadTx", apart := false }
def FnExactReadTxSaid : Prop := fnExactReadTxRow.holds Try.pinned (OpenSpec.ofChange fnExactReadTxSpec)

/-- ITS FALSE NEIGHBOUR: 'it returns false'. Refute it at one input. -/
def fnExactReadTxWrong : ChangeSpec := { name := "fnExactReadTx", fn := fun _ => fun
  | [d] => { results := [.lit (.bool false)], args := [d] }
  | _ => none }
def FnExactReadTxWrongFalsely : Prop := fnExactReadTxRow.holds Try.pinned (OpenSpec.ofChange fnExactReadTxWrong)

/-- 'laws.FnExactTxSum': WHATEVER THE INPUT: true; the input reads as it did. -/
def fnExactTxSumSpec : ChangeSpec := { name := "fnExactTxSum", fn := fun _ => fun
  | [d] => { results := [.lit (.bool true)], args := [d] }
  | _ => none }
def fnExactTxSumRow : OpenClaim := { program := "ytbmfnlhfeoagjaa", sum := "9b768b13c985670c0d52dce5171e822f04bb5c138c2b28a10bcedddd5a4cf5bb", func := "loop.example/g00539/laws.FnExactTxSum", spec := "fnExactTxSum", apart := false }
def FnExactTxSumSaid : Prop := fnExactTxSumRow.holds Try.pinned (OpenSpec.ofChange fnExactTxSumSpec)

/-- ITS FALSE NEIGHBOUR: 'it returns false'. Refute it at one input. -/
def fnExactTxSumWrong : ChangeSpec := { name := "fnExactTxSum", fn := fun _ => fun
  | [d] => { results := [.lit (.bool false)], args := [d] }
  | _ => none }
def FnExactTxSumWrongFalsely : Prop := fnExactTxSumRow.holds Try.pinned (OpenSpec.ofChange fnExactTxSumWrong)

/-- 'laws.FnExactSameTxs': WHATEVER THE INPUT: true; the input reads as it did. -/
def fnExactSameTxsSpec : ChangeSpec := { name := "fnExactSameTxs", fn := fun _ => fun
  | [d1, d2] => { results := [.lit (.bool true)], args := [d1, d2] }
  | _ => none }
def fnExactSameTxsRow : OpenClaim := { program := "ytbmfnlhfeoagjaa", sum := "9b768b13c985670c0d52dce5171e822f04bb5c138c2b28a10bcedddd5a4cf5bb", func := "loop.example/g00539/laws.FnExactSameTxs", spec := "fnExactSameTxs", unfollowed := true, recurses := true, apart := false }
def FnExactSameTxsSaid : Prop := fnExactSameTxsRow.holds Try.pinned (OpenSpec.ofChange fnExactSameTxsSpec)

/-- ITS FALSE NEIGHBOUR: 'it returns false'. Refute it at one input. -/
def fnExactSameTxsWrong : ChangeSpec := { name := "fnExactSameTxs", fn := fun _ => fun
  | [d1, d2] => { results := [.lit (.bool false)], args := [d1, d2] }
  | _ => none }
def FnExactSameTxsWrongFalsely : Prop := fnExactSameTxsRow.holds Try.pinned (OpenSpec.ofChange fnExactSameTxsWrong)

/- THE SECOND FORM. 'bulk': how many values and letters a reading holds, each counted each time it is reached (what is shared counts as often as it is met; a slice's spare places count too). A statement '..UptoSaid' is the law's where the arguments, and the package variables that the reading takes, are together of bulk at most 1048576: NARROWER than '..Said'. Prove '..Said' where nothing that the law and all that it calls make is longer than what came in: it says more and counts as full. Else prove '..UptoSaid'. A law counts once. -/
mutual
def uptoBulk {H : Type} : DataW H → Nat
  | .lit (.string bytes) => bytes.length + 1
  | .lit _ => 1
  | .nil => 1
  | .ptr d => uptoBulk d + 1
  | .slice elems spare => uptoBulkAll elems + uptoBulkAll spare + 1
  | .agg parts => uptoBulkAll parts + 1
  | .iface _ d => uptoBulk d + 1
  | .map entries => uptoBulkEntries entries + 1
  | .held _ => 1
def uptoBulkAll {H : Type} : List (DataW H) → Nat
  | [] => 0
  | d :: r => uptoBulk d + uptoBulkAll r
def uptoBulkEntries {H : Type} : List (Lit × DataW H) → Nat
  | [] => 0
  | x :: r => uptoBulkEntry x + uptoBulkEntries r
def uptoBulkEntry {H : Type} : Lit × DataW H → Nat
  | (.string bytes, d) => bytes.length + uptoBulk d + 1
  | (_, d) => uptoBulk d + 1
 end
def uptoSmall : (H : Type) → List (DataW H) → Bool := fun _ ds => decide (uptoBulkAll ds ≤ 1048576)
def OpenSpec.upto (s : _root_.Go.ChangeSpec) : _root_.Go.OpenSpec := { _root_.Go.OpenSpec.ofChange s with cond := some uptoSmall }

/-- 'laws.FnTxs', WHERE WHAT IT READS IS OF BULK AT MOST 1048576: true; the input reads as it did. -/
def fnTxsUptoRow : OpenClaim := { program := "ytbmfnlhfeoagjaa", sum := "9b768b13c985670c0d52dce5171e822f04bb5c138c2b28a10bcedddd5a4cf5bb", func := "loop.example/g00539/laws.FnTxs", spec := "fnTxs", unfollowed := true, recurses := true, apart := false, narrowed := true }
def FnTxsUptoSaid : Prop := fnTxsUptoRow.holds Try.pinned (OpenSpec.upto fnTxsSpec)

/-- 'laws.FnNames', WHERE WHAT IT READS IS OF BULK AT MOST 1048576: true; the input reads as it did. -/
def fnNamesUptoRow : OpenClaim := { program := "ytbmfnlhfeoagjaa", sum := "9b768b13c985670c0d52dce5171e822f04bb5c138c2b28a10bcedddd5a4cf5bb", func := "loop.example/g00539/laws.FnNames", spec := "fnNames", apart := false, narrowed := true }
def FnNamesUptoSaid : Prop := fnNamesUptoRow.holds Try.pinned (OpenSpec.upto fnNamesSpec)

/-- 'laws.FnExactPutVar', WHERE WHAT IT READS IS OF BULK AT MOST 1048576: true; the input reads as it did. -/
def fnExactPutVarUptoRow : OpenClaim := { program := "ytbmfnlhfeoagjaa", sum := "9b768b13c985670c0d52dce5171e822f04bb5c138c2b28a10bcedddd5a4cf5bb", func := "loop.example/g00539/laws.FnExactPutVar", spec := "fnExactPutVar", apart := false, narrowed := true }
def FnExactPutVarUptoSaid : Prop := fnExactPutVarUptoRow.holds Try.pinned (OpenSpec.upto fnExactPutVarSpec)

/-- 'laws.FnExactReadVar', WHERE WHAT IT READS IS OF BULK AT MOST 1048576: true; the input reads as it did. -/
def fnExactReadVarUptoRow : OpenClaim := { program := "ytbmfnlhfeoagjaa", sum := "9b768b13c985670c0d52dce5171e822f04bb5c138c2b28a10bcedddd5a4cf5bb", func := "loop.example/g00539/laws.FnExactReadVar", spec := "fnExactReadVar", apart := false, narrowed := true }
def FnExactReadVarUptoSaid : Prop := fnExactReadVarUptoRow.holds Try.pinned (OpenSpec.upto fnExactReadVarSpec)

/-- 'laws.FnExactTxFault', WHERE WHAT IT READS IS OF BULK AT MOST 1048576: true; the input reads as it did. -/
def fnExactTxFaultUptoRow : OpenClaim := { program := "ytbmfnlhfeoagjaa", sum := "9b768b13c985670c0d52dce5171e822f04bb5c138c2b28a10bcedddd5a4cf5bb", func := "loop.example/g00539/laws.FnExactTxFault", spec := "fnExactTxFault", apart := false, narrowed := true }
def FnExactTxFaultUptoSaid : Prop := fnExactTxFaultUptoRow.holds Try.pinned (OpenSpec.upto fnExactTxFaultSpec)

/-- 'laws.FnExactPackTx', WHERE WHAT IT READS IS OF BULK AT MOST 1048576: true; the input reads as it did. -/
def fnExactPackTxUptoRow : OpenClaim := { program := "ytbmfnlhfeoagjaa", sum := "9b768b13c985670c0d52dce5171e822f04bb5c138c2b28a10bcedddd5a4cf5bb", func := "loop.example/g00539/laws.FnExactPackTx", spec := "fnExactPackTx", apart := false, narrowed := true }
def FnExactPackTxUptoSaid : Prop := fnExactPackTxUptoRow.holds Try.pinned (OpenSpec.upto fnExactPackTxSpec)

/-- 'laws.FnExactReadTx', WHERE WHAT IT READS IS OF BULK AT MOST 1048576: true; the input reads as it did. -/
def fnExactReadTxUptoRow : OpenClaim := { program := "ytbmfnlhfeoagjaa", sum := "9b768b13c985670c0d52dce5171e822f04bb5c138c2b28a10bcedddd5a4cf5bb", func := "loop.example/g00539/laws.FnExactReadTx", spec := "fnExactReadTx", apart := false, narrowed := true }
def FnExactReadTxUptoSaid : Prop := fnExactReadTxUptoRow.holds Try.pinned (OpenSpec.upto fnExactReadTxSpec)

/-- 'laws.FnExactTxSum', WHERE WHAT IT READS IS OF BULK AT MOST 1048576: true; the input reads as it did. -/
def fnExactTxSumUptoRow : OpenClaim := { program := "ytbmfnlhfeoagjaa", sum := "9b768b13c985670c0d52dce5171e822f04bb5c138c2b28a10bcedddd5a4cf5bb", func := "loop.example/g00539/laws.FnExactTxSum", spec := "fnExactTxSum", apart := false, narrowed := true }
def FnExactTxSumUptoSaid : Prop := fnExactTxSumUptoRow.holds Try.pinned (OpenSpec.upto fnExactTxSumSpec)

/-- 'laws.FnExactSameTxs', WHERE WHAT IT READS IS OF BULK AT MOST 1048576: true; the input reads as it did. -/
def fnExactSameTxsUptoRow : OpenClaim := { program := "ytbmfnlhfeoagjaa", sum := "9b768b13c985670c0d52dce5171e822f04bb5c138c2b28a10bcedddd5a4cf5bb", func := "loop.example/g00539/laws.FnExactSameTxs", spec := "fnExactSameTxs", unfollowed := true, recurses := true, apart := false, narrowed := true }
def FnExactSameTxsUptoSaid : Prop := fnExactSameTxsUptoRow.holds Try.pinned (OpenSpec.upto fnExactSameTxsSpec)

end Rows
end Go.Proofs.Ytbmfnlhfeoagjaa
