/-
  No cell of these rows narrows 'for every input' (looked for: loops, veiled, ifaces, maps, wideKeys, modest, calm, conditions, laid).
  DERIVED. THE GIVEN ROWS OF THIS SEAT. 10 by the template 'for every input the law returns true; each argument reads behind the call as it read before'; 0 by the template 'total and deterministic' (their statements: YtbghcndemghilaaTotals.lean).
  GIVEN WITH THE SEED: the statements are not yours to turn. If you find one false, say at which input.
  Laid BY PROGRAM, IN A SANDBOX (cutbox-rows.mjs): the forced cells as the released guide's own fill.sh prints them over the translation 75238281da00b92c… (all of the seat's roots in one cut). By AI agents, Wed Nov 11 2026. No macro, syntax, notation, axiom, sorry.
-/
import Derived.Test.YtbghcndemghilaaChecked
import GoSem.Claim
import GoSem.ClaimJoined
import GoSem.ClaimMapViews
import Derived.JoinedTies
import Derived.KernelRfl
namespace Go.Proofs.Ytbghcndemghilaa
/- THE CELL 'sum', in the pinned program and in every row, IS THE sha256 OF THE DUMP (.gsa) THAT YtbghcndemghilaaProg.lean LOADS. Nothing in Lean hashes anything: it is a label: what it is worth is what the hold of that sum in a sandbox is worth. -/
noncomputable def Try.pinned : Pinned := { name := "ytbghcndemghilaa", sum := "75238281da00b92cb11c985348e98b55e582ea92f08b511105cc466232ccd64f", checked := Try.checked }
namespace Rows
def none {H : Type} : Left H := { results := [], args := [] }

/-- 'laws.FnTxs': WHATEVER THE INPUT: true; the input reads as it did. -/
def fnTxsSpec : ChangeSpec := { name := "fnTxs", fn := fun _ => fun
  | [d] => { results := [.lit (.bool true)], args := [d] }
  | _ => none }
def fnTxsRow : OpenClaim := { program := "ytbghcndemghilaa", sum := "75238281da00b92cb11c985348e98b55e582ea92f08b511105cc466232ccd64f", func := "loop.example/g00539/laws.FnTxs", spec := "fnTxs", unfollowed := true, recurses := true, apart := false }
def FnTxsSaid : Prop := fnTxsRow.holds Try.pinned (OpenSpec.ofChange fnTxsSpec)

/-- ITS FALSE NEIGHBOUR: 'it returns false'. Refute it at one input. -/
def fnTxsWrong : ChangeSpec := { name := "fnTxs", fn := fun _ => fun
  | [d] => { results := [.lit (.bool false)], args := [d] }
  | _ => none }
def FnTxsWrongFalsely : Prop := fnTxsRow.holds Try.pinned (OpenSpec.ofChange fnTxsWrong)

/-- 'laws.FnBranches': WHATEVER THE INPUT: true; the input reads as it did. -/
def fnBranchesSpec : ChangeSpec := { name := "fnBranches", fn := fun _ => fun
  | [d] => { results := [.lit (.bool true)], args := [d] }
  | _ => none }
def fnBranchesRow : OpenClaim := { program := "ytbghcndemghilaa", sum := "75238281da00b92cb11c985348e98b55e582ea92f08b511105cc466232ccd64f", func := "loop.example/g00539/laws.FnBranches", spec := "fnBranches", apart := false }
def FnBranchesSaid : Prop := fnBranchesRow.holds Try.pinned (OpenSpec.ofChange fnBranchesSpec)

/-- ITS FALSE NEIGHBOUR: 'it returns false'. Refute it at one input. -/
def fnBranchesWrong : ChangeSpec := { name := "fnBranches", fn := fun _ => fun
  | [d] => { results := [.lit (.bool false)], args := [d] }
  | _ => none }
def FnBranchesWrongFalsely : Prop := fnBranchesRow.holds Try.pinned (OpenSpec.ofChange fnBranchesWrong)

/-- 'laws.FnTwins': WHATEVER THE INPUT: true; the input reads as it did. -/
def fnTwinsSpec : ChangeSpec := { name := "fnTwins", fn := fun _ => fun
  | [d] => { results := [.lit (.bool true)], args := [d] }
  | _ => none }
def fnTwinsRow : OpenClaim := { program := "ytbghcndemghilaa", sum := "75238281da00b92cb11c985348e98b55e582ea92f08b511105cc466232ccd64f", func := "loop.example/g00539/laws.FnTwins", spec := "fnTwins", apart := false }
def FnTwinsSaid : Prop := fnTwinsRow.holds Try.pinned (OpenSpec.ofChange fnTwinsSpec)

/-- ITS FALSE NEIGHBOUR: 'it returns false'. Refute it at one input. -/
def fnTwinsWrong : ChangeSpec := { name := "fnTwins", fn := fun _ => fun
  | [d] => { results := [.lit (.bool false)], args := [d] }
  | _ => none }
def FnTwinsWrongFalsely : Prop := fnTwinsRow.holds Try.pinned (OpenSpec.ofChange fnTwinsWrong)

/-- 'laws.FnExactPackTx': WHATEVER THE INPUT: true; the input reads as it did. -/
def fnExactPackTxSpec : ChangeSpec := { name := "fnExactPackTx", fn := fun _ => fun
  | [d] => { results := [.lit (.bool true)], args := [d] }
  | _ => none }
def fnExactPackTxRow : OpenClaim := { program := "ytbghcndemghilaa", sum := "75238281da00b92cb11c985348e98b55e582ea92f08b511105cc466232ccd64f", func := "loop.example/g00539/laws.FnExactPackTx", spec := "fnExactPackTx", apart := false }
def FnExactPackTxSaid : Prop := fnExactPackTxRow.holds Try.pinned (OpenSpec.ofChange fnExactPackTxSpec)

/-- ITS FALSE NEIGHBOUR: 'it returns false'. Refute it at one input. -/
def fnExactPackTxWrong : ChangeSpec := { name := "fnExactPackTx", fn := fun _ => fun
  | [d] => { results := [.lit (.bool false)], args := [d] }
  | _ => none }
def FnExactPackTxWrongFalsely : Prop := fnExactPackTxRow.holds Try.pinned (OpenSpec.ofChange fnExactPackTxWrong)

/-- 'laws.FnExactReadTx': WHATEVER THE INPUT: true; the input reads as it did. -/
def fnExactReadTxSpec : ChangeSpec := { name := "fnExactReadTx", fn := fun _ => fun
  | [d] => { results := [.lit (.bool true)], args := [d] }
  | _ => none }
def fnExactReadTxRow : OpenClaim := { program := "ytbghcndemghilaa", sum := "75238281da00b92cb11c985348e98b55e582ea92f08b511105cc466232ccd64f", func := "loop.example/g00539/laws.FnExactReadTx", spec := "fnExactReadTx", apart := false }
def FnExactReadTxSaid : Prop := fnExactReadTxRow.holds Try.pinned (OpenSpec.ofChange fnExactReadTxSpec)

/-- ITS FALSE NEIGHBOUR: 'it returns false'. Refute it at one input. -/
def fnExactReadTxWrong : ChangeSpec := { name := "fnExactReadTx", fn := fun _ => fun
  | [d] => { results := [.lit (.bool false)], args := [d] }
  | _ => none }
def FnExactReadTxWrongFalsely : Prop := fnExactReadTxRow.holds Try.pinned (OpenSpec.ofChange fnExactReadTxWrong)

/-- 'laws.FnExactRootOf': WHATEVER THE INPUT: true; the input reads as it did. -/
def fnExactRootOfSpec : ChangeSpec := { name := "fnExactRootOf", fn := fun _ => fun
  | [d] => { results := [.lit (.bool true)], args := [d] }
  | _ => none }
def fnExactRootOfRow : OpenClaim := { program := "ytbghcndemghilaa", sum := "75238281da00b92cb11c985348e98b55e582ea92f08b511105cc466232ccd64f", func := "loop.example/g00539/laws.FnExactRootOf", spec := "fnExactRootOf", apart := false }
def FnExactRootOfSaid : Prop := fnExactRootOfRow.holds Try.pinned (OpenSpec.ofChange fnExactRootOfSpec)

/-- ITS FALSE NEIGHBOUR: 'it returns false'. Refute it at one input. -/
def fnExactRootOfWrong : ChangeSpec := { name := "fnExactRootOf", fn := fun _ => fun
  | [d] => { results := [.lit (.bool false)], args := [d] }
  | _ => none }
def FnExactRootOfWrongFalsely : Prop := fnExactRootOfRow.holds Try.pinned (OpenSpec.ofChange fnExactRootOfWrong)

/-- 'laws.FnExactBranchOf': WHATEVER THE INPUT: true; the input reads as it did. -/
def fnExactBranchOfSpec : ChangeSpec := { name := "fnExactBranchOf", fn := fun _ => fun
  | [d1, d2] => { results := [.lit (.bool true)], args := [d1, d2] }
  | _ => none }
def fnExactBranchOfRow : OpenClaim := { program := "ytbghcndemghilaa", sum := "75238281da00b92cb11c985348e98b55e582ea92f08b511105cc466232ccd64f", func := "loop.example/g00539/laws.FnExactBranchOf", spec := "fnExactBranchOf", apart := false }
def FnExactBranchOfSaid : Prop := fnExactBranchOfRow.holds Try.pinned (OpenSpec.ofChange fnExactBranchOfSpec)

/-- ITS FALSE NEIGHBOUR: 'it returns false'. Refute it at one input. -/
def fnExactBranchOfWrong : ChangeSpec := { name := "fnExactBranchOf", fn := fun _ => fun
  | [d1, d2] => { results := [.lit (.bool false)], args := [d1, d2] }
  | _ => none }
def FnExactBranchOfWrongFalsely : Prop := fnExactBranchOfRow.holds Try.pinned (OpenSpec.ofChange fnExactBranchOfWrong)

/-- 'laws.FnExactClimbOf': WHATEVER THE INPUT: true; the input reads as it did. -/
def fnExactClimbOfSpec : ChangeSpec := { name := "fnExactClimbOf", fn := fun _ => fun
  | [d1, d2, d3] => { results := [.lit (.bool true)], args := [d1, d2, d3] }
  | _ => none }
def fnExactClimbOfRow : OpenClaim := { program := "ytbghcndemghilaa", sum := "75238281da00b92cb11c985348e98b55e582ea92f08b511105cc466232ccd64f", func := "loop.example/g00539/laws.FnExactClimbOf", spec := "fnExactClimbOf", apart := false }
def FnExactClimbOfSaid : Prop := fnExactClimbOfRow.holds Try.pinned (OpenSpec.ofChange fnExactClimbOfSpec)

/-- ITS FALSE NEIGHBOUR: 'it returns false'. Refute it at one input. -/
def fnExactClimbOfWrong : ChangeSpec := { name := "fnExactClimbOf", fn := fun _ => fun
  | [d1, d2, d3] => { results := [.lit (.bool false)], args := [d1, d2, d3] }
  | _ => none }
def FnExactClimbOfWrongFalsely : Prop := fnExactClimbOfRow.holds Try.pinned (OpenSpec.ofChange fnExactClimbOfWrong)

/-- 'laws.FnExactHasTwin': WHATEVER THE INPUT: true; the input reads as it did. -/
def fnExactHasTwinSpec : ChangeSpec := { name := "fnExactHasTwin", fn := fun _ => fun
  | [d] => { results := [.lit (.bool true)], args := [d] }
  | _ => none }
def fnExactHasTwinRow : OpenClaim := { program := "ytbghcndemghilaa", sum := "75238281da00b92cb11c985348e98b55e582ea92f08b511105cc466232ccd64f", func := "loop.example/g00539/laws.FnExactHasTwin", spec := "fnExactHasTwin", apart := false }
def FnExactHasTwinSaid : Prop := fnExactHasTwinRow.holds Try.pinned (OpenSpec.ofChange fnExactHasTwinSpec)

/-- ITS FALSE NEIGHBOUR: 'it returns false'. Refute it at one input. -/
def fnExactHasTwinWrong : ChangeSpec := { name := "fnExactHasTwin", fn := fun _ => fun
  | [d] => { results := [.lit (.bool false)], args := [d] }
  | _ => none }
def FnExactHasTwinWrongFalsely : Prop := fnExactHasTwinRow.holds Try.pinned (OpenSpec.ofChange fnExactHasTwinWrong)

/-- 'laws.FnExactJoinSums': WHATEVER THE INPUT: true; the input reads as it did. -/
def fnExactJoinSumsSpec : ChangeSpec := { name := "fnExactJoinSums", fn := fun _ => fun
  | [d1, d2] => { results := [.lit (.bool true)], args := [d1, d2] }
  | _ => none }
def fnExactJoinSumsRow : OpenClaim := { program := "ytbghcndemghilaa", sum := "75238281da00b92cb11c985348e98b55e582ea92f08b511105cc466232ccd64f", func := "loop.example/g00539/laws.FnExactJoinSums", spec := "fnExactJoinSums", apart := false }
def FnExactJoinSumsSaid : Prop := fnExactJoinSumsRow.holds Try.pinned (OpenSpec.ofChange fnExactJoinSumsSpec)

/-- ITS FALSE NEIGHBOUR: 'it returns false'. Refute it at one input. -/
def fnExactJoinSumsWrong : ChangeSpec := { name := "fnExactJoinSums", fn := fun _ => fun
  | [d1, d2] => { results := [.lit (.bool false)], args := [d1, d2] }
  | _ => none }
def FnExactJoinSumsWrongFalsely : Prop := fnExactJoinSumsRow.holds Try.pinned (OpenSpec.ofChange fnExactJoinSumsWrong)

/- THE SECOND FORM. 'bulk': how many values and letters a reading holds, each counted each time it is reached (what is shared counts as often as it is met; a slice's spare places count too). A statement '..UptoSaid' is the law's where the arguments, and the package variables that the reading takes, are together of bulk at most 1048576: NARROWER than '..Said'. Prove '..Said' where nothing that the law and all that it calls make is longer than what came in: it says more and counts as full. Else prove '..UptoSaid'. A law counts once. -/
mutual
def uptoBulk {H : Type} : DataW H → Nat
  | .lit (.string bytes) => bytes.length + 1
  | .lit _ => 1
  | .nil => 1
  | .ptr d => uptoBulk d + 1
  | .slice elems spare => uptoBulkAll elems + uptoBulkAll spare + 1
  | .agg parts => uptoBulkAll parts + 1
  | .iface _ d => uptoBulk d + 1
  | .map entries => uptoBulkEntries entries + 1
  | .held _ => 1
def uptoBulkAll {H : Type} : List (DataW H) → Nat
  | [] => 0
  | d :: r => uptoBulk d + uptoBulkAll r
def uptoBulkEntries {H : Type} : List (Lit × DataW H) → Nat
  | [] => 0
  | x :: r => uptoBulkEntry x + uptoBulkEntries r
def uptoBulkEntry {H : Type} : Lit × DataW H → Nat
  | (.string bytes, d) => bytes.length + uptoBulk d + 1
  | (_, d) => uptoBulk d + 1
 end
def uptoSmall : (H : Type) → List (DataW H) → Bool := fun _ ds => decide (uptoBulkAll ds ≤ 1048576)
def OpenSpec.upto (s : _root_.Go.ChangeSpec) : _root_.Go.OpenSpec := { _root_.Go.OpenSpec.ofChange s with cond := some uptoSmall }

/-- 'laws.FnTxs', WHERE WHAT IT READS IS OF BULK AT MOST 1048576: true; the input reads as it did. -/
def fnTxsUptoRow : OpenClaim := { program := "ytbghcndemghilaa", sum := "75238281da00b92cb11c985348e98b55e582ea92f08b511105cc466232ccd64f", func := "loop.example/g00539/laws.FnTxs", spec := "fnTxs", unfollowed := true, recurses := true, apart := false, narrowed := true }
def FnTxsUptoSaid : Prop := fnTxsUptoRow.holds Try.pinned (OpenSpec.upto fnTxsSpec)

/-- 'laws.FnBranches', WHERE WHAT IT READS IS OF BULK AT MOST 1048576: true; the input reads as it did. -/
def fnBranchesUptoRow : OpenClaim := { program := "ytbghcndemghilaa", sum := "75238281da00b92cb11c985348e98b55e582ea92f08b511105cc466232ccd64f", func := "loop.example/g00539/laws.FnBranches", spec := "fnBranches", apart := false, narrowed := true }
def FnBranchesUptoSaid : Prop := fnBranchesUptoRow.holds Try.pinned (OpenSpec.upto fnBranchesSpec)

/-- 'laws.FnTwins', WHERE WHAT IT READS IS OF BULK AT MOST 1048576: true; the input reads as it did. -/
def fnTwinsUptoRow : OpenClaim := { program := "ytbghcndemghilaa", sum := "75238281da00b92cb11c985348e98b55e582ea92f08b511105cc466232ccd64f", func := "loop.example/g00539/laws.FnTwins", spec := "fnTwins", apart := false, narrowed := true }
def FnTwinsUptoSaid : Prop := fnTwinsUptoRow.holds Try.pinned (OpenSpec.upto fnTwinsSpec)

/-- 'laws.FnExactPackTx', WHERE WHAT IT READS IS OF BULK AT MOST 1048576: true; the input reads as it did. -/
def fnExactPackTxUptoRow : OpenClaim := { program := "ytbghcndemghilaa", sum := "75238281da00b92cb11c985348e98b55e582ea92f08b511105cc466232ccd64f", func := "loop.example/g00539/laws.FnExactPackTx", spec := "fnExactPackTx", apart := false, narrowed := true }
def FnExactPackTxUptoSaid : Prop := fnExactPackTxUptoRow.holds Try.pinned (OpenSpec.upto fnExactPackTxSpec)

/-- 'laws.FnExactReadTx', WHERE WHAT IT READS IS OF BULK AT MOST 1048576: true; the input reads as it did. -/
def fnExactReadTxUptoRow : OpenClaim := { program := "ytbghcndemghilaa", sum := "75238281da00b92cb11c985348e98b55e582ea92f08b511105cc466232ccd64f", func := "loop.example/g00539/laws.FnExactReadTx", spec := "fnExactReadTx", apart := false, narrowed := true }
def FnExactReadTxUptoSaid : Prop := fnExactReadTxUptoRow.holds Try.pinned (OpenSpec.upto fnExactReadTxSpec)

/-- 'laws.FnExactRootOf', WHERE WHAT IT READS IS OF BULK AT MOST 1048576: true; the input reads as it did. -/
def fnExactRootOfUptoRow : OpenClaim := { program := "ytbghcndemghilaa", sum := "75238281da00b92cb11c985348e98b55e582ea92f08b511105cc466232ccd64f", func := "loop.example/g00539/laws.FnExactRootOf", spec := "fnExactRootOf", apart := false, narrowed := true }
def FnExactRootOfUptoSaid : Prop := fnExactRootOfUptoRow.holds Try.pinned (OpenSpec.upto fnExactRootOfSpec)

/-- 'laws.FnExactBranchOf', WHERE WHAT IT READS IS OF BULK AT MOST 1048576: true; the input reads as it did. -/
def fnExactBranchOfUptoRow : OpenClaim := { program := "ytbghcndemghilaa", sum := "75238281da00b92cb11c985348e98b55e582ea92f08b511105cc466232ccd64f", func := "loop.example/g00539/laws.FnExactBranchOf", spec := "fnExactBranchOf", apart := false, narrowed := true }
def FnExactBranchOfUptoSaid : Prop := fnExactBranchOfUptoRow.holds Try.pinned (OpenSpec.upto fnExactBranchOfSpec)

/-- 'laws.FnExactClimbOf', WHERE WHAT IT READS IS OF BULK AT MOST 1048576: true; the input reads as it did. -/
def fnExactClimbOfUptoRow : OpenClaim := { program := "ytbghcndemghilaa", sum := "75238281da00b92cb11c985348e98b55e582ea92f08b511105cc466232ccd64f", func := "loop.example/g00539/laws.FnExactClimbOf", spec := "fnExactClimbOf", apart := false, narrowed := true }
def FnExactClimbOfUptoSaid : Prop := fnExactClimbOfUptoRow.holds Try.pinned (OpenSpec.upto fnExactClimbOfSpec)

/-- 'laws.FnExactHasTwin', WHERE WHAT IT READS IS OF BULK AT MOST 1048576: true; the input reads as it did. -/
def fnExactHasTwinUptoRow : OpenClaim := { program := "ytbghcndemghilaa", sum := "75238281da00b92cb11c985348e98b55e582ea92f08b511105cc466232ccd64f", func := "loop.example/g00539/laws.FnExactHasTwin", spec := "fnExactHasTwin", apart := false, narrowed := true }
def FnExactHasTwinUptoSaid : Prop := fnExactHasTwinUptoRow.holds Try.pinned (OpenSpec.upto fnExactHasTwinSpec)

/-- 'laws.FnExactJoinSums', WHERE WHAT IT READS IS OF BULK AT MOST 1048576: true; the input reads as it did. -/
def fnExactJoinSumsUptoRow : OpenClaim := { program := "ytbghcndemghilaa", sum := "75238281da00b92cb11c985348e98b55e582ea92f08b511105cc466232ccd64f", func := "loop.example/g00539/laws.FnExactJoinSums", spec := "fnExactJoinSums", apart := false, narrowed := true }
def FnExactJoinSumsUptoSaid : Prop := fnExactJoinSumsUptoRow.holds Try.pinned (OpenSpec.upto fnExactJoinSumsSpec)

end Rows
end Go.Proofs.Ytbghcndemghilaa
