/-
  No cell of these rows narrows 'for every input' (looked for: loops, veiled, ifaces, maps, wideKeys, modest, calm, conditions, laid).
  DERIVED. THE GIVEN ROWS OF THIS SEAT. 9 by the template 'for every input the law returns true; each argument reads behind the call as it read before'; 0 by the template 'total and deterministic' (their statements: YtgebhcahgmonpaaTotals.lean).
  GIVEN WITH THE SEED: the statements are not yours to turn. If you find one false, say at which input.
  Laid BY PROGRAM, IN A SANDBOX (cutbox-rows.mjs): the forced cells as the released guide's own fill.sh prints them over the translation c039957b887328f8… (all of the seat's roots in one cut). By AI agents, Wed Nov 11 2026. No macro, syntax, notation, axiom, sorry.
-/
import Derived.Test.YtgebhcahgmonpaaChecked
import GoSem.Claim
import GoSem.ClaimJoined
import GoSem.ClaimMapViews
import Derived.JoinedTies
import Derived.KernelRfl
namespace Go.Proofs.Ytgebhcahgmonpaa
/- THE CELL 'sum', in the pinned program and in every row, IS THE sha256 OF THE DUMP (.gsa) THAT YtgebhcahgmonpaaProg.lean LOADS. Nothing in Lean hashes anything: it is a label: what it is worth is what the hold of that sum in a sandbox is worth. -/
noncomputable def Try.pinned : Pinned := { name := "ytgebhcahgmonpaa", sum := "c039957b887328f8f8486e919bb6f1ff0a0f6650b7bdf202ea4b3b0ba405700c", checked := Try.checked }
namespace Rows
def none {H : Type} : Left H := { results := [], args := [] }

/-- 'laws.FnLocks': WHATEVER THE INPUT: true; the input reads as it did. -/
def fnLocksSpec : ChangeSpec := { name := "fnLocks", fn := fun _ => fun
  | [d] => { results := [.lit (.bool true)], args := [d] }
  | _ => none }
def fnLocksRow : OpenClaim := { program := "ytgebhcahgmonpaa", sum := "c039957b887328f8f8486e919bb6f1ff0a0f6650b7bdf202ea4b3b0ba405700c", func := "loop.example/g00539/laws.FnLocks", spec := "fnLocks", unfollowed := true, recurses := true, apart := false }
def FnLocksSaid : Prop := fnLocksRow.holds Try.pinned (OpenSpec.ofChange fnLocksSpec)

/-- ITS FALSE NEIGHBOUR: 'it returns false'. Refute it at one input. -/
def fnLocksWrong : ChangeSpec := { name := "fnLocks", fn := fun _ => fun
  | [d] => { results := [.lit (.bool false)], args := [d] }
  | _ => none }
def FnLocksWrongFalsely : Prop := fnLocksRow.holds Try.pinned (OpenSpec.ofChange fnLocksWrong)

/-- 'laws.FnPrograms': WHATEVER THE INPUT: true; the input reads as it did. -/
def fnProgramsSpec : ChangeSpec := { name := "fnPrograms", fn := fun _ => fun
  | [d] => { results := [.lit (.bool true)], args := [d] }
  | _ => none }
def fnProgramsRow : OpenClaim := { program := "ytgebhcahgmonpaa", sum := "c039957b887328f8f8486e919bb6f1ff0a0f6650b7bdf202ea4b3b0ba405700c", func := "loop.example/g00539/laws.FnPrograms", spec := "fnPrograms", unfollowed := true, recurses := true, apart := false }
def FnProgramsSaid : Prop := fnProgramsRow.holds Try.pinned (OpenSpec.ofChange fnProgramsSpec)

/-- ITS FALSE NEIGHBOUR: 'it returns false'. Refute it at one input. -/
def fnProgramsWrong : ChangeSpec := { name := "fnPrograms", fn := fun _ => fun
  | [d] => { results := [.lit (.bool false)], args := [d] }
  | _ => none }
def FnProgramsWrongFalsely : Prop := fnProgramsRow.holds Try.pinned (OpenSpec.ofChange fnProgramsWrong)

/-- 'laws.FnExactProgramFault': WHATEVER THE INPUT: true; the input reads as it did. -/
def fnExactProgramFaultSpec : ChangeSpec := { name := "fnExactProgramFault", fn := fun _ => fun
  | [d] => { results := [.lit (.bool true)], args := [d] }
  | _ => none }
def fnExactProgramFaultRow : OpenClaim := { program := "ytgebhcahgmonpaa", sum := "c039957b887328f8f8486e919bb6f1ff0a0f6650b7bdf202ea4b3b0ba405700c", func := "loop.example/g00539/laws.FnExactProgramFault", spec := "fnExactProgramFault", apart := false }
def FnExactProgramFaultSaid : Prop := fnExactProgramFaultRow.holds Try.pinned (OpenSpec.ofChange fnExactProgramFaultSpec)

/-- ITS FALSE NEIGHBOUR: 'it returns false'. Refute it at one input. -/
def fnExactProgramFaultWrong : ChangeSpec := { name := "fnExactProgramFault", fn := fun _ => fun
  | [d] => { results := [.lit (.bool false)], args := [d] }
  | _ => none }
def FnExactProgramFaultWrongFalsely : Prop := fnExactProgramFaultRow.holds Try.pinned (OpenSpec.ofChange fnExactProgramFaultWrong)

/-- 'laws.FnExactRunProgram': WHATEVER THE INPUT: true; the input reads as it did. -/
def fnExactRunProgramSpec : ChangeSpec := { name := "fnExactRunProgram", fn := fun _ => fun
  | [d1, d2, d3, d4] => { results := [.lit (.bool true)], args := [d1, d2, d3, d4] }
  | _ => none }
def fnExactRunProgramRow : OpenClaim := { program := "ytgebhcahgmonpaa", sum := "c039957b887328f8f8486e919bb6f1ff0a0f6650b7bdf202ea4b3b0ba405700c", func := "loop.example/g00539/laws.FnExactRunProgram", spec := "fnExactRunProgram", unfollowed := true, recurses := true, apart := false }
def FnExactRunProgramSaid : Prop := fnExactRunProgramRow.holds Try.pinned (OpenSpec.ofChange fnExactRunProgramSpec)

/-- ITS FALSE NEIGHBOUR: 'it returns false'. Refute it at one input. -/
def fnExactRunProgramWrong : ChangeSpec := { name := "fnExactRunProgram", fn := fun _ => fun
  | [d1, d2, d3, d4] => { results := [.lit (.bool false)], args := [d1, d2, d3, d4] }
  | _ => none }
def FnExactRunProgramWrongFalsely : Prop := fnExactRunProgramRow.holds Try.pinned (OpenSpec.ofChange fnExactRunProgramWrong)

/-- 'laws.FnExactSignOf': WHATEVER THE INPUT: true; the input reads as it did. -/
def fnExactSignOfSpec : ChangeSpec := { name := "fnExactSignOf", fn := fun _ => fun
  | [d1, d2] => { results := [.lit (.bool true)], args := [d1, d2] }
  | _ => none }
def fnExactSignOfRow : OpenClaim := { program := "ytgebhcahgmonpaa", sum := "c039957b887328f8f8486e919bb6f1ff0a0f6650b7bdf202ea4b3b0ba405700c", func := "loop.example/g00539/laws.FnExactSignOf", spec := "fnExactSignOf", apart := false }
def FnExactSignOfSaid : Prop := fnExactSignOfRow.holds Try.pinned (OpenSpec.ofChange fnExactSignOfSpec)

/-- ITS FALSE NEIGHBOUR: 'it returns false'. Refute it at one input. -/
def fnExactSignOfWrong : ChangeSpec := { name := "fnExactSignOf", fn := fun _ => fun
  | [d1, d2] => { results := [.lit (.bool false)], args := [d1, d2] }
  | _ => none }
def FnExactSignOfWrongFalsely : Prop := fnExactSignOfRow.holds Try.pinned (OpenSpec.ofChange fnExactSignOfWrong)

/-- 'laws.FnExactKeyLock': WHATEVER THE INPUT: true; the input reads as it did. -/
def fnExactKeyLockSpec : ChangeSpec := { name := "fnExactKeyLock", fn := fun _ => fun
  | [d] => { results := [.lit (.bool true)], args := [d] }
  | _ => none }
def fnExactKeyLockRow : OpenClaim := { program := "ytgebhcahgmonpaa", sum := "c039957b887328f8f8486e919bb6f1ff0a0f6650b7bdf202ea4b3b0ba405700c", func := "loop.example/g00539/laws.FnExactKeyLock", spec := "fnExactKeyLock", apart := false }
def FnExactKeyLockSaid : Prop := fnExactKeyLockRow.holds Try.pinned (OpenSpec.ofChange fnExactKeyLockSpec)

/-- ITS FALSE NEIGHBOUR: 'it returns false'. Refute it at one input. -/
def fnExactKeyLockWrong : ChangeSpec := { name := "fnExactKeyLock", fn := fun _ => fun
  | [d] => { results := [.lit (.bool false)], args := [d] }
  | _ => none }
def FnExactKeyLockWrongFalsely : Prop := fnExactKeyLockRow.holds Try.pinned (OpenSpec.ofChange fnExactKeyLockWrong)

/-- 'laws.FnExactPairLock': WHATEVER THE INPUT: true; the input reads as it did. -/
def fnExactPairLockSpec : ChangeSpec := { name := "fnExactPairLock", fn := fun _ => fun
  | [d1, d2] => { results := [.lit (.bool true)], args := [d1, d2] }
  | _ => none }
def fnExactPairLockRow : OpenClaim := { program := "ytgebhcahgmonpaa", sum := "c039957b887328f8f8486e919bb6f1ff0a0f6650b7bdf202ea4b3b0ba405700c", func := "loop.example/g00539/laws.FnExactPairLock", spec := "fnExactPairLock", apart := false }
def FnExactPairLockSaid : Prop := fnExactPairLockRow.holds Try.pinned (OpenSpec.ofChange fnExactPairLockSpec)

/-- ITS FALSE NEIGHBOUR: 'it returns false'. Refute it at one input. -/
def fnExactPairLockWrong : ChangeSpec := { name := "fnExactPairLock", fn := fun _ => fun
  | [d1, d2] => { results := [.lit (.bool false)], args := [d1, d2] }
  | _ => none }
def FnExactPairLockWrongFalsely : Prop := fnExactPairLockRow.holds Try.pinned (OpenSpec.ofChange fnExactPairLockWrong)

/-- 'laws.FnExactLaterLock': WHATEVER THE INPUT: true; the input reads as it did. -/
def fnExactLaterLockSpec : ChangeSpec := { name := "fnExactLaterLock", fn := fun _ => fun
  | [d1, d2] => { results := [.lit (.bool true)], args := [d1, d2] }
  | _ => none }
def fnExactLaterLockRow : OpenClaim := { program := "ytgebhcahgmonpaa", sum := "c039957b887328f8f8486e919bb6f1ff0a0f6650b7bdf202ea4b3b0ba405700c", func := "loop.example/g00539/laws.FnExactLaterLock", spec := "fnExactLaterLock", apart := false }
def FnExactLaterLockSaid : Prop := fnExactLaterLockRow.holds Try.pinned (OpenSpec.ofChange fnExactLaterLockSpec)

/-- ITS FALSE NEIGHBOUR: 'it returns false'. Refute it at one input. -/
def fnExactLaterLockWrong : ChangeSpec := { name := "fnExactLaterLock", fn := fun _ => fun
  | [d1, d2] => { results := [.lit (.bool false)], args := [d1, d2] }
  | _ => none }
def FnExactLaterLockWrongFalsely : Prop := fnExactLaterLockRow.holds Try.pinned (OpenSpec.ofChange fnExactLaterLockWrong)

/-- 'laws.FnExactOpens': WHATEVER THE INPUT: true; the input reads as it did. -/
def fnExactOpensSpec : ChangeSpec := { name := "fnExactOpens", fn := fun _ => fun
  | [d1, d2, d3, d4] => { results := [.lit (.bool true)], args := [d1, d2, d3, d4] }
  | _ => none }
def fnExactOpensRow : OpenClaim := { program := "ytgebhcahgmonpaa", sum := "c039957b887328f8f8486e919bb6f1ff0a0f6650b7bdf202ea4b3b0ba405700c", func := "loop.example/g00539/laws.FnExactOpens", spec := "fnExactOpens", unfollowed := true, recurses := true, apart := false }
def FnExactOpensSaid : Prop := fnExactOpensRow.holds Try.pinned (OpenSpec.ofChange fnExactOpensSpec)

/-- ITS FALSE NEIGHBOUR: 'it returns false'. Refute it at one input. -/
def fnExactOpensWrong : ChangeSpec := { name := "fnExactOpens", fn := fun _ => fun
  | [d1, d2, d3, d4] => { results := [.lit (.bool false)], args := [d1, d2, d3, d4] }
  | _ => none }
def FnExactOpensWrongFalsely : Prop := fnExactOpensRow.holds Try.pinned (OpenSpec.ofChange fnExactOpensWrong)

/- THE SECOND FORM. 'bulk': how many values and letters a reading holds, each counted each time it is reached (what is shared counts as often as it is met; a slice's spare places count too). A statement '..UptoSaid' is the law's where the arguments, and the package variables that the reading takes, are together of bulk at most 1048576: NARROWER than '..Said'. Prove '..Said' where nothing that the law and all that it calls make is longer than what came in: it says more and counts as full. Else prove '..UptoSaid'. A law counts once. -/
mutual
def uptoBulk {H : Type} : DataW H → Nat
  | .lit (.string bytes) => bytes.length + 1
  | .lit _ => 1
  | .nil => 1
  | .ptr d => uptoBulk d + 1
  | .slice elems spare => uptoBulkAll elems + uptoBulkAll spare + 1
  | .agg parts => uptoBulkAll parts + 1
  | .iface _ d => uptoBulk d + 1
  | .map entries => uptoBulkEntries entries + 1
  | .held _ => 1
def uptoBulkAll {H : Type} : List (DataW H) → Nat
  | [] => 0
  | d :: r => uptoBulk d + uptoBulkAll r
def uptoBulkEntries {H : Type} : List (Lit × DataW H) → Nat
  | [] => 0
  | x :: r => uptoBulkEntry x + uptoBulkEntries r
def uptoBulkEntry {H : Type} : Lit × DataW H → Nat
  | (.string bytes, d) => bytes.length + uptoBulk d + 1
  | (_, d) => uptoBulk d + 1
 end
def uptoSmall : (H : Type) → List (DataW H) → Bool := fun _ ds => decide (uptoBulkAll ds ≤ 1048576)
def OpenSpec.upto (s : _root_.Go.ChangeSpec) : _root_.Go.OpenSpec := { _root_.Go.OpenSpec.ofChange s with cond := some uptoSmall }

/-- 'laws.FnLocks', WHERE WHAT IT READS IS OF BULK AT MOST 1048576: true; the input reads as it did. -/
def fnLocksUptoRow : OpenClaim := { program := "ytgebhcahgmonpaa", sum := "c039957b887328f8f8486e919bb6f1ff0a0f6650b7bdf202ea4b3b0ba405700c", func := "loop.example/g00539/laws.FnLocks", spec := "fnLocks", unfollowed := true, recurses := true, apart := false, narrowed := true }
def FnLocksUptoSaid : Prop := fnLocksUptoRow.holds Try.pinned (OpenSpec.upto fnLocksSpec)

/-- 'laws.FnPrograms', WHERE WHAT IT READS IS OF BULK AT MOST 1048576: true; the input reads as it did. -/
def fnProgramsUptoRow : OpenClaim := { program := "ytgebhcahgmonpaa", sum := "c039957b887328f8f8486e919bb6f1ff0a0f6650b7bdf202ea4b3b0ba405700c", func := "loop.example/g00539/laws.FnPrograms", spec := "fnPrograms", unfollowed := true, recurses := true, apart := false, narrowed := true }
def FnProgramsUptoSaid : Prop := fnProgramsUptoRow.holds Try.pinned (OpenSpec.upto fnProgramsSpec)

/-- 'laws.FnExactProgramFault', WHERE WHAT IT READS IS OF BULK AT MOST 1048576: true; the input reads as it did. -/
def fnExactProgramFaultUptoRow : OpenClaim := { program := "ytgebhcahgmonpaa", sum := "c039957b887328f8f8486e919bb6f1ff0a0f6650b7bdf202ea4b3b0ba405700c", func := "loop.example/g00539/laws.FnExactProgramFault", spec := "fnExactProgramFault", apart := false, narrowed := true }
def FnExactProgramFaultUptoSaid : Prop := fnExactProgramFaultUptoRow.holds Try.pinned (OpenSpec.upto fnExactProgramFaultSpec)

/-- 'laws.FnExactRunProgram', WHERE WHAT IT READS IS OF BULK AT MOST 1048576: true; the input reads as it did. -/
def fnExactRunProgramUptoRow : OpenClaim := { program := "ytgebhcahgmonpaa", sum := "c039957b887328f8f8486e919bb6f1ff0a0f6650b7bdf202ea4b3b0ba405700c", func := "loop.example/g00539/laws.FnExactRunProgram", spec := "fnExactRunProgram", unfollowed := true, recurses := true, apart := false, narrowed := true }
def FnExactRunProgramUptoSaid : Prop := fnExactRunProgramUptoRow.holds Try.pinned (OpenSpec.upto fnExactRunProgramSpec)

/-- 'laws.FnExactSignOf', WHERE WHAT IT READS IS OF BULK AT MOST 1048576: true; the input reads as it did. -/
def fnExactSignOfUptoRow : OpenClaim := { program := "ytgebhcahgmonpaa", sum := "c039957b887328f8f8486e919bb6f1ff0a0f6650b7bdf202ea4b3b0ba405700c", func := "loop.example/g00539/laws.FnExactSignOf", spec := "fnExactSignOf", apart := false, narrowed := true }
def FnExactSignOfUptoSaid : Prop := fnExactSignOfUptoRow.holds Try.pinned (OpenSpec.upto fnExactSignOfSpec)

/-- 'laws.FnExactKeyLock', WHERE WHAT IT READS IS OF BULK AT MOST 1048576: true; the input reads as it did. -/
def fnExactKeyLockUptoRow : OpenClaim := { program := "ytgebhcahgmonpaa", sum := "c039957b887328f8f8486e919bb6f1ff0a0f6650b7bdf202ea4b3b0ba405700c", func := "loop.example/g00539/laws.FnExactKeyLock", spec := "fnExactKeyLock", apart := false, narrowed := true }
def FnExactKeyLockUptoSaid : Prop := fnExactKeyLockUptoRow.holds Try.pinned (OpenSpec.upto fnExactKeyLockSpec)

/-- 'laws.FnExactPairLock', WHERE WHAT IT READS IS OF BULK AT MOST 1048576: true; the input reads as it did. -/
def fnExactPairLockUptoRow : OpenClaim := { program := "ytgebhcahgmonpaa", sum := "c039957b887328f8f8486e919bb6f1ff0a0f6650b7bdf202ea4b3b0ba405700c", func := "loop.example/g00539/laws.FnExactPairLock", spec := "fnExactPairLock", apart := false, narrowed := true }
def FnExactPairLockUptoSaid : Prop := fnExactPairLockUptoRow.holds Try.pinned (OpenSpec.upto fnExactPairLockSpec)

/-- 'laws.FnExactLaterLock', WHERE WHAT IT READS IS OF BULK AT MOST 1048576: true; the input reads as it did. -/
def fnExactLaterLockUptoRow : OpenClaim := { program := "ytgebhcahgmonpaa", sum := "c039957b887328f8f8486e919bb6f1ff0a0f6650b7bdf202ea4b3b0ba405700c", func := "loop.example/g00539/laws.FnExactLaterLock", spec := "fnExactLaterLock", apart := false, narrowed := true }
def FnExactLaterLockUptoSaid : Prop := fnExactLaterLockUptoRow.holds Try.pinned (OpenSpec.upto fnExactLaterLockSpec)

/-- 'laws.FnExactOpens', WHERE WHAT IT READS IS OF BULK AT MOST 1048576: true; the input reads as it did. -/
def fnExactOpensUptoRow : OpenClaim := { program := "ytgebhcahgmonpaa", sum := "c039957b887328f8f8486e919bb6f1ff0a0f6650b7bdf202ea4b3b0ba405700c", func := "loop.example/g00539/laws.FnExactOpens", spec := "fnExactOpens", unfollowed := true, recurses := true, apart := false, narrowed := true }
def FnExactOpensUptoSaid : Prop := fnExactOpensUptoRow.holds Try.pinned (OpenSpec.upto fnExactOpensSpec)

end Rows
end Go.Proofs.Ytgebhcahgmonpaa
