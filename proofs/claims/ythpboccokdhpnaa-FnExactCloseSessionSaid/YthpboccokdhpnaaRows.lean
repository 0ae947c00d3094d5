/-
  No cell of these rows narrows 'for every input' (looked for: loops, veiled, ifaces, maps, wideKeys, modest, calm, conditions, laid).
  DERIVED. THE GIVEN ROWS OF THIS SEAT. 5 by the template 'for every input the law returns true; each argument reads behind the call as it read before'; 0 by the template 'total and deterministic' (their statements: YthpboccokdhpnaaTotals.lean).
  GIVEN WITH THE SEED: the statements are not yours to turn. If you find one false, say at which input.
  Laid BY PROGRAM, IN A SANDBOX (cutbox-rows.mjs): the forced cells as the released guide's own fill.sh prints them over the translation 0911752da5ba5344… (all of the seat's roots in one cut). By AI agents, Wed Nov 11 2026. No macro, syntax, notation, axiom, sorry.
-/
import Derived.Test.YthpboccokdhpnaaChecked
import GoSem.Claim
import GoSem.ClaimJoined
import GoSem.ClaimMapViews
import Derived.JoinedTies
import Derived.KernelRfl
namespace Go.Proofs.Ythpboccokdhpnaa
/- THE CELL 'sum', in the pinned program and in every row, IS THE sha256 OF THE DUMP (.gsa) THAT YthpboccokdhpnaaProg.lean LOADS. Nothing in Lean hashes anything: it is a label: what it is worth is what the hold of that sum in a sandbox is worth. -/
noncomputable def Try.pinned : Pinned := { name := "ythpboccokdhpnaa", sum := "0911752da5ba5344c4ea11c3bf2e6c072d992e2bdf2ab1a780e89e502f8a32d6", checked := Try.checked }
namespace Rows
def none {H : Type} : Left H := { results := [], args := [] }

/-- 'laws.FnExactServerFault': WHATEVER THE INPUT: true; the input reads as it did. -/
def fnExactServerFaultSpec : ChangeSpec := { name := "fnExactServerFault", fn := fun _ => fun
  | [d] => { results := [.lit (.bool true)], args := [d] }
  | _ => none }
def fnExactServerFaultRow : OpenClaim := { program := "ythpboccokdhpnaa", sum := "0911752da5ba5344c4ea11c3bf2e6c072d992e2bdf2ab1a780e89e502f8a32d6", func := "loop.example/g00539/laws.FnExactServerFault", spec := "fnExactServerFault", inPlace := ["internal/bytealg.IndexByteString", "internal/bytealg.IndexString"], unfollowed := true, recurses := true, named := ["internal/bytealg.MaxLen"], apart := false }
def FnExactServerFaultSaid : Prop := fnExactServerFaultRow.holds Try.pinned (OpenSpec.ofChange fnExactServerFaultSpec)

/-- ITS FALSE NEIGHBOUR: 'it returns false'. Refute it at one input. -/
def fnExactServerFaultWrong : ChangeSpec := { name := "fnExactServerFault", fn := fun _ => fun
  | [d] => { results := [.lit (.bool false)], args := [d] }
  | _ => none }
def FnExactServerFaultWrongFalsely : Prop := fnExactServerFaultRow.holds Try.pinned (OpenSpec.ofChange fnExactServerFaultWrong)

/-- 'laws.FnExactOpenSession': WHATEVER THE INPUT: true; the input reads as it did. -/
def fnExactOpenSessionSpec : ChangeSpec := { name := "fnExactOpenSession", fn := fun _ => fun
  | [d] => { results := [.lit (.bool true)], args := [d] }
  | _ => none }
def fnExactOpenSessionRow : OpenClaim := { program := "ythpboccokdhpnaa", sum := "0911752da5ba5344c4ea11c3bf2e6c072d992e2bdf2ab1a780e89e502f8a32d6", func := "loop.example/g00539/laws.FnExactOpenSession", spec := "fnExactOpenSession", inPlace := ["internal/bytealg.IndexByteString", "internal/bytealg.IndexString"], unfollowed := true, recurses := true, named := ["internal/bytealg.MaxLen"], apart := false }
def FnExactOpenSessionSaid : Prop := fnExactOpenSessionRow.holds Try.pinned (OpenSpec.ofChange fnExactOpenSessionSpec)

/-- ITS FALSE NEIGHBOUR: 'it returns false'. Refute it at one input. -/
def fnExactOpenSessionWrong : ChangeSpec := { name := "fnExactOpenSession", fn := fun _ => fun
  | [d] => { results := [.lit (.bool false)], args := [d] }
  | _ => none }
def FnExactOpenSessionWrongFalsely : Prop := fnExactOpenSessionRow.holds Try.pinned (OpenSpec.ofChange fnExactOpenSessionWrong)

/-- 'laws.FnExactCloseSession': WHATEVER THE INPUT: true; the input reads as it did. -/
def fnExactCloseSessionSpec : ChangeSpec := { name := "fnExactCloseSession", fn := fun _ => fun
  | [d1, d2] => { results := [.lit (.bool true)], args := [d1, d2] }
  | _ => none }
def fnExactCloseSessionRow : OpenClaim := { program := "ythpboccokdhpnaa", sum := "0911752da5ba5344c4ea11c3bf2e6c072d992e2bdf2ab1a780e89e502f8a32d6", func := "loop.example/g00539/laws.FnExactCloseSession", spec := "fnExactCloseSession", inPlace := ["internal/bytealg.IndexByteString", "internal/bytealg.IndexString"], unfollowed := true, recurses := true, named := ["internal/bytealg.MaxLen"], apart := false }
def FnExactCloseSessionSaid : Prop := fnExactCloseSessionRow.holds Try.pinned (OpenSpec.ofChange fnExactCloseSessionSpec)

/-- ITS FALSE NEIGHBOUR: 'it returns false'. Refute it at one input. -/
def fnExactCloseSessionWrong : ChangeSpec := { name := "fnExactCloseSession", fn := fun _ => fun
  | [d1, d2] => { results := [.lit (.bool false)], args := [d1, d2] }
  | _ => none }
def FnExactCloseSessionWrongFalsely : Prop := fnExactCloseSessionRow.holds Try.pinned (OpenSpec.ofChange fnExactCloseSessionWrong)

/-- 'laws.FnExactWorkersOf': WHATEVER THE INPUT: true; the input reads as it did. -/
def fnExactWorkersOfSpec : ChangeSpec := { name := "fnExactWorkersOf", fn := fun _ => fun
  | [d] => { results := [.lit (.bool true)], args := [d] }
  | _ => none }
def fnExactWorkersOfRow : OpenClaim := { program := "ythpboccokdhpnaa", sum := "0911752da5ba5344c4ea11c3bf2e6c072d992e2bdf2ab1a780e89e502f8a32d6", func := "loop.example/g00539/laws.FnExactWorkersOf", spec := "fnExactWorkersOf", inPlace := ["internal/bytealg.IndexByteString", "internal/bytealg.IndexString"], unfollowed := true, recurses := true, named := ["internal/bytealg.MaxLen"], apart := false }
def FnExactWorkersOfSaid : Prop := fnExactWorkersOfRow.holds Try.pinned (OpenSpec.ofChange fnExactWorkersOfSpec)

/-- ITS FALSE NEIGHBOUR: 'it returns false'. Refute it at one input. -/
def fnExactWorkersOfWrong : ChangeSpec := { name := "fnExactWorkersOf", fn := fun _ => fun
  | [d] => { results := [.lit (.bool false)], args := [d] }
  | _ => none }
def FnExactWorkersOfWrongFalsely : Prop := fnExactWorkersOfRow.holds Try.pinned (OpenSpec.ofChange fnExactWorkersOfWrong)

/-- 'laws.FnExactSameServers': WHATEVER THE INPUT: true; the input reads as it did. -/
def fnExactSameServersSpec : ChangeSpec := { name := "fnExactSameServers", fn := fun _ => fun
  | [d1, d2] => { results := [.lit (.bool true)], args := [d1, d2] }
  | _ => none }
def fnExactSameServersRow : OpenClaim := { program := "ythpboccokdhpnaa", sum := "0911752da5ba5344c4ea11c3bf2e6c072d992e2bdf2ab1a780e89e502f8a32d6", func := "loop.example/g00539/laws.FnExactSameServers", spec := "fnExactSameServers", apart := false }
def FnExactSameServersSaid : Prop := fnExactSameServersRow.holds Try.pinned (OpenSpec.ofChange fnExactSameServersSpec)

/-- ITS FALSE NEIGHBOUR: 'it returns false'. Refute it at one input. -/
def fnExactSameServersWrong : ChangeSpec := { name := "fnExactSameServers", fn := fun _ => fun
  | [d1, d2] => { results := [.lit (.bool false)], args := [d1, d2] }
  | _ => none }
def FnExactSameServersWrongFalsely : Prop := fnExactSameServersRow.holds Try.pinned (OpenSpec.ofChange fnExactSameServersWrong)

/- THE SECOND FORM. 'bulk': how many values and letters a reading holds, each counted each time it is reached (what is shared counts as often as it is met; a slice's spare places count too). A statement '..UptoSaid' is the law's where the arguments, and the package variables that the reading takes, are together of bulk at most 1048576: NARROWER than '..Said'. Prove '..Said' where nothing that the law and all that it calls make is longer than what came in: it says more and counts as full. Else prove '..UptoSaid'. A law counts once. -/
mutual
def uptoBulk {H : Type} : DataW H → Nat
  | .lit (.string bytes) => bytes.length + 1
  | .lit _ => 1
  | .nil => 1
  | .ptr d => uptoBulk d + 1
  | .slice elems spare => uptoBulkAll elems + uptoBulkAll spare + 1
  | .agg parts => uptoBulkAll parts + 1
  | .iface _ d => uptoBulk d + 1
  | .map entries => uptoBulkEntries entries + 1
  | .held _ => 1
def uptoBulkAll {H : Type} : List (DataW H) → Nat
  | [] => 0
  | d :: r => uptoBulk d + uptoBulkAll r
def uptoBulkEntries {H : Type} : List (Lit × DataW H) → Nat
  | [] => 0
  | x :: r => uptoBulkEntry x + uptoBulkEntries r
def uptoBulkEntry {H : Type} : Lit × DataW H → Nat
  | (.string bytes, d) => bytes.length + uptoBulk d + 1
  | (_, d) => uptoBulk d + 1
 end
def uptoSmall : (H : Type) → List (DataW H) → Bool := fun _ ds => decide (uptoBulkAll ds ≤ 1048576)
def OpenSpec.upto (s : _root_.Go.ChangeSpec) : _root_.Go.OpenSpec := { _root_.Go.OpenSpec.ofChange s with cond := some uptoSmall }

/-- 'laws.FnExactServerFault', WHERE WHAT IT READS IS OF BULK AT MOST 1048576: true; the input reads as it did. -/
def fnExactServerFaultUptoRow : OpenClaim := { program := "ythpboccokdhpnaa", sum := "0911752da5ba5344c4ea11c3bf2e6c072d992e2bdf2ab1a780e89e502f8a32d6", func := "loop.example/g00539/laws.FnExactServerFault", spec := "fnExactServerFault", inPlace := ["internal/bytealg.IndexByteString", "internal/bytealg.IndexString"], unfollowed := true, recurses := true, named := ["internal/bytealg.MaxLen"], apart := false, narrowed := true }
def FnExactServerFaultUptoSaid : Prop := fnExactServerFaultUptoRow.holds Try.pinned (OpenSpec.upto fnExactServerFaultSpec)

/-- 'laws.FnExactOpenSession', WHERE WHAT IT READS IS OF BULK AT MOST 1048576: true; the input reads as it did. -/
def fnExactOpenSessionUptoRow : OpenClaim := { program := "ythpboccokdhpnaa", sum := "0911752da5ba5344c4ea11c3bf2e6c072d992e2bdf2ab1a780e89e502f8a32d6", func := "loop.example/g00539/laws.FnExactOpenSession", spec := "fnExactOpenSession", inPlace := ["internal/bytealg.IndexByteString", "internal/bytealg.IndexString"], unfollowed := true, recurses := true, named := ["internal/bytealg.MaxLen"], apart := false, narrowed := true }
def FnExactOpenSessionUptoSaid : Prop := fnExactOpenSessionUptoRow.holds Try.pinned (OpenSpec.upto fnExactOpenSessionSpec)

/-- 'laws.FnExactCloseSession', WHERE WHAT IT READS IS OF BULK AT MOST 1048576: true; the input reads as it did. -/
def fnExactCloseSessionUptoRow : OpenClaim := { program := "ythpboccokdhpnaa", sum := "0911752da5ba5344c4ea11c3bf2e6c072d992e2bdf2ab1a780e89e502f8a32d6", func := "loop.example/g00539/laws.FnExactCloseSession", spec := "fnExactCloseSession", inPlace := ["internal/bytealg.IndexByteString", "internal/bytealg.IndexString"], unfollowed := true, recurses := true, named := ["internal/bytealg.MaxLen"], apart := false, narrowed := true }
def FnExactCloseSessionUptoSaid : Prop := fnExactCloseSessionUptoRow.holds Try.pinned (OpenSpec.upto fnExactCloseSessionSpec)

/-- 'laws.FnExactWorkersOf', WHERE WHAT IT READS IS OF BULK AT MOST 1048576: true; the input reads as it did. -/
def fnExactWorkersOfUptoRow : OpenClaim := { program := "ythpboccokdhpnaa", sum := "0911752da5ba5344c4ea11c3bf2e6c072d992e2bdf2ab1a780e89e502f8a32d6", func := "loop.example/g00539/laws.FnExactWorkersOf", spec := "fnExactWorkersOf", inPlace := ["internal/bytealg.IndexByteString", "internal/bytealg.IndexString"], unfollowed := true, recurses := true, named := ["internal/bytealg.MaxLen"], apart := false, narrowed := true }
def FnExactWorkersOfUptoSaid : Prop := fnExactWorkersOfUptoRow.holds Try.pinned (OpenSpec.upto fnExactWorkersOfSpec)

/-- 'laws.FnExactSameServers', WHERE WHAT IT READS IS OF BULK AT MOST 1048576: true; the input reads as it did. -/
def fnExactSameServersUptoRow : OpenClaim := { program := "ythpboccokdhpnaa", sum := "0911752da5ba5344c4ea11c3bf2e6c072d992e2bdf2ab1a780e89e502f8a32d6", func := "loop.example/g00539/laws.FnExactSameServers", spec := "fnExactSameServers", apart := false, narrowed := true }
def FnExactSameServersUptoSaid : Prop := fnExactSameServersUptoRow.holds Try.pinned (OpenSpec.upto fnExactSameServersSpec)

end Rows
end Go.Proofs.Ythpboccokdhpnaa
