/-
  No cell of these rows narrows 'for every input' (looked for: loops, veiled, ifaces, maps, wideKeys, modest, calm, conditions, laid).
  DERIVED. THE GIVEN ROWS OF THIS SEAT. 8 by the template 'for every input the law returns true; each argument reads behind the call as it read before'; 0 by the template 'total and deterministic' (their statements: YtfnehjminipaeaaGreatTotals.lean).
  GIVEN WITH THE SEED: the statements are not yours to turn. If you find one false, say at which input.
  Laid BY PROGRAM, IN A SANDBOX (cutbox-rows.mjs): the forced cells as the released guide's own fill.sh prints them over the translation 120230c71dcfebf4… (all of the seat's roots in one cut). By AI agents, Wed Nov 11 2026. No macro, syntax, notation, axiom, sorry.
-/
import Derived.Test.YtfnehjminipaeaaGreatChecked
import GoSem.Claim
import GoSem.ClaimJoined
import GoSem.ClaimMapViews
import Derived.JoinedTies
import Derived.KernelRfl
namespace Go.Proofs.YtfnehjminipaeaaGreat
/- THE CELL 'sum', in the pinned program and in every row, IS THE sha256 OF THE DUMP (.gsa) THAT YtfnehjminipaeaaGreatProg.lean LOADS. Nothing in Lean hashes anything: it is a label: what it is worth is what the hold of that sum in a sandbox is worth. -/
noncomputable def Tryz.pinned : Pinned := { name := "ytfnehjminipaeaagreat", sum := "120230c71dcfebf4a5c8a7117f42a97e9dd6b5ad62385207875e473876d78a28", checked := Tryz.checked }
namespace Rows
def none {H : Type} : Left H := { results := [], args := [] }

/-- 'laws.FnCoins': WHATEVER THE INPUT: true; the input reads as it did. -/
def fnCoinsSpec : ChangeSpec := { name := "fnCoins", fn := fun _ => fun
  | [d] => { results := [.lit (.bool true)], args := [d] }
  | _ => none }
def fnCoinsRow : OpenClaim := { program := "ytfnehjminipaeaagreat", sum := "120230c71dcfebf4a5c8a7117f42a97e9dd6b5ad62385207875e473876d78a28", func := "loop.example/g00539/laws.FnCoins", spec := "fnCoins", unfollowed := true, recurses := true, plainKeys := false, apart := false }
def FnCoinsSaid : Prop := fnCoinsRow.holds Tryz.pinned (OpenSpec.ofChange fnCoinsSpec)

/-- ITS FALSE NEIGHBOUR: 'it returns false'. Refute it at one input. -/
def fnCoinsWrong : ChangeSpec := { name := "fnCoins", fn := fun _ => fun
  | [d] => { results := [.lit (.bool false)], args := [d] }
  | _ => none }
def FnCoinsWrongFalsely : Prop := fnCoinsRow.holds Tryz.pinned (OpenSpec.ofChange fnCoinsWrong)

/-- 'laws.FnSpends': WHATEVER THE INPUT: true; the input reads as it did. -/
def fnSpendsSpec : ChangeSpec := { name := "fnSpends", fn := fun _ => fun
  | [d] => { results := [.lit (.bool true)], args := [d] }
  | _ => none }
def fnSpendsRow : OpenClaim := { program := "ytfnehjminipaeaagreat", sum := "120230c71dcfebf4a5c8a7117f42a97e9dd6b5ad62385207875e473876d78a28", func := "loop.example/g00539/laws.FnSpends", spec := "fnSpends", unfollowed := true, recurses := true, plainKeys := false, apart := false }
def FnSpendsSaid : Prop := fnSpendsRow.holds Tryz.pinned (OpenSpec.ofChange fnSpendsSpec)

/-- ITS FALSE NEIGHBOUR: 'it returns false'. Refute it at one input. -/
def fnSpendsWrong : ChangeSpec := { name := "fnSpends", fn := fun _ => fun
  | [d] => { results := [.lit (.bool false)], args := [d] }
  | _ => none }
def FnSpendsWrongFalsely : Prop := fnSpendsRow.holds Tryz.pinned (OpenSpec.ofChange fnSpendsWrong)

/-- 'laws.FnBlocks': WHATEVER THE INPUT: true; the input reads as it did. -/
def fnBlocksSpec : ChangeSpec := { name := "fnBlocks", fn := fun _ => fun
  | [d] => { results := [.lit (.bool true)], args := [d] }
  | _ => none }
def fnBlocksRow : OpenClaim := { program := "ytfnehjminipaeaagreat", sum := "120230c71dcfebf4a5c8a7117f42a97e9dd6b5ad62385207875e473876d78a28", func := "loop.example/g00539/laws.FnBlocks", spec := "fnBlocks", unfollowed := true, recurses := true, plainKeys := false, apart := false }
def FnBlocksSaid : Prop := fnBlocksRow.holds Tryz.pinned (OpenSpec.ofChange fnBlocksSpec)

/-- ITS FALSE NEIGHBOUR: 'it returns false'. Refute it at one input. -/
def fnBlocksWrong : ChangeSpec := { name := "fnBlocks", fn := fun _ => fun
  | [d] => { results := [.lit (.bool false)], args := [d] }
  | _ => none }
def FnBlocksWrongFalsely : Prop := fnBlocksRow.holds Tryz.pinned (OpenSpec.ofChange fnBlocksWrong)

/-- 'laws.FnLines': WHATEVER THE INPUT: true; the input reads as it did. -/
def fnLinesSpec : ChangeSpec := { name := "fnLines", fn := fun _ => fun
  | [d] => { results := [.lit (.bool true)], args := [d] }
  | _ => none }
def fnLinesRow : OpenClaim := { program := "ytfnehjminipaeaagreat", sum := "120230c71dcfebf4a5c8a7117f42a97e9dd6b5ad62385207875e473876d78a28", func := "loop.example/g00539/laws.FnLines", spec := "fnLines", unfollowed := true, recurses := true, plainKeys := false, apart := false }
def FnLinesSaid : Prop := fnLinesRow.holds Tryz.pinned (OpenSpec.ofChange fnLinesSpec)

/-- ITS FALSE NEIGHBOUR: 'it returns false'. Refute it at one input. -/
def fnLinesWrong : ChangeSpec := { name := "fnLines", fn := fun _ => fun
  | [d] => { results := [.lit (.bool false)], args := [d] }
  | _ => none }
def FnLinesWrongFalsely : Prop := fnLinesRow.holds Tryz.pinned (OpenSpec.ofChange fnLinesWrong)

/-- 'laws.FnKept': WHATEVER THE INPUT: true; the input reads as it did. -/
def fnKeptSpec : ChangeSpec := { name := "fnKept", fn := fun _ => fun
  | [d] => { results := [.lit (.bool true)], args := [d] }
  | _ => none }
def fnKeptRow : OpenClaim := { program := "ytfnehjminipaeaagreat", sum := "120230c71dcfebf4a5c8a7117f42a97e9dd6b5ad62385207875e473876d78a28", func := "loop.example/g00539/laws.FnKept", spec := "fnKept", unfollowed := true, recurses := true, plainKeys := false, apart := false }
def FnKeptSaid : Prop := fnKeptRow.holds Tryz.pinned (OpenSpec.ofChange fnKeptSpec)

/-- ITS FALSE NEIGHBOUR: 'it returns false'. Refute it at one input. -/
def fnKeptWrong : ChangeSpec := { name := "fnKept", fn := fun _ => fun
  | [d] => { results := [.lit (.bool false)], args := [d] }
  | _ => none }
def FnKeptWrongFalsely : Prop := fnKeptRow.holds Tryz.pinned (OpenSpec.ofChange fnKeptWrong)

/-- 'laws.FnExactSpendFault': WHATEVER THE INPUT: true; the input reads as it did. -/
def fnExactSpendFaultSpec : ChangeSpec := { name := "fnExactSpendFault", fn := fun _ => fun
  | [d1, d2, d3] => { results := [.lit (.bool true)], args := [d1, d2, d3] }
  | _ => none }
def fnExactSpendFaultRow : OpenClaim := { program := "ytfnehjminipaeaagreat", sum := "120230c71dcfebf4a5c8a7117f42a97e9dd6b5ad62385207875e473876d78a28", func := "loop.example/g00539/laws.FnExactSpendFault", spec := "fnExactSpendFault", unfollowed := true, recurses := true, plainKeys := false, apart := false }
def FnExactSpendFaultSaid : Prop := fnExactSpendFaultRow.holds Tryz.pinned (OpenSpec.ofChange fnExactSpendFaultSpec)

/-- ITS FALSE NEIGHBOUR: 'it returns false'. Refute it at one input. -/
def fnExactSpendFaultWrong : ChangeSpec := { name := "fnExactSpendFault", fn := fun _ => fun
  | [d1, d2, d3] => { results := [.lit (.bool false)], args := [d1, d2, d3] }
  | _ => none }
def FnExactSpendFaultWrongFalsely : Prop := fnExactSpendFaultRow.holds Tryz.pinned (OpenSpec.ofChange fnExactSpendFaultWrong)

/-- 'laws.FnExactApplyTx': WHATEVER THE INPUT: true; the input reads as it did. -/
def fnExactApplyTxSpec : ChangeSpec := { name := "fnExactApplyTx", fn := fun _ => fun
  | [d1, d2, d3] => { results := [.lit (.bool true)], args := [d1, d2, d3] }
  | _ => none }
def fnExactApplyTxRow : OpenClaim := { program := "ytfnehjminipaeaagreat", sum := "120230c71dcfebf4a5c8a7117f42a97e9dd6b5ad62385207875e473876d78a28", func := "loop.example/g00539/laws.FnExactApplyTx", spec := "fnExactApplyTx", unfollowed := true, recurses := true, plainKeys := false, apart := false }
def FnExactApplyTxSaid : Prop := fnExactApplyTxRow.holds Tryz.pinned (OpenSpec.ofChange fnExactApplyTxSpec)

/-- ITS FALSE NEIGHBOUR: 'it returns false'. Refute it at one input. -/
def fnExactApplyTxWrong : ChangeSpec := { name := "fnExactApplyTx", fn := fun _ => fun
  | [d1, d2, d3] => { results := [.lit (.bool false)], args := [d1, d2, d3] }
  | _ => none }
def FnExactApplyTxWrongFalsely : Prop := fnExactApplyTxRow.holds Tryz.pinned (OpenSpec.ofChange fnExactApplyTxWrong)

/-- 'laws.FnExactTreeFault': WHATEVER THE INPUT: true; the input reads as it did. -/
def fnExactTreeFaultSpec : ChangeSpec := { name := "fnExactTreeFault", fn := fun _ => fun
  | [d] => { results := [.lit (.bool true)], args := [d] }
  | _ => none }
def fnExactTreeFaultRow : OpenClaim := { program := "ytfnehjminipaeaagreat", sum := "120230c71dcfebf4a5c8a7117f42a97e9dd6b5ad62385207875e473876d78a28", func := "loop.example/g00539/laws.FnExactTreeFault", spec := "fnExactTreeFault", unfollowed := true, recurses := true, plainKeys := false, apart := false }
def FnExactTreeFaultSaid : Prop := fnExactTreeFaultRow.holds Tryz.pinned (OpenSpec.ofChange fnExactTreeFaultSpec)

/-- ITS FALSE NEIGHBOUR: 'it returns false'. Refute it at one input. -/
def fnExactTreeFaultWrong : ChangeSpec := { name := "fnExactTreeFault", fn := fun _ => fun
  | [d] => { results := [.lit (.bool false)], args := [d] }
  | _ => none }
def FnExactTreeFaultWrongFalsely : Prop := fnExactTreeFaultRow.holds Tryz.pinned (OpenSpec.ofChange fnExactTreeFaultWrong)

/- THE SECOND FORM. 'bulk': how many values and letters a reading holds, each counted each time it is reached (what is shared counts as often as it is met; a slice's spare places count too). A statement '..UptoSaid' is the law's where the arguments, and the package variables that the reading takes, are together of bulk at most 1048576: NARROWER than '..Said'. Prove '..Said' where nothing that the law and all that it calls make is longer than what came in: it says more and counts as full. Else prove '..UptoSaid'. A law counts once. -/
mutual
def uptoBulk {H : Type} : DataW H → Nat
  | .lit (.string bytes) => bytes.length + 1
  | .lit _ => 1
  | .nil => 1
  | .ptr d => uptoBulk d + 1
  | .slice elems spare => uptoBulkAll elems + uptoBulkAll spare + 1
  | .agg parts => uptoBulkAll parts + 1
  | .iface _ d => uptoBulk d + 1
  | .map entries => uptoBulkEntries entries + 1
  | .held _ => 1
def uptoBulkAll {H : Type} : List (DataW H) → Nat
  | [] => 0
  | d :: r => uptoBulk d + uptoBulkAll r
def uptoBulkEntries {H : Type} : List (Lit × DataW H) → Nat
  | [] => 0
  | x :: r => uptoBulkEntry x + uptoBulkEntries r
def uptoBulkEntry {H : Type} : Lit × DataW H → Nat
  | (.string bytes, d) => bytes.length + uptoBulk d + 1
  | (_, d) => uptoBulk d + 1
 end
def uptoSmall : (H : Type) → List (DataW H) → Bool := fun _ ds => decide (uptoBulkAll ds ≤ 1048576)
def OpenSpec.upto (s : _root_.Go.ChangeSpec) : _root_.Go.OpenSpec := { _root_.Go.OpenSpec.ofChange s with cond := some uptoSmall }

/-- 'laws.FnCoins', WHERE WHAT IT READS IS OF BULK AT MOST 1048576: true; the input reads as it did. -/
def fnCoinsUptoRow : OpenClaim := { program := "ytfnehjminipaeaagreat", sum := "120230c71dcfebf4a5c8a7117f42a97e9dd6b5ad62385207875e473876d78a28", func := "loop.example/g00539/laws.FnCoins", spec := "fnCoins", unfollowed := true, recurses := true, plainKeys := false, apart := false, narrowed := true }
def FnCoinsUptoSaid : Prop := fnCoinsUptoRow.holds Tryz.pinned (OpenSpec.upto fnCoinsSpec)

/-- 'laws.FnSpends', WHERE WHAT IT READS IS OF BULK AT MOST 1048576: true; the input reads as it did. -/
def fnSpendsUptoRow : OpenClaim := { program := "ytfnehjminipaeaagreat", sum := "120230c71dcfebf4a5c8a7117f42a97e9dd6b5ad62385207875e473876d78a28", func := "loop.example/g00539/laws.FnSpends", spec := "fnSpends", unfollowed := true, recurses := true, plainKeys := false, apart := false, narrowed := true }
def FnSpendsUptoSaid : Prop := fnSpendsUptoRow.holds Tryz.pinned (OpenSpec.upto fnSpendsSpec)

/-- 'laws.FnBlocks', WHERE WHAT IT READS IS OF BULK AT MOST 1048576: true; the input reads as it did. -/
def fnBlocksUptoRow : OpenClaim := { program := "ytfnehjminipaeaagreat", sum := "120230c71dcfebf4a5c8a7117f42a97e9dd6b5ad62385207875e473876d78a28", func := "loop.example/g00539/laws.FnBlocks", spec := "fnBlocks", unfollowed := true, recurses := true, plainKeys := false, apart := false, narrowed := true }
def FnBlocksUptoSaid : Prop := fnBlocksUptoRow.holds Tryz.pinned (OpenSpec.upto fnBlocksSpec)

/-- 'laws.FnLines', WHERE WHAT IT READS IS OF BULK AT MOST 1048576: true; the input reads as it did. -/
def fnLinesUptoRow : OpenClaim := { program := "ytfnehjminipaeaagreat", sum := "120230c71dcfebf4a5c8a7117f42a97e9dd6b5ad62385207875e473876d78a28", func := "loop.example/g00539/laws.FnLines", spec := "fnLines", unfollowed := true, recurses := true, plainKeys := false, apart := false, narrowed := true }
def FnLinesUptoSaid : Prop := fnLinesUptoRow.holds Tryz.pinned (OpenSpec.upto fnLinesSpec)

/-- 'laws.FnKept', WHERE WHAT IT READS IS OF BULK AT MOST 1048576: true; the input reads as it did. -/
def fnKeptUptoRow : OpenClaim := { program := "ytfnehjminipaeaagreat", sum := "120230c71dcfebf4a5c8a7117f42a97e9dd6b5ad62385207875e473876d78a28", func := "loop.example/g00539/laws.FnKept", spec := "fnKept", unfollowed := true, recurses := true, plainKeys := false, apart := false, narrowed := true }
def FnKeptUptoSaid : Prop := fnKeptUptoRow.holds Tryz.pinned (OpenSpec.upto fnKeptSpec)

/-- 'laws.FnExactSpendFault', WHERE WHAT IT READS IS OF BULK AT MOST 1048576: true; the input reads as it did. -/
def fnExactSpendFaultUptoRow : OpenClaim := { program := "ytfnehjminipaeaagreat", sum := "120230c71dcfebf4a5c8a7117f42a97e9dd6b5ad62385207875e473876d78a28", func := "loop.example/g00539/laws.FnExactSpendFault", spec := "fnExactSpendFault", unfollowed := true, recurses := true, plainKeys := false, apart := false, narrowed := true }
def FnExactSpendFaultUptoSaid : Prop := fnExactSpendFaultUptoRow.holds Tryz.pinned (OpenSpec.upto fnExactSpendFaultSpec)

/-- 'laws.FnExactApplyTx', WHERE WHAT IT READS IS OF BULK AT MOST 1048576: true; the input reads as it did. -/
def fnExactApplyTxUptoRow : OpenClaim := { program := "ytfnehjminipaeaagreat", sum := "120230c71dcfebf4a5c8a7117f42a97e9dd6b5ad62385207875e473876d78a28", func := "loop.example/g00539/laws.FnExactApplyTx", spec := "fnExactApplyTx", unfollowed := true, recurses := true, plainKeys := false, apart := false, narrowed := true }
def FnExactApplyTxUptoSaid : Prop := fnExactApplyTxUptoRow.holds Tryz.pinned (OpenSpec.upto fnExactApplyTxSpec)

/-- 'laws.FnExactTreeFault', WHERE WHAT IT READS IS OF BULK AT MOST 1048576: true; the input reads as it did. -/
def fnExactTreeFaultUptoRow : OpenClaim := { program := "ytfnehjminipaeaagreat", sum := "120230c71dcfebf4a5c8a7117f42a97e9dd6b5ad62385207875e473876d78a28", func := "loop.example/g00539/laws.FnExactTreeFault", spec := "fnExactTreeFault", unfollowed := true, recurses := true, plainKeys := false, apart := false, narrowed := true }
def FnExactTreeFaultUptoSaid : Prop := fnExactTreeFaultUptoRow.holds Tryz.pinned (OpenSpec.upto fnExactTreeFaultSpec)

end Rows
end Go.Proofs.YtfnehjminipaeaaGreat
