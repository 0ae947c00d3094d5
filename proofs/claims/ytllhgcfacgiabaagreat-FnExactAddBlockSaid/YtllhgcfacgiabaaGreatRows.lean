/-
  No cell of these rows narrows 'for every input' (looked for: loops, veiled, ifaces, maps, wideKeys, modest, calm, conditions, laid).
  DERIVED. THE GIVEN ROWS OF THIS SEAT. 8 by the template 'for every input the law returns true; each argument reads behind the call as it read before'; 0 by the template 'total and deterministic' (their statements: YtllhgcfacgiabaaGreatTotals.lean).
  GIVEN WITH THE SEED: the statements are not yours to turn. If you find one false, say at which input.
  Laid BY PROGRAM, IN A SANDBOX (cutbox-rows.mjs): the forced cells as the released guide's own fill.sh prints them over the translation 26bc73600a375f8e… (all of the seat's roots in one cut). By AI agents, Wed Nov 11 2026. No macro, syntax, notation, axiom, sorry.
-/
import Derived.Test.YtllhgcfacgiabaaGreatChecked
import GoSem.Claim
import GoSem.ClaimJoined
import GoSem.ClaimMapViews
import Derived.JoinedTies
import Derived.KernelRfl
namespace Go.Proofs.YtllhgcfacgiabaaGreat
/- THE CELL 'sum', in the pinned program and in every row, IS THE sha256 OF THE DUMP (.gsa) THAT YtllhgcfacgiabaaGreatProg.lean LOADS. Nothing in Lean hashes anything: it is a label: what it is worth is what the hold of that sum in a sandbox is worth. -/
noncomputable def Tryz.pinned : Pinned := { name := "ytllhgcfacgiabaagreat", sum := "26bc73600a375f8e0b4791dd298a35440970a318149dfc8d2f1ae173c05d6a96", checked := Tryz.checked }
namespace Rows
def none {H : Type} : Left H := { results := [], args := [] }

/-- 'laws.FnExactTreeFault': WHATEVER THE INPUT: true; the input reads as it did. -/
def fnExactTreeFaultSpec : ChangeSpec := { name := "fnExactTreeFault", fn := fun _ => fun
  | [d] => { results := [.lit (.bool true)], args := [d] }
  | _ => none }
def fnExactTreeFaultRow : OpenClaim := { program := "ytllhgcfacgiabaagreat", sum := "26bc73600a375f8e0b4791dd298a35440970a318149dfc8d2f1ae173c05d6a96", func := "loop.example/g00539/laws.FnExactTreeFault", spec := "fnExactTreeFault", unfollowed := true, recurses := true, plainKeys := false, apart := false }
def FnExactTreeFaultSaid : Prop := fnExactTreeFaultRow.holds Tryz.pinned (OpenSpec.ofChange fnExactTreeFaultSpec)

/-- ITS FALSE NEIGHBOUR: 'it returns false'. Refute it at one input. -/
def fnExactTreeFaultWrong : ChangeSpec := { name := "fnExactTreeFault", fn := fun _ => fun
  | [d] => { results := [.lit (.bool false)], args := [d] }
  | _ => none }
def FnExactTreeFaultWrongFalsely : Prop := fnExactTreeFaultRow.holds Tryz.pinned (OpenSpec.ofChange fnExactTreeFaultWrong)

/-- 'laws.FnExactAddBlock': WHATEVER THE INPUT: true; the input reads as it did. -/
def fnExactAddBlockSpec : ChangeSpec := { name := "fnExactAddBlock", fn := fun _ => fun
  | [d1, d2] => { results := [.lit (.bool true)], args := [d1, d2] }
  | _ => none }
def fnExactAddBlockRow : OpenClaim := { program := "ytllhgcfacgiabaagreat", sum := "26bc73600a375f8e0b4791dd298a35440970a318149dfc8d2f1ae173c05d6a96", func := "loop.example/g00539/laws.FnExactAddBlock", spec := "fnExactAddBlock", unfollowed := true, recurses := true, plainKeys := false, apart := false }
def FnExactAddBlockSaid : Prop := fnExactAddBlockRow.holds Tryz.pinned (OpenSpec.ofChange fnExactAddBlockSpec)

/-- ITS FALSE NEIGHBOUR: 'it returns false'. Refute it at one input. -/
def fnExactAddBlockWrong : ChangeSpec := { name := "fnExactAddBlock", fn := fun _ => fun
  | [d1, d2] => { results := [.lit (.bool false)], args := [d1, d2] }
  | _ => none }
def FnExactAddBlockWrongFalsely : Prop := fnExactAddBlockRow.holds Tryz.pinned (OpenSpec.ofChange fnExactAddBlockWrong)

/-- 'laws.FnExactTipOf': WHATEVER THE INPUT: true; the input reads as it did. -/
def fnExactTipOfSpec : ChangeSpec := { name := "fnExactTipOf", fn := fun _ => fun
  | [d] => { results := [.lit (.bool true)], args := [d] }
  | _ => none }
def fnExactTipOfRow : OpenClaim := { program := "ytllhgcfacgiabaagreat", sum := "26bc73600a375f8e0b4791dd298a35440970a318149dfc8d2f1ae173c05d6a96", func := "loop.example/g00539/laws.FnExactTipOf", spec := "fnExactTipOf", unfollowed := true, recurses := true, plainKeys := false, apart := false }
def FnExactTipOfSaid : Prop := fnExactTipOfRow.holds Tryz.pinned (OpenSpec.ofChange fnExactTipOfSpec)

/-- ITS FALSE NEIGHBOUR: 'it returns false'. Refute it at one input. -/
def fnExactTipOfWrong : ChangeSpec := { name := "fnExactTipOf", fn := fun _ => fun
  | [d] => { results := [.lit (.bool false)], args := [d] }
  | _ => none }
def FnExactTipOfWrongFalsely : Prop := fnExactTipOfRow.holds Tryz.pinned (OpenSpec.ofChange fnExactTipOfWrong)

/-- 'laws.FnExactHeightOf': WHATEVER THE INPUT: true; the input reads as it did. -/
def fnExactHeightOfSpec : ChangeSpec := { name := "fnExactHeightOf", fn := fun _ => fun
  | [d1, d2] => { results := [.lit (.bool true)], args := [d1, d2] }
  | _ => none }
def fnExactHeightOfRow : OpenClaim := { program := "ytllhgcfacgiabaagreat", sum := "26bc73600a375f8e0b4791dd298a35440970a318149dfc8d2f1ae173c05d6a96", func := "loop.example/g00539/laws.FnExactHeightOf", spec := "fnExactHeightOf", unfollowed := true, recurses := true, plainKeys := false, apart := false }
def FnExactHeightOfSaid : Prop := fnExactHeightOfRow.holds Tryz.pinned (OpenSpec.ofChange fnExactHeightOfSpec)

/-- ITS FALSE NEIGHBOUR: 'it returns false'. Refute it at one input. -/
def fnExactHeightOfWrong : ChangeSpec := { name := "fnExactHeightOf", fn := fun _ => fun
  | [d1, d2] => { results := [.lit (.bool false)], args := [d1, d2] }
  | _ => none }
def FnExactHeightOfWrongFalsely : Prop := fnExactHeightOfRow.holds Tryz.pinned (OpenSpec.ofChange fnExactHeightOfWrong)

/-- 'laws.FnExactCoinsAt': WHATEVER THE INPUT: true; the input reads as it did. -/
def fnExactCoinsAtSpec : ChangeSpec := { name := "fnExactCoinsAt", fn := fun _ => fun
  | [d1, d2] => { results := [.lit (.bool true)], args := [d1, d2] }
  | _ => none }
def fnExactCoinsAtRow : OpenClaim := { program := "ytllhgcfacgiabaagreat", sum := "26bc73600a375f8e0b4791dd298a35440970a318149dfc8d2f1ae173c05d6a96", func := "loop.example/g00539/laws.FnExactCoinsAt", spec := "fnExactCoinsAt", unfollowed := true, recurses := true, plainKeys := false, apart := false }
def FnExactCoinsAtSaid : Prop := fnExactCoinsAtRow.holds Tryz.pinned (OpenSpec.ofChange fnExactCoinsAtSpec)

/-- ITS FALSE NEIGHBOUR: 'it returns false'. Refute it at one input. -/
def fnExactCoinsAtWrong : ChangeSpec := { name := "fnExactCoinsAt", fn := fun _ => fun
  | [d1, d2] => { results := [.lit (.bool false)], args := [d1, d2] }
  | _ => none }
def FnExactCoinsAtWrongFalsely : Prop := fnExactCoinsAtRow.holds Tryz.pinned (OpenSpec.ofChange fnExactCoinsAtWrong)

/-- 'laws.FnExactLineOf': WHATEVER THE INPUT: true; the input reads as it did. -/
def fnExactLineOfSpec : ChangeSpec := { name := "fnExactLineOf", fn := fun _ => fun
  | [d1, d2] => { results := [.lit (.bool true)], args := [d1, d2] }
  | _ => none }
def fnExactLineOfRow : OpenClaim := { program := "ytllhgcfacgiabaagreat", sum := "26bc73600a375f8e0b4791dd298a35440970a318149dfc8d2f1ae173c05d6a96", func := "loop.example/g00539/laws.FnExactLineOf", spec := "fnExactLineOf", unfollowed := true, recurses := true, plainKeys := false, apart := false }
def FnExactLineOfSaid : Prop := fnExactLineOfRow.holds Tryz.pinned (OpenSpec.ofChange fnExactLineOfSpec)

/-- ITS FALSE NEIGHBOUR: 'it returns false'. Refute it at one input. -/
def fnExactLineOfWrong : ChangeSpec := { name := "fnExactLineOf", fn := fun _ => fun
  | [d1, d2] => { results := [.lit (.bool false)], args := [d1, d2] }
  | _ => none }
def FnExactLineOfWrongFalsely : Prop := fnExactLineOfRow.holds Tryz.pinned (OpenSpec.ofChange fnExactLineOfWrong)

/-- 'laws.FnExactRefreshWait': WHATEVER THE INPUT: true; the input reads as it did. -/
def fnExactRefreshWaitSpec : ChangeSpec := { name := "fnExactRefreshWait", fn := fun _ => fun
  | [d1, d2] => { results := [.lit (.bool true)], args := [d1, d2] }
  | _ => none }
def fnExactRefreshWaitRow : OpenClaim := { program := "ytllhgcfacgiabaagreat", sum := "26bc73600a375f8e0b4791dd298a35440970a318149dfc8d2f1ae173c05d6a96", func := "loop.example/g00539/laws.FnExactRefreshWait", spec := "fnExactRefreshWait", unfollowed := true, recurses := true, plainKeys := false, apart := false }
def FnExactRefreshWaitSaid : Prop := fnExactRefreshWaitRow.holds Tryz.pinned (OpenSpec.ofChange fnExactRefreshWaitSpec)

/-- ITS FALSE NEIGHBOUR: 'it returns false'. Refute it at one input. -/
def fnExactRefreshWaitWrong : ChangeSpec := { name := "fnExactRefreshWait", fn := fun _ => fun
  | [d1, d2] => { results := [.lit (.bool false)], args := [d1, d2] }
  | _ => none }
def FnExactRefreshWaitWrongFalsely : Prop := fnExactRefreshWaitRow.holds Tryz.pinned (OpenSpec.ofChange fnExactRefreshWaitWrong)

/-- 'laws.FnExactMineBlock': WHATEVER THE INPUT: true; the input reads as it did. -/
def fnExactMineBlockSpec : ChangeSpec := { name := "fnExactMineBlock", fn := fun _ => fun
  | [d1, d2] => { results := [.lit (.bool true)], args := [d1, d2] }
  | _ => none }
def fnExactMineBlockRow : OpenClaim := { program := "ytllhgcfacgiabaagreat", sum := "26bc73600a375f8e0b4791dd298a35440970a318149dfc8d2f1ae173c05d6a96", func := "loop.example/g00539/laws.FnExactMineBlock", spec := "fnExactMineBlock", plainKeys := false, apart := false }
def FnExactMineBlockSaid : Prop := fnExactMineBlockRow.holds Tryz.pinned (OpenSpec.ofChange fnExactMineBlockSpec)

/-- ITS FALSE NEIGHBOUR: 'it returns false'. Refute it at one input. -/
def fnExactMineBlockWrong : ChangeSpec := { name := "fnExactMineBlock", fn := fun _ => fun
  | [d1, d2] => { results := [.lit (.bool false)], args := [d1, d2] }
  | _ => none }
def FnExactMineBlockWrongFalsely : Prop := fnExactMineBlockRow.holds Tryz.pinned (OpenSpec.ofChange fnExactMineBlockWrong)

/- THE SECOND FORM. 'bulk': how many values and letters a reading holds, each counted each time it is reached (what is shared counts as often as it is met; a slice's spare places count too). A statement '..UptoSaid' is the law's where the arguments, and the package variables that the reading takes, are together of bulk at most 1048576: NARROWER than '..Said'. Prove '..Said' where nothing that the law and all that it calls make is longer than what came in: it says more and counts as full. Else prove '..UptoSaid'. A law counts once. -/
mutual
def uptoBulk {H : Type} : DataW H → Nat
  | .lit (.string bytes) => bytes.length + 1
  | .lit _ => 1
  | .nil => 1
  | .ptr d => uptoBulk d + 1
  | .slice elems spare => uptoBulkAll elems + uptoBulkAll spare + 1
  | .agg parts => uptoBulkAll parts + 1
  | .iface _ d => uptoBulk d + 1
  | .map entries => uptoBulkEntries entries + 1
  | .held _ => 1
def uptoBulkAll {H : Type} : List (DataW H) → Nat
  | [] => 0
  | d :: r => uptoBulk d + uptoBulkAll r
def uptoBulkEntries {H : Type} : List (Lit × DataW H) → Nat
  | [] => 0
  | x :: r => uptoBulkEntry x + uptoBulkEntries r
def uptoBulkEntry {H : Type} : Lit × DataW H → Nat
  | (.string bytes, d) => bytes.length + uptoBulk d + 1
  | (_, d) => uptoBulk d + 1
 end
def uptoSmall : (H : Type) → List (DataW H) → Bool := fun _ ds => decide (uptoBulkAll ds ≤ 1048576)
def OpenSpec.upto (s : _root_.Go.ChangeSpec) : _root_.Go.OpenSpec := { _root_.Go.OpenSpec.ofChange s with cond := some uptoSmall }

/-- 'laws.FnExactTreeFault', WHERE WHAT IT READS IS OF BULK AT MOST 1048576: true; the input reads as it did. -/
def fnExactTreeFaultUptoRow : OpenClaim := { program := "ytllhgcfacgiabaagreat", sum := "26bc73600a375f8e0b4791dd298a35440970a318149dfc8d2f1ae173c05d6a96", func := "loop.example/g00539/laws.FnExactTreeFault", spec := "fnExactTreeFault", unfollowed := true, recurses := true, plainKeys := false, apart := false, narrowed := true }
def FnExactTreeFaultUptoSaid : Prop := fnExactTreeFaultUptoRow.holds Tryz.pinned (OpenSpec.upto fnExactTreeFaultSpec)

/-- 'laws.FnExactAddBlock', WHERE WHAT IT READS IS OF BULK AT MOST 1048576: true; the input reads as it did. -/
def fnExactAddBlockUptoRow : OpenClaim := { program := "ytllhgcfacgiabaagreat", sum := "26bc73600a375f8e0b4791dd298a35440970a318149dfc8d2f1ae173c05d6a96", func := "loop.example/g00539/laws.FnExactAddBlock", spec := "fnExactAddBlock", unfollowed := true, recurses := true, plainKeys := false, apart := false, narrowed := true }
def FnExactAddBlockUptoSaid : Prop := fnExactAddBlockUptoRow.holds Tryz.pinned (OpenSpec.upto fnExactAddBlockSpec)

/-- 'laws.FnExactTipOf', WHERE WHAT IT READS IS OF BULK AT MOST 1048576: true; the input reads as it did. -/
def fnExactTipOfUptoRow : OpenClaim := { program := "ytllhgcfacgiabaagreat", sum := "26bc73600a375f8e0b4791dd298a35440970a318149dfc8d2f1ae173c05d6a96", func := "loop.example/g00539/laws.FnExactTipOf", spec := "fnExactTipOf", unfollowed := true, recurses := true, plainKeys := false, apart := false, narrowed := true }
def FnExactTipOfUptoSaid : Prop := fnExactTipOfUptoRow.holds Tryz.pinned (OpenSpec.upto fnExactTipOfSpec)

/-- 'laws.FnExactHeightOf', WHERE WHAT IT READS IS OF BULK AT MOST 1048576: true; the input reads as it did. -/
def fnExactHeightOfUptoRow : OpenClaim := { program := "ytllhgcfacgiabaagreat", sum := "26bc73600a375f8e0b4791dd298a35440970a318149dfc8d2f1ae173c05d6a96", func := "loop.example/g00539/laws.FnExactHeightOf", spec := "fnExactHeightOf", unfollowed := true, recurses := true, plainKeys := false, apart := false, narrowed := true }
def FnExactHeightOfUptoSaid : Prop := fnExactHeightOfUptoRow.holds Tryz.pinned (OpenSpec.upto fnExactHeightOfSpec)

/-- 'laws.FnExactCoinsAt', WHERE WHAT IT READS IS OF BULK AT MOST 1048576: true; the input reads as it did. -/
def fnExactCoinsAtUptoRow : OpenClaim := { program := "ytllhgcfacgiabaagreat", sum := "26bc73600a375f8e0b4791dd298a35440970a318149dfc8d2f1ae173c05d6a96", func := "loop.example/g00539/laws.FnExactCoinsAt", spec := "fnExactCoinsAt", unfollowed := true, recurses := true, plainKeys := false, apart := false, narrowed := true }
def FnExactCoinsAtUptoSaid : Prop := fnExactCoinsAtUptoRow.holds Tryz.pinned (OpenSpec.upto fnExactCoinsAtSpec)

/-- 'laws.FnExactLineOf', WHERE WHAT IT READS IS OF BULK AT MOST 1048576: true; the input reads as it did. -/
def fnExactLineOfUptoRow : OpenClaim := { program := "ytllhgcfacgiabaagreat", sum := "26bc73600a375f8e0b4791dd298a35440970a318149dfc8d2f1ae173c05d6a96", func := "loop.example/g00539/laws.FnExactLineOf", spec := "fnExactLineOf", unfollowed := true, recurses := true, plainKeys := false, apart := false, narrowed := true }
def FnExactLineOfUptoSaid : Prop := fnExactLineOfUptoRow.holds Tryz.pinned (OpenSpec.upto fnExactLineOfSpec)

/-- 'laws.FnExactRefreshWait', WHERE WHAT IT READS IS OF BULK AT MOST 1048576: true; the input reads as it did. -/
def fnExactRefreshWaitUptoRow : OpenClaim := { program := "ytllhgcfacgiabaagreat", sum := "26bc73600a375f8e0b4791dd298a35440970a318149dfc8d2f1ae173c05d6a96", func := "loop.example/g00539/laws.FnExactRefreshWait", spec := "fnExactRefreshWait", unfollowed := true, recurses := true, plainKeys := false, apart := false, narrowed := true }
def FnExactRefreshWaitUptoSaid : Prop := fnExactRefreshWaitUptoRow.holds Tryz.pinned (OpenSpec.upto fnExactRefreshWaitSpec)

/-- 'laws.FnExactMineBlock', WHERE WHAT IT READS IS OF BULK AT MOST 1048576: true; the input reads as it did. -/
def fnExactMineBlockUptoRow : OpenClaim := { program := "ytllhgcfacgiabaagreat", sum := "26bc73600a375f8e0b4791dd298a35440970a318149dfc8d2f1ae173c05d6a96", func := "loop.example/g00539/laws.FnExactMineBlock", spec := "fnExactMineBlock", plainKeys := false, apart := false, narrowed := true }
def FnExactMineBlockUptoSaid : Prop := fnExactMineBlockUptoRow.holds Tryz.pinned (OpenSpec.upto fnExactMineBlockSpec)

end Rows
end Go.Proofs.YtllhgcfacgiabaaGreat
