/-
  No cell of these rows narrows 'for every input' (looked for: loops, veiled, ifaces, maps, wideKeys, modest, calm, conditions, laid).
  DERIVED. THE GIVEN ROWS OF THIS SEAT. 6 by the template 'for every input the law returns true; each argument reads behind the call as it read before'; 0 by the template 'total and deterministic' (their statements: YtdafmioegaelgaaTotals.lean).
  GIVEN WITH THE SEED: the statements are not yours to turn. If you find one false, say at which input.
  Laid BY PROGRAM, IN A SANDBOX (cutbox-rows.mjs): the forced cells as the released guide's own fill.sh prints them over the translation 13b0f61a48c7bb0b… (all of the seat's roots in one cut). By AI agents, Wed Nov 11 2026. No macro, syntax, notation, axiom, sorry.
-/
import Derived.Test.YtdafmioegaelgaaChecked
import GoSem.Claim
import GoSem.ClaimJoined
import GoSem.ClaimMapViews
import Derived.JoinedTies
import Derived.KernelRfl
namespace Go.Proofs.Ytdafmioegaelgaa
/- THE CELL 'sum', in the pinned program and in every row, IS THE sha256 OF THE DUMP (.gsa) THAT YtdafmioegaelgaaProg.lean LOADS. Nothing in Lean hashes anything: it is a label: what it is worth is what the hold of that sum in a sandbox is worth. -/
noncomputable def Try.pinned : Pinned := { name := "ytdafmioegaelgaa", sum := "13b0f61a48c7bb0b495174092afd2eab84ffd4be39150d74038d7cdb72fd5462", checked := Try.checked }
namespace Rows
def none {H : Type} : Left H := { results := [], args := [] }

/-- 'laws.FnExactPackTx': WHATEVER THE INPUT: true; the input reads as it did. -/
def fnExactPackTxSpec : ChangeSpec := { name := "fnExactPackTx", fn := fun _ => fun
  | [d] => { results := [.lit (.bool true)], args := [d] }
  | _ => none }
def fnExactPackTxRow : OpenClaim := { program := "ytdafmioegaelgaa", sum := "13b0f61a48c7bb0b495174092afd2eab84ffd4be39150d74038d7cdb72fd5462", func := "loop.example/g00539/laws.FnExactPackTx", spec := "fnExactPackTx", plainKeys := false, apart := false }
def FnExactPackTxSaid : Prop := fnExactPackTxRow.holds Try.pinned (OpenSpec.ofChange fnExactPackTxSpec)

/-- ITS FALSE NEIGHBOUR: 'it returns false'. Refute it at one input. -/
def fnExactPackTxWrong : ChangeSpec := { name := "fnExactPackTx", fn := fun _ => fun
  | [d] => { results := [.lit (.bool false)], args := [d] }
  | _ => none }
def FnExactPackTxWrongFalsely : Prop := fnExactPackTxRow.holds Try.pinned (OpenSpec.ofChange fnExactPackTxWrong)

/-- 'laws.FnExactReadTx': WHATEVER THE INPUT: true; the input reads as it did. -/
def fnExactReadTxSpec : ChangeSpec := { name := "fnExactReadTx", fn := fun _ => fun
  | [d] => { results := [.lit (.bool true)], args := [d] }
  | _ => none }
def fnExactReadTxRow : OpenClaim := { program := "ytdafmioegaelgaa", sum := "13b0f61a48c7bb0b495174092afd2eab84ffd4be39150d74038d7cdb72fd5462", func := "loop.example/g00539/laws.FnExactReadTx", spec := "fnExactReadTx", plainKeys := false, apart := false }
def FnExactReadTxSaid : Prop := fnExactReadTxRow.holds Try.pinned (OpenSpec.ofChange fnExactReadTxSpec)

/-- ITS FALSE NEIGHBOUR: 'it returns false'. Refute it at one input. -/
def fnExactReadTxWrong : ChangeSpec := { name := "fnExactReadTx", fn := fun _ => fun
  | [d] => { results := [.lit (.bool false)], args := [d] }
  | _ => none }
def FnExactReadTxWrongFalsely : Prop := fnExactReadTxRow.holds Try.pinned (OpenSpec.ofChange fnExactReadTxWrong)

/-- 'laws.FnExactCoinsFault': WHATEVER THE INPUT: true; the input reads as it did. -/
def fnExactCoinsFaultSpec : ChangeSpec := { name := "fnExactCoinsFault", fn := fun _ => fun
  | [d] => { results := [.lit (.bool true)], args := [d] }
  | _ => none }
def fnExactCoinsFaultRow : OpenClaim := { program := "ytdafmioegaelgaa", sum := "13b0f61a48c7bb0b495174092afd2eab84ffd4be39150d74038d7cdb72fd5462", func := "loop.example/g00539/laws.FnExactCoinsFault", spec := "fnExactCoinsFault", plainKeys := false, apart := false }
def FnExactCoinsFaultSaid : Prop := fnExactCoinsFaultRow.holds Try.pinned (OpenSpec.ofChange fnExactCoinsFaultSpec)

/-- ITS FALSE NEIGHBOUR: 'it returns false'. Refute it at one input. -/
def fnExactCoinsFaultWrong : ChangeSpec := { name := "fnExactCoinsFault", fn := fun _ => fun
  | [d] => { results := [.lit (.bool false)], args := [d] }
  | _ => none }
def FnExactCoinsFaultWrongFalsely : Prop := fnExactCoinsFaultRow.holds Try.pinned (OpenSpec.ofChange fnExactCoinsFaultWrong)

/-- 'laws.FnExactFindCoin': WHATEVER THE INPUT: true; the input reads as it did. -/
def fnExactFindCoinSpec : ChangeSpec := { name := "fnExactFindCoin", fn := fun _ => fun
  | [d1, d2, d3] => { results := [.lit (.bool true)], args := [d1, d2, d3] }
  | _ => none }
def fnExactFindCoinRow : OpenClaim := { program := "ytdafmioegaelgaa", sum := "13b0f61a48c7bb0b495174092afd2eab84ffd4be39150d74038d7cdb72fd5462", func := "loop.example/g00539/laws.FnExactFindCoin", spec := "fnExactFindCoin", plainKeys := false, apart := false }
def FnExactFindCoinSaid : Prop := fnExactFindCoinRow.holds Try.pinned (OpenSpec.ofChange fnExactFindCoinSpec)

/-- ITS FALSE NEIGHBOUR: 'it returns false'. Refute it at one input. -/
def fnExactFindCoinWrong : ChangeSpec := { name := "fnExactFindCoin", fn := fun _ => fun
  | [d1, d2, d3] => { results := [.lit (.bool false)], args := [d1, d2, d3] }
  | _ => none }
def FnExactFindCoinWrongFalsely : Prop := fnExactFindCoinRow.holds Try.pinned (OpenSpec.ofChange fnExactFindCoinWrong)

/-- 'laws.FnExactWorthOf': WHATEVER THE INPUT: true; the input reads as it did. -/
def fnExactWorthOfSpec : ChangeSpec := { name := "fnExactWorthOf", fn := fun _ => fun
  | [d] => { results := [.lit (.bool true)], args := [d] }
  | _ => none }
def fnExactWorthOfRow : OpenClaim := { program := "ytdafmioegaelgaa", sum := "13b0f61a48c7bb0b495174092afd2eab84ffd4be39150d74038d7cdb72fd5462", func := "loop.example/g00539/laws.FnExactWorthOf", spec := "fnExactWorthOf", plainKeys := false, apart := false }
def FnExactWorthOfSaid : Prop := fnExactWorthOfRow.holds Try.pinned (OpenSpec.ofChange fnExactWorthOfSpec)

/-- ITS FALSE NEIGHBOUR: 'it returns false'. Refute it at one input. -/
def fnExactWorthOfWrong : ChangeSpec := { name := "fnExactWorthOf", fn := fun _ => fun
  | [d] => { results := [.lit (.bool false)], args := [d] }
  | _ => none }
def FnExactWorthOfWrongFalsely : Prop := fnExactWorthOfRow.holds Try.pinned (OpenSpec.ofChange fnExactWorthOfWrong)

/-- 'laws.FnExactSameCoins': WHATEVER THE INPUT: true; the input reads as it did. -/
def fnExactSameCoinsSpec : ChangeSpec := { name := "fnExactSameCoins", fn := fun _ => fun
  | [d1, d2] => { results := [.lit (.bool true)], args := [d1, d2] }
  | _ => none }
def fnExactSameCoinsRow : OpenClaim := { program := "ytdafmioegaelgaa", sum := "13b0f61a48c7bb0b495174092afd2eab84ffd4be39150d74038d7cdb72fd5462", func := "loop.example/g00539/laws.FnExactSameCoins", spec := "fnExactSameCoins", unfollowed := true, recurses := true, plainKeys := false, apart := false }
def FnExactSameCoinsSaid : Prop := fnExactSameCoinsRow.holds Try.pinned (OpenSpec.ofChange fnExactSameCoinsSpec)

/-- ITS FALSE NEIGHBOUR: 'it returns false'. Refute it at one input. -/
def fnExactSameCoinsWrong : ChangeSpec := { name := "fnExactSameCoins", fn := fun _ => fun
  | [d1, d2] => { results := [.lit (.bool false)], args := [d1, d2] }
  | _ => none }
def FnExactSameCoinsWrongFalsely : Prop := fnExactSameCoinsRow.holds Try.pinned (OpenSpec.ofChange fnExactSameCoinsWrong)

/- THE SECOND FORM. 'bulk': how many values and letters a reading holds, each counted each time it is reached (what is shared counts as often as it is met; a slice's spare places count too). A statement '..UptoSaid' is the law's where the arguments, and the package variables that the reading takes, are together of bulk at most 1048576: NARROWER than '..Said'. Prove '..Said' where nothing that the law and all that it calls make is longer than what came in: it says more and counts as full. Else prove '..UptoSaid'. A law counts once. -/
mutual
def uptoBulk {H : Type} : DataW H → Nat
  | .lit (.string bytes) => bytes.length + 1
  | .lit _ => 1
  | .nil => 1
  | .ptr d => uptoBulk d + 1
  | .slice elems spare => uptoBulkAll elems + uptoBulkAll spare + 1
  | .agg parts => uptoBulkAll parts + 1
  | .iface _ d => uptoBulk d + 1
  | .map entries => uptoBulkEntries entries + 1
  | .held _ => 1
def uptoBulkAll {H : Type} : List (DataW H) → Nat
  | [] => 0
  | d :: r => uptoBulk d + uptoBulkAll r
def uptoBulkEntries {H : Type} : List (Lit × DataW H) → Nat
  | [] => 0
  | x :: r => uptoBulkEntry x + uptoBulkEntries r
def uptoBulkEntry {H : Type} : Lit × DataW H → Nat
  | (.string bytes, d) => bytes.length + uptoBulk d + 1
  | (_, d) => uptoBulk d + 1
 end
def uptoSmall : (H : Type) → List (DataW H) → Bool := fun _ ds => decide (uptoBulkAll ds ≤ 1048576)
def OpenSpec.upto (s : _root_.Go.ChangeSpec) : _root_.Go.OpenSpec := { _root_.Go.OpenSpec.ofChange s with cond := some uptoSmall }

/-- 'laws.FnExactPackTx', WHERE WHAT IT READS IS OF BULK AT MOST 1048576: true; the input reads as it did. -/
def fnExactPackTxUptoRow : OpenClaim := { program := "ytdafmioegaelgaa", sum := "13b0f61a48c7bb0b495174092afd2eab84ffd4be39150d74038d7cdb72fd5462", func := "loop.example/g00539/laws.FnExactPackTx", spec := "fnExactPackTx", plainKeys := false, apart := false, narrowed := true }
def FnExactPackTxUptoSaid : Prop := fnExactPackTxUptoRow.holds Try.pinned (OpenSpec.upto fnExactPackTxSpec)

/-- 'laws.FnExactReadTx', WHERE WHAT IT READS IS OF BULK AT MOST 1048576: true; the input reads as it did. -/
def fnExactReadTxUptoRow : OpenClaim := { program := "ytdafmioegaelgaa", sum := "13b0f61a48c7bb0b495174092afd2eab84ffd4be39150d74038d7cdb72fd5462", func := "loop.example/g00539/laws.FnExactReadTx", spec := "fnExactReadTx", plainKeys := false, apart := false, narrowed := true }
def FnExactReadTxUptoSaid : Prop := fnExactReadTxUptoRow.holds Try.pinned (OpenSpec.upto fnExactReadTxSpec)

/-- 'laws.FnExactCoinsFault', WHERE WHAT IT READS IS OF BULK AT MOST 1048576: true; the input reads as it did. -/
def fnExactCoinsFaultUptoRow : OpenClaim := { program := "ytdafmioegaelgaa", sum := "13b0f61a48c7bb0b495174092afd2eab84ffd4be39150d74038d7cdb72fd5462", func := "loop.example/g00539/laws.FnExactCoinsFault", spec := "fnExactCoinsFault", plainKeys := false, apart := false, narrowed := true }
def FnExactCoinsFaultUptoSaid : Prop := fnExactCoinsFaultUptoRow.holds Try.pinned (OpenSpec.upto fnExactCoinsFaultSpec)

/-- 'laws.FnExactFindCoin', WHERE WHAT IT READS IS OF BULK AT MOST 1048576: true; the input reads as it did. -/
def fnExactFindCoinUptoRow : OpenClaim := { program := "ytdafmioegaelgaa", sum := "13b0f61a48c7bb0b495174092afd2eab84ffd4be39150d74038d7cdb72fd5462", func := "loop.example/g00539/laws.FnExactFindCoin", spec := "fnExactFindCoin", plainKeys := false, apart := false, narrowed := true }
def FnExactFindCoinUptoSaid : Prop := fnExactFindCoinUptoRow.holds Try.pinned (OpenSpec.upto fnExactFindCoinSpec)

/-- 'laws.FnExactWorthOf', WHERE WHAT IT READS IS OF BULK AT MOST 1048576: true; the input reads as it did. -/
def fnExactWorthOfUptoRow : OpenClaim := { program := "ytdafmioegaelgaa", sum := "13b0f61a48c7bb0b495174092afd2eab84ffd4be39150d74038d7cdb72fd5462", func := "loop.example/g00539/laws.FnExactWorthOf", spec := "fnExactWorthOf", plainKeys := false, apart := false, narrowed := true }
def FnExactWorthOfUptoSaid : Prop := fnExactWorthOfUptoRow.holds Try.pinned (OpenSpec.upto fnExactWorthOfSpec)

/-- 'laws.FnExactSameCoins', WHERE WHAT IT READS IS OF BULK AT MOST 1048576: true; the input reads as it did. -/
def fnExactSameCoinsUptoRow : OpenClaim := { program := "ytdafmioegaelgaa", sum := "13b0f61a48c7bb0b495174092afd2eab84ffd4be39150d74038d7cdb72fd5462", func := "loop.example/g00539/laws.FnExactSameCoins", spec := "fnExactSameCoins", unfollowed := true, recurses := true, plainKeys := false, apart := false, narrowed := true }
def FnExactSameCoinsUptoSaid : Prop := fnExactSameCoinsUptoRow.holds Try.pinned (OpenSpec.upto fnExactSameCoinsSpec)

end Rows
end Go.Proofs.Ytdafmioegaelgaa
