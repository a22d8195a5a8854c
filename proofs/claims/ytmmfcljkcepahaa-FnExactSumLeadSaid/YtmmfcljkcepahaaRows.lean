/-
  No cell of these rows narrows 'for every input' (looked for: loops, veiled, ifaces, maps, wideKeys, modest, calm, conditions, laid).
  DERIVED. THE GIVEN ROWS OF THIS SEAT. 15 by the template 'for every input the law returns true; each argument reads behind the call as it read before'; 0 by the template 'total and deterministic' (their statements: YtmmfcljkcepahaaTotals.lean).
  GIVEN WITH THE SEED: the statements are not yours to turn. If you find one false, say at which input.
  Laid BY PROGRAM, IN A SANDBOX (cutbox-rows.mjs): the forced cells as the released guide's own fill.sh prints them over the translation ed5fd09ec26bbd0f… (all of the seat's roots in one cut). By AI agents, Wed Nov 11 2026. No macro, syntax, notation, axiom, sorry.
-/
import Derived.Test.YtmmfcljkcepahaaChecked
import GoSem.Claim
import GoSem.ClaimJoined
import GoSem.ClaimMapViews
import Derived.JoinedTies
import Derived.KernelRfl
namespace Go.Proofs.Ytmmfcljkcepahaa
/- THE CELL 'sum', in the pinned program and in every row, IS THE sha256 OF THE DUMP (.gsa) THAT YtmmfcljkcepahaaProg.lean LOADS. Nothing in Lean hashes anything: it is a label: what it is worth is what the hold of that sum in a sandbox is worth. -/
noncomputable def Try.pinned : Pinned := { name := "ytmmfcljkcepahaa", sum := "ed5fd09ec26bbd0f145dce819d783527caeb5ca1a83a46cc62f7c518e8cf5797", checked := Try.checked }
namespace Rows
def none {H : Type} : Left H := { results := [], args := [] }

/-- 'laws.FnExactSumValid': WHATEVER THE INPUT: true; the input reads as it did. -/
def fnExactSumValidSpec : ChangeSpec := { name := "fnExactSumValid", fn := fun _ => fun
  | [d] => { results := [.lit (.bool true)], args := [d] }
  | _ => none }
def fnExactSumValidRow : OpenClaim := { program := "ytmmfcljkcepahaa", sum := "ed5fd09ec26bbd0f145dce819d783527caeb5ca1a83a46cc62f7c518e8cf5797", func := "loop.example/operadtrees/laws.FnExactSumValid", spec := "fnExactSumValid", inPlace := ["internal/bytealg.abigen_runtime_cmpstring"], unfollowed := true, recurses := true, plainKeys := false, apart := false }
def FnExactSumValidSaid : Prop := fnExactSumValidRow.holds Try.pinned (OpenSpec.ofChange fnExactSumValidSpec)

/-- ITS FALSE NEIGHBOUR: 'it returns false'. Refute it at one input. -/
def fnExactSumValidWrong : ChangeSpec := { name := "fnExactSumValid", fn := fun _ => fun
  | [d] => { results := [.lit (.bool false)], args := [d] }
  | _ => none }
def FnExactSumValidWrongFalsely : Prop := fnExactSumValidRow.holds Try.pinned (OpenSpec.ofChange fnExactSumValidWrong)

/-- 'laws.FnExactSumOf': WHATEVER THE INPUT: true; the input reads as it did. -/
def fnExactSumOfSpec : ChangeSpec := { name := "fnExactSumOf", fn := fun _ => fun
  | [d] => { results := [.lit (.bool true)], args := [d] }
  | _ => none }
def fnExactSumOfRow : OpenClaim := { program := "ytmmfcljkcepahaa", sum := "ed5fd09ec26bbd0f145dce819d783527caeb5ca1a83a46cc62f7c518e8cf5797", func := "loop.example/operadtrees/laws.FnExactSumOf", spec := "fnExactSumOf", inPlace := ["internal/bytealg.abigen_runtime_cmpstring"], unfollowed := true, recurses := true, plainKeys := false, apart := false }
def FnExactSumOfSaid : Prop := fnExactSumOfRow.holds Try.pinned (OpenSpec.ofChange fnExactSumOfSpec)

/-- ITS FALSE NEIGHBOUR: 'it returns false'. Refute it at one input. -/
def fnExactSumOfWrong : ChangeSpec := { name := "fnExactSumOf", fn := fun _ => fun
  | [d] => { results := [.lit (.bool false)], args := [d] }
  | _ => none }
def FnExactSumOfWrongFalsely : Prop := fnExactSumOfRow.holds Try.pinned (OpenSpec.ofChange fnExactSumOfWrong)

/-- 'laws.FnExactSumAdd': WHATEVER THE INPUT: true; the input reads as it did. -/
def fnExactSumAddSpec : ChangeSpec := { name := "fnExactSumAdd", fn := fun _ => fun
  | [d1, d2] => { results := [.lit (.bool true)], args := [d1, d2] }
  | _ => none }
def fnExactSumAddRow : OpenClaim := { program := "ytmmfcljkcepahaa", sum := "ed5fd09ec26bbd0f145dce819d783527caeb5ca1a83a46cc62f7c518e8cf5797", func := "loop.example/operadtrees/laws.FnExactSumAdd", spec := "fnExactSumAdd", inPlace := ["internal/bytealg.abigen_runtime_cmpstring"], unfollowed := true, recurses := true, plainKeys := false, apart := false }
def FnExactSumAddSaid : Prop := fnExactSumAddRow.holds Try.pinned (OpenSpec.ofChange fnExactSumAddSpec)

/-- ITS FALSE NEIGHBOUR: 'it returns false'. Refute it at one input. -/
def fnExactSumAddWrong : ChangeSpec := { name := "fnExactSumAdd", fn := fun _ => fun
  | [d1, d2] => { results := [.lit (.bool false)], args := [d1, d2] }
  | _ => none }
def FnExactSumAddWrongFalsely : Prop := fnExactSumAddRow.holds Try.pinned (OpenSpec.ofChange fnExactSumAddWrong)

/-- 'laws.FnExactSumScale': WHATEVER THE INPUT: true; the input reads as it did. -/
def fnExactSumScaleSpec : ChangeSpec := { name := "fnExactSumScale", fn := fun _ => fun
  | [d1, d2] => { results := [.lit (.bool true)], args := [d1, d2] }
  | _ => none }
def fnExactSumScaleRow : OpenClaim := { program := "ytmmfcljkcepahaa", sum := "ed5fd09ec26bbd0f145dce819d783527caeb5ca1a83a46cc62f7c518e8cf5797", func := "loop.example/operadtrees/laws.FnExactSumScale", spec := "fnExactSumScale", inPlace := ["internal/bytealg.abigen_runtime_cmpstring"], unfollowed := true, recurses := true, plainKeys := false, apart := false }
def FnExactSumScaleSaid : Prop := fnExactSumScaleRow.holds Try.pinned (OpenSpec.ofChange fnExactSumScaleSpec)

/-- ITS FALSE NEIGHBOUR: 'it returns false'. Refute it at one input. -/
def fnExactSumScaleWrong : ChangeSpec := { name := "fnExactSumScale", fn := fun _ => fun
  | [d1, d2] => { results := [.lit (.bool false)], args := [d1, d2] }
  | _ => none }
def FnExactSumScaleWrongFalsely : Prop := fnExactSumScaleRow.holds Try.pinned (OpenSpec.ofChange fnExactSumScaleWrong)

/-- 'laws.FnExactSumGraft': WHATEVER THE INPUT: true; the input reads as it did. -/
def fnExactSumGraftSpec : ChangeSpec := { name := "fnExactSumGraft", fn := fun _ => fun
  | [d1, d2, d3] => { results := [.lit (.bool true)], args := [d1, d2, d3] }
  | _ => none }
def fnExactSumGraftRow : OpenClaim := { program := "ytmmfcljkcepahaa", sum := "ed5fd09ec26bbd0f145dce819d783527caeb5ca1a83a46cc62f7c518e8cf5797", func := "loop.example/operadtrees/laws.FnExactSumGraft", spec := "fnExactSumGraft", inPlace := ["internal/bytealg.abigen_runtime_cmpstring"], unfollowed := true, recurses := true, plainKeys := false, apart := false }
def FnExactSumGraftSaid : Prop := fnExactSumGraftRow.holds Try.pinned (OpenSpec.ofChange fnExactSumGraftSpec)

/-- ITS FALSE NEIGHBOUR: 'it returns false'. Refute it at one input. -/
def fnExactSumGraftWrong : ChangeSpec := { name := "fnExactSumGraft", fn := fun _ => fun
  | [d1, d2, d3] => { results := [.lit (.bool false)], args := [d1, d2, d3] }
  | _ => none }
def FnExactSumGraftWrongFalsely : Prop := fnExactSumGraftRow.holds Try.pinned (OpenSpec.ofChange fnExactSumGraftWrong)

/-- 'laws.FnExactSumCoef': WHATEVER THE INPUT: true; the input reads as it did. -/
def fnExactSumCoefSpec : ChangeSpec := { name := "fnExactSumCoef", fn := fun _ => fun
  | [d1, d2] => { results := [.lit (.bool true)], args := [d1, d2] }
  | _ => none }
def fnExactSumCoefRow : OpenClaim := { program := "ytmmfcljkcepahaa", sum := "ed5fd09ec26bbd0f145dce819d783527caeb5ca1a83a46cc62f7c518e8cf5797", func := "loop.example/operadtrees/laws.FnExactSumCoef", spec := "fnExactSumCoef", inPlace := ["internal/bytealg.abigen_runtime_cmpstring"], unfollowed := true, recurses := true, plainKeys := false, apart := false }
def FnExactSumCoefSaid : Prop := fnExactSumCoefRow.holds Try.pinned (OpenSpec.ofChange fnExactSumCoefSpec)

/-- ITS FALSE NEIGHBOUR: 'it returns false'. Refute it at one input. -/
def fnExactSumCoefWrong : ChangeSpec := { name := "fnExactSumCoef", fn := fun _ => fun
  | [d1, d2] => { results := [.lit (.bool false)], args := [d1, d2] }
  | _ => none }
def FnExactSumCoefWrongFalsely : Prop := fnExactSumCoefRow.holds Try.pinned (OpenSpec.ofChange fnExactSumCoefWrong)

/-- 'laws.FnExactSumLead': WHATEVER THE INPUT: true; the input reads as it did. -/
def fnExactSumLeadSpec : ChangeSpec := { name := "fnExactSumLead", fn := fun _ => fun
  | [d] => { results := [.lit (.bool true)], args := [d] }
  | _ => none }
def fnExactSumLeadRow : OpenClaim := { program := "ytmmfcljkcepahaa", sum := "ed5fd09ec26bbd0f145dce819d783527caeb5ca1a83a46cc62f7c518e8cf5797", func := "loop.example/operadtrees/laws.FnExactSumLead", spec := "fnExactSumLead", inPlace := ["internal/bytealg.abigen_runtime_cmpstring"], unfollowed := true, recurses := true, plainKeys := false, apart := false }
def FnExactSumLeadSaid : Prop := fnExactSumLeadRow.holds Try.pinned (OpenSpec.ofChange fnExactSumLeadSpec)

/-- ITS FALSE NEIGHBOUR: 'it returns false'. Refute it at one input. -/
def fnExactSumLeadWrong : ChangeSpec := { name := "fnExactSumLead", fn := fun _ => fun
  | [d] => { results := [.lit (.bool false)], args := [d] }
  | _ => none }
def FnExactSumLeadWrongFalsely : Prop := fnExactSumLeadRow.holds Try.pinned (OpenSpec.ofChange fnExactSumLeadWrong)

/-- 'laws.FnExactSumMirror': WHATEVER THE INPUT: true; the input reads as it did. -/
def fnExactSumMirrorSpec : ChangeSpec := { name := "fnExactSumMirror", fn := fun _ => fun
  | [d] => { results := [.lit (.bool true)], args := [d] }
  | _ => none }
def fnExactSumMirrorRow : OpenClaim := { program := "ytmmfcljkcepahaa", sum := "ed5fd09ec26bbd0f145dce819d783527caeb5ca1a83a46cc62f7c518e8cf5797", func := "loop.example/operadtrees/laws.FnExactSumMirror", spec := "fnExactSumMirror", inPlace := ["internal/bytealg.abigen_runtime_cmpstring"], unfollowed := true, recurses := true, plainKeys := false, apart := false }
def FnExactSumMirrorSaid : Prop := fnExactSumMirrorRow.holds Try.pinned (OpenSpec.ofChange fnExactSumMirrorSpec)

/-- ITS FALSE NEIGHBOUR: 'it returns false'. Refute it at one input. -/
def fnExactSumMirrorWrong : ChangeSpec := { name := "fnExactSumMirror", fn := fun _ => fun
  | [d] => { results := [.lit (.bool false)], args := [d] }
  | _ => none }
def FnExactSumMirrorWrongFalsely : Prop := fnExactSumMirrorRow.holds Try.pinned (OpenSpec.ofChange fnExactSumMirrorWrong)

/-- 'laws.FnExactSignOf': WHATEVER THE INPUT: true; the input reads as it did. -/
def fnExactSignOfSpec : ChangeSpec := { name := "fnExactSignOf", fn := fun _ => fun
  | [d] => { results := [.lit (.bool true)], args := [d] }
  | _ => none }
def fnExactSignOfRow : OpenClaim := { program := "ytmmfcljkcepahaa", sum := "ed5fd09ec26bbd0f145dce819d783527caeb5ca1a83a46cc62f7c518e8cf5797", func := "loop.example/operadtrees/laws.FnExactSignOf", spec := "fnExactSignOf", unfollowed := true, recurses := true, plainKeys := false, apart := false }
def FnExactSignOfSaid : Prop := fnExactSignOfRow.holds Try.pinned (OpenSpec.ofChange fnExactSignOfSpec)

/-- ITS FALSE NEIGHBOUR: 'it returns false'. Refute it at one input. -/
def fnExactSignOfWrong : ChangeSpec := { name := "fnExactSignOf", fn := fun _ => fun
  | [d] => { results := [.lit (.bool false)], args := [d] }
  | _ => none }
def FnExactSignOfWrongFalsely : Prop := fnExactSignOfRow.holds Try.pinned (OpenSpec.ofChange fnExactSignOfWrong)

/-- 'laws.FnExactTreeList': WHATEVER THE INPUT: true; the input reads as it did. -/
def fnExactTreeListSpec : ChangeSpec := { name := "fnExactTreeList", fn := fun _ => fun
  | [d1, d2, d3] => { results := [.lit (.bool true)], args := [d1, d2, d3] }
  | _ => none }
def fnExactTreeListRow : OpenClaim := { program := "ytmmfcljkcepahaa", sum := "ed5fd09ec26bbd0f145dce819d783527caeb5ca1a83a46cc62f7c518e8cf5797", func := "loop.example/operadtrees/laws.FnExactTreeList", spec := "fnExactTreeList", inPlace := ["internal/bytealg.abigen_runtime_cmpstring"], unfollowed := true, recurses := true, plainKeys := false, apart := false }
def FnExactTreeListSaid : Prop := fnExactTreeListRow.holds Try.pinned (OpenSpec.ofChange fnExactTreeListSpec)

/-- ITS FALSE NEIGHBOUR: 'it returns false'. Refute it at one input. -/
def fnExactTreeListWrong : ChangeSpec := { name := "fnExactTreeList", fn := fun _ => fun
  | [d1, d2, d3] => { results := [.lit (.bool false)], args := [d1, d2, d3] }
  | _ => none }
def FnExactTreeListWrongFalsely : Prop := fnExactTreeListRow.holds Try.pinned (OpenSpec.ofChange fnExactTreeListWrong)

/-- 'laws.FnExactTreeCount': WHATEVER THE INPUT: true; the input reads as it did. -/
def fnExactTreeCountSpec : ChangeSpec := { name := "fnExactTreeCount", fn := fun _ => fun
  | [d1, d2] => { results := [.lit (.bool true)], args := [d1, d2] }
  | _ => none }
def fnExactTreeCountRow : OpenClaim := { program := "ytmmfcljkcepahaa", sum := "ed5fd09ec26bbd0f145dce819d783527caeb5ca1a83a46cc62f7c518e8cf5797", func := "loop.example/operadtrees/laws.FnExactTreeCount", spec := "fnExactTreeCount", unfollowed := true, recurses := true, plainKeys := false, apart := false }
def FnExactTreeCountSaid : Prop := fnExactTreeCountRow.holds Try.pinned (OpenSpec.ofChange fnExactTreeCountSpec)

/-- ITS FALSE NEIGHBOUR: 'it returns false'. Refute it at one input. -/
def fnExactTreeCountWrong : ChangeSpec := { name := "fnExactTreeCount", fn := fun _ => fun
  | [d1, d2] => { results := [.lit (.bool false)], args := [d1, d2] }
  | _ => none }
def FnExactTreeCountWrongFalsely : Prop := fnExactTreeCountRow.holds Try.pinned (OpenSpec.ofChange fnExactTreeCountWrong)

/-- 'laws.FnExactTreeRank': WHATEVER THE INPUT: true; the input reads as it did. -/
def fnExactTreeRankSpec : ChangeSpec := { name := "fnExactTreeRank", fn := fun _ => fun
  | [d1, d2] => { results := [.lit (.bool true)], args := [d1, d2] }
  | _ => none }
def fnExactTreeRankRow : OpenClaim := { program := "ytmmfcljkcepahaa", sum := "ed5fd09ec26bbd0f145dce819d783527caeb5ca1a83a46cc62f7c518e8cf5797", func := "loop.example/operadtrees/laws.FnExactTreeRank", spec := "fnExactTreeRank", inPlace := ["internal/bytealg.abigen_runtime_cmpstring"], unfollowed := true, recurses := true, plainKeys := false, apart := false }
def FnExactTreeRankSaid : Prop := fnExactTreeRankRow.holds Try.pinned (OpenSpec.ofChange fnExactTreeRankSpec)

/-- ITS FALSE NEIGHBOUR: 'it returns false'. Refute it at one input. -/
def fnExactTreeRankWrong : ChangeSpec := { name := "fnExactTreeRank", fn := fun _ => fun
  | [d1, d2] => { results := [.lit (.bool false)], args := [d1, d2] }
  | _ => none }
def FnExactTreeRankWrongFalsely : Prop := fnExactTreeRankRow.holds Try.pinned (OpenSpec.ofChange fnExactTreeRankWrong)

/-- 'laws.FnCount': WHATEVER THE INPUT: true; the input reads as it did. -/
def fnCountSpec : ChangeSpec := { name := "fnCount", fn := fun _ => fun
  | [d] => { results := [.lit (.bool true)], args := [d] }
  | _ => none }
def fnCountRow : OpenClaim := { program := "ytmmfcljkcepahaa", sum := "ed5fd09ec26bbd0f145dce819d783527caeb5ca1a83a46cc62f7c518e8cf5797", func := "loop.example/operadtrees/laws.FnCount", spec := "fnCount", inPlace := ["internal/bytealg.abigen_runtime_cmpstring"], unfollowed := true, recurses := true, plainKeys := false, apart := false }
def FnCountSaid : Prop := fnCountRow.holds Try.pinned (OpenSpec.ofChange fnCountSpec)

/-- ITS FALSE NEIGHBOUR: 'it returns false'. Refute it at one input. -/
def fnCountWrong : ChangeSpec := { name := "fnCount", fn := fun _ => fun
  | [d] => { results := [.lit (.bool false)], args := [d] }
  | _ => none }
def FnCountWrongFalsely : Prop := fnCountRow.holds Try.pinned (OpenSpec.ofChange fnCountWrong)

/-- 'laws.FnExactTreeGraft': WHATEVER THE INPUT: true; the input reads as it did. -/
def fnExactTreeGraftSpec : ChangeSpec := { name := "fnExactTreeGraft", fn := fun _ => fun
  | [d1, d2, d3] => { results := [.lit (.bool true)], args := [d1, d2, d3] }
  | _ => none }
def fnExactTreeGraftRow : OpenClaim := { program := "ytmmfcljkcepahaa", sum := "ed5fd09ec26bbd0f145dce819d783527caeb5ca1a83a46cc62f7c518e8cf5797", func := "loop.example/operadtrees/laws.FnExactTreeGraft", spec := "fnExactTreeGraft", unfollowed := true, recurses := true, plainKeys := false, apart := false }
def FnExactTreeGraftSaid : Prop := fnExactTreeGraftRow.holds Try.pinned (OpenSpec.ofChange fnExactTreeGraftSpec)

/-- ITS FALSE NEIGHBOUR: 'it returns false'. Refute it at one input. -/
def fnExactTreeGraftWrong : ChangeSpec := { name := "fnExactTreeGraft", fn := fun _ => fun
  | [d1, d2, d3] => { results := [.lit (.bool false)], args := [d1, d2, d3] }
  | _ => none }
def FnExactTreeGraftWrongFalsely : Prop := fnExactTreeGraftRow.holds Try.pinned (OpenSpec.ofChange fnExactTreeGraftWrong)

/-- 'laws.FnExactTreeWhole': WHATEVER THE INPUT: true; the input reads as it did. -/
def fnExactTreeWholeSpec : ChangeSpec := { name := "fnExactTreeWhole", fn := fun _ => fun
  | [d1, d2] => { results := [.lit (.bool true)], args := [d1, d2] }
  | _ => none }
def fnExactTreeWholeRow : OpenClaim := { program := "ytmmfcljkcepahaa", sum := "ed5fd09ec26bbd0f145dce819d783527caeb5ca1a83a46cc62f7c518e8cf5797", func := "loop.example/operadtrees/laws.FnExactTreeWhole", spec := "fnExactTreeWhole", unfollowed := true, recurses := true, plainKeys := false, apart := false }
def FnExactTreeWholeSaid : Prop := fnExactTreeWholeRow.holds Try.pinned (OpenSpec.ofChange fnExactTreeWholeSpec)

/-- ITS FALSE NEIGHBOUR: 'it returns false'. Refute it at one input. -/
def fnExactTreeWholeWrong : ChangeSpec := { name := "fnExactTreeWhole", fn := fun _ => fun
  | [d1, d2] => { results := [.lit (.bool false)], args := [d1, d2] }
  | _ => none }
def FnExactTreeWholeWrongFalsely : Prop := fnExactTreeWholeRow.holds Try.pinned (OpenSpec.ofChange fnExactTreeWholeWrong)

/- THE SECOND FORM. 'bulk': how many values and letters a reading holds, each counted each time it is reached (what is shared counts as often as it is met; a slice's spare places count too). A statement '..UptoSaid' is the law's where the arguments, and the package variables that the reading takes, are together of bulk at most 1048576: NARROWER than '..Said'. Prove '..Said' where nothing that the law and all that it calls make is longer than what came in: it says more and counts as full. Else prove '..UptoSaid'. A law counts once. -/
mutual
def uptoBulk {H : Type} : DataW H → Nat
  | .lit (.string bytes) => bytes.length + 1
  | .lit _ => 1
  | .nil => 1
  | .ptr d => uptoBulk d + 1
  | .slice elems spare => uptoBulkAll elems + uptoBulkAll spare + 1
  | .agg parts => uptoBulkAll parts + 1
  | .iface _ d => uptoBulk d + 1
  | .map entries => uptoBulkEntries entries + 1
  | .held _ => 1
def uptoBulkAll {H : Type} : List (DataW H) → Nat
  | [] => 0
  | d :: r => uptoBulk d + uptoBulkAll r
def uptoBulkEntries {H : Type} : List (Lit × DataW H) → Nat
  | [] => 0
  | x :: r => uptoBulkEntry x + uptoBulkEntries r
def uptoBulkEntry {H : Type} : Lit × DataW H → Nat
  | (.string bytes, d) => bytes.length + uptoBulk d + 1
  | (_, d) => uptoBulk d + 1
 end
def uptoSmall : (H : Type) → List (DataW H) → Bool := fun _ ds => decide (uptoBulkAll ds ≤ 1048576)
def OpenSpec.upto (s : _root_.Go.ChangeSpec) : _root_.Go.OpenSpec := { _root_.Go.OpenSpec.ofChange s with cond := some uptoSmall }

/-- 'laws.FnExactSumValid', WHERE WHAT IT READS IS OF BULK AT MOST 1048576: true; the input reads as it did. -/
def fnExactSumValidUptoRow : OpenClaim := { program := "ytmmfcljkcepahaa", sum := "ed5fd09ec26bbd0f145dce819d783527caeb5ca1a83a46cc62f7c518e8cf5797", func := "loop.example/operadtrees/laws.FnExactSumValid", spec := "fnExactSumValid", inPlace := ["internal/bytealg.abigen_runtime_cmpstring"], unfollowed := true, recurses := true, plainKeys := false, apart := false, narrowed := true }
def FnExactSumValidUptoSaid : Prop := fnExactSumValidUptoRow.holds Try.pinned (OpenSpec.upto fnExactSumValidSpec)

/-- 'laws.FnExactSumOf', WHERE WHAT IT READS IS OF BULK AT MOST 1048576: true; the input reads as it did. -/
def fnExactSumOfUptoRow : OpenClaim := { program := "ytmmfcljkcepahaa", sum := "ed5fd09ec26bbd0f145dce819d783527caeb5ca1a83a46cc62f7c518e8cf5797", func := "loop.example/operadtrees/laws.FnExactSumOf", spec := "fnExactSumOf", inPlace := ["internal/bytealg.abigen_runtime_cmpstring"], unfollowed := true, recurses := true, plainKeys := false, apart := false, narrowed := true }
def FnExactSumOfUptoSaid : Prop := fnExactSumOfUptoRow.holds Try.pinned (OpenSpec.upto fnExactSumOfSpec)

/-- 'laws.FnExactSumAdd', WHERE WHAT IT READS IS OF BULK AT MOST 1048576: true; the input reads as it did. -/
def fnExactSumAddUptoRow : OpenClaim := { program := "ytmmfcljkcepahaa", sum := "ed5fd09ec26bbd0f145dce819d783527caeb5ca1a83a46cc62f7c518e8cf5797", func := "loop.example/operadtrees/laws.FnExactSumAdd", spec := "fnExactSumAdd", inPlace := ["internal/bytealg.abigen_runtime_cmpstring"], unfollowed := true, recurses := true, plainKeys := false, apart := false, narrowed := true }
def FnExactSumAddUptoSaid : Prop := fnExactSumAddUptoRow.holds Try.pinned (OpenSpec.upto fnExactSumAddSpec)

/-- 'laws.FnExactSumScale', WHERE WHAT IT READS IS OF BULK AT MOST 1048576: true; the input reads as it did. -/
def fnExactSumScaleUptoRow : OpenClaim := { program := "ytmmfcljkcepahaa", sum := "ed5fd09ec26bbd0f145dce819d783527caeb5ca1a83a46cc62f7c518e8cf5797", func := "loop.example/operadtrees/laws.FnExactSumScale", spec := "fnExactSumScale", inPlace := ["internal/bytealg.abigen_runtime_cmpstring"], unfollowed := true, recurses := true, plainKeys := false, apart := false, narrowed := true }
def FnExactSumScaleUptoSaid : Prop := fnExactSumScaleUptoRow.holds Try.pinned (OpenSpec.upto fnExactSumScaleSpec)

/-- 'laws.FnExactSumGraft', WHERE WHAT IT READS IS OF BULK AT MOST 1048576: true; the input reads as it did. -/
def fnExactSumGraftUptoRow : OpenClaim := { program := "ytmmfcljkcepahaa", sum := "ed5fd09ec26bbd0f145dce819d783527caeb5ca1a83a46cc62f7c518e8cf5797", func := "loop.example/operadtrees/laws.FnExactSumGraft", spec := "fnExactSumGraft", inPlace := ["internal/bytealg.abigen_runtime_cmpstring"], unfollowed := true, recurses := true, plainKeys := false, apart := false, narrowed := true }
def FnExactSumGraftUptoSaid : Prop := fnExactSumGraftUptoRow.holds Try.pinned (OpenSpec.upto fnExactSumGraftSpec)

/-- 'laws.FnExactSumCoef', WHERE WHAT IT READS IS OF BULK AT MOST 1048576: true; the input reads as it did. -/
def fnExactSumCoefUptoRow : OpenClaim := { program := "ytmmfcljkcepahaa", sum := "ed5fd09ec26bbd0f145dce819d783527caeb5ca1a83a46cc62f7c518e8cf5797", func := "loop.example/operadtrees/laws.FnExactSumCoef", spec := "fnExactSumCoef", inPlace := ["internal/bytealg.abigen_runtime_cmpstring"], unfollowed := true, recurses := true, plainKeys := false, apart := false, narrowed := true }
def FnExactSumCoefUptoSaid : Prop := fnExactSumCoefUptoRow.holds Try.pinned (OpenSpec.upto fnExactSumCoefSpec)

/-- 'laws.FnExactSumLead', WHERE WHAT IT READS IS OF BULK AT MOST 1048576: true; the input reads as it did. -/
def fnExactSumLeadUptoRow : OpenClaim := { program := "ytmmfcljkcepahaa", sum := "ed5fd09ec26bbd0f145dce819d783527caeb5ca1a83a46cc62f7c518e8cf5797", func := "loop.example/operadtrees/laws.FnExactSumLead", spec := "fnExactSumLead", inPlace := ["internal/bytealg.abigen_runtime_cmpstring"], unfollowed := true, recurses := true, plainKeys := false, apart := false, narrowed := true }
def FnExactSumLeadUptoSaid : Prop := fnExactSumLeadUptoRow.holds Try.pinned (OpenSpec.upto fnExactSumLeadSpec)

/-- 'laws.FnExactSumMirror', WHERE WHAT IT READS IS OF BULK AT MOST 1048576: true; the input reads as it did. -/
def fnExactSumMirrorUptoRow : OpenClaim := { program := "ytmmfcljkcepahaa", sum := "ed5fd09ec26bbd0f145dce819d783527caeb5ca1a83a46cc62f7c518e8cf5797", func := "loop.example/operadtrees/laws.FnExactSumMirror", spec := "fnExactSumMirror", inPlace := ["internal/bytealg.abigen_runtime_cmpstring"], unfollowed := true, recurses := true, plainKeys := false, apart := false, narrowed := true }
def FnExactSumMirrorUptoSaid : Prop := fnExactSumMirrorUptoRow.holds Try.pinned (OpenSpec.upto fnExactSumMirrorSpec)

/-- 'laws.FnExactSignOf', WHERE WHAT IT READS IS OF BULK AT MOST 1048576: true; the input reads as it did. -/
def fnExactSignOfUptoRow : OpenClaim := { program := "ytmmfcljkcepahaa", sum := "ed5fd09ec26bbd0f145dce819d783527caeb5ca1a83a46cc62f7c518e8cf5797", func := "loop.example/operadtrees/laws.FnExactSignOf", spec := "fnExactSignOf", unfollowed := true, recurses := true, plainKeys := false, apart := false, narrowed := true }
def FnExactSignOfUptoSaid : Prop := fnExactSignOfUptoRow.holds Try.pinned (OpenSpec.upto fnExactSignOfSpec)

/-- 'laws.FnExactTreeList', WHERE WHAT IT READS IS OF BULK AT MOST 1048576: true; the input reads as it did. -/
def fnExactTreeListUptoRow : OpenClaim := { program := "ytmmfcljkcepahaa", sum := "ed5fd09ec26bbd0f145dce819d783527caeb5ca1a83a46cc62f7c518e8cf5797", func := "loop.example/operadtrees/laws.FnExactTreeList", spec := "fnExactTreeList", inPlace := ["internal/bytealg.abigen_runtime_cmpstring"], unfollowed := true, recurses := true, plainKeys := false, apart := false, narrowed := true }
def FnExactTreeListUptoSaid : Prop := fnExactTreeListUptoRow.holds Try.pinned (OpenSpec.upto fnExactTreeListSpec)

/-- 'laws.FnExactTreeCount', WHERE WHAT IT READS IS OF BULK AT MOST 1048576: true; the input reads as it did. -/
def fnExactTreeCountUptoRow : OpenClaim := { program := "ytmmfcljkcepahaa", sum := "ed5fd09ec26bbd0f145dce819d783527caeb5ca1a83a46cc62f7c518e8cf5797", func := "loop.example/operadtrees/laws.FnExactTreeCount", spec := "fnExactTreeCount", unfollowed := true, recurses := true, plainKeys := false, apart := false, narrowed := true }
def FnExactTreeCountUptoSaid : Prop := fnExactTreeCountUptoRow.holds Try.pinned (OpenSpec.upto fnExactTreeCountSpec)

/-- 'laws.FnExactTreeRank', WHERE WHAT IT READS IS OF BULK AT MOST 1048576: true; the input reads as it did. -/
def fnExactTreeRankUptoRow : OpenClaim := { program := "ytmmfcljkcepahaa", sum := "ed5fd09ec26bbd0f145dce819d783527caeb5ca1a83a46cc62f7c518e8cf5797", func := "loop.example/operadtrees/laws.FnExactTreeRank", spec := "fnExactTreeRank", inPlace := ["internal/bytealg.abigen_runtime_cmpstring"], unfollowed := true, recurses := true, plainKeys := false, apart := false, narrowed := true }
def FnExactTreeRankUptoSaid : Prop := fnExactTreeRankUptoRow.holds Try.pinned (OpenSpec.upto fnExactTreeRankSpec)

/-- 'laws.FnCount', WHERE WHAT IT READS IS OF BULK AT MOST 1048576: true; the input reads as it did. -/
def fnCountUptoRow : OpenClaim := { program := "ytmmfcljkcepahaa", sum := "ed5fd09ec26bbd0f145dce819d783527caeb5ca1a83a46cc62f7c518e8cf5797", func := "loop.example/operadtrees/laws.FnCount", spec := "fnCount", inPlace := ["internal/bytealg.abigen_runtime_cmpstring"], unfollowed := true, recurses := true, plainKeys := false, apart := false, narrowed := true }
def FnCountUptoSaid : Prop := fnCountUptoRow.holds Try.pinned (OpenSpec.upto fnCountSpec)

/-- 'laws.FnExactTreeGraft', WHERE WHAT IT READS IS OF BULK AT MOST 1048576: true; the input reads as it did. -/
def fnExactTreeGraftUptoRow : OpenClaim := { program := "ytmmfcljkcepahaa", sum := "ed5fd09ec26bbd0f145dce819d783527caeb5ca1a83a46cc62f7c518e8cf5797", func := "loop.example/operadtrees/laws.FnExactTreeGraft", spec := "fnExactTreeGraft", unfollowed := true, recurses := true, plainKeys := false, apart := false, narrowed := true }
def FnExactTreeGraftUptoSaid : Prop := fnExactTreeGraftUptoRow.holds Try.pinned (OpenSpec.upto fnExactTreeGraftSpec)

/-- 'laws.FnExactTreeWhole', WHERE WHAT IT READS IS OF BULK AT MOST 1048576: true; the input reads as it did. -/
def fnExactTreeWholeUptoRow : OpenClaim := { program := "ytmmfcljkcepahaa", sum := "ed5fd09ec26bbd0f145dce819d783527caeb5ca1a83a46cc62f7c518e8cf5797", func := "loop.example/operadtrees/laws.FnExactTreeWhole", spec := "fnExactTreeWhole", unfollowed := true, recurses := true, plainKeys := false, apart := false, narrowed := true }
def FnExactTreeWholeUptoSaid : Prop := fnExactTreeWholeUptoRow.holds Try.pinned (OpenSpec.upto fnExactTreeWholeSpec)

end Rows
end Go.Proofs.Ytmmfcljkcepahaa
