/-
  No cell of these rows narrows 'for every input' (looked for: loops, veiled, ifaces, maps, wideKeys, modest, calm, conditions, laid).
  DERIVED. THE GIVEN ROWS OF THIS SEAT. 26 by the template 'for every input the law returns true; each argument reads behind the call as it read before'; 0 by the template 'total and deterministic' (their statements: YtaahjegdcahccaaTotals.lean).
  GIVEN WITH THE SEED: the statements are not yours to turn. If you find one false, say at which input.
  Laid BY PROGRAM, IN A SANDBOX (cutbox-rows.mjs): the forced cells as the released guide's own fill.sh prints them over the translation e717e97ffa86d1e4… (all of the seat's roots in one cut). By AI agents, Wed Nov 11 2026. No macro, syntax, notation, axiom, sorry.
-/
import Derived.Test.YtaahjegdcahccaaChecked
import GoSem.Claim
import GoSem.ClaimJoined
import GoSem.ClaimMapViews
import Derived.JoinedTies
import Derived.KernelRfl
namespace Go.Proofs.Ytaahjegdcahccaa
/- THE CELL 'sum', in the pinned program and in every row, IS THE sha256 OF THE DUMP (.gsa) THAT YtaahjegdcahccaaProg.lean LOADS. Nothing in Lean hashes anything: it is a label: what it is worth is what the hold of that sum in a sandbox is worth. -/
noncomputable def Try.pinned : Pinned := { name := "ytaahjegdcahccaa", sum := "e717e97ffa86d1e4ec2e45f3f229d7ca0aa2b8f9514329d1addf5ce4191e03bd", checked := Try.checked }
namespace Rows
def none {H : Type} : Left H := { results := [], args := [] }

/-- 'laws.FnExactTreeValid': WHATEVER THE INPUT: true; the input reads as it did. -/
def fnExactTreeValidSpec : ChangeSpec := { name := "fnExactTreeValid", fn := fun _ => fun
  | [d] => { results := [.lit (.bool true)], args := [d] }
  | _ => none }
def fnExactTreeValidRow : OpenClaim := { program := "ytaahjegdcahccaa", sum := "e717e97ffa86d1e4ec2e45f3f229d7ca0aa2b8f9514329d1addf5ce4191e03bd", func := "loop.example/operadtrees/laws.FnExactTreeValid", spec := "fnExactTreeValid", recurses := true, plainKeys := false, apart := false }
def FnExactTreeValidSaid : Prop := fnExactTreeValidRow.holds Try.pinned (OpenSpec.ofChange fnExactTreeValidSpec)

/-- ITS FALSE NEIGHBOUR: 'it returns false'. Refute it at one input. -/
def fnExactTreeValidWrong : ChangeSpec := { name := "fnExactTreeValid", fn := fun _ => fun
  | [d] => { results := [.lit (.bool false)], args := [d] }
  | _ => none }
def FnExactTreeValidWrongFalsely : Prop := fnExactTreeValidRow.holds Try.pinned (OpenSpec.ofChange fnExactTreeValidWrong)

/-- 'laws.FnExactTreeLeaves': WHATEVER THE INPUT: true; the input reads as it did. -/
def fnExactTreeLeavesSpec : ChangeSpec := { name := "fnExactTreeLeaves", fn := fun _ => fun
  | [d] => { results := [.lit (.bool true)], args := [d] }
  | _ => none }
def fnExactTreeLeavesRow : OpenClaim := { program := "ytaahjegdcahccaa", sum := "e717e97ffa86d1e4ec2e45f3f229d7ca0aa2b8f9514329d1addf5ce4191e03bd", func := "loop.example/operadtrees/laws.FnExactTreeLeaves", spec := "fnExactTreeLeaves", unfollowed := true, recurses := true, plainKeys := false, apart := false }
def FnExactTreeLeavesSaid : Prop := fnExactTreeLeavesRow.holds Try.pinned (OpenSpec.ofChange fnExactTreeLeavesSpec)

/-- ITS FALSE NEIGHBOUR: 'it returns false'. Refute it at one input. -/
def fnExactTreeLeavesWrong : ChangeSpec := { name := "fnExactTreeLeaves", fn := fun _ => fun
  | [d] => { results := [.lit (.bool false)], args := [d] }
  | _ => none }
def FnExactTreeLeavesWrongFalsely : Prop := fnExactTreeLeavesRow.holds Try.pinned (OpenSpec.ofChange fnExactTreeLeavesWrong)

/-- 'laws.FnExactTreeNodes': WHATEVER THE INPUT: true; the input reads as it did. -/
def fnExactTreeNodesSpec : ChangeSpec := { name := "fnExactTreeNodes", fn := fun _ => fun
  | [d] => { results := [.lit (.bool true)], args := [d] }
  | _ => none }
def fnExactTreeNodesRow : OpenClaim := { program := "ytaahjegdcahccaa", sum := "e717e97ffa86d1e4ec2e45f3f229d7ca0aa2b8f9514329d1addf5ce4191e03bd", func := "loop.example/operadtrees/laws.FnExactTreeNodes", spec := "fnExactTreeNodes", unfollowed := true, recurses := true, plainKeys := false, apart := false }
def FnExactTreeNodesSaid : Prop := fnExactTreeNodesRow.holds Try.pinned (OpenSpec.ofChange fnExactTreeNodesSpec)

/-- ITS FALSE NEIGHBOUR: 'it returns false'. Refute it at one input. -/
def fnExactTreeNodesWrong : ChangeSpec := { name := "fnExactTreeNodes", fn := fun _ => fun
  | [d] => { results := [.lit (.bool false)], args := [d] }
  | _ => none }
def FnExactTreeNodesWrongFalsely : Prop := fnExactTreeNodesRow.holds Try.pinned (OpenSpec.ofChange fnExactTreeNodesWrong)

/-- 'laws.FnExactTreeGraft': WHATEVER THE INPUT: true; the input reads as it did. -/
def fnExactTreeGraftSpec : ChangeSpec := { name := "fnExactTreeGraft", fn := fun _ => fun
  | [d1, d2, d3] => { results := [.lit (.bool true)], args := [d1, d2, d3] }
  | _ => none }
def fnExactTreeGraftRow : OpenClaim := { program := "ytaahjegdcahccaa", sum := "e717e97ffa86d1e4ec2e45f3f229d7ca0aa2b8f9514329d1addf5ce4191e03bd", func := "loop.example/operadtrees/laws.FnExactTreeGraft", spec := "fnExactTreeGraft", unfollowed := true, recurses := true, plainKeys := false, apart := false }
def FnExactTreeGraftSaid : Prop := fnExactTreeGraftRow.holds Try.pinned (OpenSpec.ofChange fnExactTreeGraftSpec)

/-- ITS FALSE NEIGHBOUR: 'it returns false'. Refute it at one input. -/
def fnExactTreeGraftWrong : ChangeSpec := { name := "fnExactTreeGraft", fn := fun _ => fun
  | [d1, d2, d3] => { results := [.lit (.bool false)], args := [d1, d2, d3] }
  | _ => none }
def FnExactTreeGraftWrongFalsely : Prop := fnExactTreeGraftRow.holds Try.pinned (OpenSpec.ofChange fnExactTreeGraftWrong)

/-- 'laws.FnExactTreeWhole': WHATEVER THE INPUT: true; the input reads as it did. -/
def fnExactTreeWholeSpec : ChangeSpec := { name := "fnExactTreeWhole", fn := fun _ => fun
  | [d1, d2] => { results := [.lit (.bool true)], args := [d1, d2] }
  | _ => none }
def fnExactTreeWholeRow : OpenClaim := { program := "ytaahjegdcahccaa", sum := "e717e97ffa86d1e4ec2e45f3f229d7ca0aa2b8f9514329d1addf5ce4191e03bd", func := "loop.example/operadtrees/laws.FnExactTreeWhole", spec := "fnExactTreeWhole", unfollowed := true, recurses := true, plainKeys := false, apart := false }
def FnExactTreeWholeSaid : Prop := fnExactTreeWholeRow.holds Try.pinned (OpenSpec.ofChange fnExactTreeWholeSpec)

/-- ITS FALSE NEIGHBOUR: 'it returns false'. Refute it at one input. -/
def fnExactTreeWholeWrong : ChangeSpec := { name := "fnExactTreeWhole", fn := fun _ => fun
  | [d1, d2] => { results := [.lit (.bool false)], args := [d1, d2] }
  | _ => none }
def FnExactTreeWholeWrongFalsely : Prop := fnExactTreeWholeRow.holds Try.pinned (OpenSpec.ofChange fnExactTreeWholeWrong)

/-- 'laws.FnExactTreeMirror': WHATEVER THE INPUT: true; the input reads as it did. -/
def fnExactTreeMirrorSpec : ChangeSpec := { name := "fnExactTreeMirror", fn := fun _ => fun
  | [d] => { results := [.lit (.bool true)], args := [d] }
  | _ => none }
def fnExactTreeMirrorRow : OpenClaim := { program := "ytaahjegdcahccaa", sum := "e717e97ffa86d1e4ec2e45f3f229d7ca0aa2b8f9514329d1addf5ce4191e03bd", func := "loop.example/operadtrees/laws.FnExactTreeMirror", spec := "fnExactTreeMirror", unfollowed := true, recurses := true, plainKeys := false, apart := false }
def FnExactTreeMirrorSaid : Prop := fnExactTreeMirrorRow.holds Try.pinned (OpenSpec.ofChange fnExactTreeMirrorSpec)

/-- ITS FALSE NEIGHBOUR: 'it returns false'. Refute it at one input. -/
def fnExactTreeMirrorWrong : ChangeSpec := { name := "fnExactTreeMirror", fn := fun _ => fun
  | [d] => { results := [.lit (.bool false)], args := [d] }
  | _ => none }
def FnExactTreeMirrorWrongFalsely : Prop := fnExactTreeMirrorRow.holds Try.pinned (OpenSpec.ofChange fnExactTreeMirrorWrong)

/-- 'laws.FnExactTreeDepth': WHATEVER THE INPUT: true; the input reads as it did. -/
def fnExactTreeDepthSpec : ChangeSpec := { name := "fnExactTreeDepth", fn := fun _ => fun
  | [d] => { results := [.lit (.bool true)], args := [d] }
  | _ => none }
def fnExactTreeDepthRow : OpenClaim := { program := "ytaahjegdcahccaa", sum := "e717e97ffa86d1e4ec2e45f3f229d7ca0aa2b8f9514329d1addf5ce4191e03bd", func := "loop.example/operadtrees/laws.FnExactTreeDepth", spec := "fnExactTreeDepth", recurses := true, plainKeys := false, apart := false }
def FnExactTreeDepthSaid : Prop := fnExactTreeDepthRow.holds Try.pinned (OpenSpec.ofChange fnExactTreeDepthSpec)

/-- ITS FALSE NEIGHBOUR: 'it returns false'. Refute it at one input. -/
def fnExactTreeDepthWrong : ChangeSpec := { name := "fnExactTreeDepth", fn := fun _ => fun
  | [d] => { results := [.lit (.bool false)], args := [d] }
  | _ => none }
def FnExactTreeDepthWrongFalsely : Prop := fnExactTreeDepthRow.holds Try.pinned (OpenSpec.ofChange fnExactTreeDepthWrong)

/-- 'laws.FnExactTreePart': WHATEVER THE INPUT: true; the input reads as it did. -/
def fnExactTreePartSpec : ChangeSpec := { name := "fnExactTreePart", fn := fun _ => fun
  | [d1, d2] => { results := [.lit (.bool true)], args := [d1, d2] }
  | _ => none }
def fnExactTreePartRow : OpenClaim := { program := "ytaahjegdcahccaa", sum := "e717e97ffa86d1e4ec2e45f3f229d7ca0aa2b8f9514329d1addf5ce4191e03bd", func := "loop.example/operadtrees/laws.FnExactTreePart", spec := "fnExactTreePart", unfollowed := true, recurses := true, plainKeys := false, apart := false }
def FnExactTreePartSaid : Prop := fnExactTreePartRow.holds Try.pinned (OpenSpec.ofChange fnExactTreePartSpec)

/-- ITS FALSE NEIGHBOUR: 'it returns false'. Refute it at one input. -/
def fnExactTreePartWrong : ChangeSpec := { name := "fnExactTreePart", fn := fun _ => fun
  | [d1, d2] => { results := [.lit (.bool false)], args := [d1, d2] }
  | _ => none }
def FnExactTreePartWrongFalsely : Prop := fnExactTreePartRow.holds Try.pinned (OpenSpec.ofChange fnExactTreePartWrong)

/-- 'laws.FnExactTreeCut': WHATEVER THE INPUT: true; the input reads as it did. -/
def fnExactTreeCutSpec : ChangeSpec := { name := "fnExactTreeCut", fn := fun _ => fun
  | [d1, d2] => { results := [.lit (.bool true)], args := [d1, d2] }
  | _ => none }
def fnExactTreeCutRow : OpenClaim := { program := "ytaahjegdcahccaa", sum := "e717e97ffa86d1e4ec2e45f3f229d7ca0aa2b8f9514329d1addf5ce4191e03bd", func := "loop.example/operadtrees/laws.FnExactTreeCut", spec := "fnExactTreeCut", unfollowed := true, recurses := true, plainKeys := false, apart := false }
def FnExactTreeCutSaid : Prop := fnExactTreeCutRow.holds Try.pinned (OpenSpec.ofChange fnExactTreeCutSpec)

/-- ITS FALSE NEIGHBOUR: 'it returns false'. Refute it at one input. -/
def fnExactTreeCutWrong : ChangeSpec := { name := "fnExactTreeCut", fn := fun _ => fun
  | [d1, d2] => { results := [.lit (.bool false)], args := [d1, d2] }
  | _ => none }
def FnExactTreeCutWrongFalsely : Prop := fnExactTreeCutRow.holds Try.pinned (OpenSpec.ofChange fnExactTreeCutWrong)

/-- 'laws.FnExactTreePaths': WHATEVER THE INPUT: true; the input reads as it did. -/
def fnExactTreePathsSpec : ChangeSpec := { name := "fnExactTreePaths", fn := fun _ => fun
  | [d] => { results := [.lit (.bool true)], args := [d] }
  | _ => none }
def fnExactTreePathsRow : OpenClaim := { program := "ytaahjegdcahccaa", sum := "e717e97ffa86d1e4ec2e45f3f229d7ca0aa2b8f9514329d1addf5ce4191e03bd", func := "loop.example/operadtrees/laws.FnExactTreePaths", spec := "fnExactTreePaths", recurses := true, plainKeys := false, apart := false }
def FnExactTreePathsSaid : Prop := fnExactTreePathsRow.holds Try.pinned (OpenSpec.ofChange fnExactTreePathsSpec)

/-- ITS FALSE NEIGHBOUR: 'it returns false'. Refute it at one input. -/
def fnExactTreePathsWrong : ChangeSpec := { name := "fnExactTreePaths", fn := fun _ => fun
  | [d] => { results := [.lit (.bool false)], args := [d] }
  | _ => none }
def FnExactTreePathsWrongFalsely : Prop := fnExactTreePathsRow.holds Try.pinned (OpenSpec.ofChange fnExactTreePathsWrong)

/-- 'laws.FnExactSignValid': WHATEVER THE INPUT: true; the input reads as it did. -/
def fnExactSignValidSpec : ChangeSpec := { name := "fnExactSignValid", fn := fun _ => fun
  | [d] => { results := [.lit (.bool true)], args := [d] }
  | _ => none }
def fnExactSignValidRow : OpenClaim := { program := "ytaahjegdcahccaa", sum := "e717e97ffa86d1e4ec2e45f3f229d7ca0aa2b8f9514329d1addf5ce4191e03bd", func := "loop.example/operadtrees/laws.FnExactSignValid", spec := "fnExactSignValid", plainKeys := false, apart := false }
def FnExactSignValidSaid : Prop := fnExactSignValidRow.holds Try.pinned (OpenSpec.ofChange fnExactSignValidSpec)

/-- ITS FALSE NEIGHBOUR: 'it returns false'. Refute it at one input. -/
def fnExactSignValidWrong : ChangeSpec := { name := "fnExactSignValid", fn := fun _ => fun
  | [d] => { results := [.lit (.bool false)], args := [d] }
  | _ => none }
def FnExactSignValidWrongFalsely : Prop := fnExactSignValidRow.holds Try.pinned (OpenSpec.ofChange fnExactSignValidWrong)

/-- 'laws.FnExactSignOver': WHATEVER THE INPUT: true; the input reads as it did. -/
def fnExactSignOverSpec : ChangeSpec := { name := "fnExactSignOver", fn := fun _ => fun
  | [d1, d2] => { results := [.lit (.bool true)], args := [d1, d2] }
  | _ => none }
def fnExactSignOverRow : OpenClaim := { program := "ytaahjegdcahccaa", sum := "e717e97ffa86d1e4ec2e45f3f229d7ca0aa2b8f9514329d1addf5ce4191e03bd", func := "loop.example/operadtrees/laws.FnExactSignOver", spec := "fnExactSignOver", unfollowed := true, recurses := true, plainKeys := false, apart := false }
def FnExactSignOverSaid : Prop := fnExactSignOverRow.holds Try.pinned (OpenSpec.ofChange fnExactSignOverSpec)

/-- ITS FALSE NEIGHBOUR: 'it returns false'. Refute it at one input. -/
def fnExactSignOverWrong : ChangeSpec := { name := "fnExactSignOver", fn := fun _ => fun
  | [d1, d2] => { results := [.lit (.bool false)], args := [d1, d2] }
  | _ => none }
def FnExactSignOverWrongFalsely : Prop := fnExactSignOverRow.holds Try.pinned (OpenSpec.ofChange fnExactSignOverWrong)

/-- 'laws.FnExactTreeOrder': WHATEVER THE INPUT: true; the input reads as it did. -/
def fnExactTreeOrderSpec : ChangeSpec := { name := "fnExactTreeOrder", fn := fun _ => fun
  | [d1, d2] => { results := [.lit (.bool true)], args := [d1, d2] }
  | _ => none }
def fnExactTreeOrderRow : OpenClaim := { program := "ytaahjegdcahccaa", sum := "e717e97ffa86d1e4ec2e45f3f229d7ca0aa2b8f9514329d1addf5ce4191e03bd", func := "loop.example/operadtrees/laws.FnExactTreeOrder", spec := "fnExactTreeOrder", inPlace := ["internal/bytealg.abigen_runtime_cmpstring"], unfollowed := true, recurses := true, plainKeys := false, apart := false }
def FnExactTreeOrderSaid : Prop := fnExactTreeOrderRow.holds Try.pinned (OpenSpec.ofChange fnExactTreeOrderSpec)

/-- ITS FALSE NEIGHBOUR: 'it returns false'. Refute it at one input. -/
def fnExactTreeOrderWrong : ChangeSpec := { name := "fnExactTreeOrder", fn := fun _ => fun
  | [d1, d2] => { results := [.lit (.bool false)], args := [d1, d2] }
  | _ => none }
def FnExactTreeOrderWrongFalsely : Prop := fnExactTreeOrderRow.holds Try.pinned (OpenSpec.ofChange fnExactTreeOrderWrong)

/-- 'laws.FnExactTreeCount': WHATEVER THE INPUT: true; the input reads as it did. -/
def fnExactTreeCountSpec : ChangeSpec := { name := "fnExactTreeCount", fn := fun _ => fun
  | [d1, d2] => { results := [.lit (.bool true)], args := [d1, d2] }
  | _ => none }
def fnExactTreeCountRow : OpenClaim := { program := "ytaahjegdcahccaa", sum := "e717e97ffa86d1e4ec2e45f3f229d7ca0aa2b8f9514329d1addf5ce4191e03bd", func := "loop.example/operadtrees/laws.FnExactTreeCount", spec := "fnExactTreeCount", unfollowed := true, recurses := true, plainKeys := false, apart := false }
def FnExactTreeCountSaid : Prop := fnExactTreeCountRow.holds Try.pinned (OpenSpec.ofChange fnExactTreeCountSpec)

/-- ITS FALSE NEIGHBOUR: 'it returns false'. Refute it at one input. -/
def fnExactTreeCountWrong : ChangeSpec := { name := "fnExactTreeCount", fn := fun _ => fun
  | [d1, d2] => { results := [.lit (.bool false)], args := [d1, d2] }
  | _ => none }
def FnExactTreeCountWrongFalsely : Prop := fnExactTreeCountRow.holds Try.pinned (OpenSpec.ofChange fnExactTreeCountWrong)

/-- 'laws.FnTree': WHATEVER THE INPUT: true; the input reads as it did. -/
def fnTreeSpec : ChangeSpec := { name := "fnTree", fn := fun _ => fun
  | [d] => { results := [.lit (.bool true)], args := [d] }
  | _ => none }
def fnTreeRow : OpenClaim := { program := "ytaahjegdcahccaa", sum := "e717e97ffa86d1e4ec2e45f3f229d7ca0aa2b8f9514329d1addf5ce4191e03bd", func := "loop.example/operadtrees/laws.FnTree", spec := "fnTree", unfollowed := true, recurses := true, plainKeys := false, apart := false }
def FnTreeSaid : Prop := fnTreeRow.holds Try.pinned (OpenSpec.ofChange fnTreeSpec)

/-- ITS FALSE NEIGHBOUR: 'it returns false'. Refute it at one input. -/
def fnTreeWrong : ChangeSpec := { name := "fnTree", fn := fun _ => fun
  | [d] => { results := [.lit (.bool false)], args := [d] }
  | _ => none }
def FnTreeWrongFalsely : Prop := fnTreeRow.holds Try.pinned (OpenSpec.ofChange fnTreeWrong)

/-- 'laws.FnLeaves': WHATEVER THE INPUT: true; the input reads as it did. -/
def fnLeavesSpec : ChangeSpec := { name := "fnLeaves", fn := fun _ => fun
  | [d] => { results := [.lit (.bool true)], args := [d] }
  | _ => none }
def fnLeavesRow : OpenClaim := { program := "ytaahjegdcahccaa", sum := "e717e97ffa86d1e4ec2e45f3f229d7ca0aa2b8f9514329d1addf5ce4191e03bd", func := "loop.example/operadtrees/laws.FnLeaves", spec := "fnLeaves", unfollowed := true, recurses := true, plainKeys := false, apart := false }
def FnLeavesSaid : Prop := fnLeavesRow.holds Try.pinned (OpenSpec.ofChange fnLeavesSpec)

/-- ITS FALSE NEIGHBOUR: 'it returns false'. Refute it at one input. -/
def fnLeavesWrong : ChangeSpec := { name := "fnLeaves", fn := fun _ => fun
  | [d] => { results := [.lit (.bool false)], args := [d] }
  | _ => none }
def FnLeavesWrongFalsely : Prop := fnLeavesRow.holds Try.pinned (OpenSpec.ofChange fnLeavesWrong)

/-- 'laws.FnNodes': WHATEVER THE INPUT: true; the input reads as it did. -/
def fnNodesSpec : ChangeSpec := { name := "fnNodes", fn := fun _ => fun
  | [d] => { results := [.lit (.bool true)], args := [d] }
  | _ => none }
def fnNodesRow : OpenClaim := { program := "ytaahjegdcahccaa", sum := "e717e97ffa86d1e4ec2e45f3f229d7ca0aa2b8f9514329d1addf5ce4191e03bd", func := "loop.example/operadtrees/laws.FnNodes", spec := "fnNodes", unfollowed := true, recurses := true, plainKeys := false, apart := false }
def FnNodesSaid : Prop := fnNodesRow.holds Try.pinned (OpenSpec.ofChange fnNodesSpec)

/-- ITS FALSE NEIGHBOUR: 'it returns false'. Refute it at one input. -/
def fnNodesWrong : ChangeSpec := { name := "fnNodes", fn := fun _ => fun
  | [d] => { results := [.lit (.bool false)], args := [d] }
  | _ => none }
def FnNodesWrongFalsely : Prop := fnNodesRow.holds Try.pinned (OpenSpec.ofChange fnNodesWrong)

/-- 'laws.FnGraft': WHATEVER THE INPUT: true; the input reads as it did. -/
def fnGraftSpec : ChangeSpec := { name := "fnGraft", fn := fun _ => fun
  | [d] => { results := [.lit (.bool true)], args := [d] }
  | _ => none }
def fnGraftRow : OpenClaim := { program := "ytaahjegdcahccaa", sum := "e717e97ffa86d1e4ec2e45f3f229d7ca0aa2b8f9514329d1addf5ce4191e03bd", func := "loop.example/operadtrees/laws.FnGraft", spec := "fnGraft", unfollowed := true, recurses := true, plainKeys := false, apart := false }
def FnGraftSaid : Prop := fnGraftRow.holds Try.pinned (OpenSpec.ofChange fnGraftSpec)

/-- ITS FALSE NEIGHBOUR: 'it returns false'. Refute it at one input. -/
def fnGraftWrong : ChangeSpec := { name := "fnGraft", fn := fun _ => fun
  | [d] => { results := [.lit (.bool false)], args := [d] }
  | _ => none }
def FnGraftWrongFalsely : Prop := fnGraftRow.holds Try.pinned (OpenSpec.ofChange fnGraftWrong)

/-- 'laws.FnInner': WHATEVER THE INPUT: true; the input reads as it did. -/
def fnInnerSpec : ChangeSpec := { name := "fnInner", fn := fun _ => fun
  | [d] => { results := [.lit (.bool true)], args := [d] }
  | _ => none }
def fnInnerRow : OpenClaim := { program := "ytaahjegdcahccaa", sum := "e717e97ffa86d1e4ec2e45f3f229d7ca0aa2b8f9514329d1addf5ce4191e03bd", func := "loop.example/operadtrees/laws.FnInner", spec := "fnInner", unfollowed := true, recurses := true, plainKeys := false, apart := false }
def FnInnerSaid : Prop := fnInnerRow.holds Try.pinned (OpenSpec.ofChange fnInnerSpec)

/-- ITS FALSE NEIGHBOUR: 'it returns false'. Refute it at one input. -/
def fnInnerWrong : ChangeSpec := { name := "fnInner", fn := fun _ => fun
  | [d] => { results := [.lit (.bool false)], args := [d] }
  | _ => none }
def FnInnerWrongFalsely : Prop := fnInnerRow.holds Try.pinned (OpenSpec.ofChange fnInnerWrong)

/-- 'laws.FnBeside': WHATEVER THE INPUT: true; the input reads as it did. -/
def fnBesideSpec : ChangeSpec := { name := "fnBeside", fn := fun _ => fun
  | [d] => { results := [.lit (.bool true)], args := [d] }
  | _ => none }
def fnBesideRow : OpenClaim := { program := "ytaahjegdcahccaa", sum := "e717e97ffa86d1e4ec2e45f3f229d7ca0aa2b8f9514329d1addf5ce4191e03bd", func := "loop.example/operadtrees/laws.FnBeside", spec := "fnBeside", unfollowed := true, recurses := true, plainKeys := false, apart := false }
def FnBesideSaid : Prop := fnBesideRow.holds Try.pinned (OpenSpec.ofChange fnBesideSpec)

/-- ITS FALSE NEIGHBOUR: 'it returns false'. Refute it at one input. -/
def fnBesideWrong : ChangeSpec := { name := "fnBeside", fn := fun _ => fun
  | [d] => { results := [.lit (.bool false)], args := [d] }
  | _ => none }
def FnBesideWrongFalsely : Prop := fnBesideRow.holds Try.pinned (OpenSpec.ofChange fnBesideWrong)

/-- 'laws.FnWhole': WHATEVER THE INPUT: true; the input reads as it did. -/
def fnWholeSpec : ChangeSpec := { name := "fnWhole", fn := fun _ => fun
  | [d] => { results := [.lit (.bool true)], args := [d] }
  | _ => none }
def fnWholeRow : OpenClaim := { program := "ytaahjegdcahccaa", sum := "e717e97ffa86d1e4ec2e45f3f229d7ca0aa2b8f9514329d1addf5ce4191e03bd", func := "loop.example/operadtrees/laws.FnWhole", spec := "fnWhole", unfollowed := true, recurses := true, plainKeys := false, apart := false }
def FnWholeSaid : Prop := fnWholeRow.holds Try.pinned (OpenSpec.ofChange fnWholeSpec)

/-- ITS FALSE NEIGHBOUR: 'it returns false'. Refute it at one input. -/
def fnWholeWrong : ChangeSpec := { name := "fnWhole", fn := fun _ => fun
  | [d] => { results := [.lit (.bool false)], args := [d] }
  | _ => none }
def FnWholeWrongFalsely : Prop := fnWholeRow.holds Try.pinned (OpenSpec.ofChange fnWholeWrong)

/-- 'laws.FnMirror': WHATEVER THE INPUT: true; the input reads as it did. -/
def fnMirrorSpec : ChangeSpec := { name := "fnMirror", fn := fun _ => fun
  | [d] => { results := [.lit (.bool true)], args := [d] }
  | _ => none }
def fnMirrorRow : OpenClaim := { program := "ytaahjegdcahccaa", sum := "e717e97ffa86d1e4ec2e45f3f229d7ca0aa2b8f9514329d1addf5ce4191e03bd", func := "loop.example/operadtrees/laws.FnMirror", spec := "fnMirror", unfollowed := true, recurses := true, plainKeys := false, apart := false }
def FnMirrorSaid : Prop := fnMirrorRow.holds Try.pinned (OpenSpec.ofChange fnMirrorSpec)

/-- ITS FALSE NEIGHBOUR: 'it returns false'. Refute it at one input. -/
def fnMirrorWrong : ChangeSpec := { name := "fnMirror", fn := fun _ => fun
  | [d] => { results := [.lit (.bool false)], args := [d] }
  | _ => none }
def FnMirrorWrongFalsely : Prop := fnMirrorRow.holds Try.pinned (OpenSpec.ofChange fnMirrorWrong)

/-- 'laws.FnDepth': WHATEVER THE INPUT: true; the input reads as it did. -/
def fnDepthSpec : ChangeSpec := { name := "fnDepth", fn := fun _ => fun
  | [d] => { results := [.lit (.bool true)], args := [d] }
  | _ => none }
def fnDepthRow : OpenClaim := { program := "ytaahjegdcahccaa", sum := "e717e97ffa86d1e4ec2e45f3f229d7ca0aa2b8f9514329d1addf5ce4191e03bd", func := "loop.example/operadtrees/laws.FnDepth", spec := "fnDepth", recurses := true, plainKeys := false, apart := false }
def FnDepthSaid : Prop := fnDepthRow.holds Try.pinned (OpenSpec.ofChange fnDepthSpec)

/-- ITS FALSE NEIGHBOUR: 'it returns false'. Refute it at one input. -/
def fnDepthWrong : ChangeSpec := { name := "fnDepth", fn := fun _ => fun
  | [d] => { results := [.lit (.bool false)], args := [d] }
  | _ => none }
def FnDepthWrongFalsely : Prop := fnDepthRow.holds Try.pinned (OpenSpec.ofChange fnDepthWrong)

/-- 'laws.FnPart': WHATEVER THE INPUT: true; the input reads as it did. -/
def fnPartSpec : ChangeSpec := { name := "fnPart", fn := fun _ => fun
  | [d] => { results := [.lit (.bool true)], args := [d] }
  | _ => none }
def fnPartRow : OpenClaim := { program := "ytaahjegdcahccaa", sum := "e717e97ffa86d1e4ec2e45f3f229d7ca0aa2b8f9514329d1addf5ce4191e03bd", func := "loop.example/operadtrees/laws.FnPart", spec := "fnPart", unfollowed := true, recurses := true, plainKeys := false, apart := false }
def FnPartSaid : Prop := fnPartRow.holds Try.pinned (OpenSpec.ofChange fnPartSpec)

/-- ITS FALSE NEIGHBOUR: 'it returns false'. Refute it at one input. -/
def fnPartWrong : ChangeSpec := { name := "fnPart", fn := fun _ => fun
  | [d] => { results := [.lit (.bool false)], args := [d] }
  | _ => none }
def FnPartWrongFalsely : Prop := fnPartRow.holds Try.pinned (OpenSpec.ofChange fnPartWrong)

/-- 'laws.FnCut': WHATEVER THE INPUT: true; the input reads as it did. -/
def fnCutSpec : ChangeSpec := { name := "fnCut", fn := fun _ => fun
  | [d] => { results := [.lit (.bool true)], args := [d] }
  | _ => none }
def fnCutRow : OpenClaim := { program := "ytaahjegdcahccaa", sum := "e717e97ffa86d1e4ec2e45f3f229d7ca0aa2b8f9514329d1addf5ce4191e03bd", func := "loop.example/operadtrees/laws.FnCut", spec := "fnCut", unfollowed := true, recurses := true, plainKeys := false, apart := false }
def FnCutSaid : Prop := fnCutRow.holds Try.pinned (OpenSpec.ofChange fnCutSpec)

/-- ITS FALSE NEIGHBOUR: 'it returns false'. Refute it at one input. -/
def fnCutWrong : ChangeSpec := { name := "fnCut", fn := fun _ => fun
  | [d] => { results := [.lit (.bool false)], args := [d] }
  | _ => none }
def FnCutWrongFalsely : Prop := fnCutRow.holds Try.pinned (OpenSpec.ofChange fnCutWrong)

/-- 'laws.FnPaths': WHATEVER THE INPUT: true; the input reads as it did. -/
def fnPathsSpec : ChangeSpec := { name := "fnPaths", fn := fun _ => fun
  | [d] => { results := [.lit (.bool true)], args := [d] }
  | _ => none }
def fnPathsRow : OpenClaim := { program := "ytaahjegdcahccaa", sum := "e717e97ffa86d1e4ec2e45f3f229d7ca0aa2b8f9514329d1addf5ce4191e03bd", func := "loop.example/operadtrees/laws.FnPaths", spec := "fnPaths", unfollowed := true, recurses := true, plainKeys := false, apart := false }
def FnPathsSaid : Prop := fnPathsRow.holds Try.pinned (OpenSpec.ofChange fnPathsSpec)

/-- ITS FALSE NEIGHBOUR: 'it returns false'. Refute it at one input. -/
def fnPathsWrong : ChangeSpec := { name := "fnPaths", fn := fun _ => fun
  | [d] => { results := [.lit (.bool false)], args := [d] }
  | _ => none }
def FnPathsWrongFalsely : Prop := fnPathsRow.holds Try.pinned (OpenSpec.ofChange fnPathsWrong)

/- THE SECOND FORM. 'bulk': how many values and letters a reading holds, each counted each time it is reached (what is shared counts as often as it is met; a slice's spare places count too). A statement '..UptoSaid' is the law's where the arguments, and the package variables that the reading takes, are together of bulk at most 1048576: NARROWER than '..Said'. Prove '..Said' where nothing that the law and all that it calls make is longer than what came in: it says more and counts as full. Else prove '..UptoSaid'. A law counts once. -/
mutual
def uptoBulk {H : Type} : DataW H → Nat
  | .lit (.string bytes) => bytes.length + 1
  | .lit _ => 1
  | .nil => 1
  | .ptr d => uptoBulk d + 1
  | .slice elems spare => uptoBulkAll elems + uptoBulkAll spare + 1
  | .agg parts => uptoBulkAll parts + 1
  | .iface _ d => uptoBulk d + 1
  | .map entries => uptoBulkEntries entries + 1
  | .held _ => 1
def uptoBulkAll {H : Type} : List (DataW H) → Nat
  | [] => 0
  | d :: r => uptoBulk d + uptoBulkAll r
def uptoBulkEntries {H : Type} : List (Lit × DataW H) → Nat
  | [] => 0
  | x :: r => uptoBulkEntry x + uptoBulkEntries r
def uptoBulkEntry {H : Type} : Lit × DataW H → Nat
  | (.string bytes, d) => bytes.length + uptoBulk d + 1
  | (_, d) => uptoBulk d + 1
 end
def uptoSmall : (H : Type) → List (DataW H) → Bool := fun _ ds => decide (uptoBulkAll ds ≤ 1048576)
def OpenSpec.upto (s : _root_.Go.ChangeSpec) : _root_.Go.OpenSpec := { _root_.Go.OpenSpec.ofChange s with cond := some uptoSmall }

/-- 'laws.FnExactTreeValid', WHERE WHAT IT READS IS OF BULK AT MOST 1048576: true; the input reads as it did. -/
def fnExactTreeValidUptoRow : OpenClaim := { program := "ytaahjegdcahccaa", sum := "e717e97ffa86d1e4ec2e45f3f229d7ca0aa2b8f9514329d1addf5ce4191e03bd", func := "loop.example/operadtrees/laws.FnExactTreeValid", spec := "fnExactTreeValid", recurses := true, plainKeys := false, apart := false, narrowed := true }
def FnExactTreeValidUptoSaid : Prop := fnExactTreeValidUptoRow.holds Try.pinned (OpenSpec.upto fnExactTreeValidSpec)

/-- 'laws.FnExactTreeLeaves', WHERE WHAT IT READS IS OF BULK AT MOST 1048576: true; the input reads as it did. -/
def fnExactTreeLeavesUptoRow : OpenClaim := { program := "ytaahjegdcahccaa", sum := "e717e97ffa86d1e4ec2e45f3f229d7ca0aa2b8f9514329d1addf5ce4191e03bd", func := "loop.example/operadtrees/laws.FnExactTreeLeaves", spec := "fnExactTreeLeaves", unfollowed := true, recurses := true, plainKeys := false, apart := false, narrowed := true }
def FnExactTreeLeavesUptoSaid : Prop := fnExactTreeLeavesUptoRow.holds Try.pinned (OpenSpec.upto fnExactTreeLeavesSpec)

/-- 'laws.FnExactTreeNodes', WHERE WHAT IT READS IS OF BULK AT MOST 1048576: true; the input reads as it did. -/
def fnExactTreeNodesUptoRow : OpenClaim := { program := "ytaahjegdcahccaa", sum := "e717e97ffa86d1e4ec2e45f3f229d7ca0aa2b8f9514329d1addf5ce4191e03bd", func := "loop.example/operadtrees/laws.FnExactTreeNodes", spec := "fnExactTreeNodes", unfollowed := true, recurses := true, plainKeys := false, apart := false, narrowed := true }
def FnExactTreeNodesUptoSaid : Prop := fnExactTreeNodesUptoRow.holds Try.pinned (OpenSpec.upto fnExactTreeNodesSpec)

/-- 'laws.FnExactTreeGraft', WHERE WHAT IT READS IS OF BULK AT MOST 1048576: true; the input reads as it did. -/
def fnExactTreeGraftUptoRow : OpenClaim := { program := "ytaahjegdcahccaa", sum := "e717e97ffa86d1e4ec2e45f3f229d7ca0aa2b8f9514329d1addf5ce4191e03bd", func := "loop.example/operadtrees/laws.FnExactTreeGraft", spec := "fnExactTreeGraft", unfollowed := true, recurses := true, plainKeys := false, apart := false, narrowed := true }
def FnExactTreeGraftUptoSaid : Prop := fnExactTreeGraftUptoRow.holds Try.pinned (OpenSpec.upto fnExactTreeGraftSpec)

/-- 'laws.FnExactTreeWhole', WHERE WHAT IT READS IS OF BULK AT MOST 1048576: true; the input reads as it did. -/
def fnExactTreeWholeUptoRow : OpenClaim := { program := "ytaahjegdcahccaa", sum := "e717e97ffa86d1e4ec2e45f3f229d7ca0aa2b8f9514329d1addf5ce4191e03bd", func := "loop.example/operadtrees/laws.FnExactTreeWhole", spec := "fnExactTreeWhole", unfollowed := true, recurses := true, plainKeys := false, apart := false, narrowed := true }
def FnExactTreeWholeUptoSaid : Prop := fnExactTreeWholeUptoRow.holds Try.pinned (OpenSpec.upto fnExactTreeWholeSpec)

/-- 'laws.FnExactTreeMirror', WHERE WHAT IT READS IS OF BULK AT MOST 1048576: true; the input reads as it did. -/
def fnExactTreeMirrorUptoRow : OpenClaim := { program := "ytaahjegdcahccaa", sum := "e717e97ffa86d1e4ec2e45f3f229d7ca0aa2b8f9514329d1addf5ce4191e03bd", func := "loop.example/operadtrees/laws.FnExactTreeMirror", spec := "fnExactTreeMirror", unfollowed := true, recurses := true, plainKeys := false, apart := false, narrowed := true }
def FnExactTreeMirrorUptoSaid : Prop := fnExactTreeMirrorUptoRow.holds Try.pinned (OpenSpec.upto fnExactTreeMirrorSpec)

/-- 'laws.FnExactTreeDepth', WHERE WHAT IT READS IS OF BULK AT MOST 1048576: true; the input reads as it did. -/
def fnExactTreeDepthUptoRow : OpenClaim := { program := "ytaahjegdcahccaa", sum := "e717e97ffa86d1e4ec2e45f3f229d7ca0aa2b8f9514329d1addf5ce4191e03bd", func := "loop.example/operadtrees/laws.FnExactTreeDepth", spec := "fnExactTreeDepth", recurses := true, plainKeys := false, apart := false, narrowed := true }
def FnExactTreeDepthUptoSaid : Prop := fnExactTreeDepthUptoRow.holds Try.pinned (OpenSpec.upto fnExactTreeDepthSpec)

/-- 'laws.FnExactTreePart', WHERE WHAT IT READS IS OF BULK AT MOST 1048576: true; the input reads as it did. -/
def fnExactTreePartUptoRow : OpenClaim := { program := "ytaahjegdcahccaa", sum := "e717e97ffa86d1e4ec2e45f3f229d7ca0aa2b8f9514329d1addf5ce4191e03bd", func := "loop.example/operadtrees/laws.FnExactTreePart", spec := "fnExactTreePart", unfollowed := true, recurses := true, plainKeys := false, apart := false, narrowed := true }
def FnExactTreePartUptoSaid : Prop := fnExactTreePartUptoRow.holds Try.pinned (OpenSpec.upto fnExactTreePartSpec)

/-- 'laws.FnExactTreeCut', WHERE WHAT IT READS IS OF BULK AT MOST 1048576: true; the input reads as it did. -/
def fnExactTreeCutUptoRow : OpenClaim := { program := "ytaahjegdcahccaa", sum := "e717e97ffa86d1e4ec2e45f3f229d7ca0aa2b8f9514329d1addf5ce4191e03bd", func := "loop.example/operadtrees/laws.FnExactTreeCut", spec := "fnExactTreeCut", unfollowed := true, recurses := true, plainKeys := false, apart := false, narrowed := true }
def FnExactTreeCutUptoSaid : Prop := fnExactTreeCutUptoRow.holds Try.pinned (OpenSpec.upto fnExactTreeCutSpec)

/-- 'laws.FnExactTreePaths', WHERE WHAT IT READS IS OF BULK AT MOST 1048576: true; the input reads as it did. -/
def fnExactTreePathsUptoRow : OpenClaim := { program := "ytaahjegdcahccaa", sum := "e717e97ffa86d1e4ec2e45f3f229d7ca0aa2b8f9514329d1addf5ce4191e03bd", func := "loop.example/operadtrees/laws.FnExactTreePaths", spec := "fnExactTreePaths", recurses := true, plainKeys := false, apart := false, narrowed := true }
def FnExactTreePathsUptoSaid : Prop := fnExactTreePathsUptoRow.holds Try.pinned (OpenSpec.upto fnExactTreePathsSpec)

/-- 'laws.FnExactSignValid', WHERE WHAT IT READS IS OF BULK AT MOST 1048576: true; the input reads as it did. -/
def fnExactSignValidUptoRow : OpenClaim := { program := "ytaahjegdcahccaa", sum := "e717e97ffa86d1e4ec2e45f3f229d7ca0aa2b8f9514329d1addf5ce4191e03bd", func := "loop.example/operadtrees/laws.FnExactSignValid", spec := "fnExactSignValid", plainKeys := false, apart := false, narrowed := true }
def FnExactSignValidUptoSaid : Prop := fnExactSignValidUptoRow.holds Try.pinned (OpenSpec.upto fnExactSignValidSpec)

/-- 'laws.FnExactSignOver', WHERE WHAT IT READS IS OF BULK AT MOST 1048576: true; the input reads as it did. -/
def fnExactSignOverUptoRow : OpenClaim := { program := "ytaahjegdcahccaa", sum := "e717e97ffa86d1e4ec2e45f3f229d7ca0aa2b8f9514329d1addf5ce4191e03bd", func := "loop.example/operadtrees/laws.FnExactSignOver", spec := "fnExactSignOver", unfollowed := true, recurses := true, plainKeys := false, apart := false, narrowed := true }
def FnExactSignOverUptoSaid : Prop := fnExactSignOverUptoRow.holds Try.pinned (OpenSpec.upto fnExactSignOverSpec)

/-- 'laws.FnExactTreeOrder', WHERE WHAT IT READS IS OF BULK AT MOST 1048576: true; the input reads as it did. -/
def fnExactTreeOrderUptoRow : OpenClaim := { program := "ytaahjegdcahccaa", sum := "e717e97ffa86d1e4ec2e45f3f229d7ca0aa2b8f9514329d1addf5ce4191e03bd", func := "loop.example/operadtrees/laws.FnExactTreeOrder", spec := "fnExactTreeOrder", inPlace := ["internal/bytealg.abigen_runtime_cmpstring"], unfollowed := true, recurses := true, plainKeys := false, apart := false, narrowed := true }
def FnExactTreeOrderUptoSaid : Prop := fnExactTreeOrderUptoRow.holds Try.pinned (OpenSpec.upto fnExactTreeOrderSpec)

/-- 'laws.FnExactTreeCount', WHERE WHAT IT READS IS OF BULK AT MOST 1048576: true; the input reads as it did. -/
def fnExactTreeCountUptoRow : OpenClaim := { program := "ytaahjegdcahccaa", sum := "e717e97ffa86d1e4ec2e45f3f229d7ca0aa2b8f9514329d1addf5ce4191e03bd", func := "loop.example/operadtrees/laws.FnExactTreeCount", spec := "fnExactTreeCount", unfollowed := true, recurses := true, plainKeys := false, apart := false, narrowed := true }
def FnExactTreeCountUptoSaid : Prop := fnExactTreeCountUptoRow.holds Try.pinned (OpenSpec.upto fnExactTreeCountSpec)

/-- 'laws.FnTree', WHERE WHAT IT READS IS OF BULK AT MOST 1048576: true; the input reads as it did. -/
def fnTreeUptoRow : OpenClaim := { program := "ytaahjegdcahccaa", sum := "e717e97ffa86d1e4ec2e45f3f229d7ca0aa2b8f9514329d1addf5ce4191e03bd", func := "loop.example/operadtrees/laws.FnTree", spec := "fnTree", unfollowed := true, recurses := true, plainKeys := false, apart := false, narrowed := true }
def FnTreeUptoSaid : Prop := fnTreeUptoRow.holds Try.pinned (OpenSpec.upto fnTreeSpec)

/-- 'laws.FnLeaves', WHERE WHAT IT READS IS OF BULK AT MOST 1048576: true; the input reads as it did. -/
def fnLeavesUptoRow : OpenClaim := { program := "ytaahjegdcahccaa", sum := "e717e97ffa86d1e4ec2e45f3f229d7ca0aa2b8f9514329d1addf5ce4191e03bd", func := "loop.example/operadtrees/laws.FnLeaves", spec := "fnLeaves", unfollowed := true, recurses := true, plainKeys := false, apart := false, narrowed := true }
def FnLeavesUptoSaid : Prop := fnLeavesUptoRow.holds Try.pinned (OpenSpec.upto fnLeavesSpec)

/-- 'laws.FnNodes', WHERE WHAT IT READS IS OF BULK AT MOST 1048576: true; the input reads as it did. -/
def fnNodesUptoRow : OpenClaim := { program := "ytaahjegdcahccaa", sum := "e717e97ffa86d1e4ec2e45f3f229d7ca0aa2b8f9514329d1addf5ce4191e03bd", func := "loop.example/operadtrees/laws.FnNodes", spec := "fnNodes", unfollowed := true, recurses := true, plainKeys := false, apart := false, narrowed := true }
def FnNodesUptoSaid : Prop := fnNodesUptoRow.holds Try.pinned (OpenSpec.upto fnNodesSpec)

/-- 'laws.FnGraft', WHERE WHAT IT READS IS OF BULK AT MOST 1048576: true; the input reads as it did. -/
def fnGraftUptoRow : OpenClaim := { program := "ytaahjegdcahccaa", sum := "e717e97ffa86d1e4ec2e45f3f229d7ca0aa2b8f9514329d1addf5ce4191e03bd", func := "loop.example/operadtrees/laws.FnGraft", spec := "fnGraft", unfollowed := true, recurses := true, plainKeys := false, apart := false, narrowed := true }
def FnGraftUptoSaid : Prop := fnGraftUptoRow.holds Try.pinned (OpenSpec.upto fnGraftSpec)

/-- 'laws.FnInner', WHERE WHAT IT READS IS OF BULK AT MOST 1048576: true; the input reads as it did. -/
def fnInnerUptoRow : OpenClaim := { program := "ytaahjegdcahccaa", sum := "e717e97ffa86d1e4ec2e45f3f229d7ca0aa2b8f9514329d1addf5ce4191e03bd", func := "loop.example/operadtrees/laws.FnInner", spec := "fnInner", unfollowed := true, recurses := true, plainKeys := false, apart := false, narrowed := true }
def FnInnerUptoSaid : Prop := fnInnerUptoRow.holds Try.pinned (OpenSpec.upto fnInnerSpec)

/-- 'laws.FnBeside', WHERE WHAT IT READS IS OF BULK AT MOST 1048576: true; the input reads as it did. -/
def fnBesideUptoRow : OpenClaim := { program := "ytaahjegdcahccaa", sum := "e717e97ffa86d1e4ec2e45f3f229d7ca0aa2b8f9514329d1addf5ce4191e03bd", func := "loop.example/operadtrees/laws.FnBeside", spec := "fnBeside", unfollowed := true, recurses := true, plainKeys := false, apart := false, narrowed := true }
def FnBesideUptoSaid : Prop := fnBesideUptoRow.holds Try.pinned (OpenSpec.upto fnBesideSpec)

/-- 'laws.FnWhole', WHERE WHAT IT READS IS OF BULK AT MOST 1048576: true; the input reads as it did. -/
def fnWholeUptoRow : OpenClaim := { program := "ytaahjegdcahccaa", sum := "e717e97ffa86d1e4ec2e45f3f229d7ca0aa2b8f9514329d1addf5ce4191e03bd", func := "loop.example/operadtrees/laws.FnWhole", spec := "fnWhole", unfollowed := true, recurses := true, plainKeys := false, apart := false, narrowed := true }
def FnWholeUptoSaid : Prop := fnWholeUptoRow.holds Try.pinned (OpenSpec.upto fnWholeSpec)

/-- 'laws.FnMirror', WHERE WHAT IT READS IS OF BULK AT MOST 1048576: true; the input reads as it did. -/
def fnMirrorUptoRow : OpenClaim := { program := "ytaahjegdcahccaa", sum := "e717e97ffa86d1e4ec2e45f3f229d7ca0aa2b8f9514329d1addf5ce4191e03bd", func := "loop.example/operadtrees/laws.FnMirror", spec := "fnMirror", unfollowed := true, recurses := true, plainKeys := false, apart := false, narrowed := true }
def FnMirrorUptoSaid : Prop := fnMirrorUptoRow.holds Try.pinned (OpenSpec.upto fnMirrorSpec)

/-- 'laws.FnDepth', WHERE WHAT IT READS IS OF BULK AT MOST 1048576: true; the input reads as it did. -/
def fnDepthUptoRow : OpenClaim := { program := "ytaahjegdcahccaa", sum := "e717e97ffa86d1e4ec2e45f3f229d7ca0aa2b8f9514329d1addf5ce4191e03bd", func := "loop.example/operadtrees/laws.FnDepth", spec := "fnDepth", recurses := true, plainKeys := false, apart := false, narrowed := true }
def FnDepthUptoSaid : Prop := fnDepthUptoRow.holds Try.pinned (OpenSpec.upto fnDepthSpec)

/-- 'laws.FnPart', WHERE WHAT IT READS IS OF BULK AT MOST 1048576: true; the input reads as it did. -/
def fnPartUptoRow : OpenClaim := { program := "ytaahjegdcahccaa", sum := "e717e97ffa86d1e4ec2e45f3f229d7ca0aa2b8f9514329d1addf5ce4191e03bd", func := "loop.example/operadtrees/laws.FnPart", spec := "fnPart", unfollowed := true, recurses := true, plainKeys := false, apart := false, narrowed := true }
def FnPartUptoSaid : Prop := fnPartUptoRow.holds Try.pinned (OpenSpec.upto fnPartSpec)

/-- 'laws.FnCut', WHERE WHAT IT READS IS OF BULK AT MOST 1048576: true; the input reads as it did. -/
def fnCutUptoRow : OpenClaim := { program := "ytaahjegdcahccaa", sum := "e717e97ffa86d1e4ec2e45f3f229d7ca0aa2b8f9514329d1addf5ce4191e03bd", func := "loop.example/operadtrees/laws.FnCut", spec := "fnCut", unfollowed := true, recurses := true, plainKeys := false, apart := false, narrowed := true }
def FnCutUptoSaid : Prop := fnCutUptoRow.holds Try.pinned (OpenSpec.upto fnCutSpec)

/-- 'laws.FnPaths', WHERE WHAT IT READS IS OF BULK AT MOST 1048576: true; the input reads as it did. -/
def fnPathsUptoRow : OpenClaim := { program := "ytaahjegdcahccaa", sum := "e717e97ffa86d1e4ec2e45f3f229d7ca0aa2b8f9514329d1addf5ce4191e03bd", func := "loop.example/operadtrees/laws.FnPaths", spec := "fnPaths", unfollowed := true, recurses := true, plainKeys := false, apart := false, narrowed := true }
def FnPathsUptoSaid : Prop := fnPathsUptoRow.holds Try.pinned (OpenSpec.upto fnPathsSpec)

end Rows
end Go.Proofs.Ytaahjegdcahccaa
