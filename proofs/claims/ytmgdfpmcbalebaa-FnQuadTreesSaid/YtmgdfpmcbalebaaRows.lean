/-
  No cell of these rows narrows 'for every input' (looked for: loops, veiled, ifaces, maps, wideKeys, modest, calm, conditions, laid).
  DERIVED. THE GIVEN ROWS OF THIS SEAT. 7 by the template 'for every input the law returns true; each argument reads behind the call as it read before'; 0 by the template 'total and deterministic' (their statements: YtmgdfpmcbalebaaTotals.lean).
  GIVEN WITH THE SEED: the statements are not yours to turn. If you find one false, say at which input.
  Laid BY PROGRAM, IN A SANDBOX (cutbox-rows.mjs): the forced cells as the released guide's own fill.sh prints them over the translation fb8e86eca143a4ff… (all of the seat's roots in one cut). By AI agents, Wed Nov 11 2026. No macro, syntax, notation, axiom, sorry.
-/
import Derived.Test.YtmgdfpmcbalebaaChecked
import GoSem.Claim
import GoSem.ClaimJoined
import GoSem.ClaimMapViews
import Derived.JoinedTies
import Derived.KernelRfl
namespace Go.Proofs.Ytmgdfpmcbalebaa
/- THE CELL 'sum', in the pinned program and in every row, IS THE sha256 OF THE DUMP (.gsa) THAT YtmgdfpmcbalebaaProg.lean LOADS. Nothing in Lean hashes anything: it is a label: what it is worth is what the hold of that sum in a sandbox is worth. -/
noncomputable def Try.pinned : Pinned := { name := "ytmgdfpmcbalebaa", sum := "fb8e86eca143a4ffdd163f70344ffe248aa96a8f73e517e67b7603fbb4f99f0b", checked := Try.checked }
namespace Rows
def none {H : Type} : Left H := { results := [], args := [] }

/-- 'laws.FnExactQuadTrees': WHATEVER THE INPUT: true; the input reads as it did. -/
def fnExactQuadTreesSpec : ChangeSpec := { name := "fnExactQuadTrees", fn := fun _ => fun
  | [d] => { results := [.lit (.bool true)], args := [d] }
  | _ => none }
def fnExactQuadTreesRow : OpenClaim := { program := "ytmgdfpmcbalebaa", sum := "fb8e86eca143a4ffdd163f70344ffe248aa96a8f73e517e67b7603fbb4f99f0b", func := "loop.example/operadtrees/laws.FnExactQuadTrees", spec := "fnExactQuadTrees", inPlace := ["internal/bytealg.abigen_runtime_cmpstring"], unfollowed := true, recurses := true, plainKeys := false, apart := false }
def FnExactQuadTreesSaid : Prop := fnExactQuadTreesRow.holds Try.pinned (OpenSpec.ofChange fnExactQuadTreesSpec)

/-- ITS FALSE NEIGHBOUR: 'it returns false'. Refute it at one input. -/
def fnExactQuadTreesWrong : ChangeSpec := { name := "fnExactQuadTrees", fn := fun _ => fun
  | [d] => { results := [.lit (.bool false)], args := [d] }
  | _ => none }
def FnExactQuadTreesWrongFalsely : Prop := fnExactQuadTreesRow.holds Try.pinned (OpenSpec.ofChange fnExactQuadTreesWrong)

/-- 'laws.FnExactQuadPair': WHATEVER THE INPUT: true; the input reads as it did. -/
def fnExactQuadPairSpec : ChangeSpec := { name := "fnExactQuadPair", fn := fun _ => fun
  | [d1, d2, d3] => { results := [.lit (.bool true)], args := [d1, d2, d3] }
  | _ => none }
def fnExactQuadPairRow : OpenClaim := { program := "ytmgdfpmcbalebaa", sum := "fb8e86eca143a4ffdd163f70344ffe248aa96a8f73e517e67b7603fbb4f99f0b", func := "loop.example/operadtrees/laws.FnExactQuadPair", spec := "fnExactQuadPair", inPlace := ["internal/bytealg.abigen_runtime_cmpstring"], unfollowed := true, recurses := true, plainKeys := false, apart := false }
def FnExactQuadPairSaid : Prop := fnExactQuadPairRow.holds Try.pinned (OpenSpec.ofChange fnExactQuadPairSpec)

/-- ITS FALSE NEIGHBOUR: 'it returns false'. Refute it at one input. -/
def fnExactQuadPairWrong : ChangeSpec := { name := "fnExactQuadPair", fn := fun _ => fun
  | [d1, d2, d3] => { results := [.lit (.bool false)], args := [d1, d2, d3] }
  | _ => none }
def FnExactQuadPairWrongFalsely : Prop := fnExactQuadPairRow.holds Try.pinned (OpenSpec.ofChange fnExactQuadPairWrong)

/-- 'laws.FnQuadTrees': WHATEVER THE INPUT: true; the input reads as it did. -/
def fnQuadTreesSpec : ChangeSpec := { name := "fnQuadTrees", fn := fun _ => fun
  | [d] => { results := [.lit (.bool true)], args := [d] }
  | _ => none }
def fnQuadTreesRow : OpenClaim := { program := "ytmgdfpmcbalebaa", sum := "fb8e86eca143a4ffdd163f70344ffe248aa96a8f73e517e67b7603fbb4f99f0b", func := "loop.example/operadtrees/laws.FnQuadTrees", spec := "fnQuadTrees", inPlace := ["internal/bytealg.abigen_runtime_cmpstring"], unfollowed := true, recurses := true, plainKeys := false, apart := false }
def FnQuadTreesSaid : Prop := fnQuadTreesRow.holds Try.pinned (OpenSpec.ofChange fnQuadTreesSpec)

/-- ITS FALSE NEIGHBOUR: 'it returns false'. Refute it at one input. -/
def fnQuadTreesWrong : ChangeSpec := { name := "fnQuadTrees", fn := fun _ => fun
  | [d] => { results := [.lit (.bool false)], args := [d] }
  | _ => none }
def FnQuadTreesWrongFalsely : Prop := fnQuadTreesRow.holds Try.pinned (OpenSpec.ofChange fnQuadTreesWrong)

/-- 'laws.FnExactSignOf': WHATEVER THE INPUT: true; the input reads as it did. -/
def fnExactSignOfSpec : ChangeSpec := { name := "fnExactSignOf", fn := fun _ => fun
  | [d] => { results := [.lit (.bool true)], args := [d] }
  | _ => none }
def fnExactSignOfRow : OpenClaim := { program := "ytmgdfpmcbalebaa", sum := "fb8e86eca143a4ffdd163f70344ffe248aa96a8f73e517e67b7603fbb4f99f0b", func := "loop.example/operadtrees/laws.FnExactSignOf", spec := "fnExactSignOf", unfollowed := true, recurses := true, plainKeys := false, apart := false }
def FnExactSignOfSaid : Prop := fnExactSignOfRow.holds Try.pinned (OpenSpec.ofChange fnExactSignOfSpec)

/-- ITS FALSE NEIGHBOUR: 'it returns false'. Refute it at one input. -/
def fnExactSignOfWrong : ChangeSpec := { name := "fnExactSignOf", fn := fun _ => fun
  | [d] => { results := [.lit (.bool false)], args := [d] }
  | _ => none }
def FnExactSignOfWrongFalsely : Prop := fnExactSignOfRow.holds Try.pinned (OpenSpec.ofChange fnExactSignOfWrong)

/-- 'laws.FnSignOf': WHATEVER THE INPUT: true; the input reads as it did. -/
def fnSignOfSpec : ChangeSpec := { name := "fnSignOf", fn := fun _ => fun
  | [d] => { results := [.lit (.bool true)], args := [d] }
  | _ => none }
def fnSignOfRow : OpenClaim := { program := "ytmgdfpmcbalebaa", sum := "fb8e86eca143a4ffdd163f70344ffe248aa96a8f73e517e67b7603fbb4f99f0b", func := "loop.example/operadtrees/laws.FnSignOf", spec := "fnSignOf", unfollowed := true, recurses := true, plainKeys := false, apart := false }
def FnSignOfSaid : Prop := fnSignOfRow.holds Try.pinned (OpenSpec.ofChange fnSignOfSpec)

/-- ITS FALSE NEIGHBOUR: 'it returns false'. Refute it at one input. -/
def fnSignOfWrong : ChangeSpec := { name := "fnSignOf", fn := fun _ => fun
  | [d] => { results := [.lit (.bool false)], args := [d] }
  | _ => none }
def FnSignOfWrongFalsely : Prop := fnSignOfRow.holds Try.pinned (OpenSpec.ofChange fnSignOfWrong)

/-- 'laws.FnExactTreeCount': WHATEVER THE INPUT: true; the input reads as it did. -/
def fnExactTreeCountSpec : ChangeSpec := { name := "fnExactTreeCount", fn := fun _ => fun
  | [d1, d2] => { results := [.lit (.bool true)], args := [d1, d2] }
  | _ => none }
def fnExactTreeCountRow : OpenClaim := { program := "ytmgdfpmcbalebaa", sum := "fb8e86eca143a4ffdd163f70344ffe248aa96a8f73e517e67b7603fbb4f99f0b", func := "loop.example/operadtrees/laws.FnExactTreeCount", spec := "fnExactTreeCount", unfollowed := true, recurses := true, plainKeys := false, apart := false }
def FnExactTreeCountSaid : Prop := fnExactTreeCountRow.holds Try.pinned (OpenSpec.ofChange fnExactTreeCountSpec)

/-- ITS FALSE NEIGHBOUR: 'it returns false'. Refute it at one input. -/
def fnExactTreeCountWrong : ChangeSpec := { name := "fnExactTreeCount", fn := fun _ => fun
  | [d1, d2] => { results := [.lit (.bool false)], args := [d1, d2] }
  | _ => none }
def FnExactTreeCountWrongFalsely : Prop := fnExactTreeCountRow.holds Try.pinned (OpenSpec.ofChange fnExactTreeCountWrong)

/-- 'laws.FnCount': WHATEVER THE INPUT: true; the input reads as it did. -/
def fnCountSpec : ChangeSpec := { name := "fnCount", fn := fun _ => fun
  | [d] => { results := [.lit (.bool true)], args := [d] }
  | _ => none }
def fnCountRow : OpenClaim := { program := "ytmgdfpmcbalebaa", sum := "fb8e86eca143a4ffdd163f70344ffe248aa96a8f73e517e67b7603fbb4f99f0b", func := "loop.example/operadtrees/laws.FnCount", spec := "fnCount", inPlace := ["internal/bytealg.abigen_runtime_cmpstring"], unfollowed := true, recurses := true, plainKeys := false, apart := false }
def FnCountSaid : Prop := fnCountRow.holds Try.pinned (OpenSpec.ofChange fnCountSpec)

/-- ITS FALSE NEIGHBOUR: 'it returns false'. Refute it at one input. -/
def fnCountWrong : ChangeSpec := { name := "fnCount", fn := fun _ => fun
  | [d] => { results := [.lit (.bool false)], args := [d] }
  | _ => none }
def FnCountWrongFalsely : Prop := fnCountRow.holds Try.pinned (OpenSpec.ofChange fnCountWrong)

/- THE SECOND FORM. 'bulk': how many values and letters a reading holds, each counted each time it is reached (what is shared counts as often as it is met; a slice's spare places count too). A statement '..UptoSaid' is the law's where the arguments, and the package variables that the reading takes, are together of bulk at most 1048576: NARROWER than '..Said'. Prove '..Said' where nothing that the law and all that it calls make is longer than what came in: it says more and counts as full. Else prove '..UptoSaid'. A law counts once. -/
mutual
def uptoBulk {H : Type} : DataW H → Nat
  | .lit (.string bytes) => bytes.length + 1
  | .lit _ => 1
  | .nil => 1
  | .ptr d => uptoBulk d + 1
  | .slice elems spare => uptoBulkAll elems + uptoBulkAll spare + 1
  | .agg parts => uptoBulkAll parts + 1
  | .iface _ d => uptoBulk d + 1
  | .map entries => uptoBulkEntries entries + 1
  | .held _ => 1
def uptoBulkAll {H : Type} : List (DataW H) → Nat
  | [] => 0
  | d :: r => uptoBulk d + uptoBulkAll r
def uptoBulkEntries {H : Type} : List (Lit × DataW H) → Nat
  | [] => 0
  | x :: r => uptoBulkEntry x + uptoBulkEntries r
def uptoBulkEntry {H : Type} : Lit × DataW H → Nat
  | (.string bytes, d) => bytes.length + uptoBulk d + 1
  | (_, d) => uptoBulk d + 1
 end
def uptoSmall : (H : Type) → List (DataW H) → Bool := fun _ ds => decide (uptoBulkAll ds ≤ 1048576)
def OpenSpec.upto (s : _root_.Go.ChangeSpec) : _root_.Go.OpenSpec := { _root_.Go.OpenSpec.ofChange s with cond := some uptoSmall }

/-- 'laws.FnExactQuadTrees', WHERE WHAT IT READS IS OF BULK AT MOST 1048576: true; the input reads as it did. -/
def fnExactQuadTreesUptoRow : OpenClaim := { program := "ytmgdfpmcbalebaa", sum := "fb8e86eca143a4ffdd163f70344ffe248aa96a8f73e517e67b7603fbb4f99f0b", func := "loop.example/operadtrees/laws.FnExactQuadTrees", spec := "fnExactQuadTrees", inPlace := ["internal/bytealg.abigen_runtime_cmpstring"], unfollowed := true, recurses := true, plainKeys := false, apart := false, narrowed := true }
def FnExactQuadTreesUptoSaid : Prop := fnExactQuadTreesUptoRow.holds Try.pinned (OpenSpec.upto fnExactQuadTreesSpec)

/-- 'laws.FnExactQuadPair', WHERE WHAT IT READS IS OF BULK AT MOST 1048576: true; the input reads as it did. -/
def fnExactQuadPairUptoRow : OpenClaim := { program := "ytmgdfpmcbalebaa", sum := "fb8e86eca143a4ffdd163f70344ffe248aa96a8f73e517e67b7603fbb4f99f0b", func := "loop.example/operadtrees/laws.FnExactQuadPair", spec := "fnExactQuadPair", inPlace := ["internal/bytealg.abigen_runtime_cmpstring"], unfollowed := true, recurses := true, plainKeys := false, apart := false, narrowed := true }
def FnExactQuadPairUptoSaid : Prop := fnExactQuadPairUptoRow.holds Try.pinned (OpenSpec.upto fnExactQuadPairSpec)

/-- 'laws.FnQuadTrees', WHERE WHAT IT READS IS OF BULK AT MOST 1048576: true; the input reads as it did. -/
def fnQuadTreesUptoRow : OpenClaim := { program := "ytmgdfpmcbalebaa", sum := "fb8e86eca143a4ffdd163f70344ffe248aa96a8f73e517e67b7603fbb4f99f0b", func := "loop.example/operadtrees/laws.FnQuadTrees", spec := "fnQuadTrees", inPlace := ["internal/bytealg.abigen_runtime_cmpstring"], unfollowed := true, recurses := true, plainKeys := false, apart := false, narrowed := true }
def FnQuadTreesUptoSaid : Prop := fnQuadTreesUptoRow.holds Try.pinned (OpenSpec.upto fnQuadTreesSpec)

/-- 'laws.FnExactSignOf', WHERE WHAT IT READS IS OF BULK AT MOST 1048576: true; the input reads as it did. -/
def fnExactSignOfUptoRow : OpenClaim := { program := "ytmgdfpmcbalebaa", sum := "fb8e86eca143a4ffdd163f70344ffe248aa96a8f73e517e67b7603fbb4f99f0b", func := "loop.example/operadtrees/laws.FnExactSignOf", spec := "fnExactSignOf", unfollowed := true, recurses := true, plainKeys := false, apart := false, narrowed := true }
def FnExactSignOfUptoSaid : Prop := fnExactSignOfUptoRow.holds Try.pinned (OpenSpec.upto fnExactSignOfSpec)

/-- 'laws.FnSignOf', WHERE WHAT IT READS IS OF BULK AT MOST 1048576: true; the input reads as it did. -/
def fnSignOfUptoRow : OpenClaim := { program := "ytmgdfpmcbalebaa", sum := "fb8e86eca143a4ffdd163f70344ffe248aa96a8f73e517e67b7603fbb4f99f0b", func := "loop.example/operadtrees/laws.FnSignOf", spec := "fnSignOf", unfollowed := true, recurses := true, plainKeys := false, apart := false, narrowed := true }
def FnSignOfUptoSaid : Prop := fnSignOfUptoRow.holds Try.pinned (OpenSpec.upto fnSignOfSpec)

/-- 'laws.FnExactTreeCount', WHERE WHAT IT READS IS OF BULK AT MOST 1048576: true; the input reads as it did. -/
def fnExactTreeCountUptoRow : OpenClaim := { program := "ytmgdfpmcbalebaa", sum := "fb8e86eca143a4ffdd163f70344ffe248aa96a8f73e517e67b7603fbb4f99f0b", func := "loop.example/operadtrees/laws.FnExactTreeCount", spec := "fnExactTreeCount", unfollowed := true, recurses := true, plainKeys := false, apart := false, narrowed := true }
def FnExactTreeCountUptoSaid : Prop := fnExactTreeCountUptoRow.holds Try.pinned (OpenSpec.upto fnExactTreeCountSpec)

/-- 'laws.FnCount', WHERE WHAT IT READS IS OF BULK AT MOST 1048576: true; the input reads as it did. -/
def fnCountUptoRow : OpenClaim := { program := "ytmgdfpmcbalebaa", sum := "fb8e86eca143a4ffdd163f70344ffe248aa96a8f73e517e67b7603fbb4f99f0b", func := "loop.example/operadtrees/laws.FnCount", spec := "fnCount", inPlace := ["internal/bytealg.abigen_runtime_cmpstring"], unfollowed := true, recurses := true, plainKeys := false, apart := false, narrowed := true }
def FnCountUptoSaid : Prop := fnCountUptoRow.holds Try.pinned (OpenSpec.upto fnCountSpec)

end Rows
end Go.Proofs.Ytmgdfpmcbalebaa
