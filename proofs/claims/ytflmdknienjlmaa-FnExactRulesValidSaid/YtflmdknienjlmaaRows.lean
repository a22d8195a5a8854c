/-
  No cell of these rows narrows 'for every input' (looked for: loops, veiled, ifaces, maps, wideKeys, modest, calm, conditions, laid).
  DERIVED. THE GIVEN ROWS OF THIS SEAT. 8 by the template 'for every input the law returns true; each argument reads behind the call as it read before'; 0 by the template 'total and deterministic' (their statements: YtflmdknienjlmaaTotals.lean).
  GIVEN WITH THE SEED: the statements are not yours to turn. If you find one false, say at which input.
  Laid BY PROGRAM, IN A SANDBOX (cutbox-rows.mjs): the forced cells as the released guide's own fill.sh prints them over the translation 6b816eafee69d59e… (all of the seat's roots in one cut). By AI agents, Wed Nov 11 2026. No macro, syntax, notation, axiom, sorry.
-/
import Derived.Test.YtflmdknienjlmaaChecked
import GoSem.Claim
import GoSem.ClaimJoined
import GoSem.ClaimMapViews
import Derived.JoinedTies
import Derived.KernelRfl
namespace Go.Proofs.Ytflmdknienjlmaa
/- THE CELL 'sum', in the pinned program and in every row, IS THE sha256 OF THE DUMP (.gsa) THAT YtflmdknienjlmaaProg.lean LOADS. Nothing in Lean hashes anything: it is a label: what it is worth is what the hold of that sum in a sandbox is worth. -/
noncomputable def Try.pinned : Pinned := { name := "ytflmdknienjlmaa", sum := "6b816eafee69d59eb1aa510897379e680bd89bd0e2edf117617a8db25e0af2d6", checked := Try.checked }
namespace Rows
def none {H : Type} : Left H := { results := [], args := [] }

/-- 'laws.FnExactSumAdd': WHATEVER THE INPUT: true; the input reads as it did. -/
def fnExactSumAddSpec : ChangeSpec := { name := "fnExactSumAdd", fn := fun _ => fun
  | [d1, d2] => { results := [.lit (.bool true)], args := [d1, d2] }
  | _ => none }
def fnExactSumAddRow : OpenClaim := { program := "ytflmdknienjlmaa", sum := "6b816eafee69d59eb1aa510897379e680bd89bd0e2edf117617a8db25e0af2d6", func := "loop.example/operadtrees/laws.FnExactSumAdd", spec := "fnExactSumAdd", inPlace := ["internal/bytealg.abigen_runtime_cmpstring"], unfollowed := true, recurses := true, plainKeys := false, apart := false }
def FnExactSumAddSaid : Prop := fnExactSumAddRow.holds Try.pinned (OpenSpec.ofChange fnExactSumAddSpec)

/-- ITS FALSE NEIGHBOUR: 'it returns false'. Refute it at one input. -/
def fnExactSumAddWrong : ChangeSpec := { name := "fnExactSumAdd", fn := fun _ => fun
  | [d1, d2] => { results := [.lit (.bool false)], args := [d1, d2] }
  | _ => none }
def FnExactSumAddWrongFalsely : Prop := fnExactSumAddRow.holds Try.pinned (OpenSpec.ofChange fnExactSumAddWrong)

/-- 'laws.FnExactPatternJoin': WHATEVER THE INPUT: true; the input reads as it did. -/
def fnExactPatternJoinSpec : ChangeSpec := { name := "fnExactPatternJoin", fn := fun _ => fun
  | [d1, d2, d3] => { results := [.lit (.bool true)], args := [d1, d2, d3] }
  | _ => none }
def fnExactPatternJoinRow : OpenClaim := { program := "ytflmdknienjlmaa", sum := "6b816eafee69d59eb1aa510897379e680bd89bd0e2edf117617a8db25e0af2d6", func := "loop.example/operadtrees/laws.FnExactPatternJoin", spec := "fnExactPatternJoin", unfollowed := true, recurses := true, plainKeys := false, apart := false }
def FnExactPatternJoinSaid : Prop := fnExactPatternJoinRow.holds Try.pinned (OpenSpec.ofChange fnExactPatternJoinSpec)

/-- ITS FALSE NEIGHBOUR: 'it returns false'. Refute it at one input. -/
def fnExactPatternJoinWrong : ChangeSpec := { name := "fnExactPatternJoin", fn := fun _ => fun
  | [d1, d2, d3] => { results := [.lit (.bool false)], args := [d1, d2, d3] }
  | _ => none }
def FnExactPatternJoinWrongFalsely : Prop := fnExactPatternJoinRow.holds Try.pinned (OpenSpec.ofChange fnExactPatternJoinWrong)

/-- 'laws.FnExactPatternAll': WHATEVER THE INPUT: true; the input reads as it did. -/
def fnExactPatternAllSpec : ChangeSpec := { name := "fnExactPatternAll", fn := fun _ => fun
  | [d1, d2] => { results := [.lit (.bool true)], args := [d1, d2] }
  | _ => none }
def fnExactPatternAllRow : OpenClaim := { program := "ytflmdknienjlmaa", sum := "6b816eafee69d59eb1aa510897379e680bd89bd0e2edf117617a8db25e0af2d6", func := "loop.example/operadtrees/laws.FnExactPatternAll", spec := "fnExactPatternAll", unfollowed := true, recurses := true, plainKeys := false, apart := false }
def FnExactPatternAllSaid : Prop := fnExactPatternAllRow.holds Try.pinned (OpenSpec.ofChange fnExactPatternAllSpec)

/-- ITS FALSE NEIGHBOUR: 'it returns false'. Refute it at one input. -/
def fnExactPatternAllWrong : ChangeSpec := { name := "fnExactPatternAll", fn := fun _ => fun
  | [d1, d2] => { results := [.lit (.bool false)], args := [d1, d2] }
  | _ => none }
def FnExactPatternAllWrongFalsely : Prop := fnExactPatternAllRow.holds Try.pinned (OpenSpec.ofChange fnExactPatternAllWrong)

/-- 'laws.FnExactRulesValid': WHATEVER THE INPUT: true; the input reads as it did. -/
def fnExactRulesValidSpec : ChangeSpec := { name := "fnExactRulesValid", fn := fun _ => fun
  | [d] => { results := [.lit (.bool true)], args := [d] }
  | _ => none }
def fnExactRulesValidRow : OpenClaim := { program := "ytflmdknienjlmaa", sum := "6b816eafee69d59eb1aa510897379e680bd89bd0e2edf117617a8db25e0af2d6", func := "loop.example/operadtrees/laws.FnExactRulesValid", spec := "fnExactRulesValid", inPlace := ["internal/bytealg.abigen_runtime_cmpstring"], unfollowed := true, recurses := true, plainKeys := false, apart := false }
def FnExactRulesValidSaid : Prop := fnExactRulesValidRow.holds Try.pinned (OpenSpec.ofChange fnExactRulesValidSpec)

/-- ITS FALSE NEIGHBOUR: 'it returns false'. Refute it at one input. -/
def fnExactRulesValidWrong : ChangeSpec := { name := "fnExactRulesValid", fn := fun _ => fun
  | [d] => { results := [.lit (.bool false)], args := [d] }
  | _ => none }
def FnExactRulesValidWrongFalsely : Prop := fnExactRulesValidRow.holds Try.pinned (OpenSpec.ofChange fnExactRulesValidWrong)

/-- 'laws.FnExactSignOf': WHATEVER THE INPUT: true; the input reads as it did. -/
def fnExactSignOfSpec : ChangeSpec := { name := "fnExactSignOf", fn := fun _ => fun
  | [d] => { results := [.lit (.bool true)], args := [d] }
  | _ => none }
def fnExactSignOfRow : OpenClaim := { program := "ytflmdknienjlmaa", sum := "6b816eafee69d59eb1aa510897379e680bd89bd0e2edf117617a8db25e0af2d6", func := "loop.example/operadtrees/laws.FnExactSignOf", spec := "fnExactSignOf", unfollowed := true, recurses := true, plainKeys := false, apart := false }
def FnExactSignOfSaid : Prop := fnExactSignOfRow.holds Try.pinned (OpenSpec.ofChange fnExactSignOfSpec)

/-- ITS FALSE NEIGHBOUR: 'it returns false'. Refute it at one input. -/
def fnExactSignOfWrong : ChangeSpec := { name := "fnExactSignOf", fn := fun _ => fun
  | [d] => { results := [.lit (.bool false)], args := [d] }
  | _ => none }
def FnExactSignOfWrongFalsely : Prop := fnExactSignOfRow.holds Try.pinned (OpenSpec.ofChange fnExactSignOfWrong)

/-- 'laws.FnExactTreeList': WHATEVER THE INPUT: true; the input reads as it did. -/
def fnExactTreeListSpec : ChangeSpec := { name := "fnExactTreeList", fn := fun _ => fun
  | [d1, d2, d3] => { results := [.lit (.bool true)], args := [d1, d2, d3] }
  | _ => none }
def fnExactTreeListRow : OpenClaim := { program := "ytflmdknienjlmaa", sum := "6b816eafee69d59eb1aa510897379e680bd89bd0e2edf117617a8db25e0af2d6", func := "loop.example/operadtrees/laws.FnExactTreeList", spec := "fnExactTreeList", inPlace := ["internal/bytealg.abigen_runtime_cmpstring"], unfollowed := true, recurses := true, plainKeys := false, apart := false }
def FnExactTreeListSaid : Prop := fnExactTreeListRow.holds Try.pinned (OpenSpec.ofChange fnExactTreeListSpec)

/-- ITS FALSE NEIGHBOUR: 'it returns false'. Refute it at one input. -/
def fnExactTreeListWrong : ChangeSpec := { name := "fnExactTreeList", fn := fun _ => fun
  | [d1, d2, d3] => { results := [.lit (.bool false)], args := [d1, d2, d3] }
  | _ => none }
def FnExactTreeListWrongFalsely : Prop := fnExactTreeListRow.holds Try.pinned (OpenSpec.ofChange fnExactTreeListWrong)

/-- 'laws.FnExactTreeRank': WHATEVER THE INPUT: true; the input reads as it did. -/
def fnExactTreeRankSpec : ChangeSpec := { name := "fnExactTreeRank", fn := fun _ => fun
  | [d1, d2] => { results := [.lit (.bool true)], args := [d1, d2] }
  | _ => none }
def fnExactTreeRankRow : OpenClaim := { program := "ytflmdknienjlmaa", sum := "6b816eafee69d59eb1aa510897379e680bd89bd0e2edf117617a8db25e0af2d6", func := "loop.example/operadtrees/laws.FnExactTreeRank", spec := "fnExactTreeRank", inPlace := ["internal/bytealg.abigen_runtime_cmpstring"], unfollowed := true, recurses := true, plainKeys := false, apart := false }
def FnExactTreeRankSaid : Prop := fnExactTreeRankRow.holds Try.pinned (OpenSpec.ofChange fnExactTreeRankSpec)

/-- ITS FALSE NEIGHBOUR: 'it returns false'. Refute it at one input. -/
def fnExactTreeRankWrong : ChangeSpec := { name := "fnExactTreeRank", fn := fun _ => fun
  | [d1, d2] => { results := [.lit (.bool false)], args := [d1, d2] }
  | _ => none }
def FnExactTreeRankWrongFalsely : Prop := fnExactTreeRankRow.holds Try.pinned (OpenSpec.ofChange fnExactTreeRankWrong)

/-- 'laws.FnExactTreeCount': WHATEVER THE INPUT: true; the input reads as it did. -/
def fnExactTreeCountSpec : ChangeSpec := { name := "fnExactTreeCount", fn := fun _ => fun
  | [d1, d2] => { results := [.lit (.bool true)], args := [d1, d2] }
  | _ => none }
def fnExactTreeCountRow : OpenClaim := { program := "ytflmdknienjlmaa", sum := "6b816eafee69d59eb1aa510897379e680bd89bd0e2edf117617a8db25e0af2d6", func := "loop.example/operadtrees/laws.FnExactTreeCount", spec := "fnExactTreeCount", unfollowed := true, recurses := true, plainKeys := false, apart := false }
def FnExactTreeCountSaid : Prop := fnExactTreeCountRow.holds Try.pinned (OpenSpec.ofChange fnExactTreeCountSpec)

/-- ITS FALSE NEIGHBOUR: 'it returns false'. Refute it at one input. -/
def fnExactTreeCountWrong : ChangeSpec := { name := "fnExactTreeCount", fn := fun _ => fun
  | [d1, d2] => { results := [.lit (.bool false)], args := [d1, d2] }
  | _ => none }
def FnExactTreeCountWrongFalsely : Prop := fnExactTreeCountRow.holds Try.pinned (OpenSpec.ofChange fnExactTreeCountWrong)

/- THE SECOND FORM. 'bulk': how many values and letters a reading holds, each counted each time it is reached (what is shared counts as often as it is met; a slice's spare places count too). A statement '..UptoSaid' is the law's where the arguments, and the package variables that the reading takes, are together of bulk at most 1048576: NARROWER than '..Said'. Prove '..Said' where nothing that the law and all that it calls make is longer than what came in: it says more and counts as full. Else prove '..UptoSaid'. A law counts once. -/
mutual
def uptoBulk {H : Type} : DataW H → Nat
  | .lit (.string bytes) => bytes.length + 1
  | .lit _ => 1
  | .nil => 1
  | .ptr d => uptoBulk d + 1
  | .slice elems spare => uptoBulkAll elems + uptoBulkAll spare + 1
  | .agg parts => uptoBulkAll parts + 1
  | .iface _ d => uptoBulk d + 1
  | .map entries => uptoBulkEntries entries + 1
  | .held _ => 1
def uptoBulkAll {H : Type} : List (DataW H) → Nat
  | [] => 0
  | d :: r => uptoBulk d + uptoBulkAll r
def uptoBulkEntries {H : Type} : List (Lit × DataW H) → Nat
  | [] => 0
  | x :: r => uptoBulkEntry x + uptoBulkEntries r
def uptoBulkEntry {H : Type} : Lit × DataW H → Nat
  | (.string bytes, d) => bytes.length + uptoBulk d + 1
  | (_, d) => uptoBulk d + 1
 end
def uptoSmall : (H : Type) → List (DataW H) → Bool := fun _ ds => decide (uptoBulkAll ds ≤ 1048576)
def OpenSpec.upto (s : _root_.Go.ChangeSpec) : _root_.Go.OpenSpec := { _root_.Go.OpenSpec.ofChange s with cond := some uptoSmall }

/-- 'laws.FnExactSumAdd', WHERE WHAT IT READS IS OF BULK AT MOST 1048576: true; the input reads as it did. -/
def fnExactSumAddUptoRow : OpenClaim := { program := "ytflmdknienjlmaa", sum := "6b816eafee69d59eb1aa510897379e680bd89bd0e2edf117617a8db25e0af2d6", func := "loop.example/operadtrees/laws.FnExactSumAdd", spec := "fnExactSumAdd", inPlace := ["internal/bytealg.abigen_runtime_cmpstring"], unfollowed := true, recurses := true, plainKeys := false, apart := false, narrowed := true }
def FnExactSumAddUptoSaid : Prop := fnExactSumAddUptoRow.holds Try.pinned (OpenSpec.upto fnExactSumAddSpec)

/-- 'laws.FnExactPatternJoin', WHERE WHAT IT READS IS OF BULK AT MOST 1048576: true; the input reads as it did. -/
def fnExactPatternJoinUptoRow : OpenClaim := { program := "ytflmdknienjlmaa", sum := "6b816eafee69d59eb1aa510897379e680bd89bd0e2edf117617a8db25e0af2d6", func := "loop.example/operadtrees/laws.FnExactPatternJoin", spec := "fnExactPatternJoin", unfollowed := true, recurses := true, plainKeys := false, apart := false, narrowed := true }
def FnExactPatternJoinUptoSaid : Prop := fnExactPatternJoinUptoRow.holds Try.pinned (OpenSpec.upto fnExactPatternJoinSpec)

/-- 'laws.FnExactPatternAll', WHERE WHAT IT READS IS OF BULK AT MOST 1048576: true; the input reads as it did. -/
def fnExactPatternAllUptoRow : OpenClaim := { program := "ytflmdknienjlmaa", sum := "6b816eafee69d59eb1aa510897379e680bd89bd0e2edf117617a8db25e0af2d6", func := "loop.example/operadtrees/laws.FnExactPatternAll", spec := "fnExactPatternAll", unfollowed := true, recurses := true, plainKeys := false, apart := false, narrowed := true }
def FnExactPatternAllUptoSaid : Prop := fnExactPatternAllUptoRow.holds Try.pinned (OpenSpec.upto fnExactPatternAllSpec)

/-- 'laws.FnExactRulesValid', WHERE WHAT IT READS IS OF BULK AT MOST 1048576: true; the input reads as it did. -/
def fnExactRulesValidUptoRow : OpenClaim := { program := "ytflmdknienjlmaa", sum := "6b816eafee69d59eb1aa510897379e680bd89bd0e2edf117617a8db25e0af2d6", func := "loop.example/operadtrees/laws.FnExactRulesValid", spec := "fnExactRulesValid", inPlace := ["internal/bytealg.abigen_runtime_cmpstring"], unfollowed := true, recurses := true, plainKeys := false, apart := false, narrowed := true }
def FnExactRulesValidUptoSaid : Prop := fnExactRulesValidUptoRow.holds Try.pinned (OpenSpec.upto fnExactRulesValidSpec)

/-- 'laws.FnExactSignOf', WHERE WHAT IT READS IS OF BULK AT MOST 1048576: true; the input reads as it did. -/
def fnExactSignOfUptoRow : OpenClaim := { program := "ytflmdknienjlmaa", sum := "6b816eafee69d59eb1aa510897379e680bd89bd0e2edf117617a8db25e0af2d6", func := "loop.example/operadtrees/laws.FnExactSignOf", spec := "fnExactSignOf", unfollowed := true, recurses := true, plainKeys := false, apart := false, narrowed := true }
def FnExactSignOfUptoSaid : Prop := fnExactSignOfUptoRow.holds Try.pinned (OpenSpec.upto fnExactSignOfSpec)

/-- 'laws.FnExactTreeList', WHERE WHAT IT READS IS OF BULK AT MOST 1048576: true; the input reads as it did. -/
def fnExactTreeListUptoRow : OpenClaim := { program := "ytflmdknienjlmaa", sum := "6b816eafee69d59eb1aa510897379e680bd89bd0e2edf117617a8db25e0af2d6", func := "loop.example/operadtrees/laws.FnExactTreeList", spec := "fnExactTreeList", inPlace := ["internal/bytealg.abigen_runtime_cmpstring"], unfollowed := true, recurses := true, plainKeys := false, apart := false, narrowed := true }
def FnExactTreeListUptoSaid : Prop := fnExactTreeListUptoRow.holds Try.pinned (OpenSpec.upto fnExactTreeListSpec)

/-- 'laws.FnExactTreeRank', WHERE WHAT IT READS IS OF BULK AT MOST 1048576: true; the input reads as it did. -/
def fnExactTreeRankUptoRow : OpenClaim := { program := "ytflmdknienjlmaa", sum := "6b816eafee69d59eb1aa510897379e680bd89bd0e2edf117617a8db25e0af2d6", func := "loop.example/operadtrees/laws.FnExactTreeRank", spec := "fnExactTreeRank", inPlace := ["internal/bytealg.abigen_runtime_cmpstring"], unfollowed := true, recurses := true, plainKeys := false, apart := false, narrowed := true }
def FnExactTreeRankUptoSaid : Prop := fnExactTreeRankUptoRow.holds Try.pinned (OpenSpec.upto fnExactTreeRankSpec)

/-- 'laws.FnExactTreeCount', WHERE WHAT IT READS IS OF BULK AT MOST 1048576: true; the input reads as it did. -/
def fnExactTreeCountUptoRow : OpenClaim := { program := "ytflmdknienjlmaa", sum := "6b816eafee69d59eb1aa510897379e680bd89bd0e2edf117617a8db25e0af2d6", func := "loop.example/operadtrees/laws.FnExactTreeCount", spec := "fnExactTreeCount", unfollowed := true, recurses := true, plainKeys := false, apart := false, narrowed := true }
def FnExactTreeCountUptoSaid : Prop := fnExactTreeCountUptoRow.holds Try.pinned (OpenSpec.upto fnExactTreeCountSpec)

end Rows
end Go.Proofs.Ytflmdknienjlmaa
