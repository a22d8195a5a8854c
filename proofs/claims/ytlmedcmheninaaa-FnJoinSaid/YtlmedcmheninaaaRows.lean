/-
  No cell of these rows narrows 'for every input' (looked for: loops, veiled, ifaces, maps, wideKeys, modest, calm, conditions, laid).
  DERIVED. THE GIVEN ROWS OF THIS SEAT. 11 by the template 'for every input the law returns true; each argument reads behind the call as it read before'; 0 by the template 'total and deterministic' (their statements: YtlmedcmheninaaaTotals.lean).
  GIVEN WITH THE SEED: the statements are not yours to turn. If you find one false, say at which input.
  Laid BY PROGRAM, IN A SANDBOX (cutbox-rows.mjs): the forced cells as the released guide's own fill.sh prints them over the translation 21568f1d2e4cc10d… (all of the seat's roots in one cut). By AI agents, Wed Nov 11 2026. No macro, syntax, notation, axiom, sorry.
-/
import Derived.Test.YtlmedcmheninaaaChecked
import GoSem.Claim
import GoSem.ClaimJoined
import GoSem.ClaimMapViews
import Derived.JoinedTies
import Derived.KernelRfl
namespace Go.Proofs.Ytlmedcmheninaaa
/- THE CELL 'sum', in the pinned program and in every row, IS THE sha256 OF THE DUMP (.gsa) THAT YtlmedcmheninaaaProg.lean LOADS. Nothing in Lean hashes anything: it is a label: what it is worth is what the hold of that sum in a sandbox is worth. -/
noncomputable def Try.pinned : Pinned := { name := "ytlmedcmheninaaa", sum := "21568f1d2e4cc10d475494e7846a8788639c64794eb5014f886a70126f520b8a", checked := Try.checked }
namespace Rows
def none {H : Type} : Left H := { results := [], args := [] }

/-- 'laws.FnExactSumOf': WHATEVER THE INPUT: true; the input reads as it did. -/
def fnExactSumOfSpec : ChangeSpec := { name := "fnExactSumOf", fn := fun _ => fun
  | [d] => { results := [.lit (.bool true)], args := [d] }
  | _ => none }
def fnExactSumOfRow : OpenClaim := { program := "ytlmedcmheninaaa", sum := "21568f1d2e4cc10d475494e7846a8788639c64794eb5014f886a70126f520b8a", func := "loop.example/operadtrees/laws.FnExactSumOf", spec := "fnExactSumOf", inPlace := ["internal/bytealg.abigen_runtime_cmpstring"], unfollowed := true, recurses := true, apart := false }
def FnExactSumOfSaid : Prop := fnExactSumOfRow.holds Try.pinned (OpenSpec.ofChange fnExactSumOfSpec)

/-- ITS FALSE NEIGHBOUR: 'it returns false'. Refute it at one input. -/
def fnExactSumOfWrong : ChangeSpec := { name := "fnExactSumOf", fn := fun _ => fun
  | [d] => { results := [.lit (.bool false)], args := [d] }
  | _ => none }
def FnExactSumOfWrongFalsely : Prop := fnExactSumOfRow.holds Try.pinned (OpenSpec.ofChange fnExactSumOfWrong)

/-- 'laws.FnExactSumAdd': WHATEVER THE INPUT: true; the input reads as it did. -/
def fnExactSumAddSpec : ChangeSpec := { name := "fnExactSumAdd", fn := fun _ => fun
  | [d1, d2] => { results := [.lit (.bool true)], args := [d1, d2] }
  | _ => none }
def fnExactSumAddRow : OpenClaim := { program := "ytlmedcmheninaaa", sum := "21568f1d2e4cc10d475494e7846a8788639c64794eb5014f886a70126f520b8a", func := "loop.example/operadtrees/laws.FnExactSumAdd", spec := "fnExactSumAdd", inPlace := ["internal/bytealg.abigen_runtime_cmpstring"], unfollowed := true, recurses := true, apart := false }
def FnExactSumAddSaid : Prop := fnExactSumAddRow.holds Try.pinned (OpenSpec.ofChange fnExactSumAddSpec)

/-- ITS FALSE NEIGHBOUR: 'it returns false'. Refute it at one input. -/
def fnExactSumAddWrong : ChangeSpec := { name := "fnExactSumAdd", fn := fun _ => fun
  | [d1, d2] => { results := [.lit (.bool false)], args := [d1, d2] }
  | _ => none }
def FnExactSumAddWrongFalsely : Prop := fnExactSumAddRow.holds Try.pinned (OpenSpec.ofChange fnExactSumAddWrong)

/-- 'laws.FnExactSumScale': WHATEVER THE INPUT: true; the input reads as it did. -/
def fnExactSumScaleSpec : ChangeSpec := { name := "fnExactSumScale", fn := fun _ => fun
  | [d1, d2] => { results := [.lit (.bool true)], args := [d1, d2] }
  | _ => none }
def fnExactSumScaleRow : OpenClaim := { program := "ytlmedcmheninaaa", sum := "21568f1d2e4cc10d475494e7846a8788639c64794eb5014f886a70126f520b8a", func := "loop.example/operadtrees/laws.FnExactSumScale", spec := "fnExactSumScale", inPlace := ["internal/bytealg.abigen_runtime_cmpstring"], unfollowed := true, recurses := true, apart := false }
def FnExactSumScaleSaid : Prop := fnExactSumScaleRow.holds Try.pinned (OpenSpec.ofChange fnExactSumScaleSpec)

/-- ITS FALSE NEIGHBOUR: 'it returns false'. Refute it at one input. -/
def fnExactSumScaleWrong : ChangeSpec := { name := "fnExactSumScale", fn := fun _ => fun
  | [d1, d2] => { results := [.lit (.bool false)], args := [d1, d2] }
  | _ => none }
def FnExactSumScaleWrongFalsely : Prop := fnExactSumScaleRow.holds Try.pinned (OpenSpec.ofChange fnExactSumScaleWrong)

/-- 'laws.FnExactSumGraft': WHATEVER THE INPUT: true; the input reads as it did. -/
def fnExactSumGraftSpec : ChangeSpec := { name := "fnExactSumGraft", fn := fun _ => fun
  | [d1, d2, d3] => { results := [.lit (.bool true)], args := [d1, d2, d3] }
  | _ => none }
def fnExactSumGraftRow : OpenClaim := { program := "ytlmedcmheninaaa", sum := "21568f1d2e4cc10d475494e7846a8788639c64794eb5014f886a70126f520b8a", func := "loop.example/operadtrees/laws.FnExactSumGraft", spec := "fnExactSumGraft", inPlace := ["internal/bytealg.abigen_runtime_cmpstring"], unfollowed := true, recurses := true, apart := false }
def FnExactSumGraftSaid : Prop := fnExactSumGraftRow.holds Try.pinned (OpenSpec.ofChange fnExactSumGraftSpec)

/-- ITS FALSE NEIGHBOUR: 'it returns false'. Refute it at one input. -/
def fnExactSumGraftWrong : ChangeSpec := { name := "fnExactSumGraft", fn := fun _ => fun
  | [d1, d2, d3] => { results := [.lit (.bool false)], args := [d1, d2, d3] }
  | _ => none }
def FnExactSumGraftWrongFalsely : Prop := fnExactSumGraftRow.holds Try.pinned (OpenSpec.ofChange fnExactSumGraftWrong)

/-- 'laws.FnExactSumMirror': WHATEVER THE INPUT: true; the input reads as it did. -/
def fnExactSumMirrorSpec : ChangeSpec := { name := "fnExactSumMirror", fn := fun _ => fun
  | [d] => { results := [.lit (.bool true)], args := [d] }
  | _ => none }
def fnExactSumMirrorRow : OpenClaim := { program := "ytlmedcmheninaaa", sum := "21568f1d2e4cc10d475494e7846a8788639c64794eb5014f886a70126f520b8a", func := "loop.example/operadtrees/laws.FnExactSumMirror", spec := "fnExactSumMirror", inPlace := ["internal/bytealg.abigen_runtime_cmpstring"], unfollowed := true, recurses := true, apart := false }
def FnExactSumMirrorSaid : Prop := fnExactSumMirrorRow.holds Try.pinned (OpenSpec.ofChange fnExactSumMirrorSpec)

/-- ITS FALSE NEIGHBOUR: 'it returns false'. Refute it at one input. -/
def fnExactSumMirrorWrong : ChangeSpec := { name := "fnExactSumMirror", fn := fun _ => fun
  | [d] => { results := [.lit (.bool false)], args := [d] }
  | _ => none }
def FnExactSumMirrorWrongFalsely : Prop := fnExactSumMirrorRow.holds Try.pinned (OpenSpec.ofChange fnExactSumMirrorWrong)

/-- 'laws.FnExactPatternPlaces': WHATEVER THE INPUT: true; the input reads as it did. -/
def fnExactPatternPlacesSpec : ChangeSpec := { name := "fnExactPatternPlaces", fn := fun _ => fun
  | [d1, d2] => { results := [.lit (.bool true)], args := [d1, d2] }
  | _ => none }
def fnExactPatternPlacesRow : OpenClaim := { program := "ytlmedcmheninaaa", sum := "21568f1d2e4cc10d475494e7846a8788639c64794eb5014f886a70126f520b8a", func := "loop.example/operadtrees/laws.FnExactPatternPlaces", spec := "fnExactPatternPlaces", unfollowed := true, recurses := true, apart := false }
def FnExactPatternPlacesSaid : Prop := fnExactPatternPlacesRow.holds Try.pinned (OpenSpec.ofChange fnExactPatternPlacesSpec)

/-- ITS FALSE NEIGHBOUR: 'it returns false'. Refute it at one input. -/
def fnExactPatternPlacesWrong : ChangeSpec := { name := "fnExactPatternPlaces", fn := fun _ => fun
  | [d1, d2] => { results := [.lit (.bool false)], args := [d1, d2] }
  | _ => none }
def FnExactPatternPlacesWrongFalsely : Prop := fnExactPatternPlacesRow.holds Try.pinned (OpenSpec.ofChange fnExactPatternPlacesWrong)

/-- 'laws.FnExactPatternIn': WHATEVER THE INPUT: true; the input reads as it did. -/
def fnExactPatternInSpec : ChangeSpec := { name := "fnExactPatternIn", fn := fun _ => fun
  | [d1, d2] => { results := [.lit (.bool true)], args := [d1, d2] }
  | _ => none }
def fnExactPatternInRow : OpenClaim := { program := "ytlmedcmheninaaa", sum := "21568f1d2e4cc10d475494e7846a8788639c64794eb5014f886a70126f520b8a", func := "loop.example/operadtrees/laws.FnExactPatternIn", spec := "fnExactPatternIn", unfollowed := true, recurses := true, apart := false }
def FnExactPatternInSaid : Prop := fnExactPatternInRow.holds Try.pinned (OpenSpec.ofChange fnExactPatternInSpec)

/-- ITS FALSE NEIGHBOUR: 'it returns false'. Refute it at one input. -/
def fnExactPatternInWrong : ChangeSpec := { name := "fnExactPatternIn", fn := fun _ => fun
  | [d1, d2] => { results := [.lit (.bool false)], args := [d1, d2] }
  | _ => none }
def FnExactPatternInWrongFalsely : Prop := fnExactPatternInRow.holds Try.pinned (OpenSpec.ofChange fnExactPatternInWrong)

/-- 'laws.FnExactPatternPut': WHATEVER THE INPUT: true; the input reads as it did. -/
def fnExactPatternPutSpec : ChangeSpec := { name := "fnExactPatternPut", fn := fun _ => fun
  | [d1, d2, d3, d4] => { results := [.lit (.bool true)], args := [d1, d2, d3, d4] }
  | _ => none }
def fnExactPatternPutRow : OpenClaim := { program := "ytlmedcmheninaaa", sum := "21568f1d2e4cc10d475494e7846a8788639c64794eb5014f886a70126f520b8a", func := "loop.example/operadtrees/laws.FnExactPatternPut", spec := "fnExactPatternPut", unfollowed := true, recurses := true, apart := false }
def FnExactPatternPutSaid : Prop := fnExactPatternPutRow.holds Try.pinned (OpenSpec.ofChange fnExactPatternPutSpec)

/-- ITS FALSE NEIGHBOUR: 'it returns false'. Refute it at one input. -/
def fnExactPatternPutWrong : ChangeSpec := { name := "fnExactPatternPut", fn := fun _ => fun
  | [d1, d2, d3, d4] => { results := [.lit (.bool false)], args := [d1, d2, d3, d4] }
  | _ => none }
def FnExactPatternPutWrongFalsely : Prop := fnExactPatternPutRow.holds Try.pinned (OpenSpec.ofChange fnExactPatternPutWrong)

/-- 'laws.FnExactPatternFree': WHATEVER THE INPUT: true; the input reads as it did. -/
def fnExactPatternFreeSpec : ChangeSpec := { name := "fnExactPatternFree", fn := fun _ => fun
  | [d1, d2] => { results := [.lit (.bool true)], args := [d1, d2] }
  | _ => none }
def fnExactPatternFreeRow : OpenClaim := { program := "ytlmedcmheninaaa", sum := "21568f1d2e4cc10d475494e7846a8788639c64794eb5014f886a70126f520b8a", func := "loop.example/operadtrees/laws.FnExactPatternFree", spec := "fnExactPatternFree", unfollowed := true, recurses := true, apart := false }
def FnExactPatternFreeSaid : Prop := fnExactPatternFreeRow.holds Try.pinned (OpenSpec.ofChange fnExactPatternFreeSpec)

/-- ITS FALSE NEIGHBOUR: 'it returns false'. Refute it at one input. -/
def fnExactPatternFreeWrong : ChangeSpec := { name := "fnExactPatternFree", fn := fun _ => fun
  | [d1, d2] => { results := [.lit (.bool false)], args := [d1, d2] }
  | _ => none }
def FnExactPatternFreeWrongFalsely : Prop := fnExactPatternFreeRow.holds Try.pinned (OpenSpec.ofChange fnExactPatternFreeWrong)

/-- 'laws.FnExactRulesValid': WHATEVER THE INPUT: true; the input reads as it did. -/
def fnExactRulesValidSpec : ChangeSpec := { name := "fnExactRulesValid", fn := fun _ => fun
  | [d] => { results := [.lit (.bool true)], args := [d] }
  | _ => none }
def fnExactRulesValidRow : OpenClaim := { program := "ytlmedcmheninaaa", sum := "21568f1d2e4cc10d475494e7846a8788639c64794eb5014f886a70126f520b8a", func := "loop.example/operadtrees/laws.FnExactRulesValid", spec := "fnExactRulesValid", inPlace := ["internal/bytealg.abigen_runtime_cmpstring"], unfollowed := true, recurses := true, apart := false }
def FnExactRulesValidSaid : Prop := fnExactRulesValidRow.holds Try.pinned (OpenSpec.ofChange fnExactRulesValidSpec)

/-- ITS FALSE NEIGHBOUR: 'it returns false'. Refute it at one input. -/
def fnExactRulesValidWrong : ChangeSpec := { name := "fnExactRulesValid", fn := fun _ => fun
  | [d] => { results := [.lit (.bool false)], args := [d] }
  | _ => none }
def FnExactRulesValidWrongFalsely : Prop := fnExactRulesValidRow.holds Try.pinned (OpenSpec.ofChange fnExactRulesValidWrong)

/-- 'laws.FnJoin': WHATEVER THE INPUT: true; the input reads as it did. -/
def fnJoinSpec : ChangeSpec := { name := "fnJoin", fn := fun _ => fun
  | [d] => { results := [.lit (.bool true)], args := [d] }
  | _ => none }
def fnJoinRow : OpenClaim := { program := "ytlmedcmheninaaa", sum := "21568f1d2e4cc10d475494e7846a8788639c64794eb5014f886a70126f520b8a", func := "loop.example/operadtrees/laws.FnJoin", spec := "fnJoin", unfollowed := true, recurses := true, apart := false }
def FnJoinSaid : Prop := fnJoinRow.holds Try.pinned (OpenSpec.ofChange fnJoinSpec)

/-- ITS FALSE NEIGHBOUR: 'it returns false'. Refute it at one input. -/
def fnJoinWrong : ChangeSpec := { name := "fnJoin", fn := fun _ => fun
  | [d] => { results := [.lit (.bool false)], args := [d] }
  | _ => none }
def FnJoinWrongFalsely : Prop := fnJoinRow.holds Try.pinned (OpenSpec.ofChange fnJoinWrong)

/- THE SECOND FORM. 'bulk': how many values and letters a reading holds, each counted each time it is reached (what is shared counts as often as it is met; a slice's spare places count too). A statement '..UptoSaid' is the law's where the arguments, and the package variables that the reading takes, are together of bulk at most 1048576: NARROWER than '..Said'. Prove '..Said' where nothing that the law and all that it calls make is longer than what came in: it says more and counts as full. Else prove '..UptoSaid'. A law counts once. -/
mutual
def uptoBulk {H : Type} : DataW H → Nat
  | .lit (.string bytes) => bytes.length + 1
  | .lit _ => 1
  | .nil => 1
  | .ptr d => uptoBulk d + 1
  | .slice elems spare => uptoBulkAll elems + uptoBulkAll spare + 1
  | .agg parts => uptoBulkAll parts + 1
  | .iface _ d => uptoBulk d + 1
  | .map entries => uptoBulkEntries entries + 1
  | .held _ => 1
def uptoBulkAll {H : Type} : List (DataW H) → Nat
  | [] => 0
  | d :: r => uptoBulk d + uptoBulkAll r
def uptoBulkEntries {H : Type} : List (Lit × DataW H) → Nat
  | [] => 0
  | x :: r => uptoBulkEntry x + uptoBulkEntries r
def uptoBulkEntry {H : Type} : Lit × DataW H → Nat
  | (.string bytes, d) => bytes.length + uptoBulk d + 1
  | (_, d) => uptoBulk d + 1
 end
def uptoSmall : (H : Type) → List (DataW H) → Bool := fun _ ds => decide (uptoBulkAll ds ≤ 1048576)
def OpenSpec.upto (s : _root_.Go.ChangeSpec) : _root_.Go.OpenSpec := { _root_.Go.OpenSpec.ofChange s with cond := some uptoSmall }

/-- 'laws.FnExactSumOf', WHERE WHAT IT READS IS OF BULK AT MOST 1048576: true; the input reads as it did. -/
def fnExactSumOfUptoRow : OpenClaim := { program := "ytlmedcmheninaaa", sum := "21568f1d2e4cc10d475494e7846a8788639c64794eb5014f886a70126f520b8a", func := "loop.example/operadtrees/laws.FnExactSumOf", spec := "fnExactSumOf", inPlace := ["internal/bytealg.abigen_runtime_cmpstring"], unfollowed := true, recurses := true, apart := false, narrowed := true }
def FnExactSumOfUptoSaid : Prop := fnExactSumOfUptoRow.holds Try.pinned (OpenSpec.upto fnExactSumOfSpec)

/-- 'laws.FnExactSumAdd', WHERE WHAT IT READS IS OF BULK AT MOST 1048576: true; the input reads as it did. -/
def fnExactSumAddUptoRow : OpenClaim := { program := "ytlmedcmheninaaa", sum := "21568f1d2e4cc10d475494e7846a8788639c64794eb5014f886a70126f520b8a", func := "loop.example/operadtrees/laws.FnExactSumAdd", spec := "fnExactSumAdd", inPlace := ["internal/bytealg.abigen_runtime_cmpstring"], unfollowed := true, recurses := true, apart := false, narrowed := true }
def FnExactSumAddUptoSaid : Prop := fnExactSumAddUptoRow.holds Try.pinned (OpenSpec.upto fnExactSumAddSpec)

/-- 'laws.FnExactSumScale', WHERE WHAT IT READS IS OF BULK AT MOST 1048576: true; the input reads as it did. -/
def fnExactSumScaleUptoRow : OpenClaim := { program := "ytlmedcmheninaaa", sum := "21568f1d2e4cc10d475494e7846a8788639c64794eb5014f886a70126f520b8a", func := "loop.example/operadtrees/laws.FnExactSumScale", spec := "fnExactSumScale", inPlace := ["internal/bytealg.abigen_runtime_cmpstring"], unfollowed := true, recurses := true, apart := false, narrowed := true }
def FnExactSumScaleUptoSaid : Prop := fnExactSumScaleUptoRow.holds Try.pinned (OpenSpec.upto fnExactSumScaleSpec)

/-- 'laws.FnExactSumGraft', WHERE WHAT IT READS IS OF BULK AT MOST 1048576: true; the input reads as it did. -/
def fnExactSumGraftUptoRow : OpenClaim := { program := "ytlmedcmheninaaa", sum := "21568f1d2e4cc10d475494e7846a8788639c64794eb5014f886a70126f520b8a", func := "loop.example/operadtrees/laws.FnExactSumGraft", spec := "fnExactSumGraft", inPlace := ["internal/bytealg.abigen_runtime_cmpstring"], unfollowed := true, recurses := true, apart := false, narrowed := true }
def FnExactSumGraftUptoSaid : Prop := fnExactSumGraftUptoRow.holds Try.pinned (OpenSpec.upto fnExactSumGraftSpec)

/-- 'laws.FnExactSumMirror', WHERE WHAT IT READS IS OF BULK AT MOST 1048576: true; the input reads as it did. -/
def fnExactSumMirrorUptoRow : OpenClaim := { program := "ytlmedcmheninaaa", sum := "21568f1d2e4cc10d475494e7846a8788639c64794eb5014f886a70126f520b8a", func := "loop.example/operadtrees/laws.FnExactSumMirror", spec := "fnExactSumMirror", inPlace := ["internal/bytealg.abigen_runtime_cmpstring"], unfollowed := true, recurses := true, apart := false, narrowed := true }
def FnExactSumMirrorUptoSaid : Prop := fnExactSumMirrorUptoRow.holds Try.pinned (OpenSpec.upto fnExactSumMirrorSpec)

/-- 'laws.FnExactPatternPlaces', WHERE WHAT IT READS IS OF BULK AT MOST 1048576: true; the input reads as it did. -/
def fnExactPatternPlacesUptoRow : OpenClaim := { program := "ytlmedcmheninaaa", sum := "21568f1d2e4cc10d475494e7846a8788639c64794eb5014f886a70126f520b8a", func := "loop.example/operadtrees/laws.FnExactPatternPlaces", spec := "fnExactPatternPlaces", unfollowed := true, recurses := true, apart := false, narrowed := true }
def FnExactPatternPlacesUptoSaid : Prop := fnExactPatternPlacesUptoRow.holds Try.pinned (OpenSpec.upto fnExactPatternPlacesSpec)

/-- 'laws.FnExactPatternIn', WHERE WHAT IT READS IS OF BULK AT MOST 1048576: true; the input reads as it did. -/
def fnExactPatternInUptoRow : OpenClaim := { program := "ytlmedcmheninaaa", sum := "21568f1d2e4cc10d475494e7846a8788639c64794eb5014f886a70126f520b8a", func := "loop.example/operadtrees/laws.FnExactPatternIn", spec := "fnExactPatternIn", unfollowed := true, recurses := true, apart := false, narrowed := true }
def FnExactPatternInUptoSaid : Prop := fnExactPatternInUptoRow.holds Try.pinned (OpenSpec.upto fnExactPatternInSpec)

/-- 'laws.FnExactPatternPut', WHERE WHAT IT READS IS OF BULK AT MOST 1048576: true; the input reads as it did. -/
def fnExactPatternPutUptoRow : OpenClaim := { program := "ytlmedcmheninaaa", sum := "21568f1d2e4cc10d475494e7846a8788639c64794eb5014f886a70126f520b8a", func := "loop.example/operadtrees/laws.FnExactPatternPut", spec := "fnExactPatternPut", unfollowed := true, recurses := true, apart := false, narrowed := true }
def FnExactPatternPutUptoSaid : Prop := fnExactPatternPutUptoRow.holds Try.pinned (OpenSpec.upto fnExactPatternPutSpec)

/-- 'laws.FnExactPatternFree', WHERE WHAT IT READS IS OF BULK AT MOST 1048576: true; the input reads as it did. -/
def fnExactPatternFreeUptoRow : OpenClaim := { program := "ytlmedcmheninaaa", sum := "21568f1d2e4cc10d475494e7846a8788639c64794eb5014f886a70126f520b8a", func := "loop.example/operadtrees/laws.FnExactPatternFree", spec := "fnExactPatternFree", unfollowed := true, recurses := true, apart := false, narrowed := true }
def FnExactPatternFreeUptoSaid : Prop := fnExactPatternFreeUptoRow.holds Try.pinned (OpenSpec.upto fnExactPatternFreeSpec)

/-- 'laws.FnExactRulesValid', WHERE WHAT IT READS IS OF BULK AT MOST 1048576: true; the input reads as it did. -/
def fnExactRulesValidUptoRow : OpenClaim := { program := "ytlmedcmheninaaa", sum := "21568f1d2e4cc10d475494e7846a8788639c64794eb5014f886a70126f520b8a", func := "loop.example/operadtrees/laws.FnExactRulesValid", spec := "fnExactRulesValid", inPlace := ["internal/bytealg.abigen_runtime_cmpstring"], unfollowed := true, recurses := true, apart := false, narrowed := true }
def FnExactRulesValidUptoSaid : Prop := fnExactRulesValidUptoRow.holds Try.pinned (OpenSpec.upto fnExactRulesValidSpec)

/-- 'laws.FnJoin', WHERE WHAT IT READS IS OF BULK AT MOST 1048576: true; the input reads as it did. -/
def fnJoinUptoRow : OpenClaim := { program := "ytlmedcmheninaaa", sum := "21568f1d2e4cc10d475494e7846a8788639c64794eb5014f886a70126f520b8a", func := "loop.example/operadtrees/laws.FnJoin", spec := "fnJoin", unfollowed := true, recurses := true, apart := false, narrowed := true }
def FnJoinUptoSaid : Prop := fnJoinUptoRow.holds Try.pinned (OpenSpec.upto fnJoinSpec)

end Rows
end Go.Proofs.Ytlmedcmheninaaa
