/-
  No cell of these rows narrows 'for every input' (looked for: loops, veiled, ifaces, maps, wideKeys, modest, calm, conditions, laid).
  DERIVED. THE GIVEN ROWS OF THIS SEAT. 5 by the template 'for every input the law returns true; each argument reads behind the call as it read before'; 0 by the template 'total and deterministic' (their statements: YtbbkaephlojalaaTotals.lean).
  GIVEN WITH THE SEED: the statements are not yours to turn. If you find one false, say at which input.
  Laid BY PROGRAM, IN A SANDBOX (cutbox-rows.mjs): the forced cells as the released guide's own fill.sh prints them over the translation 389ea71ce78e29b0… (all of the seat's roots in one cut). By AI agents, Wed Nov 11 2026. No macro, syntax, notation, axiom, sorry.
-/
import Derived.Test.YtbbkaephlojalaaChecked
import GoSem.Claim
import GoSem.ClaimJoined
import GoSem.ClaimMapViews
import Derived.JoinedTies
import Derived.KernelRfl
namespace Go.Proofs.Ytbbkaephlojalaa
/- THE CELL 'sum', in the pinned program and in every row, IS THE sha256 OF THE DUMP (.gsa) THAT YtbbkaephlojalaaProg.lean LOADS. Nothing in Lean hashes anything: it is a label: what it is worth is what the hold of that sum in a sandbox is worth. -/
noncomputable def Try.pinned : Pinned := { name := "ytbbkaephlojalaa", sum := "389ea71ce78e29b0d0fe75971e7dac74ec92a9066a604af76b60cdd60d9df5a0", checked := Try.checked }
namespace Rows
def none {H : Type} : Left H := { results := [], args := [] }

/-- 'laws.FnFace': WHATEVER THE INPUT: true; the input reads as it did. -/
def fnFaceSpec : ChangeSpec := { name := "fnFace", fn := fun _ => fun
  | [d] => { results := [.lit (.bool true)], args := [d] }
  | _ => none }
def fnFaceRow : OpenClaim := { program := "ytbbkaephlojalaa", sum := "389ea71ce78e29b0d0fe75971e7dac74ec92a9066a604af76b60cdd60d9df5a0", func := "loop.example/operadtrees/laws.FnFace", spec := "fnFace", unfollowed := true, recurses := true, apart := false }
def FnFaceSaid : Prop := fnFaceRow.holds Try.pinned (OpenSpec.ofChange fnFaceSpec)

/-- ITS FALSE NEIGHBOUR: 'it returns false'. Refute it at one input. -/
def fnFaceWrong : ChangeSpec := { name := "fnFace", fn := fun _ => fun
  | [d] => { results := [.lit (.bool false)], args := [d] }
  | _ => none }
def FnFaceWrongFalsely : Prop := fnFaceRow.holds Try.pinned (OpenSpec.ofChange fnFaceWrong)

/-- 'laws.FnDim': WHATEVER THE INPUT: true; the input reads as it did. -/
def fnDimSpec : ChangeSpec := { name := "fnDim", fn := fun _ => fun
  | [d] => { results := [.lit (.bool true)], args := [d] }
  | _ => none }
def fnDimRow : OpenClaim := { program := "ytbbkaephlojalaa", sum := "389ea71ce78e29b0d0fe75971e7dac74ec92a9066a604af76b60cdd60d9df5a0", func := "loop.example/operadtrees/laws.FnDim", spec := "fnDim", unfollowed := true, recurses := true, apart := false }
def FnDimSaid : Prop := fnDimRow.holds Try.pinned (OpenSpec.ofChange fnDimSpec)

/-- ITS FALSE NEIGHBOUR: 'it returns false'. Refute it at one input. -/
def fnDimWrong : ChangeSpec := { name := "fnDim", fn := fun _ => fun
  | [d] => { results := [.lit (.bool false)], args := [d] }
  | _ => none }
def FnDimWrongFalsely : Prop := fnDimRow.holds Try.pinned (OpenSpec.ofChange fnDimWrong)

/-- 'laws.FnExactFaceValid': WHATEVER THE INPUT: true; the input reads as it did. -/
def fnExactFaceValidSpec : ChangeSpec := { name := "fnExactFaceValid", fn := fun _ => fun
  | [d] => { results := [.lit (.bool true)], args := [d] }
  | _ => none }
def fnExactFaceValidRow : OpenClaim := { program := "ytbbkaephlojalaa", sum := "389ea71ce78e29b0d0fe75971e7dac74ec92a9066a604af76b60cdd60d9df5a0", func := "loop.example/operadtrees/laws.FnExactFaceValid", spec := "fnExactFaceValid", unfollowed := true, recurses := true, apart := false }
def FnExactFaceValidSaid : Prop := fnExactFaceValidRow.holds Try.pinned (OpenSpec.ofChange fnExactFaceValidSpec)

/-- ITS FALSE NEIGHBOUR: 'it returns false'. Refute it at one input. -/
def fnExactFaceValidWrong : ChangeSpec := { name := "fnExactFaceValid", fn := fun _ => fun
  | [d] => { results := [.lit (.bool false)], args := [d] }
  | _ => none }
def FnExactFaceValidWrongFalsely : Prop := fnExactFaceValidRow.holds Try.pinned (OpenSpec.ofChange fnExactFaceValidWrong)

/-- 'laws.FnExactFaceDim': WHATEVER THE INPUT: true; the input reads as it did. -/
def fnExactFaceDimSpec : ChangeSpec := { name := "fnExactFaceDim", fn := fun _ => fun
  | [d] => { results := [.lit (.bool true)], args := [d] }
  | _ => none }
def fnExactFaceDimRow : OpenClaim := { program := "ytbbkaephlojalaa", sum := "389ea71ce78e29b0d0fe75971e7dac74ec92a9066a604af76b60cdd60d9df5a0", func := "loop.example/operadtrees/laws.FnExactFaceDim", spec := "fnExactFaceDim", unfollowed := true, recurses := true, apart := false }
def FnExactFaceDimSaid : Prop := fnExactFaceDimRow.holds Try.pinned (OpenSpec.ofChange fnExactFaceDimSpec)

/-- ITS FALSE NEIGHBOUR: 'it returns false'. Refute it at one input. -/
def fnExactFaceDimWrong : ChangeSpec := { name := "fnExactFaceDim", fn := fun _ => fun
  | [d] => { results := [.lit (.bool false)], args := [d] }
  | _ => none }
def FnExactFaceDimWrongFalsely : Prop := fnExactFaceDimRow.holds Try.pinned (OpenSpec.ofChange fnExactFaceDimWrong)

/-- 'laws.FnExactFaceIn': WHATEVER THE INPUT: true; the input reads as it did. -/
def fnExactFaceInSpec : ChangeSpec := { name := "fnExactFaceIn", fn := fun _ => fun
  | [d1, d2] => { results := [.lit (.bool true)], args := [d1, d2] }
  | _ => none }
def fnExactFaceInRow : OpenClaim := { program := "ytbbkaephlojalaa", sum := "389ea71ce78e29b0d0fe75971e7dac74ec92a9066a604af76b60cdd60d9df5a0", func := "loop.example/operadtrees/laws.FnExactFaceIn", spec := "fnExactFaceIn", unfollowed := true, recurses := true, apart := false }
def FnExactFaceInSaid : Prop := fnExactFaceInRow.holds Try.pinned (OpenSpec.ofChange fnExactFaceInSpec)

/-- ITS FALSE NEIGHBOUR: 'it returns false'. Refute it at one input. -/
def fnExactFaceInWrong : ChangeSpec := { name := "fnExactFaceIn", fn := fun _ => fun
  | [d1, d2] => { results := [.lit (.bool false)], args := [d1, d2] }
  | _ => none }
def FnExactFaceInWrongFalsely : Prop := fnExactFaceInRow.holds Try.pinned (OpenSpec.ofChange fnExactFaceInWrong)

/- THE SECOND FORM. 'bulk': how many values and letters a reading holds, each counted each time it is reached (what is shared counts as often as it is met; a slice's spare places count too). A statement '..UptoSaid' is the law's where the arguments, and the package variables that the reading takes, are together of bulk at most 1048576: NARROWER than '..Said'. Prove '..Said' where nothing that the law and all that it calls make is longer than what came in: it says more and counts as full. Else prove '..UptoSaid'. A law counts once. -/
mutual
def uptoBulk {H : Type} : DataW H → Nat
  | .lit (.string bytes) => bytes.length + 1
  | .lit _ => 1
  | .nil => 1
  | .ptr d => uptoBulk d + 1
  | .slice elems spare => uptoBulkAll elems + uptoBulkAll spare + 1
  | .agg parts => uptoBulkAll parts + 1
  | .iface _ d => uptoBulk d + 1
  | .map entries => uptoBulkEntries entries + 1
  | .held _ => 1
def uptoBulkAll {H : Type} : List (DataW H) → Nat
  | [] => 0
  | d :: r => uptoBulk d + uptoBulkAll r
def uptoBulkEntries {H : Type} : List (Lit × DataW H) → Nat
  | [] => 0
  | x :: r => uptoBulkEntry x + uptoBulkEntries r
def uptoBulkEntry {H : Type} : Lit × DataW H → Nat
  | (.string bytes, d) => bytes.length + uptoBulk d + 1
  | (_, d) => uptoBulk d + 1
 end
def uptoSmall : (H : Type) → List (DataW H) → Bool := fun _ ds => decide (uptoBulkAll ds ≤ 1048576)
def OpenSpec.upto (s : _root_.Go.ChangeSpec) : _root_.Go.OpenSpec := { _root_.Go.OpenSpec.ofChange s with cond := some uptoSmall }

/-- 'laws.FnFace', WHERE WHAT IT READS IS OF BULK AT MOST 1048576: true; the input reads as it did. -/
def fnFaceUptoRow : OpenClaim := { program := "ytbbkaephlojalaa", sum := "389ea71ce78e29b0d0fe75971e7dac74ec92a9066a604af76b60cdd60d9df5a0", func := "loop.example/operadtrees/laws.FnFace", spec := "fnFace", unfollowed := true, recurses := true, apart := false, narrowed := true }
def FnFaceUptoSaid : Prop := fnFaceUptoRow.holds Try.pinned (OpenSpec.upto fnFaceSpec)

/-- 'laws.FnDim', WHERE WHAT IT READS IS OF BULK AT MOST 1048576: true; the input reads as it did. -/
def fnDimUptoRow : OpenClaim := { program := "ytbbkaephlojalaa", sum := "389ea71ce78e29b0d0fe75971e7dac74ec92a9066a604af76b60cdd60d9df5a0", func := "loop.example/operadtrees/laws.FnDim", spec := "fnDim", unfollowed := true, recurses := true, apart := false, narrowed := true }
def FnDimUptoSaid : Prop := fnDimUptoRow.holds Try.pinned (OpenSpec.upto fnDimSpec)

/-- 'laws.FnExactFaceValid', WHERE WHAT IT READS IS OF BULK AT MOST 1048576: true; the input reads as it did. -/
def fnExactFaceValidUptoRow : OpenClaim := { program := "ytbbkaephlojalaa", sum := "389ea71ce78e29b0d0fe75971e7dac74ec92a9066a604af76b60cdd60d9df5a0", func := "loop.example/operadtrees/laws.FnExactFaceValid", spec := "fnExactFaceValid", unfollowed := true, recurses := true, apart := false, narrowed := true }
def FnExactFaceValidUptoSaid : Prop := fnExactFaceValidUptoRow.holds Try.pinned (OpenSpec.upto fnExactFaceValidSpec)

/-- 'laws.FnExactFaceDim', WHERE WHAT IT READS IS OF BULK AT MOST 1048576: true; the input reads as it did. -/
def fnExactFaceDimUptoRow : OpenClaim := { program := "ytbbkaephlojalaa", sum := "389ea71ce78e29b0d0fe75971e7dac74ec92a9066a604af76b60cdd60d9df5a0", func := "loop.example/operadtrees/laws.FnExactFaceDim", spec := "fnExactFaceDim", unfollowed := true, recurses := true, apart := false, narrowed := true }
def FnExactFaceDimUptoSaid : Prop := fnExactFaceDimUptoRow.holds Try.pinned (OpenSpec.upto fnExactFaceDimSpec)

/-- 'laws.FnExactFaceIn', WHERE WHAT IT READS IS OF BULK AT MOST 1048576: true; the input reads as it did. -/
def fnExactFaceInUptoRow : OpenClaim := { program := "ytbbkaephlojalaa", sum := "389ea71ce78e29b0d0fe75971e7dac74ec92a9066a604af76b60cdd60d9df5a0", func := "loop.example/operadtrees/laws.FnExactFaceIn", spec := "fnExactFaceIn", unfollowed := true, recurses := true, apart := false, narrowed := true }
def FnExactFaceInUptoSaid : Prop := fnExactFaceInUptoRow.holds Try.pinned (OpenSpec.upto fnExactFaceInSpec)

end Rows
end Go.Proofs.Ytbbkaephlojalaa
