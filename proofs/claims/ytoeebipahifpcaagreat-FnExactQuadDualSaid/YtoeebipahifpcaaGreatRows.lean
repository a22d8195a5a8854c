/-
  No cell of these rows narrows 'for every input' (looked for: loops, veiled, ifaces, maps, wideKeys, modest, calm, conditions, laid).
  DERIVED. THE GIVEN ROWS OF THIS SEAT. 4 by the template 'for every input the law returns true; each argument reads behind the call as it read before'; 0 by the template 'total and deterministic' (their statements: YtoeebipahifpcaaGreatTotals.lean).
  GIVEN WITH THE SEED: the statements are not yours to turn. If you find one false, say at which input.
  Laid BY PROGRAM, IN A SANDBOX (cutbox-rows.mjs): the forced cells as the released guide's own fill.sh prints them over the translation 21b8ef20e5394b82… (all of the seat's roots in one cut). By AI agents, Wed Nov 11 2026. No macro, syntax, notation, axiom, sorry.
-/
import Derived.Test.YtoeebipahifpcaaGreatChecked
import GoSem.Claim
import GoSem.ClaimJoined
import GoSem.ClaimMapViews
import Derived.JoinedTies
import Derived.KernelRfl
namespace Go.Proofs.YtoeebipahifpcaaGreat
/- THE CELL 'sum', in the pinned program and in every row, IS THE sha256 OF THE DUMP (.gsa) THAT YtoeebipahifpcaaGreatProg.lean LOADS. Nothing in Lean hashes anything: it is a label: what it is worth is what the hold of that sum in a sandbox is worth. -/
noncomputable def Tryz.pinned : Pinned := { name := "ytoeebipahifpcaagreat", sum := "21b8ef20e5394b8286d5330abcc062899646dd1d26032c8a8d176023f7dd9f3b", checked := Tryz.checked }
namespace Rows
def none {H : Type} : Left H := { results := [], args := [] }

/-- 'laws.FnExactQuadBase': WHATEVER THE INPUT: true; the input reads as it did. -/
def fnExactQuadBaseSpec : ChangeSpec := { name := "fnExactQuadBase", fn := fun _ => fun
  | [d1, d2] => { results := [.lit (.bool true)], args := [d1, d2] }
  | _ => none }
def fnExactQuadBaseRow : OpenClaim := { program := "ytoeebipahifpcaagreat", sum := "21b8ef20e5394b8286d5330abcc062899646dd1d26032c8a8d176023f7dd9f3b", func := "loop.example/operadtrees/laws.FnExactQuadBase", spec := "fnExactQuadBase", inPlace := ["internal/bytealg.abigen_runtime_cmpstring"], unfollowed := true, recurses := true, apart := false }
def FnExactQuadBaseSaid : Prop := fnExactQuadBaseRow.holds Tryz.pinned (OpenSpec.ofChange fnExactQuadBaseSpec)

/-- ITS FALSE NEIGHBOUR: 'it returns false'. Refute it at one input. -/
def fnExactQuadBaseWrong : ChangeSpec := { name := "fnExactQuadBase", fn := fun _ => fun
  | [d1, d2] => { results := [.lit (.bool false)], args := [d1, d2] }
  | _ => none }
def FnExactQuadBaseWrongFalsely : Prop := fnExactQuadBaseRow.holds Tryz.pinned (OpenSpec.ofChange fnExactQuadBaseWrong)

/-- 'laws.FnExactQuadDual': WHATEVER THE INPUT: true; the input reads as it did. -/
def fnExactQuadDualSpec : ChangeSpec := { name := "fnExactQuadDual", fn := fun _ => fun
  | [d1, d2] => { results := [.lit (.bool true)], args := [d1, d2] }
  | _ => none }
def fnExactQuadDualRow : OpenClaim := { program := "ytoeebipahifpcaagreat", sum := "21b8ef20e5394b8286d5330abcc062899646dd1d26032c8a8d176023f7dd9f3b", func := "loop.example/operadtrees/laws.FnExactQuadDual", spec := "fnExactQuadDual", inPlace := ["internal/bytealg.abigen_runtime_cmpstring"], unfollowed := true, recurses := true, apart := false }
def FnExactQuadDualSaid : Prop := fnExactQuadDualRow.holds Tryz.pinned (OpenSpec.ofChange fnExactQuadDualSpec)

/-- ITS FALSE NEIGHBOUR: 'it returns false'. Refute it at one input. -/
def fnExactQuadDualWrong : ChangeSpec := { name := "fnExactQuadDual", fn := fun _ => fun
  | [d1, d2] => { results := [.lit (.bool false)], args := [d1, d2] }
  | _ => none }
def FnExactQuadDualWrongFalsely : Prop := fnExactQuadDualRow.holds Tryz.pinned (OpenSpec.ofChange fnExactQuadDualWrong)

/-- 'laws.FnExactQuadIn': WHATEVER THE INPUT: true; the input reads as it did. -/
def fnExactQuadInSpec : ChangeSpec := { name := "fnExactQuadIn", fn := fun _ => fun
  | [d1, d2, d3] => { results := [.lit (.bool true)], args := [d1, d2, d3] }
  | _ => none }
def fnExactQuadInRow : OpenClaim := { program := "ytoeebipahifpcaagreat", sum := "21b8ef20e5394b8286d5330abcc062899646dd1d26032c8a8d176023f7dd9f3b", func := "loop.example/operadtrees/laws.FnExactQuadIn", spec := "fnExactQuadIn", inPlace := ["internal/bytealg.abigen_runtime_cmpstring"], unfollowed := true, recurses := true, apart := false }
def FnExactQuadInSaid : Prop := fnExactQuadInRow.holds Tryz.pinned (OpenSpec.ofChange fnExactQuadInSpec)

/-- ITS FALSE NEIGHBOUR: 'it returns false'. Refute it at one input. -/
def fnExactQuadInWrong : ChangeSpec := { name := "fnExactQuadIn", fn := fun _ => fun
  | [d1, d2, d3] => { results := [.lit (.bool false)], args := [d1, d2, d3] }
  | _ => none }
def FnExactQuadInWrongFalsely : Prop := fnExactQuadInRow.holds Tryz.pinned (OpenSpec.ofChange fnExactQuadInWrong)

/-- 'laws.FnExactQuadSame': WHATEVER THE INPUT: true; the input reads as it did. -/
def fnExactQuadSameSpec : ChangeSpec := { name := "fnExactQuadSame", fn := fun _ => fun
  | [d1, d2, d3] => { results := [.lit (.bool true)], args := [d1, d2, d3] }
  | _ => none }
def fnExactQuadSameRow : OpenClaim := { program := "ytoeebipahifpcaagreat", sum := "21b8ef20e5394b8286d5330abcc062899646dd1d26032c8a8d176023f7dd9f3b", func := "loop.example/operadtrees/laws.FnExactQuadSame", spec := "fnExactQuadSame", inPlace := ["internal/bytealg.abigen_runtime_cmpstring"], unfollowed := true, recurses := true, apart := false }
def FnExactQuadSameSaid : Prop := fnExactQuadSameRow.holds Tryz.pinned (OpenSpec.ofChange fnExactQuadSameSpec)

/-- ITS FALSE NEIGHBOUR: 'it returns false'. Refute it at one input. -/
def fnExactQuadSameWrong : ChangeSpec := { name := "fnExactQuadSame", fn := fun _ => fun
  | [d1, d2, d3] => { results := [.lit (.bool false)], args := [d1, d2, d3] }
  | _ => none }
def FnExactQuadSameWrongFalsely : Prop := fnExactQuadSameRow.holds Tryz.pinned (OpenSpec.ofChange fnExactQuadSameWrong)

/- THE SECOND FORM. 'bulk': how many values and letters a reading holds, each counted each time it is reached (what is shared counts as often as it is met; a slice's spare places count too). A statement '..UptoSaid' is the law's where the arguments, and the package variables that the reading takes, are together of bulk at most 1048576: NARROWER than '..Said'. Prove '..Said' where nothing that the law and all that it calls make is longer than what came in: it says more and counts as full. Else prove '..UptoSaid'. A law counts once. -/
mutual
def uptoBulk {H : Type} : DataW H → Nat
  | .lit (.string bytes) => bytes.length + 1
  | .lit _ => 1
  | .nil => 1
  | .ptr d => uptoBulk d + 1
  | .slice elems spare => uptoBulkAll elems + uptoBulkAll spare + 1
  | .agg parts => uptoBulkAll parts + 1
  | .iface _ d => uptoBulk d + 1
  | .map entries => uptoBulkEntries entries + 1
  | .held _ => 1
def uptoBulkAll {H : Type} : List (DataW H) → Nat
  | [] => 0
  | d :: r => uptoBulk d + uptoBulkAll r
def uptoBulkEntries {H : Type} : List (Lit × DataW H) → Nat
  | [] => 0
  | x :: r => uptoBulkEntry x + uptoBulkEntries r
def uptoBulkEntry {H : Type} : Lit × DataW H → Nat
  | (.string bytes, d) => bytes.length + uptoBulk d + 1
  | (_, d) => uptoBulk d + 1
 end
def uptoSmall : (H : Type) → List (DataW H) → Bool := fun _ ds => decide (uptoBulkAll ds ≤ 1048576)
def OpenSpec.upto (s : _root_.Go.ChangeSpec) : _root_.Go.OpenSpec := { _root_.Go.OpenSpec.ofChange s with cond := some uptoSmall }

/-- 'laws.FnExactQuadBase', WHERE WHAT IT READS IS OF BULK AT MOST 1048576: true; the input reads as it did. -/
def fnExactQuadBaseUptoRow : OpenClaim := { program := "ytoeebipahifpcaagreat", sum := "21b8ef20e5394b8286d5330abcc062899646dd1d26032c8a8d176023f7dd9f3b", func := "loop.example/operadtrees/laws.FnExactQuadBase", spec := "fnExactQuadBase", inPlace := ["internal/bytealg.abigen_runtime_cmpstring"], unfollowed := true, recurses := true, apart := false, narrowed := true }
def FnExactQuadBaseUptoSaid : Prop := fnExactQuadBaseUptoRow.holds Tryz.pinned (OpenSpec.upto fnExactQuadBaseSpec)

/-- 'laws.FnExactQuadDual', WHERE WHAT IT READS IS OF BULK AT MOST 1048576: true; the input reads as it did. -/
def fnExactQuadDualUptoRow : OpenClaim := { program := "ytoeebipahifpcaagreat", sum := "21b8ef20e5394b8286d5330abcc062899646dd1d26032c8a8d176023f7dd9f3b", func := "loop.example/operadtrees/laws.FnExactQuadDual", spec := "fnExactQuadDual", inPlace := ["internal/bytealg.abigen_runtime_cmpstring"], unfollowed := true, recurses := true, apart := false, narrowed := true }
def FnExactQuadDualUptoSaid : Prop := fnExactQuadDualUptoRow.holds Tryz.pinned (OpenSpec.upto fnExactQuadDualSpec)

/-- 'laws.FnExactQuadIn', WHERE WHAT IT READS IS OF BULK AT MOST 1048576: true; the input reads as it did. -/
def fnExactQuadInUptoRow : OpenClaim := { program := "ytoeebipahifpcaagreat", sum := "21b8ef20e5394b8286d5330abcc062899646dd1d26032c8a8d176023f7dd9f3b", func := "loop.example/operadtrees/laws.FnExactQuadIn", spec := "fnExactQuadIn", inPlace := ["internal/bytealg.abigen_runtime_cmpstring"], unfollowed := true, recurses := true, apart := false, narrowed := true }
def FnExactQuadInUptoSaid : Prop := fnExactQuadInUptoRow.holds Tryz.pinned (OpenSpec.upto fnExactQuadInSpec)

/-- 'laws.FnExactQuadSame', WHERE WHAT IT READS IS OF BULK AT MOST 1048576: true; the input reads as it did. -/
def fnExactQuadSameUptoRow : OpenClaim := { program := "ytoeebipahifpcaagreat", sum := "21b8ef20e5394b8286d5330abcc062899646dd1d26032c8a8d176023f7dd9f3b", func := "loop.example/operadtrees/laws.FnExactQuadSame", spec := "fnExactQuadSame", inPlace := ["internal/bytealg.abigen_runtime_cmpstring"], unfollowed := true, recurses := true, apart := false, narrowed := true }
def FnExactQuadSameUptoSaid : Prop := fnExactQuadSameUptoRow.holds Tryz.pinned (OpenSpec.upto fnExactQuadSameSpec)

end Rows
end Go.Proofs.YtoeebipahifpcaaGreat
