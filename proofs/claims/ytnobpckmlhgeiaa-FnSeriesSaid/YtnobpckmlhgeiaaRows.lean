/-
  No cell of these rows narrows 'for every input' (looked for: loops, veiled, ifaces, maps, wideKeys, modest, calm, conditions, laid).
  DERIVED. THE GIVEN ROWS OF THIS SEAT. 12 by the template 'for every input the law returns true; each argument reads behind the call as it read before'; 0 by the template 'total and deterministic' (their statements: YtnobpckmlhgeiaaTotals.lean).
  GIVEN WITH THE SEED: the statements are not yours to turn. If you find one false, say at which input.
  Laid BY PROGRAM, IN A SANDBOX (cutbox-rows.mjs): the forced cells as the released guide's own fill.sh prints them over the translation 6752f4a21d4824c0… (all of the seat's roots in one cut). By AI agents, Wed Nov 11 2026. No macro, syntax, notation, axiom, sorry.
-/
import Derived.Test.YtnobpckmlhgeiaaChecked
import GoSem.Claim
import GoSem.ClaimJoined
import GoSem.ClaimMapViews
import Derived.JoinedTies
import Derived.KernelRfl
namespace Go.Proofs.Ytnobpckmlhgeiaa
/- THE CELL 'sum', in the pinned program and in every row, IS THE sha256 OF THE DUMP (.gsa) THAT YtnobpckmlhgeiaaProg.lean LOADS. Nothing in Lean hashes anything: it is a label: what it is worth is what the hold of that sum in a sandbox is worth. -/
noncomputable def Try.pinned : Pinned := { name := "ytnobpckmlhgeiaa", sum := "6752f4a21d4824c014199f4a3fcb00976af7704ca57872bdd78864b48ba2ae7e", checked := Try.checked }
namespace Rows
def none {H : Type} : Left H := { results := [], args := [] }

/-- 'laws.FnExactSeriesValid': WHATEVER THE INPUT: true; the input reads as it did. -/
def fnExactSeriesValidSpec : ChangeSpec := { name := "fnExactSeriesValid", fn := fun _ => fun
  | [d] => { results := [.lit (.bool true)], args := [d] }
  | _ => none }
def fnExactSeriesValidRow : OpenClaim := { program := "ytnobpckmlhgeiaa", sum := "6752f4a21d4824c014199f4a3fcb00976af7704ca57872bdd78864b48ba2ae7e", func := "loop.example/operadtrees/laws.FnExactSeriesValid", spec := "fnExactSeriesValid", apart := false }
def FnExactSeriesValidSaid : Prop := fnExactSeriesValidRow.holds Try.pinned (OpenSpec.ofChange fnExactSeriesValidSpec)

/-- ITS FALSE NEIGHBOUR: 'it returns false'. Refute it at one input. -/
def fnExactSeriesValidWrong : ChangeSpec := { name := "fnExactSeriesValid", fn := fun _ => fun
  | [d] => { results := [.lit (.bool false)], args := [d] }
  | _ => none }
def FnExactSeriesValidWrongFalsely : Prop := fnExactSeriesValidRow.holds Try.pinned (OpenSpec.ofChange fnExactSeriesValidWrong)

/-- 'laws.FnExactSeriesTimes': WHATEVER THE INPUT: true; the input reads as it did. -/
def fnExactSeriesTimesSpec : ChangeSpec := { name := "fnExactSeriesTimes", fn := fun _ => fun
  | [d1, d2] => { results := [.lit (.bool true)], args := [d1, d2] }
  | _ => none }
def fnExactSeriesTimesRow : OpenClaim := { program := "ytnobpckmlhgeiaa", sum := "6752f4a21d4824c014199f4a3fcb00976af7704ca57872bdd78864b48ba2ae7e", func := "loop.example/operadtrees/laws.FnExactSeriesTimes", spec := "fnExactSeriesTimes", apart := false }
def FnExactSeriesTimesSaid : Prop := fnExactSeriesTimesRow.holds Try.pinned (OpenSpec.ofChange fnExactSeriesTimesSpec)

/-- ITS FALSE NEIGHBOUR: 'it returns false'. Refute it at one input. -/
def fnExactSeriesTimesWrong : ChangeSpec := { name := "fnExactSeriesTimes", fn := fun _ => fun
  | [d1, d2] => { results := [.lit (.bool false)], args := [d1, d2] }
  | _ => none }
def FnExactSeriesTimesWrongFalsely : Prop := fnExactSeriesTimesRow.holds Try.pinned (OpenSpec.ofChange fnExactSeriesTimesWrong)

/-- 'laws.FnExactSeriesTurn': WHATEVER THE INPUT: true; the input reads as it did. -/
def fnExactSeriesTurnSpec : ChangeSpec := { name := "fnExactSeriesTurn", fn := fun _ => fun
  | [d] => { results := [.lit (.bool true)], args := [d] }
  | _ => none }
def fnExactSeriesTurnRow : OpenClaim := { program := "ytnobpckmlhgeiaa", sum := "6752f4a21d4824c014199f4a3fcb00976af7704ca57872bdd78864b48ba2ae7e", func := "loop.example/operadtrees/laws.FnExactSeriesTurn", spec := "fnExactSeriesTurn", apart := false }
def FnExactSeriesTurnSaid : Prop := fnExactSeriesTurnRow.holds Try.pinned (OpenSpec.ofChange fnExactSeriesTurnSpec)

/-- ITS FALSE NEIGHBOUR: 'it returns false'. Refute it at one input. -/
def fnExactSeriesTurnWrong : ChangeSpec := { name := "fnExactSeriesTurn", fn := fun _ => fun
  | [d] => { results := [.lit (.bool false)], args := [d] }
  | _ => none }
def FnExactSeriesTurnWrongFalsely : Prop := fnExactSeriesTurnRow.holds Try.pinned (OpenSpec.ofChange fnExactSeriesTurnWrong)

/-- 'laws.FnExactSeriesCompose': WHATEVER THE INPUT: true; the input reads as it did. -/
def fnExactSeriesComposeSpec : ChangeSpec := { name := "fnExactSeriesCompose", fn := fun _ => fun
  | [d1, d2] => { results := [.lit (.bool true)], args := [d1, d2] }
  | _ => none }
def fnExactSeriesComposeRow : OpenClaim := { program := "ytnobpckmlhgeiaa", sum := "6752f4a21d4824c014199f4a3fcb00976af7704ca57872bdd78864b48ba2ae7e", func := "loop.example/operadtrees/laws.FnExactSeriesCompose", spec := "fnExactSeriesCompose", recurses := true, apart := false }
def FnExactSeriesComposeSaid : Prop := fnExactSeriesComposeRow.holds Try.pinned (OpenSpec.ofChange fnExactSeriesComposeSpec)

/-- ITS FALSE NEIGHBOUR: 'it returns false'. Refute it at one input. -/
def fnExactSeriesComposeWrong : ChangeSpec := { name := "fnExactSeriesCompose", fn := fun _ => fun
  | [d1, d2] => { results := [.lit (.bool false)], args := [d1, d2] }
  | _ => none }
def FnExactSeriesComposeWrongFalsely : Prop := fnExactSeriesComposeRow.holds Try.pinned (OpenSpec.ofChange fnExactSeriesComposeWrong)

/-- 'laws.FnExactSeriesInverse': WHATEVER THE INPUT: true; the input reads as it did. -/
def fnExactSeriesInverseSpec : ChangeSpec := { name := "fnExactSeriesInverse", fn := fun _ => fun
  | [d] => { results := [.lit (.bool true)], args := [d] }
  | _ => none }
def fnExactSeriesInverseRow : OpenClaim := { program := "ytnobpckmlhgeiaa", sum := "6752f4a21d4824c014199f4a3fcb00976af7704ca57872bdd78864b48ba2ae7e", func := "loop.example/operadtrees/laws.FnExactSeriesInverse", spec := "fnExactSeriesInverse", recurses := true, apart := false }
def FnExactSeriesInverseSaid : Prop := fnExactSeriesInverseRow.holds Try.pinned (OpenSpec.ofChange fnExactSeriesInverseSpec)

/-- ITS FALSE NEIGHBOUR: 'it returns false'. Refute it at one input. -/
def fnExactSeriesInverseWrong : ChangeSpec := { name := "fnExactSeriesInverse", fn := fun _ => fun
  | [d] => { results := [.lit (.bool false)], args := [d] }
  | _ => none }
def FnExactSeriesInverseWrongFalsely : Prop := fnExactSeriesInverseRow.holds Try.pinned (OpenSpec.ofChange fnExactSeriesInverseWrong)

/-- 'laws.FnExactSeriesDual': WHATEVER THE INPUT: true; the input reads as it did. -/
def fnExactSeriesDualSpec : ChangeSpec := { name := "fnExactSeriesDual", fn := fun _ => fun
  | [d] => { results := [.lit (.bool true)], args := [d] }
  | _ => none }
def fnExactSeriesDualRow : OpenClaim := { program := "ytnobpckmlhgeiaa", sum := "6752f4a21d4824c014199f4a3fcb00976af7704ca57872bdd78864b48ba2ae7e", func := "loop.example/operadtrees/laws.FnExactSeriesDual", spec := "fnExactSeriesDual", recurses := true, apart := false }
def FnExactSeriesDualSaid : Prop := fnExactSeriesDualRow.holds Try.pinned (OpenSpec.ofChange fnExactSeriesDualSpec)

/-- ITS FALSE NEIGHBOUR: 'it returns false'. Refute it at one input. -/
def fnExactSeriesDualWrong : ChangeSpec := { name := "fnExactSeriesDual", fn := fun _ => fun
  | [d] => { results := [.lit (.bool false)], args := [d] }
  | _ => none }
def FnExactSeriesDualWrongFalsely : Prop := fnExactSeriesDualRow.holds Try.pinned (OpenSpec.ofChange fnExactSeriesDualWrong)

/-- 'laws.FnSeriesTimes': WHATEVER THE INPUT: true; the input reads as it did. -/
def fnSeriesTimesSpec : ChangeSpec := { name := "fnSeriesTimes", fn := fun _ => fun
  | [d] => { results := [.lit (.bool true)], args := [d] }
  | _ => none }
def fnSeriesTimesRow : OpenClaim := { program := "ytnobpckmlhgeiaa", sum := "6752f4a21d4824c014199f4a3fcb00976af7704ca57872bdd78864b48ba2ae7e", func := "loop.example/operadtrees/laws.FnSeriesTimes", spec := "fnSeriesTimes", apart := false }
def FnSeriesTimesSaid : Prop := fnSeriesTimesRow.holds Try.pinned (OpenSpec.ofChange fnSeriesTimesSpec)

/-- ITS FALSE NEIGHBOUR: 'it returns false'. Refute it at one input. -/
def fnSeriesTimesWrong : ChangeSpec := { name := "fnSeriesTimes", fn := fun _ => fun
  | [d] => { results := [.lit (.bool false)], args := [d] }
  | _ => none }
def FnSeriesTimesWrongFalsely : Prop := fnSeriesTimesRow.holds Try.pinned (OpenSpec.ofChange fnSeriesTimesWrong)

/-- 'laws.FnSeriesDual': WHATEVER THE INPUT: true; the input reads as it did. -/
def fnSeriesDualSpec : ChangeSpec := { name := "fnSeriesDual", fn := fun _ => fun
  | [d] => { results := [.lit (.bool true)], args := [d] }
  | _ => none }
def fnSeriesDualRow : OpenClaim := { program := "ytnobpckmlhgeiaa", sum := "6752f4a21d4824c014199f4a3fcb00976af7704ca57872bdd78864b48ba2ae7e", func := "loop.example/operadtrees/laws.FnSeriesDual", spec := "fnSeriesDual", recurses := true, apart := false }
def FnSeriesDualSaid : Prop := fnSeriesDualRow.holds Try.pinned (OpenSpec.ofChange fnSeriesDualSpec)

/-- ITS FALSE NEIGHBOUR: 'it returns false'. Refute it at one input. -/
def fnSeriesDualWrong : ChangeSpec := { name := "fnSeriesDual", fn := fun _ => fun
  | [d] => { results := [.lit (.bool false)], args := [d] }
  | _ => none }
def FnSeriesDualWrongFalsely : Prop := fnSeriesDualRow.holds Try.pinned (OpenSpec.ofChange fnSeriesDualWrong)

/-- 'laws.FnTurn': WHATEVER THE INPUT: true; the input reads as it did. -/
def fnTurnSpec : ChangeSpec := { name := "fnTurn", fn := fun _ => fun
  | [d] => { results := [.lit (.bool true)], args := [d] }
  | _ => none }
def fnTurnRow : OpenClaim := { program := "ytnobpckmlhgeiaa", sum := "6752f4a21d4824c014199f4a3fcb00976af7704ca57872bdd78864b48ba2ae7e", func := "loop.example/operadtrees/laws.FnTurn", spec := "fnTurn", apart := false }
def FnTurnSaid : Prop := fnTurnRow.holds Try.pinned (OpenSpec.ofChange fnTurnSpec)

/-- ITS FALSE NEIGHBOUR: 'it returns false'. Refute it at one input. -/
def fnTurnWrong : ChangeSpec := { name := "fnTurn", fn := fun _ => fun
  | [d] => { results := [.lit (.bool false)], args := [d] }
  | _ => none }
def FnTurnWrongFalsely : Prop := fnTurnRow.holds Try.pinned (OpenSpec.ofChange fnTurnWrong)

/-- 'laws.FnSeries': WHATEVER THE INPUT: true; the input reads as it did. -/
def fnSeriesSpec : ChangeSpec := { name := "fnSeries", fn := fun _ => fun
  | [d] => { results := [.lit (.bool true)], args := [d] }
  | _ => none }
def fnSeriesRow : OpenClaim := { program := "ytnobpckmlhgeiaa", sum := "6752f4a21d4824c014199f4a3fcb00976af7704ca57872bdd78864b48ba2ae7e", func := "loop.example/operadtrees/laws.FnSeries", spec := "fnSeries", recurses := true, apart := false }
def FnSeriesSaid : Prop := fnSeriesRow.holds Try.pinned (OpenSpec.ofChange fnSeriesSpec)

/-- ITS FALSE NEIGHBOUR: 'it returns false'. Refute it at one input. -/
def fnSeriesWrong : ChangeSpec := { name := "fnSeries", fn := fun _ => fun
  | [d] => { results := [.lit (.bool false)], args := [d] }
  | _ => none }
def FnSeriesWrongFalsely : Prop := fnSeriesRow.holds Try.pinned (OpenSpec.ofChange fnSeriesWrong)

/-- 'laws.FnInverse': WHATEVER THE INPUT: true; the input reads as it did. -/
def fnInverseSpec : ChangeSpec := { name := "fnInverse", fn := fun _ => fun
  | [d] => { results := [.lit (.bool true)], args := [d] }
  | _ => none }
def fnInverseRow : OpenClaim := { program := "ytnobpckmlhgeiaa", sum := "6752f4a21d4824c014199f4a3fcb00976af7704ca57872bdd78864b48ba2ae7e", func := "loop.example/operadtrees/laws.FnInverse", spec := "fnInverse", recurses := true, apart := false }
def FnInverseSaid : Prop := fnInverseRow.holds Try.pinned (OpenSpec.ofChange fnInverseSpec)

/-- ITS FALSE NEIGHBOUR: 'it returns false'. Refute it at one input. -/
def fnInverseWrong : ChangeSpec := { name := "fnInverse", fn := fun _ => fun
  | [d] => { results := [.lit (.bool false)], args := [d] }
  | _ => none }
def FnInverseWrongFalsely : Prop := fnInverseRow.holds Try.pinned (OpenSpec.ofChange fnInverseWrong)

/-- 'laws.FnCompose': WHATEVER THE INPUT: true; the input reads as it did. -/
def fnComposeSpec : ChangeSpec := { name := "fnCompose", fn := fun _ => fun
  | [d] => { results := [.lit (.bool true)], args := [d] }
  | _ => none }
def fnComposeRow : OpenClaim := { program := "ytnobpckmlhgeiaa", sum := "6752f4a21d4824c014199f4a3fcb00976af7704ca57872bdd78864b48ba2ae7e", func := "loop.example/operadtrees/laws.FnCompose", spec := "fnCompose", recurses := true, apart := false }
def FnComposeSaid : Prop := fnComposeRow.holds Try.pinned (OpenSpec.ofChange fnComposeSpec)

/-- ITS FALSE NEIGHBOUR: 'it returns false'. Refute it at one input. -/
def fnComposeWrong : ChangeSpec := { name := "fnCompose", fn := fun _ => fun
  | [d] => { results := [.lit (.bool false)], args := [d] }
  | _ => none }
def FnComposeWrongFalsely : Prop := fnComposeRow.holds Try.pinned (OpenSpec.ofChange fnComposeWrong)

/- THE SECOND FORM. 'bulk': how many values and letters a reading holds, each counted each time it is reached (what is shared counts as often as it is met; a slice's spare places count too). A statement '..UptoSaid' is the law's where the arguments, and the package variables that the reading takes, are together of bulk at most 1048576: NARROWER than '..Said'. Prove '..Said' where nothing that the law and all that it calls make is longer than what came in: it says more and counts as full. Else prove '..UptoSaid'. A law counts once. -/
mutual
def uptoBulk {H : Type} : DataW H → Nat
  | .lit (.string bytes) => bytes.length + 1
  | .lit _ => 1
  | .nil => 1
  | .ptr d => uptoBulk d + 1
  | .slice elems spare => uptoBulkAll elems + uptoBulkAll spare + 1
  | .agg parts => uptoBulkAll parts + 1
  | .iface _ d => uptoBulk d + 1
  | .map entries => uptoBulkEntries entries + 1
  | .held _ => 1
def uptoBulkAll {H : Type} : List (DataW H) → Nat
  | [] => 0
  | d :: r => uptoBulk d + uptoBulkAll r
def uptoBulkEntries {H : Type} : List (Lit × DataW H) → Nat
  | [] => 0
  | x :: r => uptoBulkEntry x + uptoBulkEntries r
def uptoBulkEntry {H : Type} : Lit × DataW H → Nat
  | (.string bytes, d) => bytes.length + uptoBulk d + 1
  | (_, d) => uptoBulk d + 1
 end
def uptoSmall : (H : Type) → List (DataW H) → Bool := fun _ ds => decide (uptoBulkAll ds ≤ 1048576)
def OpenSpec.upto (s : _root_.Go.ChangeSpec) : _root_.Go.OpenSpec := { _root_.Go.OpenSpec.ofChange s with cond := some uptoSmall }

/-- 'laws.FnExactSeriesValid', WHERE WHAT IT READS IS OF BULK AT MOST 1048576: true; the input reads as it did. -/
def fnExactSeriesValidUptoRow : OpenClaim := { program := "ytnobpckmlhgeiaa", sum := "6752f4a21d4824c014199f4a3fcb00976af7704ca57872bdd78864b48ba2ae7e", func := "loop.example/operadtrees/laws.FnExactSeriesValid", spec := "fnExactSeriesValid", apart := false, narrowed := true }
def FnExactSeriesValidUptoSaid : Prop := fnExactSeriesValidUptoRow.holds Try.pinned (OpenSpec.upto fnExactSeriesValidSpec)

/-- 'laws.FnExactSeriesTimes', WHERE WHAT IT READS IS OF BULK AT MOST 1048576: true; the input reads as it did. -/
def fnExactSeriesTimesUptoRow : OpenClaim := { program := "ytnobpckmlhgeiaa", sum := "6752f4a21d4824c014199f4a3fcb00976af7704ca57872bdd78864b48ba2ae7e", func := "loop.example/operadtrees/laws.FnExactSeriesTimes", spec := "fnExactSeriesTimes", apart := false, narrowed := true }
def FnExactSeriesTimesUptoSaid : Prop := fnExactSeriesTimesUptoRow.holds Try.pinned (OpenSpec.upto fnExactSeriesTimesSpec)

/-- 'laws.FnExactSeriesTurn', WHERE WHAT IT READS IS OF BULK AT MOST 1048576: true; the input reads as it did. -/
def fnExactSeriesTurnUptoRow : OpenClaim := { program := "ytnobpckmlhgeiaa", sum := "6752f4a21d4824c014199f4a3fcb00976af7704ca57872bdd78864b48ba2ae7e", func := "loop.example/operadtrees/laws.FnExactSeriesTurn", spec := "fnExactSeriesTurn", apart := false, narrowed := true }
def FnExactSeriesTurnUptoSaid : Prop := fnExactSeriesTurnUptoRow.holds Try.pinned (OpenSpec.upto fnExactSeriesTurnSpec)

/-- 'laws.FnExactSeriesCompose', WHERE WHAT IT READS IS OF BULK AT MOST 1048576: true; the input reads as it did. -/
def fnExactSeriesComposeUptoRow : OpenClaim := { program := "ytnobpckmlhgeiaa", sum := "6752f4a21d4824c014199f4a3fcb00976af7704ca57872bdd78864b48ba2ae7e", func := "loop.example/operadtrees/laws.FnExactSeriesCompose", spec := "fnExactSeriesCompose", recurses := true, apart := false, narrowed := true }
def FnExactSeriesComposeUptoSaid : Prop := fnExactSeriesComposeUptoRow.holds Try.pinned (OpenSpec.upto fnExactSeriesComposeSpec)

/-- 'laws.FnExactSeriesInverse', WHERE WHAT IT READS IS OF BULK AT MOST 1048576: true; the input reads as it did. -/
def fnExactSeriesInverseUptoRow : OpenClaim := { program := "ytnobpckmlhgeiaa", sum := "6752f4a21d4824c014199f4a3fcb00976af7704ca57872bdd78864b48ba2ae7e", func := "loop.example/operadtrees/laws.FnExactSeriesInverse", spec := "fnExactSeriesInverse", recurses := true, apart := false, narrowed := true }
def FnExactSeriesInverseUptoSaid : Prop := fnExactSeriesInverseUptoRow.holds Try.pinned (OpenSpec.upto fnExactSeriesInverseSpec)

/-- 'laws.FnExactSeriesDual', WHERE WHAT IT READS IS OF BULK AT MOST 1048576: true; the input reads as it did. -/
def fnExactSeriesDualUptoRow : OpenClaim := { program := "ytnobpckmlhgeiaa", sum := "6752f4a21d4824c014199f4a3fcb00976af7704ca57872bdd78864b48ba2ae7e", func := "loop.example/operadtrees/laws.FnExactSeriesDual", spec := "fnExactSeriesDual", recurses := true, apart := false, narrowed := true }
def FnExactSeriesDualUptoSaid : Prop := fnExactSeriesDualUptoRow.holds Try.pinned (OpenSpec.upto fnExactSeriesDualSpec)

/-- 'laws.FnSeriesTimes', WHERE WHAT IT READS IS OF BULK AT MOST 1048576: true; the input reads as it did. -/
def fnSeriesTimesUptoRow : OpenClaim := { program := "ytnobpckmlhgeiaa", sum := "6752f4a21d4824c014199f4a3fcb00976af7704ca57872bdd78864b48ba2ae7e", func := "loop.example/operadtrees/laws.FnSeriesTimes", spec := "fnSeriesTimes", apart := false, narrowed := true }
def FnSeriesTimesUptoSaid : Prop := fnSeriesTimesUptoRow.holds Try.pinned (OpenSpec.upto fnSeriesTimesSpec)

/-- 'laws.FnSeriesDual', WHERE WHAT IT READS IS OF BULK AT MOST 1048576: true; the input reads as it did. -/
def fnSeriesDualUptoRow : OpenClaim := { program := "ytnobpckmlhgeiaa", sum := "6752f4a21d4824c014199f4a3fcb00976af7704ca57872bdd78864b48ba2ae7e", func := "loop.example/operadtrees/laws.FnSeriesDual", spec := "fnSeriesDual", recurses := true, apart := false, narrowed := true }
def FnSeriesDualUptoSaid : Prop := fnSeriesDualUptoRow.holds Try.pinned (OpenSpec.upto fnSeriesDualSpec)

/-- 'laws.FnTurn', WHERE WHAT IT READS IS OF BULK AT MOST 1048576: true; the input reads as it did. -/
def fnTurnUptoRow : OpenClaim := { program := "ytnobpckmlhgeiaa", sum := "6752f4a21d4824c014199f4a3fcb00976af7704ca57872bdd78864b48ba2ae7e", func := "loop.example/operadtrees/laws.FnTurn", spec := "fnTurn", apart := false, narrowed := true }
def FnTurnUptoSaid : Prop := fnTurnUptoRow.holds Try.pinned (OpenSpec.upto fnTurnSpec)

/-- 'laws.FnSeries', WHERE WHAT IT READS IS OF BULK AT MOST 1048576: true; the input reads as it did. -/
def fnSeriesUptoRow : OpenClaim := { program := "ytnobpckmlhgeiaa", sum := "6752f4a21d4824c014199f4a3fcb00976af7704ca57872bdd78864b48ba2ae7e", func := "loop.example/operadtrees/laws.FnSeries", spec := "fnSeries", recurses := true, apart := false, narrowed := true }
def FnSeriesUptoSaid : Prop := fnSeriesUptoRow.holds Try.pinned (OpenSpec.upto fnSeriesSpec)

/-- 'laws.FnInverse', WHERE WHAT IT READS IS OF BULK AT MOST 1048576: true; the input reads as it did. -/
def fnInverseUptoRow : OpenClaim := { program := "ytnobpckmlhgeiaa", sum := "6752f4a21d4824c014199f4a3fcb00976af7704ca57872bdd78864b48ba2ae7e", func := "loop.example/operadtrees/laws.FnInverse", spec := "fnInverse", recurses := true, apart := false, narrowed := true }
def FnInverseUptoSaid : Prop := fnInverseUptoRow.holds Try.pinned (OpenSpec.upto fnInverseSpec)

/-- 'laws.FnCompose', WHERE WHAT IT READS IS OF BULK AT MOST 1048576: true; the input reads as it did. -/
def fnComposeUptoRow : OpenClaim := { program := "ytnobpckmlhgeiaa", sum := "6752f4a21d4824c014199f4a3fcb00976af7704ca57872bdd78864b48ba2ae7e", func := "loop.example/operadtrees/laws.FnCompose", spec := "fnCompose", recurses := true, apart := false, narrowed := true }
def FnComposeUptoSaid : Prop := fnComposeUptoRow.holds Try.pinned (OpenSpec.upto fnComposeSpec)

end Rows
end Go.Proofs.Ytnobpckmlhgeiaa
