/- SumAdd by the model. -/
import Derived.Test.YtapobhnhnldlkaaGreatSumOpsS
import Derived.Deep.RegionHeld3
import Derived.Deep.QuietTactic
import Derived.BigQuiet
namespace Go.Proofs.YtapobhnhnldlkaaGreat
open Go.RowKit

theorem addOf_no1 {xs ys : List (Int × ByteArray)} (h : sumOf xs = none) : addOf xs ys = none := by rw [addOf, h]
theorem addOf_no2 {xs ys : List (Int × ByteArray)} (h : sumOf ys = none) : addOf xs ys = none := by
  rw [addOf, h]; split
  · next h1 h2 => cases h2
  · rfl
theorem addOf_in {xs ys : List (Int × ByteArray)} {ps qs : List Tm} (h : sumOf xs = some ps) (h2 : sumOf ys = some qs) : addOf xs ys = if alike ps qs = true then outOf (canon (ps ++ qs)) else none := by rw [addOf, h, h2]

end Go.Proofs.YtapobhnhnldlkaaGreat
