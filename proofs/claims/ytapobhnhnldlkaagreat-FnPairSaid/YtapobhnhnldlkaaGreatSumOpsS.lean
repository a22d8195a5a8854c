/- The model: adding a multiple of a sum, mirroring a sum; SumScale, SumAdd, SumMirror. -/
import Derived.Test.YtapobhnhnldlkaaGreatKSumOfS
import Derived.Test.YtapobhnhnldlkaaGreatKBndX
namespace Go.Proofs.YtapobhnhnldlkaaGreat
open Go.RowKit

theorem l3Read_none {xs : List (Int × ByteArray)} (h : sumOf xs = none) (m : Int) : sclOf xs m = none ∧ mirOf xs = none := ⟨by rw [sclOf, h], by rw [mirOf, h]⟩

end Go.Proofs.YtapobhnhnldlkaaGreat
