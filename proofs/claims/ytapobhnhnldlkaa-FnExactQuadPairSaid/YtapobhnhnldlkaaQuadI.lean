/- The program reads letters: the quadratic trees. -/
import Derived.Test.YtapobhnhnldlkaaQuadN
namespace Go.Proofs.Ytapobhnhnldlkaa
open Go.RowKit

end Go.Proofs.Ytapobhnhnldlkaa
