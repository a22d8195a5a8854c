/- Contracts of the functions that only ask of one text: valid, leaves, nodes; on both sides. (what the exact laws want besides) -/
import Derived.Test.YtmmfcljkcepahaaLawAC
import Derived.Test.YtmmfcljkcepahaaSpecA
import Derived.Test.YtmmfcljkcepahaaReadIC
import Derived.Test.YtmmfcljkcepahaaSizeI
import Derived.ProofKit
namespace Go.Proofs.Ytmmfcljkcepahaa
open Go.RowKit

end Go.Proofs.Ytmmfcljkcepahaa
