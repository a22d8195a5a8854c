/- Contracts of the functions that only ask of one text: valid, leaves, nodes; on both sides. (what the exact laws want besides) -/
import Derived.Test.YtflmdknienjlmaaKReadIC
import Derived.Test.YtflmdknienjlmaaSpecA
import Derived.ProofKit
namespace Go.Proofs.Ytflmdknienjlmaa
open Go.RowKit

end Go.Proofs.Ytflmdknienjlmaa
