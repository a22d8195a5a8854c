/- Contracts of the functions that only ask of one text: valid, leaves, nodes; on both sides. (what the exact laws want besides) -/
import Derived.Test.YtfjodghnheliaaaKReadIC
import Derived.Test.YtfjodghnheliaaaSpecA
import Derived.ProofKit
namespace Go.Proofs.Ytfjodghnheliaaa
open Go.RowKit

end Go.Proofs.Ytfjodghnheliaaa
