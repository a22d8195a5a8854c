/- Contracts of the functions that only ask of one text: valid, leaves, nodes; on both sides. (what the exact laws want besides) -/
import Derived.Test.YtipodlckehodnaaKReadIC
import Derived.Test.YtipodlckehodnaaSpecA
import Derived.ProofKit
namespace Go.Proofs.Ytipodlckehodnaa
open Go.RowKit

end Go.Proofs.Ytipodlckehodnaa
