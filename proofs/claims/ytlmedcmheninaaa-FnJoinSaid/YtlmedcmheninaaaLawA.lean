/- Contracts of the functions that only ask of one text: valid, leaves, nodes; on both sides. (what the exact laws want besides) -/
import Derived.Test.YtlmedcmheninaaaKReadIC
import Derived.Test.YtlmedcmheninaaaSpecA
import Derived.ProofKit
namespace Go.Proofs.Ytlmedcmheninaaa
open Go.RowKit

end Go.Proofs.Ytlmedcmheninaaa
