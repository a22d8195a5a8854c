/- Contracts of the functions that only ask of one text: valid, leaves, nodes; on both sides. (what the exact laws want besides) -/
import Derived.Test.YthpaaeicagnobaaKReadIC
import Derived.Test.YthpaaeicagnobaaSpecA
import Derived.ProofKit
namespace Go.Proofs.Ythpaaeicagnobaa
open Go.RowKit

end Go.Proofs.Ythpaaeicagnobaa
