/- Merged out of: XLawGraftB, XPLaws5. -/
import Derived.Test.YtfjodghnheliaaaKLawGraftBC
import Derived.Test.YtfjodghnheliaaaLawGraft
import Derived.Test.YtfjodghnheliaaaPLaws2
import Derived.Test.YtfjodghnheliaaaKPCut
section
/- TreeGraft by the model, and its law. (what the exact laws want besides) -/
namespace Go.Proofs.Ytfjodghnheliaaa
open Go.RowKit

end Go.Proofs.Ytfjodghnheliaaa
end
section
/- The promise on nodes. -/
namespace Go.Proofs.Ytfjodghnheliaaa
open Go.RowKit

end Go.Proofs.Ytfjodghnheliaaa
end
