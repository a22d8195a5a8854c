/- Merged out of: XDepth, XLawPaths. -/
import Derived.Test.YtfjodghnheliaaaDepthC
import Derived.Test.YtfjodghnheliaaaKPathsI
import Derived.Test.YtfjodghnheliaaaLawA
import Derived.Test.YtfjodghnheliaaaLawPathsC
import Derived.Test.YtfjodghnheliaaaKStrs
section
/- Depths on both sides. (what the exact laws want besides) -/
namespace Go.Proofs.Ytfjodghnheliaaa
open Go.RowKit

end Go.Proofs.Ytfjodghnheliaaa
end
section
/- TreePaths on both sides, and its law. (what the exact laws want besides) -/
namespace Go.Proofs.Ytfjodghnheliaaa
open Go.RowKit

end Go.Proofs.Ytfjodghnheliaaa
end
