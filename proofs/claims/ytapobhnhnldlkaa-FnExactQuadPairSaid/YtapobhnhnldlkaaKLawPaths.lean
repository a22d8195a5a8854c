/- Merged out of: XDepth, XLawPaths. -/
import Derived.Test.YtapobhnhnldlkaaKGraftD
import Derived.Test.YtapobhnhnldlkaaKPathsJ
import Derived.Test.YtapobhnhnldlkaaKReadL
import Derived.Test.YtapobhnhnldlkaaKStrT
section
/- Depths on both sides. (what the exact laws want besides) -/
namespace Go.Proofs.Ytapobhnhnldlkaa
open Go.RowKit

end Go.Proofs.Ytapobhnhnldlkaa
end
section
/- TreePaths on both sides, and its law. (what the exact laws want besides) -/
namespace Go.Proofs.Ytapobhnhnldlkaa
open Go.RowKit

end Go.Proofs.Ytapobhnhnldlkaa
end
