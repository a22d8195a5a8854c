/- Merged out of: XLawGraftB, XPLaws5. -/
import Derived.Test.YtlmedcmheninaaaKLawGraftBC
import Derived.Test.YtlmedcmheninaaaLawGraft
import Derived.Test.YtlmedcmheninaaaPLaws2
import Derived.Test.YtlmedcmheninaaaKPCut
section
/- TreeGraft by the model, and its law. (what the exact laws want besides) -/
namespace Go.Proofs.Ytlmedcmheninaaa
open Go.RowKit

end Go.Proofs.Ytlmedcmheninaaa
end
section
/- The promise on nodes. -/
namespace Go.Proofs.Ytlmedcmheninaaa
open Go.RowKit

end Go.Proofs.Ytlmedcmheninaaa
end
