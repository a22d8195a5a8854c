/- Merged out of: XPLaws2, XKPLaws5. -/
import Derived.Test.YtfflgjidapclkaaKGraftD
import Derived.Test.YtfflgjidapclkaaLawGraft
import Derived.Test.YtfflgjidapclkaaKPatM
section
/- The draws of one tree, and the promises on it: leaves, mirrors. -/
namespace Go.Proofs.Ytfflgjidapclkaa
open Go.RowKit

mutual
theorem mirror_dep : ∀ (t : T), t.mirror.dep = t.dep
  | .leaf => by simp [T.mirror]
  | .node c ks => by rw [T.mirror, T.dep, T.dep, mirrorL_dep ks]
theorem mirrorL_dep : ∀ (ks : List T), T.depL (T.mirrorL ks) = T.depL ks
  | [] => by simp [T.mirrorL]
  | k :: ks => by
    rw [T.mirrorL, depL_append, mirrorL_dep ks]
    simp only [T.depL, mirror_dep k, Nat.max_zero]
    omega
end

end Go.Proofs.Ytfflgjidapclkaa
end
section
/- Merged out of: XLawGraftB, XPLaws5. -/
section
/- TreeGraft by the model, and its law. (what the exact laws want besides) -/
namespace Go.Proofs.Ytfflgjidapclkaa
open Go.RowKit

end Go.Proofs.Ytfflgjidapclkaa
end
section
/- The promise on nodes. -/
namespace Go.Proofs.Ytfflgjidapclkaa
open Go.RowKit

end Go.Proofs.Ytfflgjidapclkaa
end
end
