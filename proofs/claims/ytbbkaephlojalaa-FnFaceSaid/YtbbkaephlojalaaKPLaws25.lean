/- Merged out of: XPLaws2, XKPLaws5. -/
import Derived.Test.YtbbkaephlojalaaKGraftD
import Derived.Test.YtbbkaephlojalaaLawGraft
import Derived.Test.YtbbkaephlojalaaKPatM
section
/- The draws of one tree, and the promises on it: leaves, mirrors. -/
namespace Go.Proofs.Ytbbkaephlojalaa
open Go.RowKit

mutual
theorem mirror_dep : ∀ (t : T), t.mirror.dep = t.dep
  | .leaf => by simp [T.mirror]
  | .node c ks => by rw [T.mirror, T.dep, T.dep, mirrorL_dep ks]
theorem mirrorL_dep : ∀ (ks : List T), T.depL (T.mirrorL ks) = T.depL ks
  | [] => by simp [T.mirrorL]
  | k :: ks => by
    rw [T.mirrorL, depL_append, mirrorL_dep ks]
    simp only [T.depL, mirror_dep k, Nat.max_zero]
    omega
end

end Go.Proofs.Ytbbkaephlojalaa
end
section
/- Merged out of: XLawGraftB, XPLaws5. -/
section
/- TreeGraft by the model, and its law. (what the exact laws want besides) -/
namespace Go.Proofs.Ytbbkaephlojalaa
open Go.RowKit

end Go.Proofs.Ytbbkaephlojalaa
end
section
/- The promise on nodes. -/
namespace Go.Proofs.Ytbbkaephlojalaa
open Go.RowKit

end Go.Proofs.Ytbbkaephlojalaa
end
end
