/- Merged out of: XKLawPaths, XLawQT, XLawQP. -/
import Derived.Test.YtapobhnhnldlkaaGreatKGraftD
import Derived.Test.YtapobhnhnldlkaaGreatKPathsJ
import Derived.Test.YtapobhnhnldlkaaGreatKReadA
import Derived.Test.YtapobhnhnldlkaaGreatKStrT
import Derived.Test.YtapobhnhnldlkaaGreatKQuadN
import Derived.Test.YtapobhnhnldlkaaGreatKQuadD
import Derived.Test.YtapobhnhnldlkaaGreatKSumRJ
section
/- Merged out of: XDepth, XLawPaths. -/
section
/- Depths on both sides. (what the exact laws want besides) -/
namespace Go.Proofs.YtapobhnhnldlkaaGreat
open Go.RowKit

end Go.Proofs.YtapobhnhnldlkaaGreat
end
section
/- TreePaths on both sides, and its law. (what the exact laws want besides) -/
namespace Go.Proofs.YtapobhnhnldlkaaGreat
open Go.RowKit

end Go.Proofs.YtapobhnhnldlkaaGreat
end
end
section
/- The law of QuadTrees. -/
namespace Go.Proofs.YtapobhnhnldlkaaGreat
open Go.RowKit

/-- A copy in new memory, its block known. -/
def CopyPost2 (ss : List ByteArray) (w : World) (e : Ending) (w' : World) : Prop :=
  Below w.heap.size w w' ∧ ∃ g, e = .returned (.slice (some ⟨g, 0, none⟩) ss.length ss.length) ∧ w.heap.size ≤ g ∧ (∃ cur : Array Value, w'.heap[g]? = some (.cells cur 9 (0, 0)) ∧ ss.length ≤ cur.size) ∧ Lies w' (some ⟨g, 0, none⟩) (txl ss)

theorem quadTx_len (ss : List ByteArray) : (quadTx ss).length ≤ 18 := by
  unfold quadTx
  cases h : quadsOf ss with
  | none => simp
  | some ts => simpa using (quadsOf_ok h).1

end Go.Proofs.YtapobhnhnldlkaaGreat
end
section
/- The law of QuadPair. -/
namespace Go.Proofs.YtapobhnhnldlkaaGreat
open Go.RowKit

end Go.Proofs.YtapobhnhnldlkaaGreat
end
