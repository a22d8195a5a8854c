/- TreeMirror on both sides, and its law. -/
import Derived.Test.YtmmfcljkcepahaaMirrorI
import Derived.Test.YtmmfcljkcepahaaLawAC
namespace Go.Proofs.Ytmmfcljkcepahaa
open Go.RowKit

def mirrorOf : Option T → List UInt8
  | none => []
  | some t => t.mirror.text

theorem mirror_len {t : T} (hl : t.leaves ≤ 12) (hn : t.nodes ≤ 16) : t.mirror.text.length ≤ 100000 := by
  have h1 := text_length t.mirror
  have h2 := mirror_size t
  omega

end Go.Proofs.Ytmmfcljkcepahaa
