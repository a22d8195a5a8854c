/- Contracts of the functions that only ask of one text: valid, leaves, nodes; on both sides. -/
import Derived.Test.YtmmfcljkcepahaaSpecA
import Derived.Test.YtmmfcljkcepahaaReadIC
import Derived.Test.YtmmfcljkcepahaaSizeI
import Derived.ProofKit
namespace Go.Proofs.Ytmmfcljkcepahaa
open Go.RowKit

theorem own : ownKnob Try.prog.godebug = none := by kernel_rfl

theorem laidOut : laidOutB Try.prog = true := by kernel_rfl

/-- What a call answers that only makes memory. -/
def Ans (v : Value) (w : World) (e : Ending) (w' : World) : Prop := e = .returned v ∧ Below w.heap.size w w'

theorem sValid_any (s : ByteArray) (w : World) (hs : s.size ≤ 140737488351232) :
    Calls Try.prog 89 #[.string s] w (Ans (.bool (parse s.data.toList).isSome) w) := by
  go_enter Try.func89, Try.ntmps89
  go_wp2_with fail
  refine (l1Parse_any s w hs).mono ?_
  rintro e w1 ⟨hB, lb, sa, sn, sc, b, rfl, hres⟩
  have hb : b = (parse s.data.toList).isSome := by
    rcases hres with ⟨h, rfl⟩ | ⟨t, h, rfl, _⟩
    · rw [h]; rfl
    · rw [h]; rfl
  have HB := Lib.hid hb
  clear hb hres
  go_wp2_with fail
  go_ret
  exact ⟨by rw [← HB.out]; rfl, hB.alloc hB.size _⟩

end Go.Proofs.Ytmmfcljkcepahaa
