/- The model: the part at a node. -/
import Derived.Test.YtmmfcljkcepahaaOut
import Derived.Test.YtmmfcljkcepahaaCut
namespace Go.Proofs.Ytmmfcljkcepahaa
open Go.RowKit

/-- A part is handed back, where it lay. -/
def PartS (P : Nat → Prop) (p : T) (a : Nat) (w : World) (e : Ending) (w' : World) : Prop :=
  Below w.heap.size w w' ∧ ∃ (lb : ByteArray) (sa : Option Addr) (sn sc : Nat), e = .returned (.tuple #[.agg #[.string lb, .slice sa sn sc], .int .i64 a]) ∧ RepS w' P p (.string lb) (.slice sa sn sc)

theorem RepS.shape' {w : World} {P : Nat → Prop} {t : T} {l s : Value} (h : RepS w P t l s) : ∃ (lb : ByteArray) (sa : Option Addr) (sn sc : Nat), l = .string lb ∧ s = .slice sa sn sc := by
  cases t with
  | leaf => rw [RepS] at h; exact ⟨_, _, _, _, h.1, h.2⟩
  | node c ks => rw [RepS] at h; obtain ⟨h1, g, cap, h2, _⟩ := h; exact ⟨_, _, _, _, h1, h2⟩

end Go.Proofs.Ytmmfcljkcepahaa
