/- The model: leaves and nodes counted, small trees, a text parsed. -/
import Derived.Test.YtnobpckmlhgeiaaReadB
import Derived.RegionTactic
import Derived.Deep.RegionWith
import Derived.Deep.RegionHeld3
import Derived.Deep.QuietTactic
import Derived.BigQuiet
namespace Go.Proofs.Ytnobpckmlhgeiaa
open Go.RowKit

/-- What 'l1Parse' answers. -/
def PsPost (s : ByteArray) (w : World) (e : Ending) (w' : World) : Prop :=
  Below w.heap.size w w' ∧ ∃ (lb : ByteArray) (sa : Option Addr) (sn sc : Nat) (b : Bool), e = .returned (.tuple #[.agg #[.string lb, .slice sa sn sc], .bool b]) ∧
    ((parse s.data.toList = none ∧ b = false) ∨
     ∃ t, parse s.data.toList = some t ∧ b = true ∧ RepS w' (fun b => w.heap.size ≤ b) t (.string lb) (.slice sa sn sc))

theorem ps_none {s : ByteArray} {w w' : World} {lb : ByteArray} {sa : Option Addr} {sn sc : Nat} (hb : Below w.heap.size w w') (h : parse s.data.toList = none) :
    PsPost s w (.returned (.tuple #[.agg #[.string lb, .slice sa sn sc], .bool false])) w' := ⟨hb, lb, sa, sn, sc, false, rfl, .inl ⟨h, rfl⟩⟩

end Go.Proofs.Ytnobpckmlhgeiaa
