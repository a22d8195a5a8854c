/- The model grafts a tree at a leaf; TreeGraft on both sides. -/
import Derived.Test.YtoeebipahifpcaaGreatKFill
import Derived.Test.YtoeebipahifpcaaGreatKLawMirrorC
namespace Go.Proofs.YtoeebipahifpcaaGreat
open Go.RowKit

/-- What is answered for a tree that was made: its text if it is small enough. -/
def doneV (t : T) : Value := if t.leaves ≤ 12 ∧ t.nodes ≤ 16 then .tuple #[.string ⟨t.text.toArray⟩, .bool true] else .tuple #[.string ⟨#[]⟩, .bool false]

theorem doneV_yes {t : T} (h : small t = true) : doneV t = .tuple #[.string ⟨t.text.toArray⟩, .bool true] := by
  have h' : t.leaves ≤ 12 ∧ t.nodes ≤ 16 := by simpa [small] using h
  rw [doneV, if_pos h']
theorem doneV_no {t : T} (h : small t = false) : doneV t = .tuple #[.string ⟨#[]⟩, .bool false] := by
  have h' : ¬ (t.leaves ≤ 12 ∧ t.nodes ≤ 16) := by
    intro h2
    have : small t = true := by simpa [small] using h2
    rw [this] at h; cases h
  rw [doneV, if_neg h']

end Go.Proofs.YtoeebipahifpcaaGreat
