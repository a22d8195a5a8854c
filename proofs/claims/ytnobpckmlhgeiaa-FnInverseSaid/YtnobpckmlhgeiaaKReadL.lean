/- Merged out of: XKReadIC, XLawA. -/
import Derived.Test.YtnobpckmlhgeiaaKReadIB
import Derived.Test.YtnobpckmlhgeiaaSpecA
import Derived.ProofKit
section
/- Merged out of: XReadIC, XSizeI, XLawAC. -/
section
/- The program's reader: '(*treeReader).tree' and 'readTree'. -/
namespace Go.Proofs.Ytnobpckmlhgeiaa
open Go.RowKit

/-- Neither a star nor a parenthesis is taken. -/
theorem lim_other {s : ByteArray} {i L N f : Nat} (hi : i ≤ s.size) (h42 : ∀ h : i < s.size, s[i] = 42 → ¬ L < 12) (h40 : ∀ h : i < s.size, s[i] = 40 → ¬ N < 16) : lim L N (rd (f + 1) (s.data.toList.drop i)) = none := by
  by_cases hlt : i < s.size
  · rw [drop_at hlt]
    by_cases h1 : s[i] = 42
    · rw [h1, show rd (f + 1) (42 :: s.data.toList.drop (i + 1)) = some (.leaf, s.data.toList.drop (i + 1)) from by simp [rd], lim, if_neg]
      have := h42 hlt h1
      simp only [T.leaves]; omega
    · by_cases h2 : s[i] = 40
      · have h3 := h40 hlt h2
        cases hr : rd (f + 1) (s[i] :: s.data.toList.drop (i + 1)) with
        | none => rfl
        | some p =>
          obtain ⟨t, q⟩ := p
          obtain ⟨hw, ht⟩ := rd_some _ _ _ _ hr
          rw [lim, if_neg]
          cases t with
          | leaf => rw [h2] at ht; simp [T.text] at ht
          | node c ks => simp only [T.nodes]; omega
      · rw [rd_other h1 h2, lim]
  · rw [drop_end (by omega)]; rfl

theorem below_of_new {w w1 w2 : World} {X : Obj} (h : w1 = w.alloc X) (hg : w1.grownBy w2 (some w.heap.size)) : Below w.heap.size w w2 := by
  subst h
  exact ⟨hg.os, hg.tape, hg.output, by have := hg.size; simp at this; omega, fun k hk => by rw [hg.block k (by simp; omega) (by simp; omega), Below.heap_alloc _ _ _ hk]⟩

end Go.Proofs.Ytnobpckmlhgeiaa
end
section
/- The program: leaves and nodes counted through the interface. -/
namespace Go.Proofs.Ytnobpckmlhgeiaa
open Go.RowKit

end Go.Proofs.Ytnobpckmlhgeiaa
end
section
/- Contracts of the functions that only ask of one text: valid, leaves, nodes; on both sides. -/
namespace Go.Proofs.Ytnobpckmlhgeiaa
open Go.RowKit

theorem own : ownKnob Try.prog.godebug = none := by kernel_rfl

theorem laidOut : laidOutB Try.prog = true := by kernel_rfl

/-- What a call answers that only makes memory. -/
def Ans (v : Value) (w : World) (e : Ending) (w' : World) : Prop := e = .returned v ∧ Below w.heap.size w w'

end Go.Proofs.Ytnobpckmlhgeiaa
end
end
section
/- Contracts of the functions that only ask of one text: valid, leaves, nodes; on both sides. (what the exact laws want besides) -/
namespace Go.Proofs.Ytnobpckmlhgeiaa
open Go.RowKit

end Go.Proofs.Ytnobpckmlhgeiaa
end
