/- TreeGraft on both sides, and its law. -/
import Derived.Test.YtoeebipahifpcaaGreatGraftS
namespace Go.Proofs.YtoeebipahifpcaaGreat
open Go.RowKit

/-- What is grafted. -/
def graftOf (a : List UInt8) (k : Int) (b : List UInt8) : Option T :=
  match parse a, parse b with
  | some t, some u => if 0 ≤ k ∧ k ≤ (t.leaves : Int) - 1 then some (t.fill (oneIn t.leaves k.toNat u)) else none
  | _, _ => none

def graftV : Option T → Value
  | none => .tuple #[.string ⟨#[]⟩, .bool false]
  | some t => doneV t

theorem graftOf_no {a b : List UInt8} {k : Int} (h : parse a = none) : graftOf a k b = none := by simp [graftOf, h]
theorem graftOf_no2 {a b : List UInt8} {k : Int} (h : parse b = none) : graftOf a k b = none := by
  cases ha : parse a <;> simp [graftOf, h, ha]
theorem graftOf_out {a b : List UInt8} {k : Int} {t : T} (ha : parse a = some t) (hk : ¬ (0 ≤ k ∧ k ≤ (t.leaves : Int) - 1)) : graftOf a k b = none := by
  cases hb : parse b with
  | none => exact graftOf_no2 hb
  | some u => simp only [graftOf, ha, hb]; rw [if_neg hk]
theorem graftOf_in {a b : List UInt8} {k : Nat} {t u : T} (ha : parse a = some t) (hb : parse b = some u) (hk : k < t.leaves) : graftOf a k b = some (t.fill (oneIn t.leaves k u)) := by
  simp only [graftOf, ha, hb]
  rw [if_pos (by omega), Int.toNat_natCast]

theorem doneV_shape (t : T) : ∃ x b, doneV t = .tuple #[.string x, .bool b] := by
  unfold doneV
  split
  · exact ⟨_, _, rfl⟩
  · exact ⟨_, _, rfl⟩

end Go.Proofs.YtoeebipahifpcaaGreat
