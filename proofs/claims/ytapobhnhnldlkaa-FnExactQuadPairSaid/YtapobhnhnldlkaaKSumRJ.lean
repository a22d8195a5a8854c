/- Merged out of: XSumRJ, XLawSumV, XLawSumL. -/
import Derived.Test.YtapobhnhnldlkaaSumRI
import Derived.Test.YtapobhnhnldlkaaKSumA
import Derived.Laws.EntriesVeiled
import Derived.Test.YtapobhnhnldlkaaKStrT
section
/- The program reads a sum; SumValid. -/
namespace Go.Proofs.Ytapobhnhnldlkaa
open Go.RowKit

theorem _root_.Go.World.size_alloc' (w : World) (o : Obj) : (w.alloc o).heap.size = w.heap.size + 1 := by simp

/-- What 'readSum' answers. -/
def RSum (xs : List (Int × ByteArray)) (w : World) (e : Ending) (w' : World) : Prop :=
  Below w.heap.size w w' ∧ ((sumOf xs = none ∧ e = .returned (.tuple #[.agg #[.nilFunc, .slice none 0 0], .bool false])) ∨
    ∃ ps g c, sumOf xs = some ps ∧ e = .returned (.tuple #[.agg #[.func (.func 27) #[] #[], .slice (some ⟨g, 0, none⟩) ps.length c], .bool true]) ∧ Rd tmI w' (fun _ => True) (some ⟨g, 0, none⟩) ps)

end Go.Proofs.Ytapobhnhnldlkaa
end
section
/- SumValid: the law; the helpers of every law whose argument is a list of terms. -/
namespace Go.Proofs.Ytapobhnhnldlkaa
open Go.RowKit

theorem toTm_n {ys : List (Int × ByteArray)} {a : Option Addr} {cap n : Nat} (hnn : n = ys.length) (hn2 : ys.length ≤ 1048576) (w : World) (hh : TermO w a ys) :
    Calls Try.prog 8 #[.slice a n cap] w (CopyTerm ys n w) := by
  subst hnn
  exact toTermS_any ys a cap w hn2 hh

end Go.Proofs.Ytapobhnhnldlkaa
end
section
/- SumLead by the program and by the model, and its law. -/
namespace Go.Proofs.Ytapobhnhnldlkaa
open Go.RowKit

/-- The first term of a sum that is not 0. -/
def leadOf (xs : List (Int × ByteArray)) : Option (Int × ByteArray) := if (sumOf xs).isSome then xs.head? else none

theorem leadOf_no {xs : List (Int × ByteArray)} (h : (sumOf xs).isSome = false) : leadOf xs = none := by rw [leadOf, h]; rfl
theorem leadOf_yes {xs : List (Int × ByteArray)} (h0 : 0 < xs.length) (h : (sumOf xs).isSome = true) : leadOf xs = some (xs[0]) := by
  rw [leadOf, h]
  cases xs with
  | nil => simp at h0
  | cons x xs => rfl

def leadV : Option (Int × ByteArray) → Value
  | none => .tuple #[.agg #[.int .i64 0, .string ⟨#[]⟩], .bool false]
  | some y => .tuple #[.agg #[.int .i64 y.1, .string y.2], .bool true]

def LeadPost (xs : List (Int × ByteArray)) (w : World) (e : Ending) (w' : World) : Prop := Below w.heap.size w w' ∧ e = .returned (leadV (leadOf xs))

theorem leadV_shape (o : Option (Int × ByteArray)) : ∃ x s b, leadV o = .tuple #[.agg #[.int .i64 x, .string s], .bool b] := by
  cases o with
  | none => exact ⟨_, _, _, rfl⟩
  | some y => exact ⟨_, _, _, rfl⟩

end Go.Proofs.Ytapobhnhnldlkaa
end
