/- Merged out of: XSignI, XSym, XLawSign. -/
import Derived.Test.YtbbkaephlojalaaKSignS
import Derived.Maps.OwnSet
import Derived.Test.YtbbkaephlojalaaKStrT
import Derived.Deep.SlicePairs
import Derived.OpenShut
section
/- Signatures read by the program, as a map; SignValid and its law. -/
namespace Go.Proofs.Ytbbkaephlojalaa
open Go.RowKit Go.Maps
open Go.WideMaps (keyOf_string_mk)

theorem keyStr : Keyed Try.prog 9 := string_keyed Try.underlying9
theorem zeroInt (w : World) : (zeroValue 3).run Try.prog w = .ok (.int .i64 0) w := by kernel_rfl

/-- The key that a letter is. -/
def keyL (s : ByteArray) : Lit := .string s.data.toList
def arL (x : Int) : DataW Unit := .lit (.int .i64 x)

/-- The map that a list of symbols makes. -/
def signD : List (ByteArray × Int) → DataW Unit := fun ys => ys.foldl (fun m y => m.put (keyL y.1) (arL y.2)) (.map [])

theorem signD_nil : signD [] = .map [] := rfl
theorem signD_snoc (ys : List (ByteArray × Int)) (y : ByteArray × Int) : signD (ys ++ [y]) = (signD ys).put (keyL y.1) (arL y.2) := by simp [signD, List.foldl_append]
theorem signD_isMap (ys : List (ByteArray × Int)) : IsMap (signD ys) := by
  have : ∀ (ys : List (ByteArray × Int)) (m : DataW Unit), IsMap m → IsMap (ys.foldl (fun m y => m.put (keyL y.1) (arL y.2)) m) := by
    intro ys
    induction ys with
    | nil => exact fun m h => h
    | cons y ys ih => exact fun m h => ih _ (h.put _ _)
  exact this ys _ isMap_empty

theorem keyL_is (s : ByteArray) : WideAt.IsKeyLit (keyL s) := by simp [keyL, WideAt.IsKeyLit]
theorem keyL_inj {a b : ByteArray} (h : keyL a = keyL b) : a = b := by
  simp only [keyL, Lit.string.injEq] at h
  exact Go.WideShapes.bytes_inj h

theorem has_signD (s : ByteArray) (ys : List (ByteArray × Int)) : ∀ k, k ≤ ys.length → (Maps.has (signD (ys.take k)) (keyL s) = true ↔ ∃ j, ∃ h : j < ys.length, j < k ∧ (ys[j]).1 = s) := by
  intro k
  induction k with
  | zero => intro _; simp [signD, Maps.has]
  | succ k ih =>
    intro hk
    have hk' : k < ys.length := by omega
    rw [List.take_succ_eq_append_getElem hk', signD_snoc]
    by_cases e : (ys[k]).1 = s
    · rw [e, has_put_same (signD_isMap _) (keyL_is _)]
      exact ⟨fun _ => ⟨k, hk', by omega, e⟩, fun _ => rfl⟩
    · rw [has_put_other (fun h => e (keyL_inj h).symm), ih (by omega)]
      constructor
      · rintro ⟨j, h, h1, h2⟩; exact ⟨j, h, by omega, h2⟩
      · rintro ⟨j, h, h1, h2⟩
        have : j ≠ k := fun h3 => by subst h3; exact e h2
        exact ⟨j, h, by omega, h2⟩

/-- What 'readSign' answers. -/
def RsPost (ys : List (ByteArray × Int)) (w : World) (e : Ending) (w' : World) : Prop :=
  Below w.heap.size w w' ∧ ((¬ SignOk ys ∧ e = .returned (.tuple #[.map none, .bool false])) ∨
    (SignOk ys ∧ e = .returned (.tuple #[.map (some w.heap.size), .bool true]) ∧ w'.ownsMap Try.prog 9 (plainElem Try.prog 3) w.heap.size ys.length (signD ys)))

end Go.Proofs.Ytbbkaephlojalaa
end
section
/- A list of symbols that comes in: its size told, its copy made, two copies compared. (what the exact laws want besides) -/
namespace Go.Proofs.Ytbbkaephlojalaa
open Go.RowKit

end Go.Proofs.Ytbbkaephlojalaa
end
section
/- SignValid: the law; the helpers of every law whose first argument is a list of symbols. -/
namespace Go.Proofs.Ytbbkaephlojalaa
open Go.RowKit

end Go.Proofs.Ytbbkaephlojalaa
end
