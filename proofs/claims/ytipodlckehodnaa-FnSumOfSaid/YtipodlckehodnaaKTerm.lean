/- Merged out of: XTermC, XTerm. -/
import Derived.Test.YtipodlckehodnaaKStrs
import Derived.Deep.SlicePairs
import Derived.OpenShut
section
/- A list of terms that comes in: its size told, its copy made, two copies compared. -/
namespace Go.Proofs.Ytipodlckehodnaa
open Go.RowKit

/-- A slice of terms reads as these coefficients and texts. -/
def TermO (w : World) (a : Option Addr) (ys : List (Int × ByteArray)) : Prop := ∀ j (h : j < ys.length), ∃ b off, a = some ⟨b, off, none⟩ ∧ w.cell? ⟨b, off + j * 2, none⟩ = some (.int .i64 (ys[j]).1) ∧ w.cell? ⟨b, off + j * 2 + 1, none⟩ = some (.string (ys[j]).2)

theorem TermO.below {w w' : World} {a : Option Addr} {ys : List (Int × ByteArray)} (h : TermO w a ys) (hb : Below w.heap.size w w') : TermO w' a ys := fun j hj => by
  obtain ⟨b, off, e, hc, hd⟩ := h j hj
  exact ⟨b, off, e, keep1 hb hc, keep1 hb hd⟩

/-- .. in memory of the call's own. -/
def TermL (w : World) (g : Nat) (ys : List (Int × ByteArray)) : Prop := ∀ j (h : j < ys.length), w.cell? ⟨g, j * 2, none⟩ = some (.int .i64 (ys[j]).1) ∧ w.cell? ⟨g, j * 2 + 1, none⟩ = some (.string (ys[j]).2)

theorem TermL.below {w w' : World} {g : Nat} {ys : List (Int × ByteArray)} (h : TermL w g ys) (hb : Below w.heap.size w w') : TermL w' g ys := fun j hj => by
  obtain ⟨hc, hd⟩ := h j hj
  exact ⟨keep1 hb hc, keep1 hb hd⟩

/-- The coefficients are ints. -/
def Coefs (ys : List (Int × ByteArray)) : Prop := ∀ j (h : j < ys.length), -9223372036854775808 ≤ (ys[j]).1 ∧ (ys[j]).1 ≤ 9223372036854775807

theorem cellsIntT : Try.prog.cellsOf 3 = 1 := by kernel_rfl

/-- The choice of what stands behind each index. -/
theorem choose_terms {n : Nat} {Q : Nat → Int × ByteArray → Prop} (h : ∀ j, j < n → ∃ y, Q j y) : ∃ ys : List (Int × ByteArray), ys.length = n ∧ ∀ j (hj : j < ys.length), Q j ys[j] := by
  induction n with
  | zero => exact ⟨[], rfl, fun j hj => by simp at hj⟩
  | succ n ih =>
    obtain ⟨ys, h1, h2⟩ := ih (fun j hj => h j (by omega))
    obtain ⟨y, hy⟩ := h n (by omega)
    refine ⟨ys ++ [y], by simp [h1], fun j hj => ?_⟩
    by_cases e : j < ys.length
    · rw [List.getElem_append_left e]; exact h2 j e
    · have : j = n := by simp at hj; omega
      subst this
      rw [List.getElem_append_right (by omega)]
      simpa using hy

/-- How much is left: below 0, or all texts are small. -/
def SzTerm (ys : List (Int × ByteArray)) (w : World) (e : Ending) (w' : World) : Prop :=
  Below w.heap.size w w' ∧ ∃ v : Int, e = .returned (.int .i64 v) ∧ (v < 0 ∨ (0 ≤ v ∧ v ≤ 1048576 ∧ ys.length ≤ 1048576 ∧ ∀ j (h : j < ys.length), (ys[j]).2.size ≤ 1048576))

theorem infoTerm : (Try.prog.info? 32).map (fun i => (i.zero, i.size, i.bytes)) = some (some (.agg #[.int .i64 0, .string ⟨#[]⟩]), 2, 24) := by kernel_rfl

/-- A copy in new memory. -/
def CopyTerm (ys : List (Int × ByteArray)) (n : Nat) (w : World) (e : Ending) (w' : World) : Prop :=
  Below w.heap.size w w' ∧ ∃ g, e = .returned (.slice (some ⟨g, 0, none⟩) n n) ∧ w.heap.size ≤ g ∧ TermL w' g ys

end Go.Proofs.Ytipodlckehodnaa
end
section
/- A list of terms that comes in: its size told, its copy made, two copies compared. (what the exact laws want besides) -/
namespace Go.Proofs.Ytipodlckehodnaa
open Go.RowKit

/-- A copy in new memory, and the block that it fills. -/
def CopyTermB (ys : List (Int × ByteArray)) (n : Nat) (w : World) (e : Ending) (w' : World) : Prop :=
  Below w.heap.size w w' ∧ ∃ g, e = .returned (.slice (some ⟨g, 0, none⟩) n n) ∧ w.heap.size ≤ g ∧ TermL w' g ys ∧ ∃ cur, w'.heap[g]? = some (.cells cur 32 (0, 0)) ∧ n * 2 ≤ cur.size

end Go.Proofs.Ytipodlckehodnaa
end
