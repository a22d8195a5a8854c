/- Merged out of: XKStrs, XKTerm. -/
import Derived.Test.YtbbkaephlojalaaKPathsJ
import Derived.ProofKit
import Derived.Test.YtbbkaephlojalaaKReadA
import Derived.Deep.QuietTactic
import Derived.BigQuiet
import Derived.Deep.SlicePairs
import Derived.OpenShut
section
/- Merged out of: XStrArgC, XStrs, XStrArg. -/
section
/- A list of texts that comes in: its size told, its copy made. -/
namespace Go.Proofs.Ytbbkaephlojalaa
open Go.RowKit

/-- A slice from outside reads as these texts. -/
def LiesO (w : World) (a : Option Addr) (ss : List ByteArray) : Prop := ∀ j (h : j < ss.length), ∃ b off, a = some ⟨b, off, none⟩ ∧ w.cell? ⟨b, off + j, none⟩ = some (.string ss[j])

theorem LiesO.below {w w' : World} {a : Option Addr} {ss : List ByteArray} (h : LiesO w a ss) (hb : Below w.heap.size w w') : LiesO w' a ss := fun j hj => by
  obtain ⟨b, off, e, hc⟩ := h j hj
  exact ⟨b, off, e, keep1 hb hc⟩

/-- The texts' bytes. -/
def txl (ss : List ByteArray) : List (List UInt8) := ss.map fun s => s.data.toList

theorem txl_length (ss : List ByteArray) : (txl ss).length = ss.length := by simp [txl]

theorem txl_get {ss : List ByteArray} {j : Nat} (h : j < (txl ss).length) : (⟨((txl ss)[j]).toArray⟩ : ByteArray) = ss[j]'(by rw [txl_length] at h; exact h) := by
  have e : (txl ss)[j] = (ss[j]'(by rw [txl_length] at h; exact h)).data.toList := by simp only [txl, List.getElem_map]
  rw [e]

theorem cellsStr : Try.prog.cellsOf 9 = 1 := by kernel_rfl

set_option maxRecDepth 100000 in
/-- A []string among the arguments. -/
theorem open_txts {H : Type} {enc : TypeId × Value → H} {W : World} {spare : Nat → Bool} {held : Bool} {v : Value} {d : DataW H} {p : List MemPlace} {b : Nat}
    (hv : Value.okWide Try.prog W .any b 55 v) (h : DataW.Trod enc Try.prog W 0 spare held 55 v d p) :
    ∃ (a : Option Addr) (cap : Nat) (ss : List ByteArray), v = .slice a ss.length cap ∧ LiesO W a ss ∧ (∀ s ∈ ss, s.size ≤ 9223372036854775807) ∧ ss.length ≤ 9223372036854775807 := by
  obtain ⟨a0, len, cap, rfl⟩ := Go.WideShapes.okWide_slice Try.underlying55 hv
  obtain ⟨fuel, hf⟩ := h
  rcases Go.ChangeShapes.open_strings Try.underlying55 Try.underlying9 cellsStr hf with ⟨hcs, hx⟩ | ⟨a, len', cap', ss, hcs, _, hl, hm, hz, hx, hcell, hws⟩
  · simp [Value.cells] at hcs
    obtain ⟨rfl, rfl, rfl⟩ := hcs
    exact ⟨none, 0, [], rfl, fun j h => by simp at h, fun s h => by simp at h, by simp⟩
  · simp [Value.cells] at hcs
    obtain ⟨rfl, rfl, rfl⟩ := hcs
    have hle : len ≤ ss.length := by rw [hz]; split <;> omega
    simp only [maxLen, show (2 ^ 63 - 1 : Nat) = 9223372036854775807 from rfl] at hm hws
    refine ⟨some a, cap, ss.take len, by rw [List.length_take, Nat.min_eq_left hle], ?_, fun s hs => hws s (List.mem_of_mem_take hs), by rw [List.length_take]; omega⟩
    intro j hj
    rw [List.length_take] at hj
    have hc := hcell j (by omega)
    obtain ⟨b, off, spot⟩ := a
    have hspot : spot = none := by simpa [Addr.add] using World.cell?_spot (hcell 0 (by omega))
    subst hspot
    refine ⟨b, off, rfl, ?_⟩
    have e : (⟨b, off, none⟩ : Addr).add j = ⟨b, off + j, none⟩ := by unfold Addr.add; split <;> simp_all
    rw [e] at hc
    rw [hc, List.getElem_take]
    congr 2
    rw [List.getD_eq_getElem?_getD, List.getElem?_eq_getElem (by omega)]
    rfl

/-- How much is left: below 0, or all lengths are small. -/
def SzPost (ss : List ByteArray) (w : World) (e : Ending) (w' : World) : Prop :=
  Below w.heap.size w w' ∧ ∃ v : Int, e = .returned (.int .i64 v) ∧ (v < 0 ∨ (0 ≤ v ∧ ss.length ≤ 1048576 ∧ ∀ j (h : j < ss.length), (ss[j]).size ≤ 1048576))

/-- A copy in new memory. -/
def CopyPost (ss : List ByteArray) (w : World) (e : Ending) (w' : World) : Prop :=
  Below w.heap.size w w' ∧ ∃ g, e = .returned (.slice (some ⟨g, 0, none⟩) ss.length ss.length) ∧ w.heap.size ≤ g ∧ Lies w' (some ⟨g, 0, none⟩) (txl ss)

end Go.Proofs.Ytbbkaephlojalaa
end
section
/- The laws' own helpers on lists of texts: equal, marked, held. (what the exact laws want besides) -/
namespace Go.Proofs.Ytbbkaephlojalaa
open Go.RowKit

end Go.Proofs.Ytbbkaephlojalaa
end
section
/- A list of texts that comes in: its size told, its copy made. (what the exact laws want besides) -/
namespace Go.Proofs.Ytbbkaephlojalaa
open Go.RowKit

end Go.Proofs.Ytbbkaephlojalaa
end
end
section
/- Merged out of: XTermC, XTerm. -/
section
/- A list of terms that comes in: its size told, its copy made, two copies compared. -/
namespace Go.Proofs.Ytbbkaephlojalaa
open Go.RowKit

/-- A slice of terms reads as these coefficients and texts. -/
def TermO (w : World) (a : Option Addr) (ys : List (Int × ByteArray)) : Prop := ∀ j (h : j < ys.length), ∃ b off, a = some ⟨b, off, none⟩ ∧ w.cell? ⟨b, off + j * 2, none⟩ = some (.int .i64 (ys[j]).1) ∧ w.cell? ⟨b, off + j * 2 + 1, none⟩ = some (.string (ys[j]).2)

theorem TermO.below {w w' : World} {a : Option Addr} {ys : List (Int × ByteArray)} (h : TermO w a ys) (hb : Below w.heap.size w w') : TermO w' a ys := fun j hj => by
  obtain ⟨b, off, e, hc, hd⟩ := h j hj
  exact ⟨b, off, e, keep1 hb hc, keep1 hb hd⟩

/-- .. in memory of the call's own. -/
def TermL (w : World) (g : Nat) (ys : List (Int × ByteArray)) : Prop := ∀ j (h : j < ys.length), w.cell? ⟨g, j * 2, none⟩ = some (.int .i64 (ys[j]).1) ∧ w.cell? ⟨g, j * 2 + 1, none⟩ = some (.string (ys[j]).2)

theorem TermL.below {w w' : World} {g : Nat} {ys : List (Int × ByteArray)} (h : TermL w g ys) (hb : Below w.heap.size w w') : TermL w' g ys := fun j hj => by
  obtain ⟨hc, hd⟩ := h j hj
  exact ⟨keep1 hb hc, keep1 hb hd⟩

/-- The coefficients are ints. -/
def Coefs (ys : List (Int × ByteArray)) : Prop := ∀ j (h : j < ys.length), -9223372036854775808 ≤ (ys[j]).1 ∧ (ys[j]).1 ≤ 9223372036854775807

theorem cellsIntT : Try.prog.cellsOf 3 = 1 := by kernel_rfl

/-- The choice of what stands behind each index. -/
theorem choose_terms {n : Nat} {Q : Nat → Int × ByteArray → Prop} (h : ∀ j, j < n → ∃ y, Q j y) : ∃ ys : List (Int × ByteArray), ys.length = n ∧ ∀ j (hj : j < ys.length), Q j ys[j] := by
  induction n with
  | zero => exact ⟨[], rfl, fun j hj => by simp at hj⟩
  | succ n ih =>
    obtain ⟨ys, h1, h2⟩ := ih (fun j hj => h j (by omega))
    obtain ⟨y, hy⟩ := h n (by omega)
    refine ⟨ys ++ [y], by simp [h1], fun j hj => ?_⟩
    by_cases e : j < ys.length
    · rw [List.getElem_append_left e]; exact h2 j e
    · have : j = n := by simp at hj; omega
      subst this
      rw [List.getElem_append_right (by omega)]
      simpa using hy

/-- How much is left: below 0, or all texts are small. -/
def SzTerm (ys : List (Int × ByteArray)) (w : World) (e : Ending) (w' : World) : Prop :=
  Below w.heap.size w w' ∧ ∃ v : Int, e = .returned (.int .i64 v) ∧ (v < 0 ∨ (0 ≤ v ∧ v ≤ 1048576 ∧ ys.length ≤ 1048576 ∧ ∀ j (h : j < ys.length), (ys[j]).2.size ≤ 1048576))

/-- A copy in new memory. -/
def CopyTerm (ys : List (Int × ByteArray)) (n : Nat) (w : World) (e : Ending) (w' : World) : Prop :=
  Below w.heap.size w w' ∧ ∃ g, e = .returned (.slice (some ⟨g, 0, none⟩) n n) ∧ w.heap.size ≤ g ∧ TermL w' g ys

end Go.Proofs.Ytbbkaephlojalaa
end
section
/- A list of terms that comes in: its size told, its copy made, two copies compared. (what the exact laws want besides) -/
namespace Go.Proofs.Ytbbkaephlojalaa
open Go.RowKit

end Go.Proofs.Ytbbkaephlojalaa
end
end
