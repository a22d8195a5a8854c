/- A list of terms that comes in: its size told, its copy made, two copies compared. -/
import Derived.Test.YtmmfcljkcepahaaStrArgC
import Derived.Deep.SlicePairs
import Derived.OpenShut
namespace Go.Proofs.Ytmmfcljkcepahaa
open Go.RowKit

/-- A slice of terms reads as these coefficients and texts. -/
def TermO (w : World) (a : Option Addr) (ys : List (Int × ByteArray)) : Prop := ∀ j (h : j < ys.length), ∃ b off, a = some ⟨b, off, none⟩ ∧ w.cell? ⟨b, off + j * 2, none⟩ = some (.int .i64 (ys[j]).1) ∧ w.cell? ⟨b, off + j * 2 + 1, none⟩ = some (.string (ys[j]).2)

theorem TermO.below {w w' : World} {a : Option Addr} {ys : List (Int × ByteArray)} (h : TermO w a ys) (hb : Below w.heap.size w w') : TermO w' a ys := fun j hj => by
  obtain ⟨b, off, e, hc, hd⟩ := h j hj
  exact ⟨b, off, e, keep1 hb hc, keep1 hb hd⟩

/-- .. in memory of the call's own. -/
def TermL (w : World) (g : Nat) (ys : List (Int × ByteArray)) : Prop := ∀ j (h : j < ys.length), w.cell? ⟨g, j * 2, none⟩ = some (.int .i64 (ys[j]).1) ∧ w.cell? ⟨g, j * 2 + 1, none⟩ = some (.string (ys[j]).2)

theorem TermL.below {w w' : World} {g : Nat} {ys : List (Int × ByteArray)} (h : TermL w g ys) (hb : Below w.heap.size w w') : TermL w' g ys := fun j hj => by
  obtain ⟨hc, hd⟩ := h j hj
  exact ⟨keep1 hb hc, keep1 hb hd⟩

/-- The coefficients are ints. -/
def Coefs (ys : List (Int × ByteArray)) : Prop := ∀ j (h : j < ys.length), -9223372036854775808 ≤ (ys[j]).1 ∧ (ys[j]).1 ≤ 9223372036854775807

theorem cellsIntT : Try.prog.cellsOf 3 = 1 := by kernel_rfl

theorem cellsTermO : Try.prog.cellsOf 80 = 2 := by kernel_rfl

/-- The choice of what stands behind each index. -/
theorem choose_terms {n : Nat} {Q : Nat → Int × ByteArray → Prop} (h : ∀ j, j < n → ∃ y, Q j y) : ∃ ys : List (Int × ByteArray), ys.length = n ∧ ∀ j (hj : j < ys.length), Q j ys[j] := by
  induction n with
  | zero => exact ⟨[], rfl, fun j hj => by simp at hj⟩
  | succ n ih =>
    obtain ⟨ys, h1, h2⟩ := ih (fun j hj => h j (by omega))
    obtain ⟨y, hy⟩ := h n (by omega)
    refine ⟨ys ++ [y], by simp [h1], fun j hj => ?_⟩
    by_cases e : j < ys.length
    · rw [List.getElem_append_left e]; exact h2 j e
    · have : j = n := by simp at hj; omega
      subst this
      rw [List.getElem_append_right (by omega)]
      simpa using hy

set_option maxRecDepth 100000 in
/-- A []Term among the arguments. -/
theorem open_terms {H : Type} {enc : TypeId × Value → H} {W : World} {spare : Nat → Bool} {held : Bool} {v : Value} {d : DataW H} {p : List MemPlace} {b : Nat}
    (hv : Value.okWide Try.prog W .any b 22 v) (h : DataW.Trod enc Try.prog W 0 spare held 22 v d p) :
    ∃ (a : Option Addr) (cap : Nat) (ys : List (Int × ByteArray)), v = .slice a ys.length cap ∧ TermO W a ys ∧ (∀ j (h : j < ys.length), (ys[j]).2.size ≤ 9223372036854775807) ∧ Coefs ys ∧ ys.length ≤ 9223372036854775807 := by
  obtain ⟨a0, len, cap, rfl⟩ := Go.WideShapes.okWide_slice Try.underlying22 hv
  obtain ⟨fuel, hf⟩ := h
  rcases Go.Deep.open_slice_pairs Try.underlying22 Try.underlying80 cellsTermO rfl rfl cellsIntT cellsStr hf with ⟨hcs, hx⟩ | ⟨a, len', cap', m, n, V0, V1, D0, D1, P0, P1, hcs, _, hl, hm, hmm, hx, hcell⟩
  · simp [Value.cells] at hcs
    obtain ⟨rfl, rfl, rfl⟩ := hcs
    exact ⟨none, 0, [], rfl, fun j h => by simp at h, fun j h => by simp at h, fun j h => by simp at h, by simp⟩
  · simp [Value.cells] at hcs
    obtain ⟨rfl, rfl, rfl⟩ := hcs
    have hle : len ≤ m := by rw [hmm]; split <;> omega
    simp only [maxLen, show (2 ^ 63 - 1 : Nat) = 9223372036854775807 from rfl] at hm
    have hch : ∀ j, j < len → ∃ y : Int × ByteArray, W.cell? (a.add (j * 2)) = some (.int .i64 y.1) ∧ W.cell? (a.add (j * 2 + 1)) = some (.string y.2) ∧ y.2.size ≤ 9223372036854775807 ∧ (-9223372036854775808 ≤ y.1 ∧ y.1 ≤ 9223372036854775807) := by
      intro j hj
      obtain ⟨c0, c1, t0, t1⟩ := hcell j (by omega)
      obtain ⟨x, e0, _, hx⟩ := DataW.trod_int Try.underlying3 t0
      obtain ⟨s, e1, _, hs⟩ := DataW.trod_string Try.underlying9 t1
      simp only [List.cons.injEq, and_true] at e0 e1
      rw [e0] at c0
      rw [e1] at c1
      refine ⟨(x, s), c0, c1, ?_, ?_⟩
      · simpa only [maxLen, show (2 ^ 63 - 1 : Nat) = 9223372036854775807 from rfl] using hs
      · exact bounds_i64 hx
    obtain ⟨ys, hyl, hyq⟩ := choose_terms hch
    refine ⟨some a, cap, ys, by rw [hyl], ?_, fun j h => (hyq j h).2.2.1, fun j h => (hyq j h).2.2.2, by omega⟩
    intro j hj
    obtain ⟨h0, h1, _, _⟩ := hyq j hj
    obtain ⟨b, off, spot⟩ := a
    have hspot : spot = none := by
      have h00 := (hyq 0 (by omega)).1
      simpa [Addr.add] using World.cell?_spot h00
    subst hspot
    have e : ∀ n, (⟨b, off, none⟩ : Addr).add n = ⟨b, off + n, none⟩ := fun n => by unfold Addr.add; split <;> simp_all
    rw [e] at h0 h1
    exact ⟨b, off, rfl, h0, by rw [Nat.add_assoc]; exact h1⟩

/-- How much is left: below 0, or all texts are small. -/
def SzTerm (ys : List (Int × ByteArray)) (w : World) (e : Ending) (w' : World) : Prop :=
  Below w.heap.size w w' ∧ ∃ v : Int, e = .returned (.int .i64 v) ∧ (v < 0 ∨ (0 ≤ v ∧ v ≤ 1048576 ∧ ys.length ≤ 1048576 ∧ ∀ j (h : j < ys.length), (ys[j]).2.size ≤ 1048576))

theorem infoTerm : (Try.prog.info? 41).map (fun i => (i.zero, i.size, i.bytes)) = some (some (.agg #[.int .i64 0, .string ⟨#[]⟩]), 2, 24) := by kernel_rfl

/-- A copy in new memory. -/
def CopyTerm (ys : List (Int × ByteArray)) (n : Nat) (w : World) (e : Ending) (w' : World) : Prop :=
  Below w.heap.size w w' ∧ ∃ g, e = .returned (.slice (some ⟨g, 0, none⟩) n n) ∧ w.heap.size ≤ g ∧ TermL w' g ys

end Go.Proofs.Ytmmfcljkcepahaa
