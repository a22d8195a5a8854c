/- The program cuts a tree at a node. -/
import Derived.Test.YtoeebipahifpcaaGreatMirrorI
import Derived.Test.YtoeebipahifpcaaGreatKReadA
import Derived.Test.YtoeebipahifpcaaGreatKPartS
namespace Go.Proofs.YtoeebipahifpcaaGreat
open Go.RowKit

/-- A new slice of the same cells. -/
def Cloned (n : Nat) (xs : List Value) (w : World) (e : Ending) (w' : World) : Prop :=
  Below w.heap.size w w' ∧ ∃ g cap, e = .returned (.slice (some ⟨g, 0, none⟩) n cap) ∧ w'.ownsRow w.heap.size 113 1 (.slice (some ⟨g, 0, none⟩) n cap) n xs

theorem owns_row' {w : World} {base g n cap : Nat} {e : TypeId} {xs : List Value} (h : w.ownsRow base e 1 (.slice (some ⟨g, 0, none⟩) n cap) n xs) : ∃ cur, w.heap[g]? = some (.cells cur e (0, 0)) ∧ n ≤ cur.size ∧ base ≤ g := by
  rcases h.2 with ⟨e, _⟩ | ⟨g', cap', cur, e, hb, hg, hn, _, hs, _⟩
  · cases e
  · simp only [Value.slice.injEq, Option.some.injEq, Addr.mk.injEq] at e
    obtain ⟨⟨rfl, _⟩, _, rfl⟩ := e
    exact ⟨cur, hg, by omega, hb⟩

/-- What 'cutTree' answers. -/
def CutI (P : Nat → Prop) (o : Option (T × T × Nat)) (w : World) (e : Ending) (w' : World) : Prop :=
  Below w.heap.size w w' ∧ ((o = none ∧ e = .returned (.tuple #[.nilIface, .nilIface, .int .i64 0, .bool false])) ∨
    ∃ r p a ty1 a1 ty2 a2, o = some (r, p, a) ∧ e = .returned (.tuple #[.iface ty1 (.pointer (some a1)), .iface ty2 (.pointer (some a2)), .int .i64 ((a : Nat) : Int), .bool true]) ∧
      RepI w' (fun b => P b ∨ w.heap.size ≤ b) r ty1 a1 ∧ RepI w' P p ty2 a2)

/-- The kids' cells. -/
def kidCells (w : World) (g n : Nat) : List Value := (List.range n).map fun j => (w.cell? ⟨g, j, none⟩).getD undef

theorem kidCells_get {w : World} {P : Nat → Prop} {ks : List T} {g : Nat} (hL : RepIL w P ks g 0) : ∀ j u, (kidCells w g ks.length)[j]? = some u → w.cell? ⟨g, j, none⟩ = some u := by
  intro j u h
  simp only [kidCells, List.getElem?_map, Option.map_eq_some_iff] at h
  obtain ⟨i, hi, rfl⟩ := h
  have hj : i = j ∧ j < ks.length := by
    rw [List.getElem?_eq_some_iff] at hi
    obtain ⟨h1, h2⟩ := hi
    simp at h1 h2
    exact ⟨h2.symm, h1⟩
  obtain ⟨rfl, hj⟩ := hj
  obtain ⟨ty, a, e, _⟩ := hL.get i hj
  rw [Nat.zero_add] at e
  rw [e]; rfl

theorem kidCells_one {w : World} {P : Nat → Prop} {ks : List T} {g : Nat} (hL : RepIL w P ks g 0) : ∀ u ∈ kidCells w g ks.length, u.oneCell' = true := by
  intro u hu
  obtain ⟨j, hj⟩ := List.getElem?_of_mem hu
  have h1 := kidCells_get hL j u hj
  have hlt : j < ks.length := by
    have := (List.getElem?_eq_some_iff.1 hj).1
    simpa [kidCells] using this
  obtain ⟨ty, a, e, _⟩ := hL.get j hlt
  rw [Nat.zero_add, h1] at e
  simp only [Option.some.injEq] at e
  rw [e]; rfl

end Go.Proofs.YtoeebipahifpcaaGreat
