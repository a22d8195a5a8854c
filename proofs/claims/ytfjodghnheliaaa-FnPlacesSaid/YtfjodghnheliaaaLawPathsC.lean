/- TreePaths on both sides, and its law. -/
import Derived.Test.YtfjodghnheliaaaKPathsI
namespace Go.Proofs.Ytfjodghnheliaaa
open Go.RowKit

def pathsOf : Option T → List (List UInt8)
  | none => []
  | some t => t.paths []

theorem pathsOf_len (s : List UInt8) : (pathsOf (parse s)).length ≤ 12 := by
  cases h : parse s with
  | none => simp [pathsOf]
  | some t => obtain ⟨_, _, hl, _⟩ := parse_some h; rw [pathsOf, paths_length]; exact hl

/-- What the model's list of texts is good for. -/
def SList (ps : List (List UInt8)) (b : Bool) (w : World) (e : Ending) (w' : World) : Prop :=
  Below w.heap.size w w' ∧ ∃ a cap, e = .returned (.tuple #[.slice a ps.length cap, .bool b]) ∧ Lies w' a ps

/-- What the program's is good for besides: it lies in a row of its own. -/
def IList (ps : List (List UInt8)) (b : Bool) (w : World) (e : Ending) (w' : World) : Prop :=
  Below w.heap.size w w' ∧ ∃ a cap, e = .returned (.tuple #[.slice a ps.length cap, .bool b]) ∧ Lies w' a ps ∧
    (ps = [] ∨ ∃ g cur, a = some ⟨g, 0, none⟩ ∧ w'.heap[g]? = some (.cells cur 9 (0, 0)) ∧ ps.length ≤ cur.size ∧ w.heap.size ≤ g)

theorem owns_row {w : World} {base g n cap : Nat} {e : TypeId} {xs : List Value} (h : w.ownsRow base e 1 (.slice (some ⟨g, 0, none⟩) n cap) n xs) : ∃ cur, w.heap[g]? = some (.cells cur e (0, 0)) ∧ n ≤ cur.size ∧ base ≤ g := by
  rcases h.2 with ⟨e, _⟩ | ⟨g', cap', cur, e, hb, hg, hn, _, hs, _⟩
  · cases e
  · simp only [Value.slice.injEq, Option.some.injEq, Addr.mk.injEq] at e
    obtain ⟨⟨rfl, _⟩, _, rfl⟩ := e
    exact ⟨cur, hg, by omega, hb⟩

theorem Lies.belowB {w w' : World} {a : Option Addr} {ps : List (List UInt8)} {B : Nat} (h : Lies w a ps) (hb : Below B w w') (hB : ∀ g, a = some ⟨g, 0, none⟩ → ps ≠ [] → g < B) : Lies w' a ps := fun j hj => by
  obtain ⟨g, e, hc⟩ := h j hj
  exact ⟨g, e, (hb.cell (p := ⟨g, j, none⟩) (hB g e (by intro h; subst h; simp at hj))).trans hc⟩

theorem Lies.lt {w : World} {a : Option Addr} {ps : List (List UInt8)} (h : Lies w a ps) (g : Nat) (e : a = some ⟨g, 0, none⟩) (hp : ps ≠ []) : g < w.heap.size := by
  obtain ⟨g', e', hc⟩ := h 0 (by cases ps; exact absurd rfl hp; simp)
  rw [e] at e'
  simp only [Option.some.injEq, Addr.mk.injEq] at e'
  rw [e'.1]
  exact World.block_lt_of_cell? w _ hc

end Go.Proofs.Ytfjodghnheliaaa
