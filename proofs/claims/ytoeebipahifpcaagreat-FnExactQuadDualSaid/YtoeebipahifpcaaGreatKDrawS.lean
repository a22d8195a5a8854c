/- Merged out of: XKDrawT, XDrShape. -/
import Derived.Test.YtoeebipahifpcaaGreatKPick
import Derived.Test.YtoeebipahifpcaaGreatKMirrorS
import Derived.Deep.CutRange
import Derived.Deep.CutBlock
import Derived.Deep.RegionHeld3
section
/- Merged out of: XDrawT, XDrawX. -/
section
/- A tree is drawn. -/
namespace Go.Proofs.YtoeebipahifpcaaGreat
open Go.RowKit

theorem grownBy_over {a b c : World} {row row' : Option Nat} (h : a.grownBy b row) (k : b.grownBy c row') (hr : ∀ r, row' = some r → a.heap.size ≤ r) : a.grownBy c row :=
  ⟨k.os.trans h.os, k.tape.trans h.tape, k.output.trans h.output, Nat.le_trans h.size k.size, fun i hi hn => (k.block i (Nat.lt_of_lt_of_le hi h.size) (fun e => by have := hr i e.symm; omega)).trans (h.block i hi hn)⟩

end Go.Proofs.YtoeebipahifpcaaGreat
end
section
/- A text is drawn. -/
namespace Go.Proofs.YtoeebipahifpcaaGreat
open Go.RowKit

def badTexts : List ByteArray := [⟨#[]⟩, ⟨#[40, 97, 41]⟩, ⟨#[40, 97, 32, 42, 32, 42]⟩, ⟨#[40, 105, 32, 42, 32, 42, 41]⟩, ⟨#[40, 97, 32, 32, 42, 32, 42, 41]⟩, ⟨#[42, 42]⟩, ⟨#[40, 97, 32, 42, 41]⟩, ⟨#[40, 97, 32, 42, 32, 42, 32, 42, 32, 42, 32, 42, 32, 42, 32, 42, 41]⟩]

theorem badTexts_size : ∀ s ∈ badTexts, s.size ≤ 2000 := by decide

def badCells : Array Value := #[.string ⟨#[]⟩, .string ⟨#[40, 97, 41]⟩, .string ⟨#[40, 97, 32, 42, 32, 42]⟩, .string ⟨#[40, 105, 32, 42, 32, 42, 41]⟩, .string ⟨#[40, 97, 32, 32, 42, 32, 42, 41]⟩, .string ⟨#[42, 42]⟩, .string ⟨#[40, 97, 32, 42, 41]⟩, .string ⟨#[40, 97, 32, 42, 32, 42, 32, 42, 32, 42, 32, 42, 32, 42, 32, 42, 41]⟩]

theorem badCells_get : ∀ j (h : j < 8), badCells[j]? = some (.string (badTexts[j]'h)) := by
  intro j h
  match j, h with
  | 0, _ => rfl
  | 1, _ => rfl
  | 2, _ => rfl
  | 3, _ => rfl
  | 4, _ => rfl
  | 5, _ => rfl
  | 6, _ => rfl
  | 7, _ => rfl

/-- What a draw of a text is good for. -/
def DrPost (w : World) (e : Ending) (w' : World) : Prop := Below w.heap.size w w' ∧ ∃ s : ByteArray, e = .returned (.string s) ∧ s.size ≤ 2000

theorem below_over {w w1 w2 : World} {row : Option Nat} (h : Below w.heap.size w w1) (hg : w1.grownBy w2 row) (hr : ∀ r, row = some r → w.heap.size ≤ r) : Below w.heap.size w w2 :=
  h.grown hg h.size hr

end Go.Proofs.YtoeebipahifpcaaGreat
end
section
/- A letter is drawn. -/
namespace Go.Proofs.YtoeebipahifpcaaGreat
open Go.RowKit

theorem keeps_row {w w' : World} {R : Nat} (hg : w.grownBy w' (some R)) (P : Nat → Prop) (hP : ∀ b, P b → b ≠ R) : Keeps P w w' := fun q v hq hv => by
  rw [World.cell?_of_block (hg.block q.block (World.block_lt_of_cell? w q hv) (fun e => hP _ hq (by cases e; rfl)))]
  exact hv

def abCells : Array Value := #[.string ⟨#[97]⟩, .string ⟨#[98]⟩]
def abTexts : List ByteArray := [⟨#[97]⟩, ⟨#[98]⟩]

end Go.Proofs.YtoeebipahifpcaaGreat
end
end
section
/- A tree with just so many leaves is drawn. -/
namespace Go.Proofs.YtoeebipahifpcaaGreat
open Go.RowKit

theorem ab_letter {s : ByteArray} (hs : s ∈ abTexts) : ∃ c : UInt8, s = ⟨#[c]⟩ ∧ 97 ≤ c.toNat ∧ c.toNat ≤ 104 := by
  simp only [abTexts, List.mem_cons, List.not_mem_nil, or_false] at hs
  rcases hs with rfl | rfl
  · exact ⟨97, rfl, by decide, by decide⟩
  · exact ⟨98, rfl, by decide, by decide⟩

theorem put_two2 {w : World} {q : Nat} {a b : Value} {ty : TypeId} (h : w.heap[q]? = some (.cells #[a, b] ty (0, 0))) (x y : Value) :
    ((w.setCell ⟨q, 0, none⟩ x).setCell ⟨q, 1, none⟩ y).heap[q]? = some (.cells #[x, y] ty (0, 0)) := by
  have := heap_setCell_same (k := 1) (heap_setCell_same (k := 0) h x) y
  simpa using this

theorem cell_put2 {w : World} {q : Nat} {p : Addr} {v : Value} (h : w.cell? p = some v) (hne : p.block ≠ q) (x y : Value) : ((w.setCell ⟨q, 0, none⟩ x).setCell ⟨q, 1, none⟩ y).cell? p = some v := by
  rw [World.cell?_of_block (w := w)]
  · exact h
  · rw [Below.heap_setCell _ _ _ _ hne, Below.heap_setCell _ _ _ _ hne]

end Go.Proofs.YtoeebipahifpcaaGreat
end
