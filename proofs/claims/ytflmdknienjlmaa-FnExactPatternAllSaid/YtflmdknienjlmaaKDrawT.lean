/- Merged out of: XDrawT, XDrawX. -/
import Derived.Test.YtflmdknienjlmaaKPick
import Derived.Test.YtflmdknienjlmaaKMirrorS
import Derived.Deep.CutRange
import Derived.Deep.CutBlock
section
/- A tree is drawn. -/
namespace Go.Proofs.Ytflmdknienjlmaa
open Go.RowKit

theorem grownBy_over {a b c : World} {row row' : Option Nat} (h : a.grownBy b row) (k : b.grownBy c row') (hr : ∀ r, row' = some r → a.heap.size ≤ r) : a.grownBy c row :=
  ⟨k.os.trans h.os, k.tape.trans h.tape, k.output.trans h.output, Nat.le_trans h.size k.size, fun i hi hn => (k.block i (Nat.lt_of_lt_of_le hi h.size) (fun e => by have := hr i e.symm; omega)).trans (h.block i hi hn)⟩

end Go.Proofs.Ytflmdknienjlmaa
end
section
/- A text is drawn. -/
namespace Go.Proofs.Ytflmdknienjlmaa
open Go.RowKit

def badTexts : List ByteArray := [⟨#[]⟩, ⟨#[40, 97, 41]⟩, ⟨#[40, 97, 32, 42, 32, 42]⟩, ⟨#[40, 105, 32, 42, 32, 42, 41]⟩, ⟨#[40, 97, 32, 32, 42, 32, 42, 41]⟩, ⟨#[42, 42]⟩, ⟨#[40, 97, 32, 42, 41]⟩, ⟨#[40, 97, 32, 42, 32, 42, 32, 42, 32, 42, 32, 42, 32, 42, 32, 42, 41]⟩]

theorem badTexts_size : ∀ s ∈ badTexts, s.size ≤ 2000 := by decide

def badCells : Array Value := #[.string ⟨#[]⟩, .string ⟨#[40, 97, 41]⟩, .string ⟨#[40, 97, 32, 42, 32, 42]⟩, .string ⟨#[40, 105, 32, 42, 32, 42, 41]⟩, .string ⟨#[40, 97, 32, 32, 42, 32, 42, 41]⟩, .string ⟨#[42, 42]⟩, .string ⟨#[40, 97, 32, 42, 41]⟩, .string ⟨#[40, 97, 32, 42, 32, 42, 32, 42, 32, 42, 32, 42, 32, 42, 32, 42, 41]⟩]

theorem badCells_get : ∀ j (h : j < 8), badCells[j]? = some (.string (badTexts[j]'h)) := by
  intro j h
  match j, h with
  | 0, _ => rfl
  | 1, _ => rfl
  | 2, _ => rfl
  | 3, _ => rfl
  | 4, _ => rfl
  | 5, _ => rfl
  | 6, _ => rfl
  | 7, _ => rfl

/-- What a draw of a text is good for. -/
def DrPost (w : World) (e : Ending) (w' : World) : Prop := Below w.heap.size w w' ∧ ∃ s : ByteArray, e = .returned (.string s) ∧ s.size ≤ 2000

theorem below_over {w w1 w2 : World} {row : Option Nat} (h : Below w.heap.size w w1) (hg : w1.grownBy w2 row) (hr : ∀ r, row = some r → w.heap.size ≤ r) : Below w.heap.size w w2 :=
  h.grown hg h.size hr

end Go.Proofs.Ytflmdknienjlmaa
end
section
/- A letter is drawn. -/
namespace Go.Proofs.Ytflmdknienjlmaa
open Go.RowKit

theorem keeps_row {w w' : World} {R : Nat} (hg : w.grownBy w' (some R)) (P : Nat → Prop) (hP : ∀ b, P b → b ≠ R) : Keeps P w w' := fun q v hq hv => by
  rw [World.cell?_of_block (hg.block q.block (World.block_lt_of_cell? w q hv) (fun e => hP _ hq (by cases e; rfl)))]
  exact hv

def abCells : Array Value := #[.string ⟨#[97]⟩, .string ⟨#[98]⟩]
def abTexts : List ByteArray := [⟨#[97]⟩, ⟨#[98]⟩]

end Go.Proofs.Ytflmdknienjlmaa
end
