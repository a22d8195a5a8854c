/- The model matches a pattern at the outside of a tree. -/
import Derived.Test.YtapobhnhnldlkaaMatM
import Derived.Test.YtapobhnhnldlkaaRow
import Derived.Test.YtapobhnhnldlkaaReplS
import Derived.Deep.RegionHeld3
namespace Go.Proofs.Ytapobhnhnldlkaa
open Go.RowKit

/-- A tree as the model has it, in a row. -/
def trS : Elt T where
  size := 2
  R w P t cs := ∃ (lb : ByteArray) (sa : Option Addr) (sn sc : Nat), cs = [.string lb, .slice sa sn sc] ∧ t.wf ∧ RepS w P t (.string lb) (.slice sa sn sc)
  len := by rintro w P t cs ⟨lb, sa, sn, sc, rfl, _⟩; rfl
  one := by
    rintro w P t cs ⟨lb, sa, sn, sc, rfl, _⟩ u hu
    simp at hu
    rcases hu with rfl | rfl <;> rfl
  keep := by
    rintro w w' P P' t cs hk hp ⟨lb, sa, sn, sc, rfl, hw, hr⟩
    exact ⟨lb, sa, sn, sc, rfl, hw, hr.keep hk hp hw⟩

/-- A row of parts that has grown: what lies below its base is as it was, and so is every older block but the row's own. -/
structure Parts (base : Nat) (us : List T) (n : Nat) (va : Option Addr) (vc : Nat) (vs : List Value) (own0 : Option Nat) (w w' : World) : Prop where
  len : n = us.length
  row : Row (trS.inn (fun b => b < base)) 44 base us (.slice va n vc) vs w'
  below : Below base w w'
  mid : ∀ b, b < w.heap.size → own0 ≠ some b → w'.heap[b]? = w.heap[b]?
  own : ∀ g, (Value.slice va n vc).ownBlock = some g → own0 = some g ∨ w.heap.size ≤ g

theorem Parts.step {base : Nat} {us : List T} {n : Nat} {va : Option Addr} {vc : Nat} {vs : List Value} {own0 : Option Nat} {w w1 w2 : World} (h : Parts base us n va vc vs own0 w w1) (hb : Below w1.heap.size w1 w2) (hbase : base ≤ w1.heap.size) : Parts base us n va vc vs own0 w w2 :=
  ⟨h.len, h.row.below hb, h.below.trans (hb.mono (by exact hbase)), fun b h1 h2 => (hb.block b (Nat.lt_of_lt_of_le h1 h.below.size)).trans (h.mid b h1 h2), h.own⟩

/-- What 'l4Match' answers: the parts behind those that were there, if the pattern stands. -/
def MatS (base : Nat) (us : List T) (own0 : Option Nat) (o : Option (List T)) (w : World) (e : Ending) (w' : World) : Prop :=
  ∃ (ok : Bool) (ts : List T) (n : Nat) (va : Option Addr) (vc : Nat) (vs : List Value), e = .returned (.tuple #[.slice va n vc, .bool ok]) ∧ va ≠ none ∧ Parts base (us ++ ts) n va vc vs own0 w w' ∧ (ok = true → o = some ts) ∧ (ok = false → o = none)

end Go.Proofs.Ytapobhnhnldlkaa
