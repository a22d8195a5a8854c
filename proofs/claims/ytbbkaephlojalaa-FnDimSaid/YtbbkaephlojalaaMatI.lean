/- The program matches a pattern at the outside of a tree: a closure that calls itself and grows a captured row. -/
import Derived.Test.YtbbkaephlojalaaKMatS
import Derived.Test.YtbbkaephlojalaaUniI
import Derived.Test.YtbbkaephlojalaaRow
import Derived.Deep.RegionHeld3
import Derived.Laws.EntriesVeiled
namespace Go.Proofs.Ytbbkaephlojalaa
open Go.RowKit

/-- A tree as the program has it, in a row. -/
def trI : Elt T where
  size := 1
  R w P t cs := ∃ ty a, cs = [.iface ty (.pointer (some a))] ∧ t.wf ∧ RepI w P t ty a
  len := by rintro w P t cs ⟨ty, a, rfl, _⟩; rfl
  one := by
    rintro w P t cs ⟨ty, a, rfl, _⟩ u hu
    simp at hu
    subst hu
    rfl
  keep := by
    rintro w w' P P' t cs hk hp ⟨ty, a, rfl, hw, hr⟩
    exact ⟨ty, a, rfl, hw, hr.keep hk hp hw⟩

theorem infoTI : (Try.prog.info? 34).map (fun i => (i.zero, i.size, i.bytes)) = some (some .nilIface, 1, 16) := by kernel_rfl

theorem Row.set_other {α : Type} {E : Elt α} {ty : TypeId} {base : Nat} {us : List α} {v : Value} {xs : List Value} {w : World} (h : Row (E.inn (fun b => b < base)) ty base us v xs w) {B : Nat} (hB : base ≤ B) (hne : v.ownBlock ≠ some B) (u : Value) :
    Row (E.inn (fun b => b < base)) ty base us v xs (w.setCell ⟨B, 0, none⟩ u) :=
  ⟨ownsRow_setCell_other h.own hne u, fun k hk => by
    obtain ⟨cs, h1, h2⟩ := h.reps k hk
    refine ⟨cs, h1, E.keep (P := fun b => v.ownBlock ≠ some b ∧ b < base) ?_ (fun _ h _ => h) h2⟩
    intro q x hq hx
    rw [World.cell?_of_block (w := w)]
    · exact hx
    · exact Below.heap_setCell _ _ _ _ (by have := hq.2; simp only at this ⊢; omega)⟩

/-- What 'partsAt' answers. -/
def PartsI (P : Nat → Prop) (o : Option (List T)) (w : World) (e : Ending) (w' : World) : Prop :=
  Below w.heap.size w w' ∧ ((o = none ∧ e = .returned (.tuple #[.slice none 0 0, .bool false])) ∨
    ∃ (ts : List T) (g c : Nat), o = some ts ∧ e = .returned (.tuple #[.slice (some ⟨g, 0, none⟩) ts.length c, .bool true]) ∧ ts.length ≤ c ∧ c ≤ 9223372036854775807 ∧ g < w'.heap.size ∧ Rd (trI.inn P) w' (fun _ => True) (some ⟨g, 0, none⟩) ts)

end Go.Proofs.Ytbbkaephlojalaa
