/- Merged out of: XOrd, XOrdI. -/
import Derived.Test.YtbbkaephlojalaaKPathsJ
import Derived.Lib.Bytealg
import Derived.Lib.Strings
import Derived.Lib.Slices
import Derived.Lib.Walk
import Derived.Deep.RegionHeld3
section
/- The order of trees as mathematics; the library's comparisons as the program calls them. -/
namespace Go.Proofs.Ytbbkaephlojalaa
open Go.RowKit

def cmpI (a b : Int) : Int := if a < b then -1 else if b < a then 1 else 0
def orI : List Int → Int
  | [] => 0
  | z :: zs => if z = 0 then orI zs else z

/-- Words: the shorter one first, and then byte by byte. -/
def wordCmp (a b : List UInt8) : Int := orI [cmpI a.length b.length, Lib.compareBytes a b]

def rowCmp : List (List UInt8) → List (List UInt8) → Int
  | [], [] => 0
  | [], _ :: _ => -1
  | _ :: _, [] => 1
  | a :: r, b :: q => if wordCmp a b = 0 then rowCmp r q else wordCmp a b

def ordCmp (ps : List (List UInt8)) (s : List UInt8) (qs : List (List UInt8)) (u : List UInt8) : Int := orI [cmpI ps.length qs.length, rowCmp ps qs, Lib.compareBytes s u]

theorem cmpI_lt {a b : Int} (h : a < b) : cmpI a b = -1 := by simp [cmpI, h]
theorem cmpI_gt {a b : Int} (h : b < a) : cmpI a b = 1 := by rw [cmpI, if_neg (by omega), if_pos h]
theorem cmpI_eq {a b : Int} (h : a = b) : cmpI a b = 0 := by rw [cmpI, if_neg (by omega), if_neg (by omega)]
theorem cmpI_range (a b : Int) : -1 ≤ cmpI a b ∧ cmpI a b ≤ 1 := by unfold cmpI; split <;> (try split) <;> omega
theorem compareBytes_range : ∀ (a b : List UInt8), -1 ≤ Lib.compareBytes a b ∧ Lib.compareBytes a b ≤ 1
  | [], [] => by simp [Lib.compareBytes]
  | [], _ :: _ => by simp [Lib.compareBytes]
  | _ :: _, [] => by simp [Lib.compareBytes]
  | a :: r, b :: q => by
    have := compareBytes_range r q
    simp only [Lib.compareBytes]
    split
    · omega
    · split <;> omega
theorem wordCmp_range (a b : List UInt8) : -1 ≤ wordCmp a b ∧ wordCmp a b ≤ 1 := by
  have h1 := cmpI_range a.length b.length
  have h2 := compareBytes_range a b
  simp only [wordCmp, orI]
  split
  · split <;> omega
  · omega
theorem rowCmp_range : ∀ (a b : List (List UInt8)), -1 ≤ rowCmp a b ∧ rowCmp a b ≤ 1
  | [], [] => by simp [rowCmp]
  | [], _ :: _ => by simp [rowCmp]
  | _ :: _, [] => by simp [rowCmp]
  | a :: r, b :: q => by
    have h1 := rowCmp_range r q
    have h2 := wordCmp_range a b
    simp only [rowCmp]
    split <;> omega

theorem rowCmp_at {ps qs : List (List UInt8)} {k : Nat} (h : k < ps.length) (h' : k < qs.length) : rowCmp (ps.drop k) (qs.drop k) = if wordCmp ps[k] qs[k] = 0 then rowCmp (ps.drop (k + 1)) (qs.drop (k + 1)) else wordCmp ps[k] qs[k] := by
  rw [List.drop_eq_getElem_cons h, List.drop_eq_getElem_cons h', rowCmp]
theorem rowCmp_long {ps qs : List (List UInt8)} {k : Nat} (h : k < ps.length) (h' : qs.length ≤ k) : rowCmp (ps.drop k) (qs.drop k) = 1 := by
  rw [List.drop_eq_getElem_cons h, List.drop_eq_nil_of_le h', rowCmp]
theorem rowCmp_short {ps qs : List (List UInt8)} {k : Nat} (h : ps.length ≤ k) (h' : k < qs.length) : rowCmp (ps.drop k) (qs.drop k) = -1 := by
  rw [List.drop_eq_getElem_cons h', List.drop_eq_nil_of_le h, rowCmp]
theorem rowCmp_done {ps qs : List (List UInt8)} {k : Nat} (h : ps.length ≤ k) (h' : qs.length ≤ k) : rowCmp (ps.drop k) (qs.drop k) = 0 := by
  rw [List.drop_eq_nil_of_le h', List.drop_eq_nil_of_le h, rowCmp]

/-- A row of ints reads as these. -/
def Ints (w : World) (g : Nat) (zs : List Int) : Prop := ∀ j (h : j < zs.length), w.cell? ⟨g, j, none⟩ = some (.int .i64 zs[j])

theorem orI_drop {zs : List Int} {k : Nat} (h : k < zs.length) : orI (zs.drop k) = if zs[k] = 0 then orI (zs.drop (k + 1)) else zs[k] := by
  rw [List.drop_eq_getElem_cons h, orI]

theorem Ints.new (w : World) (zs : List Int) : Ints (w.alloc (.cells (zs.map (Value.int .i64)).toArray 3)) w.heap.size zs := fun j h => by
  rw [World.cell?_alloc_at _ _ _ _ rfl]
  simp [h]

end Go.Proofs.Ytbbkaephlojalaa
end
section
/- The order of trees by the program. -/
namespace Go.Proofs.Ytbbkaephlojalaa
open Go.RowKit

/-- What is compared of a tree. -/
def KeyPost (t : T) (w : World) (e : Ending) (w' : World) : Prop :=
  Below w.heap.size w w' ∧ ∃ g cap, e = .returned (.agg #[.slice (some ⟨g, 0, none⟩) (t.paths []).length cap, .string ⟨t.text.toArray⟩]) ∧ Lies w' (some ⟨g, 0, none⟩) (t.paths []) ∧ w.heap.size ≤ g

theorem cell_new {w : World} {a : Addr} {v : Value} {o : Obj} (h : w.cell? a = some v) : (w.alloc o).cell? a = some v := keep1 ((Below.refl _ _).alloc (Nat.le_refl _) o) h

def orderOf (a b : List UInt8) : Option Int :=
  match parse a, parse b with
  | some t, some u => some (ordCmp (t.paths []) t.text (u.paths []) u.text)
  | _, _ => none

def orderV : Option Int → Value
  | none => .tuple #[.int .i64 0, .bool false]
  | some c => .tuple #[.int .i64 c, .bool true]

theorem orderOf_no {a b : List UInt8} (h : parse a = none) : orderOf a b = none := by simp [orderOf, h]
theorem orderOf_no2 {a b : List UInt8} (h : parse b = none) : orderOf a b = none := by
  cases ha : parse a <;> simp [orderOf, h, ha]
theorem orderOf_yes {a b : List UInt8} {t u : T} (ha : parse a = some t) (hb : parse b = some u) : orderOf a b = some (ordCmp (t.paths []) t.text (u.paths []) u.text) := by
  simp only [orderOf, ha, hb]

end Go.Proofs.Ytbbkaephlojalaa
end
