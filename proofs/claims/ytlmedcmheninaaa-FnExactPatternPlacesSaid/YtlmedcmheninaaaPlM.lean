/- The places of one pattern: plain mathematics; texts in a row. -/
import Derived.Test.YtlmedcmheninaaaFreeS
import Derived.Test.YtlmedcmheninaaaAllI
namespace Go.Proofs.Ytlmedcmheninaaa
open Go.RowKit

def plAt (p t : T) (k : Nat) : Option (Nat × List T) := (t.subs[k]?).bind fun q => (p.partsOf q).map fun ts => (k, ts)
/-- The places of a pattern at the first k nodes. -/
def plUp (p t : T) (k : Nat) : List (Nat × List T) := (List.range k).filterMap (plAt p t)
def plAll (p t : T) : List (Nat × List T) := plUp p t t.nodes

theorem plUp_succ (p t : T) (k : Nat) : plUp p t (k + 1) = plUp p t k ++ (plAt p t k).toList := by
  rw [plUp, plUp, List.range_succ, List.filterMap_append]
  congr 1
theorem plAt_none {p t q : T} {k : Nat} (h : t.subs[k]? = some q) (hp : p.partsOf q = none) : plAt p t k = none := by rw [plAt, h]; simp [hp]
theorem plAt_some {p t q : T} {k : Nat} {ts : List T} (h : t.subs[k]? = some q) (hp : p.partsOf q = some ts) : plAt p t k = some (k, ts) := by rw [plAt, h]; simp [hp]
theorem plUp_length (p t : T) (k : Nat) : (plUp p t k).length ≤ k := by rw [plUp]; exact Nat.le_trans (List.length_filterMap_le _ _) (by simp)

theorem plUp_stUp (p t : T) : ∀ k, k ≤ t.subs.length → (stUp [p] (t.subs.take k) 0).map (fun x => x.2) = plUp p t k
  | 0, _ => by simp [stUp, plUp]
  | k + 1, h => by
    have hk : k < t.subs.length := by omega
    rw [List.take_succ_eq_append_getElem hk, stUp_snoc, List.map_append, plUp_stUp p t k (by omega), plUp_succ]
    congr 1
    rw [List.length_take, Nat.min_eq_left (by omega), List.length_singleton, stRow_succ, stRow_zero, List.nil_append]
    cases hp : p.partsOf t.subs[k] with
    | none => rw [stOf_none (by simp) (by simpa using hp), plAt_none (List.getElem?_eq_getElem hk) hp]; rfl
    | some ts => rw [stOf_some (ts := ts) (by simp) (by simpa using hp), plAt_some (List.getElem?_eq_getElem hk) hp]; rfl

theorem plAll_stAll (p t : T) : (stAll [p] t).map (fun x => x.2) = plAll p t := by
  have h := plUp_stUp p t t.subs.length (Nat.le_refl _)
  rw [List.take_length, subs_length] at h
  exact h

/-- What PatternPlaces answers. -/
def plV (pat s : ByteArray) : Option (List (Nat × List T)) :=
  match patOf pat, parse s.data.toList with
  | some p, some t => some (plAll p t)
  | _, _ => none
def plTx (x : Nat × List T) : Nat × List (List UInt8) := (x.1, x.2.map T.text)
def plTxs (pat s : ByteArray) : List (Nat × List (List UInt8)) := ((plV pat s).getD []).map plTx

theorem inV_pl (pat s : ByteArray) : inV pat s = ((plV pat s).isSome && decide (0 < (plTxs pat s).length)) := by
  unfold inV plTxs plV
  cases patOf pat with
  | none => rfl
  | some p =>
    cases parse s.data.toList with
    | none => rfl
    | some t =>
      have h1 := stAll_free [p] t
      have h2 := plAll_stAll p t
      simp only [List.all_cons, List.all_nil, Bool.and_true] at h1
      simp only [Option.isSome_some, Bool.true_and, Option.getD_some, List.length_map]
      rw [← h2, List.length_map]
      cases hl : stAll [p] t with
      | nil => rw [hl] at h1; simp at h1; rw [h1]; rfl
      | cons x xs => rw [hl] at h1; simp at h1; rw [h1]; simp

/-- A place: its node, and its parts' texts in a row of their own. -/
def plE : Elt (Nat × List (List UInt8)) where
  size := 2
  R w P x cs := ∃ g cap, cs = [.int .i64 x.1, .slice (some ⟨g, 0, none⟩) x.2.length cap] ∧ P g ∧ 0 < x.2.length ∧ ∀ j (h : j < x.2.length), w.cell? ⟨g, j, none⟩ = some (.string ⟨(x.2[j]).toArray⟩)
  len := by rintro w P t cs ⟨g, cap, rfl, _⟩; rfl
  one := by
    rintro w P t cs ⟨g, cap, rfl, _⟩ u hu
    simp at hu
    rcases hu with rfl | rfl <;> rfl
  keep := by
    rintro w w' P P' t cs hk hp ⟨g, cap, rfl, hg, h0, hl⟩
    exact ⟨g, cap, rfl, hp g hg (World.block_lt_of_cell? w ⟨g, 0, none⟩ (hl 0 h0)), h0, fun j hj => hk _ _ hg (hl j hj)⟩
end Go.Proofs.Ytlmedcmheninaaa
