/- The program reads patterns. -/
import Derived.Test.YtbbkaephlojalaaKPatM
import Derived.Test.YtbbkaephlojalaaRow
import Derived.Test.YtbbkaephlojalaaMirrorI
import Derived.Test.YtbbkaephlojalaaKReadA
namespace Go.Proofs.Ytbbkaephlojalaa
open Go.RowKit

/-- A pattern: a tree with a node. -/
def patOf (s : ByteArray) : Option T :=
  match parse s.data.toList with
  | some (.node c ks) => some (.node c ks)
  | _ => none

theorem patOf_some {s : ByteArray} {t : T} (h : patOf s = some t) : parse s.data.toList = some t ∧ ∃ c ks, t = .node c ks := by
  unfold patOf at h
  split at h
  · next c ks e => cases h; exact ⟨e, c, ks, rfl⟩
  · cases h
theorem patOf_node {s : ByteArray} {c : UInt8} {ks : List T} (h : parse s.data.toList = some (.node c ks)) : patOf s = some (.node c ks) := by unfold patOf; rw [h]
theorem patOf_leaf {s : ByteArray} (h : parse s.data.toList = some .leaf) : patOf s = none := by unfold patOf; rw [h]
theorem patOf_none {s : ByteArray} (h : parse s.data.toList = none) : patOf s = none := by unfold patOf; rw [h]

def patStep (acc : Option (List T)) (s : ByteArray) : Option (List T) :=
  match acc with
  | none => none
  | some ps => match patOf s with
    | none => none
    | some t => some (ps ++ [t])
def patAll (xs : List ByteArray) : Option (List T) := xs.foldl patStep (some [])
/-- At most twenty patterns. -/
def patsOf (xs : List ByteArray) : Option (List T) := if 20 < xs.length then none else patAll xs

theorem patFold_none (xs : List ByteArray) : xs.foldl patStep none = none := by
  induction xs with
  | nil => rfl
  | cons x xs ih => exact ih
theorem patAll_take {xs : List ByteArray} {k : Nat} (h : k < xs.length) : patAll (xs.take (k + 1)) = patStep (patAll (xs.take k)) xs[k] := by
  rw [List.take_succ_eq_append_getElem h, patAll, patAll, List.foldl_append]; rfl
theorem patAll_none {xs : List ByteArray} {k : Nat} (h : patAll (xs.take k) = none) : patAll xs = none := by
  have e : xs = xs.take k ++ xs.drop k := (List.take_append_drop k xs).symm
  rw [patAll] at h
  rw [e, patAll, List.foldl_append, h, patFold_none]
theorem patAll_ok : ∀ (n : Nat) (xs : List ByteArray) (ps : List T), xs.length = n → patAll xs = some ps → ps.length = xs.length ∧ ∀ p ∈ ps, p.wf ∧ p.leaves ≤ 12 ∧ p.nodes ≤ 16 ∧ ∃ c ks, p = .node c ks := by
  intro n
  induction n with
  | zero =>
    intro xs ps hl h
    have e : xs = [] := List.length_eq_zero_iff.1 hl
    subst e
    rw [patAll, List.foldl_nil, Option.some.injEq] at h
    subst h
    exact ⟨rfl, fun p hp => by simp at hp⟩
  | succ n ih =>
    intro xs ps hl h
    have hlt : n < xs.length := by omega
    have ht : xs.take (n + 1) = xs := by rw [← hl, List.take_length]
    rw [← ht, patAll_take hlt] at h
    cases hp : patAll (xs.take n) with
    | none => rw [hp] at h; cases h
    | some qs =>
      rw [hp, patStep] at h
      cases hq : patOf xs[n] with
      | none => rw [hq] at h; cases h
      | some t =>
        rw [hq] at h
        simp only [Option.some.injEq] at h
        subst h
        obtain ⟨h1, h2⟩ := ih (xs.take n) qs (by rw [List.length_take]; omega) hp
        obtain ⟨h3, c, ks, h4⟩ := patOf_some hq
        obtain ⟨h5, _, h6, h7⟩ := parse_some h3
        rw [List.length_take] at h1
        refine ⟨by simp; omega, fun p hp => ?_⟩
        rcases List.mem_append.1 hp with e | e
        · exact h2 p e
        · have e2 : p = t := by simpa using e
          subst e2
          exact ⟨h5, h6, h7, c, ks, h4⟩

/-- A pattern as the program has it. -/
def patI : Elt T where
  size := 1
  R w P t cs := ∃ a, cs = [.pointer (some a)] ∧ t.wf ∧ RepI w P t 71 a
  len := by rintro w P t cs ⟨a, rfl, _⟩; rfl
  one := by
    rintro w P t cs ⟨a, rfl, _⟩ u hu
    simp at hu
    subst hu
    rfl
  keep := by
    rintro w w' P P' t cs hk hp ⟨a, rfl, hw, hr⟩
    exact ⟨a, rfl, hw, hr.keep hk hp hw⟩

theorem patI.get {w : World} {P : Nat → Prop} {a : Option Addr} {ps : List T} (h : Rd patI w P a ps) (k : Nat) (hk : k < ps.length) :
    ∃ g b, a = some ⟨g, 0, none⟩ ∧ P g ∧ w.cell? ⟨g, k, none⟩ = some (.pointer (some b)) ∧ (ps[k]).wf ∧ RepI w P (ps[k]) 71 b := by
  obtain ⟨g, cs, e, hg, hc, b, rfl, hw, hr⟩ := h k hk
  have := hc 0 (by decide)
  exact ⟨g, b, e, hg, by simpa [patI] using this, hw, hr⟩

/-- What 'readPattern' answers. -/
def RPat (s : ByteArray) (w : World) (e : Ending) (w' : World) : Prop :=
  Below w.heap.size w w' ∧ ((patOf s = none ∧ e = .returned (.tuple #[.pointer none, .bool false])) ∨
    ∃ t a, patOf s = some t ∧ e = .returned (.tuple #[.pointer (some a), .bool true]) ∧ RepI w' (fun b => w.heap.size ≤ b) t 71 a)

/-- Texts in a row of their own. -/
def TxL (w : World) (g : Nat) (xs : List ByteArray) : Prop := ∀ j (h : j < xs.length), w.cell? ⟨g, j, none⟩ = some (.string xs[j])
theorem TxL.below {w w' : World} {g : Nat} {xs : List ByteArray} (h : TxL w g xs) (hb : Below w.heap.size w w') : TxL w' g xs := fun j hj => keep1 hb (h j hj)

/-- What 'readPatterns' answers. -/
def RPats (xs : List ByteArray) (w : World) (e : Ending) (w' : World) : Prop :=
  Below w.heap.size w w' ∧ ((patsOf xs = none ∧ e = .returned (.tuple #[.slice none 0 0, .bool false])) ∨
    ∃ ps g c, patsOf xs = some ps ∧ e = .returned (.tuple #[.slice (some ⟨g, 0, none⟩) ps.length c, .bool true]) ∧ Rd patI w' (fun b => w.heap.size ≤ b) (some ⟨g, 0, none⟩) ps)

theorem infoPP : (Try.prog.info? 71).map (fun i => (i.zero, i.size, i.bytes)) = some (some (.pointer none), 1, 8) := by kernel_rfl

end Go.Proofs.Ytbbkaephlojalaa
