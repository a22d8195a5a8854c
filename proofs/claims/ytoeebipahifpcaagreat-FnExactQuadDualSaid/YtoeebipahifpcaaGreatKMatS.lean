/- Merged out of: XMatM, XMatS. -/
import Derived.Test.YtoeebipahifpcaaGreatKPatM
import Derived.Test.YtoeebipahifpcaaGreatRow
import Derived.Test.YtoeebipahifpcaaGreatReplS
import Derived.Deep.RegionHeld3
section
/- What is at the leaves of a pattern where it stands: plain mathematics. -/
namespace Go.Proofs.YtoeebipahifpcaaGreat

mutual
/-- The parts at the leaves of a pattern that stands at the outside of a tree. -/
def T.partsOf : T → T → Option (List T)
  | .leaf, t => some [t]
  | .node _ _, .leaf => none
  | .node c ks, .node d js => if c = d ∧ ks.length = js.length then T.partsL ks js else none
def T.partsL : List T → List T → Option (List T)
  | k :: ks, js =>
    match js with
    | [] => some []
    | j :: js =>
      match k.partsOf j with
      | none => none
      | some a =>
        match T.partsL ks js with
        | none => none
        | some b => some (a ++ b)
  | [], _ => some []
end

theorem partsOf_leaf (t : T) : T.leaf.partsOf t = some [t] := by rw [T.partsOf]
theorem partsOf_no (c : UInt8) (ks : List T) : (T.node c ks).partsOf .leaf = none := by rw [T.partsOf]
theorem partsL_nil (js : List T) : T.partsL [] js = some [] := by rw [T.partsL]
theorem partsL_cons (k j : T) (ks js : List T) : T.partsL (k :: ks) (j :: js) = match k.partsOf j with
    | none => none
    | some a => match T.partsL ks js with
      | none => none
      | some b => some (a ++ b) := by rw [T.partsL]
theorem partsOf_same {c : UInt8} {ks js : List T} (h : ks.length = js.length) : (T.node c ks).partsOf (.node c js) = T.partsL ks js := by rw [T.partsOf, if_pos ⟨rfl, h⟩]
theorem partsOf_unlike {c d : UInt8} {ks js : List T} (h : ¬ (c = d ∧ ks.length = js.length)) : (T.node c ks).partsOf (.node d js) = none := by rw [T.partsOf, if_neg h]

theorem partsL_snoc : ∀ (ks js : List T) (k : Nat) (acc a : List T) (hk : k < ks.length) (hj : k < js.length), T.partsL (ks.take k) (js.take k) = some acc → (ks[k]).partsOf (js[k]) = some a →
    T.partsL (ks.take (k + 1)) (js.take (k + 1)) = some (acc ++ a)
  | [], _, _, _, _, hk, _, _, _ => by simp at hk
  | _ :: _, [], _, _, _, _, hj, _, _ => by simp at hj
  | x :: ks, y :: js, 0, acc, a, _, _, h, hu => by
    simp only [List.take_zero, partsL_nil, Option.some.injEq] at h
    subst h
    simp only [List.getElem_cons_zero] at hu
    simp only [Nat.zero_add, List.take_succ_cons, List.take_zero, partsL_cons, hu, partsL_nil, List.append_nil, List.nil_append]
  | x :: ks, y :: js, k + 1, acc, a, hk, hj, h, hu => by
    simp only [List.take_succ_cons, partsL_cons] at h
    simp only [List.getElem_cons_succ] at hu
    cases hxy : x.partsOf y with
    | none => rw [hxy] at h; cases h
    | some v =>
      rw [hxy] at h
      simp only at h
      cases hr : T.partsL (ks.take k) (js.take k) with
      | none => rw [hr] at h; cases h
      | some us =>
        rw [hr] at h
        simp only [Option.some.injEq] at h
        subst h
        have ih := partsL_snoc ks js k us a (by simpa using hk) (by simpa using hj) hr hu
        rw [show k + 1 + 1 = (k + 1) + 1 from rfl, List.take_succ_cons, List.take_succ_cons, partsL_cons, hxy, ih]
        simp only [List.append_assoc]

theorem partsL_stop : ∀ (ks js : List T) (k : Nat) (hk : k < ks.length) (hj : k < js.length), (ks[k]).partsOf (js[k]) = none → T.partsL ks js = none
  | [], _, _, hk, _, _ => by simp at hk
  | _ :: _, [], _, _, hj, _ => by simp at hj
  | x :: ks, y :: js, 0, _, _, hu => by
    simp only [List.getElem_cons_zero] at hu
    rw [partsL_cons, hu]
  | x :: ks, y :: js, k + 1, hk, hj, hu => by
    simp only [List.getElem_cons_succ] at hu
    have ih := partsL_stop ks js k (by simpa using hk) (by simpa using hj) hu
    rw [partsL_cons, ih]
    cases x.partsOf y <;> rfl

mutual
/-- There are as many parts as the pattern has leaves, and they are parts of the tree. -/
theorem partsOf_ok : ∀ (p t : T) (ts : List T), p.wf → t.wf → p.partsOf t = some ts → ts.length = p.leaves ∧ T.wfL ts ∧ T.leavesL ts = t.leaves ∧ T.nodesL ts + p.nodes = t.nodes
  | .leaf, t, ts, _, ht, h => by
    rw [T.partsOf, Option.some.injEq] at h
    subst h
    simp only [List.length_singleton, T.leaves, T.wfL, T.leavesL, T.nodesL, T.nodes]
    exact ⟨trivial, ⟨ht, trivial⟩, by omega, by omega⟩
  | .node c ks, .leaf, ts, _, _, h => by rw [T.partsOf] at h; cases h
  | .node c ks, .node d js, ts, hp, ht, h => by
    rw [T.wf] at hp ht
    rw [T.partsOf] at h
    split at h
    · next hc =>
      have ih := partsL_ok ks js ts hc.2 hp.2.2.2.2 ht.2.2.2.2 h
      simp only [T.leaves, T.nodes]
      exact ⟨ih.1, ih.2.1, ih.2.2.1, by omega⟩
    · cases h
theorem partsL_ok : ∀ (ks js ts : List T), ks.length = js.length → T.wfL ks → T.wfL js → T.partsL ks js = some ts → ts.length = T.leavesL ks ∧ T.wfL ts ∧ T.leavesL ts = T.leavesL js ∧ T.nodesL ts + T.nodesL ks = T.nodesL js
  | [], js, ts, hl, _, _, h => by
    rw [partsL_nil, Option.some.injEq] at h
    subst h
    have : js = [] := List.length_eq_zero_iff.1 (by simpa using hl.symm)
    subst this
    simp [T.leavesL, T.nodesL, T.wfL]
  | k :: ks, [], ts, hl, _, _, _ => by simp at hl
  | k :: ks, j :: js, ts, hl, hp, ht, h => by
    rw [T.wfL] at hp ht
    rw [partsL_cons] at h
    cases hu : k.partsOf j with
    | none => rw [hu] at h; cases h
    | some a =>
      rw [hu] at h
      simp only at h
      cases hr : T.partsL ks js with
      | none => rw [hr] at h; cases h
      | some b =>
        rw [hr] at h
        simp only [Option.some.injEq] at h
        subst h
        have h1 := partsOf_ok k j a hp.1 ht.1 hu
        have h2 := partsL_ok ks js b (by simpa using hl) hp.2 ht.2 hr
        have e1 := leavesL_append a b
        have e2 : T.nodesL (a ++ b) = T.nodesL a + T.nodesL b := nodesL_append a b
        simp only [T.leavesL, T.nodesL, List.length_append, e1, e2]
        exact ⟨by omega, by rw [wfL_append]; exact ⟨h1.2.1, h2.2.1⟩, by omega, by omega⟩
end
end Go.Proofs.YtoeebipahifpcaaGreat
end
section
/- The model matches a pattern at the outside of a tree. -/
namespace Go.Proofs.YtoeebipahifpcaaGreat
open Go.RowKit

/-- A tree as the model has it, in a row. -/
def trS : Elt T where
  size := 2
  R w P t cs := ∃ (lb : ByteArray) (sa : Option Addr) (sn sc : Nat), cs = [.string lb, .slice sa sn sc] ∧ t.wf ∧ RepS w P t (.string lb) (.slice sa sn sc)
  len := by rintro w P t cs ⟨lb, sa, sn, sc, rfl, _⟩; rfl
  one := by
    rintro w P t cs ⟨lb, sa, sn, sc, rfl, _⟩ u hu
    simp at hu
    rcases hu with rfl | rfl <;> rfl
  keep := by
    rintro w w' P P' t cs hk hp ⟨lb, sa, sn, sc, rfl, hw, hr⟩
    exact ⟨lb, sa, sn, sc, rfl, hw, hr.keep hk hp hw⟩

/-- A row of parts that has grown: what lies below its base is as it was, and so is every older block but the row's own. -/
structure Parts (base : Nat) (us : List T) (n : Nat) (va : Option Addr) (vc : Nat) (vs : List Value) (own0 : Option Nat) (w w' : World) : Prop where
  len : n = us.length
  row : Row (trS.inn (fun b => b < base)) 66 base us (.slice va n vc) vs w'
  below : Below base w w'
  mid : ∀ b, b < w.heap.size → own0 ≠ some b → w'.heap[b]? = w.heap[b]?
  own : ∀ g, (Value.slice va n vc).ownBlock = some g → own0 = some g ∨ w.heap.size ≤ g

theorem Parts.step {base : Nat} {us : List T} {n : Nat} {va : Option Addr} {vc : Nat} {vs : List Value} {own0 : Option Nat} {w w1 w2 : World} (h : Parts base us n va vc vs own0 w w1) (hb : Below w1.heap.size w1 w2) (hbase : base ≤ w1.heap.size) : Parts base us n va vc vs own0 w w2 :=
  ⟨h.len, h.row.below hb, h.below.trans (hb.mono (by exact hbase)), fun b h1 h2 => (hb.block b (Nat.lt_of_lt_of_le h1 h.below.size)).trans (h.mid b h1 h2), h.own⟩

/-- What 'l4Match' answers: the parts behind those that were there, if the pattern stands. -/
def MatS (base : Nat) (us : List T) (own0 : Option Nat) (o : Option (List T)) (w : World) (e : Ending) (w' : World) : Prop :=
  ∃ (ok : Bool) (ts : List T) (n : Nat) (va : Option Addr) (vc : Nat) (vs : List Value), e = .returned (.tuple #[.slice va n vc, .bool ok]) ∧ va ≠ none ∧ Parts base (us ++ ts) n va vc vs own0 w w' ∧ (ok = true → o = some ts) ∧ (ok = false → o = none)

end Go.Proofs.YtoeebipahifpcaaGreat
end
