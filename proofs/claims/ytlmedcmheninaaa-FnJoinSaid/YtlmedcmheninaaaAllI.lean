/- The program joins a pattern at all nodes of another one. -/
import Derived.Test.YtlmedcmheninaaaJoinI
import Derived.Test.YtlmedcmheninaaaLawPathsC
namespace Go.Proofs.Ytlmedcmheninaaa
open Go.RowKit

/-- One node's tree, if it is told. -/
def allStep (x y : T) (same : Bool) (v : Nat) : Option T := if v = 0 ∧ same = true then none else joinOf x y v
/-- What is joined at the first nodes. -/
def allUpTo (x y : T) (same : Bool) (k : Nat) : List T := (List.range k).filterMap (allStep x y same)
theorem allUpTo_none {x y : T} {same : Bool} {k : Nat} (h : allStep x y same k = none) : allUpTo x y same (k + 1) = allUpTo x y same k := by
  rw [allUpTo, List.range_succ, List.filterMap_append]; simp [h, allUpTo]
theorem allUpTo_some {x y t : T} {same : Bool} {k : Nat} (h : allStep x y same k = some t) : allUpTo x y same (k + 1) = allUpTo x y same k ++ [t] := by
  rw [allUpTo, List.range_succ, List.filterMap_append]; simp [h, allUpTo]
theorem allUpTo_len (x y : T) (same : Bool) (k : Nat) : (allUpTo x y same k).length ≤ k := by
  have := List.length_filterMap_le (allStep x y same) (List.range k)
  simpa [allUpTo] using this
def allV (p q : ByteArray) : Option (List T) :=
  match patOf p, patOf q with
  | some x, some y => some (allUpTo x y (decide (p = q)) y.nodes)
  | _, _ => none
/-- What PatternAll answers, as texts. -/
def allTx (p q : ByteArray) : List (List UInt8) := ((allV p q).getD []).map T.text
theorem allTx_len (p q : ByteArray) : (allTx p q).length ≤ 16 := by
  rw [allTx, List.length_map, allV]
  split
  · next x y h1 h2 =>
    have := allUpTo_len x y (decide (p = q)) y.nodes
    have := (parse_some (patOf_some h2).1).2.2.2
    simp only [Option.getD_some]; omega
  · simp

/-- A text in a row. -/
def txE : Elt (List UInt8) where
  size := 1
  R _ _ t cs := cs = [.string ⟨t.toArray⟩]
  len := by rintro w P t cs rfl; rfl
  one := by
    rintro w P t cs rfl u hu
    simp at hu
    subst hu
    rfl
  keep := by rintro w w' P P' t cs _ _ rfl; rfl
theorem txE.lies {w : World} {P : Nat → Prop} {a : Option Addr} {ts : List (List UInt8)} (h : Rd txE w P a ts) : Lies w a ts := fun j hj => by
  obtain ⟨g, cs, e, _, hc, rfl⟩ := h j hj
  exact ⟨g, e, by have := hc 0 (by decide); simpa [txE] using this⟩

theorem allV_none1 {p q : ByteArray} (h : patsOf [p, q] = none) : allV p q = none := by
  rw [allV]
  rw [patsOf, if_neg (by simp), patAll] at h
  simp only [List.foldl_cons, List.foldl_nil, patStep] at h
  cases h1 : patOf p with
  | none => rfl
  | some x =>
    rw [h1] at h
    cases h2 : patOf q with
    | none => rfl
    | some y => rw [h2] at h; cases h

theorem texts_same (p q : ByteArray) : (p.toList == q.toList) = decide (p = q) := by
  rw [ByteArray.toList_eq, ByteArray.toList_eq]
  by_cases h : p = q
  · subst h; simp
  · have : ¬ p.data = q.data := fun e => h (ByteArray.ext e)
    simp [h, this]

end Go.Proofs.Ytlmedcmheninaaa
