/- Grafting inside what was grafted, and beside it. -/
import Derived.Test.YtaahjegdcahccaaPFill
namespace Go.Proofs.Ytaahjegdcahccaa
open Go.RowKit

theorem one_at (n k : Nat) (u : T) (j : Nat) : (oneIn n k u)[j]? = if j < n then some (if k = j then u else T.leaf) else none := by
  by_cases h : j < n
  · rw [if_pos h, List.getElem?_eq_getElem (by rw [oneIn_length]; exact h), oneIn_get]
  · rw [if_neg h, List.getElem?_eq_none (by rw [oneIn_length]; omega)]

theorem one_take (n k : Nat) (u : T) (i : Nat) (h : i ≤ n) : (oneIn n k u).take i = oneIn i k u := by
  apply List.ext_getElem?
  intro j
  rw [List.getElem?_take, one_at, one_at]
  by_cases h1 : j < i
  · rw [if_pos h1, if_pos (by omega), if_pos h1]
  · rw [if_neg h1, if_neg h1]

theorem one_out {i k : Nat} (u : T) (h : i ≤ k) : T.leavesL (oneIn i k u) = i := by
  have e : oneIn i k u = List.replicate i T.leaf := by
    apply List.ext_getElem?
    intro j
    rw [one_at, List.getElem?_replicate]
    by_cases h1 : j < i
    · rw [if_pos h1, if_pos h1, if_neg (by omega)]
    · rw [if_neg h1, if_neg h1]
  rw [e, (leavesL_rep i).1]

theorem leaf_drop (L q d : Nat) (v : T) : T.leaf.fill ((oneIn L q v).drop d) = if d = q ∧ q < L then v else T.leaf := by
  have e : ∀ us : List T, T.leaf.fill us = (us[0]?).getD T.leaf := by
    intro us
    cases us <;> simp [T.fill]
  rw [e, List.getElem?_drop, Nat.add_zero, one_at]
  by_cases h : d < L
  · rw [if_pos h]
    by_cases h1 : q = d
    · rw [if_pos h1, if_pos ⟨h1.symm, by omega⟩]; rfl
    · rw [if_neg h1, if_neg (fun x => h1 x.1.symm)]; rfl
  · rw [if_neg h, if_neg (fun x => h (by omega))]; rfl

theorem fill_ext {t : T} {us vs : List T} (hw : t.wf) (h : ∀ j, j < t.leaves → us[j]? = vs[j]?) : t.fill us = t.fill vs := by
  rw [← fill_take t us t.leaves hw (Nat.le_refl _), ← fill_take t vs t.leaves hw (Nat.le_refl _)]
  congr 1
  apply List.ext_getElem?
  intro j
  rw [List.getElem?_take, List.getElem?_take]
  by_cases h1 : j < t.leaves
  · rw [if_pos h1, if_pos h1, h j h1]
  · rw [if_neg h1, if_neg h1]

/-- One fill inside the other: element by element. -/
theorem one_fill (n k : Nat) (u : T) (L q : Nat) (v : T) (i : Nat) (hi : i < n) : (T.fillL (oneIn n k u) (oneIn L q v))[i]'(by rw [fillL_length, oneIn_length]; exact hi) =
    if k = i then u.fill ((oneIn L q v).drop k) else if (if i < k then i else i - 1 + u.leaves) = q ∧ q < L then v else T.leaf := by
  rw [fillL_get _ _ i (by rw [oneIn_length]; exact hi), oneIn_get, one_take n k u i (by omega)]
  by_cases h : k = i
  · rw [if_pos h, if_pos h, one_out u (by omega), h]
  · rw [if_neg h, if_neg h, leaf_drop]
    by_cases h1 : i < k
    · rw [one_out u (by omega), if_pos h1]
    · have h2 := (one_count (n := i) (k := k) (u := u) (by omega)).1
      rw [if_neg h1, show T.leavesL (oneIn i k u) = i - 1 + u.leaves from by omega]

/-- Grafted inside. -/
theorem graft_inner {t u v : T} {k j : Nat} (huw : u.wf) (hk : k < t.leaves) (hj : j < u.leaves) :
    (t.fill (oneIn t.leaves k u)).fill (oneIn (t.fill (oneIn t.leaves k u)).leaves (k + j) v) = t.fill (oneIn t.leaves k (u.fill (oneIn u.leaves j v))) := by
  have hL := (graft_count (u := u) hk).1
  rw [fill_fill t _ _ (by rw [oneIn_length]; exact Nat.le_refl _)]
  congr 1
  apply List.ext_getElem (by rw [fillL_length, oneIn_length, oneIn_length])
  intro i h1 h2
  rw [oneIn_length] at h2
  rw [one_fill _ _ _ _ _ _ _ h2, oneIn_get]
  by_cases h : k = i
  · rw [if_pos h, if_pos h]
    refine fill_ext huw (fun m hm => ?_)
    rw [List.getElem?_drop, one_at, one_at, if_pos (by omega), if_pos hm]
    by_cases e : j = m
    · rw [if_pos (by omega), if_pos e]
    · rw [if_neg (by omega), if_neg e]
  · rw [if_neg h, if_neg h, if_neg]
    by_cases h3 : i < k
    · rw [if_pos h3]; omega
    · rw [if_neg h3]; omega

/-- Grafted beside. -/
theorem graft_beside {t u v : T} {k j : Nat} (huw : u.wf) (hvw : v.wf) (hkj : k < j) (hj : j < t.leaves) :
    (t.fill (oneIn t.leaves k u)).fill (oneIn (t.fill (oneIn t.leaves k u)).leaves (j + u.leaves - 1) v) =
      (t.fill (oneIn t.leaves j v)).fill (oneIn (t.fill (oneIn t.leaves j v)).leaves k u) := by
  have hL := (graft_count (t := t) (k := k) (u := u) (by omega)).1
  have hM := (graft_count (u := v) hj).1
  have hul := leaves_pos u huw
  have hvl := leaves_pos v hvw
  rw [fill_fill t _ _ (by rw [oneIn_length]; exact Nat.le_refl _), fill_fill t _ _ (by rw [oneIn_length]; exact Nat.le_refl _)]
  congr 1
  apply List.ext_getElem (by rw [fillL_length, fillL_length, oneIn_length, oneIn_length])
  intro i h1 h2
  rw [fillL_length, oneIn_length] at h2
  rw [one_fill _ _ _ _ _ _ _ h2, one_fill _ _ _ _ _ _ _ h2]
  by_cases h : k = i
  · rw [if_pos h, if_neg (show ¬ j = i by omega), if_pos (show i < j by omega), if_pos ⟨h.symm, by omega⟩]
    refine fill_lv u _ huw (fun m hm => ?_)
    rw [List.getElem?_drop, one_at, if_pos (by omega), if_neg (by omega)]
  · rw [if_neg h]
    by_cases h3 : j = i
    · rw [if_pos h3, if_neg (show ¬ i < k by omega), if_pos ⟨by omega, by omega⟩]
      refine (fill_lv v _ hvw (fun m hm => ?_)).symm
      rw [List.getElem?_drop, one_at, if_pos (by omega), if_neg (by omega)]
    · rw [if_neg h3]
      by_cases h4 : i < k
      · rw [if_pos h4, if_neg (by omega), if_pos (show i < j by omega), if_neg (by omega)]
      · rw [if_neg h4, if_neg (by omega)]
        by_cases h5 : i < j
        · rw [if_pos h5, if_neg (by omega)]
        · rw [if_neg h5, if_neg (by omega)]

/-- What grafting gives: nothing, or a tree that is read again. -/
theorem graft_cases (a b : List UInt8) (k : Int) : graftV (graftOf a k b) = .tuple #[.string ⟨#[]⟩, .bool false] ∨
    ∃ (t u x : T) (j : Nat), parse a = some t ∧ parse b = some u ∧ k = (j : Int) ∧ j < t.leaves ∧ x = t.fill (oneIn t.leaves j u) ∧ parse x.text = some x ∧ graftV (graftOf a k b) = .tuple #[.string ⟨x.text.toArray⟩, .bool true] := by
  cases ha : parse a with
  | none => left; rw [graftOf_no ha]; rfl
  | some t =>
    cases hb : parse b with
    | none => left; rw [graftOf_no2 hb]; rfl
    | some u =>
      by_cases hk : 0 ≤ k ∧ k ≤ (t.leaves : Int) - 1
      · obtain ⟨j, rfl⟩ : ∃ j : Nat, k = (j : Int) := ⟨k.toNat, by omega⟩
        have hj : j < t.leaves := by omega
        obtain ⟨hw, _, _, _⟩ := parse_some ha
        obtain ⟨hu, _, _, _⟩ := parse_some hb
        rw [graftOf_in ha hb hj]
        by_cases hs : (t.fill (oneIn t.leaves j u)).leaves ≤ 12 ∧ (t.fill (oneIn t.leaves j u)).nodes ≤ 16
        · right
          exact ⟨t, u, _, j, rfl, rfl, rfl, hj, rfl, parse_text (fill_wf t _ hw (oneIn_wf hu)) hs.1 hs.2, by rw [graftV, done_small hs.1 hs.2]⟩
        · left
          rw [graftV, doneV, if_neg hs]
      · left; rw [graftOf_out ha hk]; rfl
end Go.Proofs.Ytaahjegdcahccaa
