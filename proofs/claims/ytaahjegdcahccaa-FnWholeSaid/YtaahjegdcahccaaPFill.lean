/- Fills in fills, and their sizes: plain mathematics. -/
import Derived.Test.YtaahjegdcahccaaPCut
namespace Go.Proofs.Ytaahjegdcahccaa
open Go.RowKit

theorem leavesL_drop_take (us : List T) (n : Nat) : T.leavesL us = T.leavesL (us.take n) + T.leavesL (us.drop n) := by
  have := leavesL_append (us.take n) (us.drop n)
  rwa [List.take_append_drop] at this

mutual
theorem fill_count : ∀ (t : T) (us : List T), t.leaves ≤ us.length → (t.fill us).leaves = T.leavesL (us.take t.leaves) ∧ (t.fill us).nodes = t.nodes + T.nodesL (us.take t.leaves)
  | .leaf, [], h => by simp [T.leaves] at h
  | .leaf, u :: us, _ => by simp [T.fill, T.leaves, T.nodes, T.leavesL, T.nodesL]
  | .node c ks, us, h => by
    rw [T.leaves] at h
    obtain ⟨h1, h2⟩ := fillL_count ks us h
    rw [T.fill, T.leaves, T.nodes, T.leaves, T.nodes]
    exact ⟨h1, by rw [h2]; omega⟩
theorem fillL_count : ∀ (ks us : List T), T.leavesL ks ≤ us.length → T.leavesL (T.fillL ks us) = T.leavesL (us.take (T.leavesL ks)) ∧ T.nodesL (T.fillL ks us) = T.nodesL ks + T.nodesL (us.take (T.leavesL ks))
  | [], us, _ => by simp [T.fillL, T.leavesL, T.nodesL]
  | t :: ts, us, h => by
    rw [T.leavesL] at h
    have h1 := fill_count t us (by omega)
    have h2 := fillL_count ts (us.drop t.leaves) (by simp; omega)
    have h3 : us.take (t.leaves + T.leavesL ts) = us.take t.leaves ++ (us.drop t.leaves).take (T.leavesL ts) := List.take_add
    rw [T.fillL, T.leavesL, T.nodesL, T.leavesL, T.nodesL, h3, leavesL_append, nodesL_append]
    obtain ⟨a1, a2⟩ := h1
    obtain ⟨b1, b2⟩ := h2
    exact ⟨by omega, by omega⟩
end

theorem leavesL_rep (n : Nat) : T.leavesL (List.replicate n T.leaf) = n ∧ T.nodesL (List.replicate n T.leaf) = 0 := by
  induction n with
  | zero => simp [T.leavesL, T.nodesL]
  | succ n ih => simp [List.replicate_succ, T.leavesL, T.nodesL, T.leaves, T.nodes, ih]; omega

theorem one_count {n k : Nat} {u : T} (hk : k < n) : T.leavesL (oneIn n k u) + 1 = n + u.leaves ∧ T.nodesL (oneIn n k u) = u.nodes := by
  have e : oneIn n k u = List.replicate k T.leaf ++ u :: List.replicate (n - k - 1) T.leaf := by
    apply List.ext_getElem?
    intro j
    rw [oneIn, List.getElem?_set]
    by_cases h : k = j
    · subst h
      rw [if_pos rfl, if_pos (by simpa using hk), List.getElem?_append_right (by simp)]
      simp
    · rw [if_neg h]
      by_cases h1 : j < k
      · rw [List.getElem?_append_left (by simpa using h1)]
        simp only [List.getElem?_replicate]
        rw [if_pos (by omega), if_pos h1]
      · rw [List.getElem?_append_right (by simp; omega), List.length_replicate, List.getElem?_cons, if_neg (by omega)]
        simp only [List.getElem?_replicate]
        by_cases h2 : j < n
        · rw [if_pos h2, if_pos (by omega)]
        · rw [if_neg h2, if_neg (by omega)]
  have h1 := leavesL_rep k
  have h2 := leavesL_rep (n - k - 1)
  rw [e, leavesL_append, nodesL_append]
  simp only [T.leavesL, T.nodesL, h1, h2]
  omega

/-- Leaves and nodes of what is grafted. -/
theorem graft_count {t u : T} {k : Nat} (hk : k < t.leaves) : (t.fill (oneIn t.leaves k u)).leaves + 1 = t.leaves + u.leaves ∧ (t.fill (oneIn t.leaves k u)).nodes = t.nodes + u.nodes := by
  have h1 := fill_count t (oneIn t.leaves k u) (by rw [oneIn_length]; exact Nat.le_refl _)
  have h2 := one_count (u := u) hk
  rw [List.take_of_length_le (by rw [oneIn_length]; exact Nat.le_refl _)] at h1
  omega

theorem fillL_drop : ∀ (us vs : List T) (n : Nat), (T.fillL us vs).drop n = T.fillL (us.drop n) (vs.drop (T.leavesL (us.take n)))
  | us, vs, 0 => by simp [T.leavesL]
  | [], vs, n + 1 => by simp [T.fillL]
  | u :: us, vs, n + 1 => by
    simp only [T.fillL, List.drop_succ_cons, List.take_succ_cons, T.leavesL]
    rw [fillL_drop us (vs.drop u.leaves) n, List.drop_drop]

mutual
/-- To fill what is filled is to fill with what is filled. -/
theorem fill_fill : ∀ (t : T) (us vs : List T), t.leaves ≤ us.length → (t.fill us).fill vs = t.fill (T.fillL us vs)
  | .leaf, [], _, h => by simp [T.leaves] at h
  | .leaf, u :: us, vs, _ => by simp [T.fill, T.fillL]
  | .node c ks, us, vs, h => by
    rw [T.leaves] at h
    rw [T.fill, T.fill, T.fill, fillL_fill ks us vs h]
theorem fillL_fill : ∀ (ks us vs : List T), T.leavesL ks ≤ us.length → T.fillL (T.fillL ks us) vs = T.fillL ks (T.fillL us vs)
  | [], us, vs, _ => by simp [T.fillL]
  | t :: ts, us, vs, h => by
    rw [T.leavesL] at h
    have h1 := fill_count t us (by omega)
    rw [T.fillL, T.fillL, T.fillL, fill_fill t us vs (by omega), fillL_fill ts _ _ (by simp; omega), fillL_drop, h1.1]
end
theorem one_at (n k : Nat) (u : T) (j : Nat) : (oneIn n k u)[j]? = if j < n then some (if k = j then u else T.leaf) else none := by
  by_cases h : j < n
  · rw [if_pos h, List.getElem?_eq_getElem (by rw [oneIn_length]; exact h), oneIn_get]
  · rw [if_neg h, List.getElem?_eq_none (by rw [oneIn_length]; omega)]

theorem one_take (n k : Nat) (u : T) (i : Nat) (h : i ≤ n) : (oneIn n k u).take i = oneIn i k u := by
  apply List.ext_getElem?
  intro j
  rw [List.getElem?_take, one_at, one_at]
  by_cases h1 : j < i
  · rw [if_pos h1, if_pos (by omega), if_pos h1]
  · rw [if_neg h1, if_neg h1]

theorem one_out {i k : Nat} (u : T) (h : i ≤ k) : T.leavesL (oneIn i k u) = i := by
  have e : oneIn i k u = List.replicate i T.leaf := by
    apply List.ext_getElem?
    intro j
    rw [one_at, List.getElem?_replicate]
    by_cases h1 : j < i
    · rw [if_pos h1, if_pos h1, if_neg (by omega)]
    · rw [if_neg h1, if_neg h1]
  rw [e, (leavesL_rep i).1]

theorem leaf_drop (L q d : Nat) (v : T) : T.leaf.fill ((oneIn L q v).drop d) = if d = q ∧ q < L then v else T.leaf := by
  have e : ∀ us : List T, T.leaf.fill us = (us[0]?).getD T.leaf := by
    intro us
    cases us <;> simp [T.fill]
  rw [e, List.getElem?_drop, Nat.add_zero, one_at]
  by_cases h : d < L
  · rw [if_pos h]
    by_cases h1 : q = d
    · rw [if_pos h1, if_pos ⟨h1.symm, by omega⟩]; rfl
    · rw [if_neg h1, if_neg (fun x => h1 x.1.symm)]; rfl
  · rw [if_neg h, if_neg (fun x => h (by omega))]; rfl

theorem fill_ext {t : T} {us vs : List T} (hw : t.wf) (h : ∀ j, j < t.leaves → us[j]? = vs[j]?) : t.fill us = t.fill vs := by
  rw [← fill_take t us t.leaves hw (Nat.le_refl _), ← fill_take t vs t.leaves hw (Nat.le_refl _)]
  congr 1
  apply List.ext_getElem?
  intro j
  rw [List.getElem?_take, List.getElem?_take]
  by_cases h1 : j < t.leaves
  · rw [if_pos h1, if_pos h1, h j h1]
  · rw [if_neg h1, if_neg h1]

/-- One fill inside the other: element by element. -/
theorem one_fill (n k : Nat) (u : T) (L q : Nat) (v : T) (i : Nat) (hi : i < n) : (T.fillL (oneIn n k u) (oneIn L q v))[i]'(by rw [fillL_length, oneIn_length]; exact hi) =
    if k = i then u.fill ((oneIn L q v).drop k) else if (if i < k then i else i - 1 + u.leaves) = q ∧ q < L then v else T.leaf := by
  rw [fillL_get _ _ i (by rw [oneIn_length]; exact hi), oneIn_get, one_take n k u i (by omega)]
  by_cases h : k = i
  · rw [if_pos h, if_pos h, one_out u (by omega), h]
  · rw [if_neg h, if_neg h, leaf_drop]
    by_cases h1 : i < k
    · rw [one_out u (by omega), if_pos h1]
    · have h2 := (one_count (n := i) (k := k) (u := u) (by omega)).1
      rw [if_neg h1, show T.leavesL (oneIn i k u) = i - 1 + u.leaves from by omega]

/-- Grafted inside. -/
theorem graft_inner {t u v : T} {k j : Nat} (huw : u.wf) (hk : k < t.leaves) (hj : j < u.leaves) :
    (t.fill (oneIn t.leaves k u)).fill (oneIn (t.fill (oneIn t.leaves k u)).leaves (k + j) v) = t.fill (oneIn t.leaves k (u.fill (oneIn u.leaves j v))) := by
  have hL := (graft_count (u := u) hk).1
  rw [fill_fill t _ _ (by rw [oneIn_length]; exact Nat.le_refl _)]
  congr 1
  apply List.ext_getElem (by rw [fillL_length, oneIn_length, oneIn_length])
  intro i h1 h2
  rw [oneIn_length] at h2
  rw [one_fill _ _ _ _ _ _ _ h2, oneIn_get]
  by_cases h : k = i
  · rw [if_pos h, if_pos h]
    refine fill_ext huw (fun m hm => ?_)
    rw [List.getElem?_drop, one_at, one_at, if_pos (by omega), if_pos hm]
    by_cases e : j = m
    · rw [if_pos (by omega), if_pos e]
    · rw [if_neg (by omega), if_neg e]
  · rw [if_neg h, if_neg h, if_neg]
    by_cases h3 : i < k
    · rw [if_pos h3]; omega
    · rw [if_neg h3]; omega

/-- Grafted beside. -/
theorem graft_beside {t u v : T} {k j : Nat} (huw : u.wf) (hvw : v.wf) (hkj : k < j) (hj : j < t.leaves) :
    (t.fill (oneIn t.leaves k u)).fill (oneIn (t.fill (oneIn t.leaves k u)).leaves (j + u.leaves - 1) v) =
      (t.fill (oneIn t.leaves j v)).fill (oneIn (t.fill (oneIn t.leaves j v)).leaves k u) := by
  have hL := (graft_count (t := t) (k := k) (u := u) (by omega)).1
  have hM := (graft_count (u := v) hj).1
  have hul := leaves_pos u huw
  have hvl := leaves_pos v hvw
  rw [fill_fill t _ _ (by rw [oneIn_length]; exact Nat.le_refl _), fill_fill t _ _ (by rw [oneIn_length]; exact Nat.le_refl _)]
  congr 1
  apply List.ext_getElem (by rw [fillL_length, fillL_length, oneIn_length, oneIn_length])
  intro i h1 h2
  rw [fillL_length, oneIn_length] at h2
  rw [one_fill _ _ _ _ _ _ _ h2, one_fill _ _ _ _ _ _ _ h2]
  by_cases h : k = i
  · rw [if_pos h, if_neg (show ¬ j = i by omega), if_pos (show i < j by omega), if_pos ⟨h.symm, by omega⟩]
    refine fill_lv u _ huw (fun m hm => ?_)
    rw [List.getElem?_drop, one_at, if_pos (by omega), if_neg (by omega)]
  · rw [if_neg h]
    by_cases h3 : j = i
    · rw [if_pos h3, if_neg (show ¬ i < k by omega), if_pos ⟨by omega, by omega⟩]
      refine (fill_lv v _ hvw (fun m hm => ?_)).symm
      rw [List.getElem?_drop, one_at, if_pos (by omega), if_neg (by omega)]
    · rw [if_neg h3]
      by_cases h4 : i < k
      · rw [if_pos h4, if_neg (by omega), if_pos (show i < j by omega), if_neg (by omega)]
      · rw [if_neg h4, if_neg (by omega)]
        by_cases h5 : i < j
        · rw [if_pos h5, if_neg (by omega)]
        · rw [if_neg h5, if_neg (by omega)]

/-- What grafting gives: nothing, or a tree that is read again. -/
theorem graft_cases (a b : List UInt8) (k : Int) : graftV (graftOf a k b) = .tuple #[.string ⟨#[]⟩, .bool false] ∨
    ∃ (t u x : T) (j : Nat), parse a = some t ∧ parse b = some u ∧ k = (j : Int) ∧ j < t.leaves ∧ x = t.fill (oneIn t.leaves j u) ∧ parse x.text = some x ∧ graftV (graftOf a k b) = .tuple #[.string ⟨x.text.toArray⟩, .bool true] := by
  cases ha : parse a with
  | none => left; rw [graftOf_no ha]; rfl
  | some t =>
    cases hb : parse b with
    | none => left; rw [graftOf_no2 hb]; rfl
    | some u =>
      by_cases hk : 0 ≤ k ∧ k ≤ (t.leaves : Int) - 1
      · obtain ⟨j, rfl⟩ : ∃ j : Nat, k = (j : Int) := ⟨k.toNat, by omega⟩
        have hj : j < t.leaves := by omega
        obtain ⟨hw, _, _, _⟩ := parse_some ha
        obtain ⟨hu, _, _, _⟩ := parse_some hb
        rw [graftOf_in ha hb hj]
        by_cases hs : (t.fill (oneIn t.leaves j u)).leaves ≤ 12 ∧ (t.fill (oneIn t.leaves j u)).nodes ≤ 16
        · right
          exact ⟨t, u, _, j, rfl, rfl, rfl, hj, rfl, parse_text (fill_wf t _ hw (oneIn_wf hu)) hs.1 hs.2, by rw [graftV, done_small hs.1 hs.2]⟩
        · left
          rw [graftV, doneV, if_neg hs]
      · left; rw [graftOf_out ha hk]; rfl
end Go.Proofs.Ytaahjegdcahccaa
