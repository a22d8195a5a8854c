/- Fills in fills, and their sizes: plain mathematics. -/
import Derived.Test.YtaahjegdcahccaaPCut
namespace Go.Proofs.Ytaahjegdcahccaa
open Go.RowKit

theorem leavesL_drop_take (us : List T) (n : Nat) : T.leavesL us = T.leavesL (us.take n) + T.leavesL (us.drop n) := by
  have := leavesL_append (us.take n) (us.drop n)
  rwa [List.take_append_drop] at this

mutual
theorem fill_count : ∀ (t : T) (us : List T), t.leaves ≤ us.length → (t.fill us).leaves = T.leavesL (us.take t.leaves) ∧ (t.fill us).nodes = t.nodes + T.nodesL (us.take t.leaves)
  | .leaf, [], h => by simp [T.leaves] at h
  | .leaf, u :: us, _ => by simp [T.fill, T.leaves, T.nodes, T.leavesL, T.nodesL]
  | .node c ks, us, h => by
    rw [T.leaves] at h
    obtain ⟨h1, h2⟩ := fillL_count ks us h
    rw [T.fill, T.leaves, T.nodes, T.leaves, T.nodes]
    exact ⟨h1, by rw [h2]; omega⟩
theorem fillL_count : ∀ (ks us : List T), T.leavesL ks ≤ us.length → T.leavesL (T.fillL ks us) = T.leavesL (us.take (T.leavesL ks)) ∧ T.nodesL (T.fillL ks us) = T.nodesL ks + T.nodesL (us.take (T.leavesL ks))
  | [], us, _ => by simp [T.fillL, T.leavesL, T.nodesL]
  | t :: ts, us, h => by
    rw [T.leavesL] at h
    have h1 := fill_count t us (by omega)
    have h2 := fillL_count ts (us.drop t.leaves) (by simp; omega)
    have h3 : us.take (t.leaves + T.leavesL ts) = us.take t.leaves ++ (us.drop t.leaves).take (T.leavesL ts) := List.take_add
    rw [T.fillL, T.leavesL, T.nodesL, T.leavesL, T.nodesL, h3, leavesL_append, nodesL_append]
    obtain ⟨a1, a2⟩ := h1
    obtain ⟨b1, b2⟩ := h2
    exact ⟨by omega, by omega⟩
end

theorem leavesL_rep (n : Nat) : T.leavesL (List.replicate n T.leaf) = n ∧ T.nodesL (List.replicate n T.leaf) = 0 := by
  induction n with
  | zero => simp [T.leavesL, T.nodesL]
  | succ n ih => simp [List.replicate_succ, T.leavesL, T.nodesL, T.leaves, T.nodes, ih]; omega

theorem one_count {n k : Nat} {u : T} (hk : k < n) : T.leavesL (oneIn n k u) + 1 = n + u.leaves ∧ T.nodesL (oneIn n k u) = u.nodes := by
  have e : oneIn n k u = List.replicate k T.leaf ++ u :: List.replicate (n - k - 1) T.leaf := by
    apply List.ext_getElem?
    intro j
    rw [oneIn, List.getElem?_set]
    by_cases h : k = j
    · subst h
      rw [if_pos rfl, if_pos (by simpa using hk), List.getElem?_append_right (by simp)]
      simp
    · rw [if_neg h]
      by_cases h1 : j < k
      · rw [List.getElem?_append_left (by simpa using h1)]
        simp only [List.getElem?_replicate]
        rw [if_pos (by omega), if_pos h1]
      · rw [List.getElem?_append_right (by simp; omega), List.length_replicate, List.getElem?_cons, if_neg (by omega)]
        simp only [List.getElem?_replicate]
        by_cases h2 : j < n
        · rw [if_pos h2, if_pos (by omega)]
        · rw [if_neg h2, if_neg (by omega)]
  have h1 := leavesL_rep k
  have h2 := leavesL_rep (n - k - 1)
  rw [e, leavesL_append, nodesL_append]
  simp only [T.leavesL, T.nodesL, h1, h2]
  omega

/-- Leaves and nodes of what is grafted. -/
theorem graft_count {t u : T} {k : Nat} (hk : k < t.leaves) : (t.fill (oneIn t.leaves k u)).leaves + 1 = t.leaves + u.leaves ∧ (t.fill (oneIn t.leaves k u)).nodes = t.nodes + u.nodes := by
  have h1 := fill_count t (oneIn t.leaves k u) (by rw [oneIn_length]; exact Nat.le_refl _)
  have h2 := one_count (u := u) hk
  rw [List.take_of_length_le (by rw [oneIn_length]; exact Nat.le_refl _)] at h1
  omega

theorem fillL_drop : ∀ (us vs : List T) (n : Nat), (T.fillL us vs).drop n = T.fillL (us.drop n) (vs.drop (T.leavesL (us.take n)))
  | us, vs, 0 => by simp [T.leavesL]
  | [], vs, n + 1 => by simp [T.fillL]
  | u :: us, vs, n + 1 => by
    simp only [T.fillL, List.drop_succ_cons, List.take_succ_cons, T.leavesL]
    rw [fillL_drop us (vs.drop u.leaves) n, List.drop_drop]

mutual
/-- To fill what is filled is to fill with what is filled. -/
theorem fill_fill : ∀ (t : T) (us vs : List T), t.leaves ≤ us.length → (t.fill us).fill vs = t.fill (T.fillL us vs)
  | .leaf, [], _, h => by simp [T.leaves] at h
  | .leaf, u :: us, vs, _ => by simp [T.fill, T.fillL]
  | .node c ks, us, vs, h => by
    rw [T.leaves] at h
    rw [T.fill, T.fill, T.fill, fillL_fill ks us vs h]
theorem fillL_fill : ∀ (ks us vs : List T), T.leavesL ks ≤ us.length → T.fillL (T.fillL ks us) vs = T.fillL ks (T.fillL us vs)
  | [], us, vs, _ => by simp [T.fillL]
  | t :: ts, us, vs, h => by
    rw [T.leavesL] at h
    have h1 := fill_count t us (by omega)
    rw [T.fillL, T.fillL, T.fillL, fill_fill t us vs (by omega), fillL_fill ts _ _ (by simp; omega), fillL_drop, h1.1]
end
end Go.Proofs.Ytaahjegdcahccaa
