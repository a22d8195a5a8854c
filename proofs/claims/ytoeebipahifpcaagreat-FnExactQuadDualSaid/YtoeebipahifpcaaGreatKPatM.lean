/- Merged out of: XKPCut, XPatM. -/
import Derived.Test.YtoeebipahifpcaaGreatKGraftD
import Derived.Test.YtoeebipahifpcaaGreatKLawMirrorC
section
/- Merged out of: XPCut, XPFill. -/
section
/- What is cut off is put back: plain mathematics. -/
namespace Go.Proofs.YtoeebipahifpcaaGreat
open Go.RowKit

mutual
theorem cut_size : ∀ (t : T) (k : Nat) (r p : T) (a : Nat), t.cutAt k = some (r, p, a) → r.leaves + p.leaves = t.leaves + 1 ∧ r.nodes + p.nodes = t.nodes ∧ 1 ≤ p.nodes ∧ a < r.leaves
  | .leaf, k, r, p, a, h => by rw [T.cutAt] at h; cases h
  | .node c ks, k, r, p, a, h => by
    rw [T.cutAt] at h
    by_cases h0 : k = 0
    · rw [if_pos h0] at h
      simp only [Option.some.injEq, Prod.mk.injEq] at h
      obtain ⟨rfl, rfl, rfl⟩ := h
      simp [T.leaves, T.nodes]; omega
    · rw [if_neg h0] at h
      cases hc : T.cutL ks (k - 1) with
      | none => rw [hc] at h; cases h
      | some q =>
        obtain ⟨rs, p', a'⟩ := q
        rw [hc] at h
        simp only [Option.some.injEq, Prod.mk.injEq] at h
        obtain ⟨rfl, rfl, rfl⟩ := h
        have := cutL_size ks (k - 1) rs p' a' hc
        simp only [T.leaves, T.nodes]; omega
theorem cutL_size : ∀ (ks : List T) (k : Nat) (rs : List T) (p : T) (a : Nat), T.cutL ks k = some (rs, p, a) → T.leavesL rs + p.leaves = T.leavesL ks + 1 ∧ T.nodesL rs + p.nodes = T.nodesL ks ∧ 1 ≤ p.nodes ∧ a < T.leavesL rs
  | [], k, rs, p, a, h => by rw [T.cutL] at h; cases h
  | t :: ts, k, rs, p, a, h => by
    rw [T.cutL] at h
    cases hc : t.cutAt k with
    | some q =>
      obtain ⟨r', p', a'⟩ := q
      rw [hc] at h
      simp only [Option.some.injEq, Prod.mk.injEq] at h
      obtain ⟨rfl, rfl, rfl⟩ := h
      have := cut_size t k r' p' a' hc
      simp only [T.leavesL, T.nodesL]; omega
    | none =>
      rw [hc] at h
      simp only at h
      cases hd : T.cutL ts (k - t.nodes) with
      | none => rw [hd] at h; cases h
      | some q =>
        obtain ⟨rs', p', a'⟩ := q
        rw [hd] at h
        simp only [Option.some.injEq, Prod.mk.injEq] at h
        obtain ⟨rfl, rfl, rfl⟩ := h
        have := cutL_size ts _ rs' p' a' hd
        simp only [T.leavesL, T.nodesL]; omega
end

mutual
theorem fill_lv : ∀ (t : T) (us : List T), t.wf → (∀ j, j < t.leaves → us[j]? = some T.leaf) → t.fill us = t
  | .leaf, us, _, h => by
    have := h 0 (by simp [T.leaves])
    cases us with
    | nil => simp at this
    | cons u us => simpa [T.fill] using this
  | .node c ks, us, hw, h => by
    rw [T.wf] at hw
    rw [T.leaves] at h
    rw [T.fill, fillL_lv ks us hw.2.2.2.2 h]
theorem fillL_lv : ∀ (ks : List T) (us : List T), T.wfL ks → (∀ j, j < T.leavesL ks → us[j]? = some T.leaf) → T.fillL ks us = ks
  | [], _, _, _ => by simp [T.fillL]
  | t :: ts, us, hw, h => by
    rw [T.wfL] at hw
    rw [T.leavesL] at h
    rw [T.fillL, fill_lv t us hw.1 (fun j hj => h j (by omega)), fillL_lv ts _ hw.2 (fun j hj => by rw [List.getElem?_drop]; exact h _ (by omega))]
end

mutual
theorem cut_fill : ∀ (t : T) (k : Nat) (r p : T) (a : Nat), t.wf → t.cutAt k = some (r, p, a) → ∀ us : List T, (∀ j, j < r.leaves → us[j]? = some (if j = a then p else T.leaf)) → r.fill us = t
  | .leaf, k, r, p, a, _, h, _, _ => by rw [T.cutAt] at h; cases h
  | .node c ks, k, r, p, a, hw, h, us, hu => by
    rw [T.cutAt] at h
    by_cases h0 : k = 0
    · rw [if_pos h0] at h
      simp only [Option.some.injEq, Prod.mk.injEq] at h
      obtain ⟨rfl, rfl, rfl⟩ := h
      have := hu 0 (by simp [T.leaves])
      cases us with
      | nil => simp at this
      | cons u us => simpa [T.fill] using this
    · rw [if_neg h0] at h
      cases hc : T.cutL ks (k - 1) with
      | none => rw [hc] at h; cases h
      | some q =>
        obtain ⟨rs, p', a'⟩ := q
        rw [hc] at h
        simp only [Option.some.injEq, Prod.mk.injEq] at h
        obtain ⟨rfl, rfl, rfl⟩ := h
        rw [T.wf] at hw
        rw [T.leaves] at hu
        rw [T.fill, cutL_fill ks (k - 1) rs p' a' hw.2.2.2.2 hc us hu]
theorem cutL_fill : ∀ (ks : List T) (k : Nat) (rs : List T) (p : T) (a : Nat), T.wfL ks → T.cutL ks k = some (rs, p, a) → ∀ us : List T, (∀ j, j < T.leavesL rs → us[j]? = some (if j = a then p else T.leaf)) → T.fillL rs us = ks
  | [], k, rs, p, a, _, h, _, _ => by rw [T.cutL] at h; cases h
  | t :: ts, k, rs, p, a, hw, h, us, hu => by
    rw [T.cutL] at h
    rw [T.wfL] at hw
    cases hc : t.cutAt k with
    | some q =>
      obtain ⟨r', p', a'⟩ := q
      rw [hc] at h
      simp only [Option.some.injEq, Prod.mk.injEq] at h
      obtain ⟨rfl, rfl, rfl⟩ := h
      have hs := cut_size t k r' p' a' hc
      rw [T.leavesL] at hu
      rw [T.fillL, cut_fill t k r' p' a' hw.1 hc us (fun j hj => hu j (by omega)), fillL_lv ts _ hw.2 (fun j hj => by rw [List.getElem?_drop, hu _ (by omega), if_neg (by omega)])]
    | none =>
      rw [hc] at h
      simp only at h
      cases hd : T.cutL ts (k - t.nodes) with
      | none => rw [hd] at h; cases h
      | some q =>
        obtain ⟨rs', p', a'⟩ := q
        rw [hd] at h
        simp only [Option.some.injEq, Prod.mk.injEq] at h
        obtain ⟨rfl, rfl, rfl⟩ := h
        rw [T.leavesL] at hu
        rw [T.fillL, fill_lv t us hw.1 (fun j hj => by rw [hu j (by omega), if_neg (by omega)]), cutL_fill ts _ rs' p' a' hw.2 hd _ (fun j hj => by
          rw [List.getElem?_drop, hu _ (by omega)]
          by_cases e : j = a'
          · rw [if_pos e, if_pos (by omega)]
          · rw [if_neg e, if_neg (by omega)])]
end

theorem cut_zero {t r p : T} {a : Nat} (h : t.cutAt 0 = some (r, p, a)) : p = t := by
  cases t with
  | leaf => rw [T.cutAt] at h; cases h
  | node c ks =>
    rw [T.cutAt, if_pos rfl] at h
    simp only [Option.some.injEq, Prod.mk.injEq] at h
    exact h.2.1.symm

/-- What a cut gives, read again. -/
theorem cut_parts {s : List UInt8} {k : Int} {r p : T} {a : Nat} (h : cutOf s k = some (r, p, a)) :
    ∃ t, parse s = some t ∧ parse r.text = some r ∧ parse p.text = some p ∧ graftOf r.text a p.text = some t ∧ 1 ≤ p.nodes ∧ p.nodes ≤ t.nodes ∧ p.leaves ≤ t.leaves ∧ (k = 0 → p = t) ∧ 0 ≤ k := by
  unfold cutOf at h
  cases hp : parse s with
  | none => rw [hp] at h; cases h
  | some t =>
    rw [hp] at h
    simp only at h
    by_cases hk : k < 0
    · rw [if_pos hk] at h; cases h
    · rw [if_neg hk] at h
      obtain ⟨hw, _, hl, hn⟩ := parse_some hp
      obtain ⟨hrw, hpw, _, _⟩ := cutAt_wf t _ r p a hw h
      obtain ⟨z1, z2, z3, z4⟩ := cut_size t _ r p a h
      have hpl := leaves_pos p hpw
      have hrl := leaves_pos r hrw
      have e1 := parse_text hrw (by omega) (by omega)
      have e2 := parse_text hpw (by omega) (by omega)
      refine ⟨t, rfl, e1, e2, ?_, z3, by omega, by omega, ?_, by omega⟩
      · rw [graftOf_in e1 e2 z4, cut_fill t _ r p a hw h (oneIn r.leaves a p) (fun j hj => by
          rw [List.getElem?_eq_getElem (by rw [oneIn_length]; exact hj), oneIn_get]
          by_cases e : j = a
          · rw [if_pos e, if_pos e.symm]
          · rw [if_neg e, if_neg (fun x => e x.symm)])]
      · intro h0
        subst h0
        exact cut_zero h
end Go.Proofs.YtoeebipahifpcaaGreat
end
section
/- Fills in fills, and their sizes: plain mathematics. -/
namespace Go.Proofs.YtoeebipahifpcaaGreat
open Go.RowKit

theorem leavesL_drop_take (us : List T) (n : Nat) : T.leavesL us = T.leavesL (us.take n) + T.leavesL (us.drop n) := by
  have := leavesL_append (us.take n) (us.drop n)
  rwa [List.take_append_drop] at this

mutual
theorem fill_count : ∀ (t : T) (us : List T), t.leaves ≤ us.length → (t.fill us).leaves = T.leavesL (us.take t.leaves) ∧ (t.fill us).nodes = t.nodes + T.nodesL (us.take t.leaves)
  | .leaf, [], h => by simp [T.leaves] at h
  | .leaf, u :: us, _ => by simp [T.fill, T.leaves, T.nodes, T.leavesL, T.nodesL]
  | .node c ks, us, h => by
    rw [T.leaves] at h
    obtain ⟨h1, h2⟩ := fillL_count ks us h
    rw [T.fill, T.leaves, T.nodes, T.leaves, T.nodes]
    exact ⟨h1, by rw [h2]; omega⟩
theorem fillL_count : ∀ (ks us : List T), T.leavesL ks ≤ us.length → T.leavesL (T.fillL ks us) = T.leavesL (us.take (T.leavesL ks)) ∧ T.nodesL (T.fillL ks us) = T.nodesL ks + T.nodesL (us.take (T.leavesL ks))
  | [], us, _ => by simp [T.fillL, T.leavesL, T.nodesL]
  | t :: ts, us, h => by
    rw [T.leavesL] at h
    have h1 := fill_count t us (by omega)
    have h2 := fillL_count ts (us.drop t.leaves) (by simp; omega)
    have h3 : us.take (t.leaves + T.leavesL ts) = us.take t.leaves ++ (us.drop t.leaves).take (T.leavesL ts) := List.take_add
    rw [T.fillL, T.leavesL, T.nodesL, T.leavesL, T.nodesL, h3, leavesL_append, nodesL_append]
    obtain ⟨a1, a2⟩ := h1
    obtain ⟨b1, b2⟩ := h2
    exact ⟨by omega, by omega⟩
end

theorem leavesL_rep (n : Nat) : T.leavesL (List.replicate n T.leaf) = n ∧ T.nodesL (List.replicate n T.leaf) = 0 := by
  induction n with
  | zero => simp [T.leavesL, T.nodesL]
  | succ n ih => simp [List.replicate_succ, T.leavesL, T.nodesL, T.leaves, T.nodes, ih]; omega

theorem one_count {n k : Nat} {u : T} (hk : k < n) : T.leavesL (oneIn n k u) + 1 = n + u.leaves ∧ T.nodesL (oneIn n k u) = u.nodes := by
  have e : oneIn n k u = List.replicate k T.leaf ++ u :: List.replicate (n - k - 1) T.leaf := by
    apply List.ext_getElem?
    intro j
    rw [oneIn, List.getElem?_set]
    by_cases h : k = j
    · subst h
      rw [if_pos rfl, if_pos (by simpa using hk), List.getElem?_append_right (by simp)]
      simp
    · rw [if_neg h]
      by_cases h1 : j < k
      · rw [List.getElem?_append_left (by simpa using h1)]
        simp only [List.getElem?_replicate]
        rw [if_pos (by omega), if_pos h1]
      · rw [List.getElem?_append_right (by simp; omega), List.length_replicate, List.getElem?_cons, if_neg (by omega)]
        simp only [List.getElem?_replicate]
        by_cases h2 : j < n
        · rw [if_pos h2, if_pos (by omega)]
        · rw [if_neg h2, if_neg (by omega)]
  have h1 := leavesL_rep k
  have h2 := leavesL_rep (n - k - 1)
  rw [e, leavesL_append, nodesL_append]
  simp only [T.leavesL, T.nodesL, h1, h2]
  omega

/-- Leaves and nodes of what is grafted. -/
theorem graft_count {t u : T} {k : Nat} (hk : k < t.leaves) : (t.fill (oneIn t.leaves k u)).leaves + 1 = t.leaves + u.leaves ∧ (t.fill (oneIn t.leaves k u)).nodes = t.nodes + u.nodes := by
  have h1 := fill_count t (oneIn t.leaves k u) (by rw [oneIn_length]; exact Nat.le_refl _)
  have h2 := one_count (u := u) hk
  rw [List.take_of_length_le (by rw [oneIn_length]; exact Nat.le_refl _)] at h1
  omega

theorem fillL_drop : ∀ (us vs : List T) (n : Nat), (T.fillL us vs).drop n = T.fillL (us.drop n) (vs.drop (T.leavesL (us.take n)))
  | us, vs, 0 => by simp [T.leavesL]
  | [], vs, n + 1 => by simp [T.fillL]
  | u :: us, vs, n + 1 => by
    simp only [T.fillL, List.drop_succ_cons, List.take_succ_cons, T.leavesL]
    rw [fillL_drop us (vs.drop u.leaves) n, List.drop_drop]

mutual
/-- To fill what is filled is to fill with what is filled. -/
theorem fill_fill : ∀ (t : T) (us vs : List T), t.leaves ≤ us.length → (t.fill us).fill vs = t.fill (T.fillL us vs)
  | .leaf, [], _, h => by simp [T.leaves] at h
  | .leaf, u :: us, vs, _ => by simp [T.fill, T.fillL]
  | .node c ks, us, vs, h => by
    rw [T.leaves] at h
    rw [T.fill, T.fill, T.fill, fillL_fill ks us vs h]
theorem fillL_fill : ∀ (ks us vs : List T), T.leavesL ks ≤ us.length → T.fillL (T.fillL ks us) vs = T.fillL ks (T.fillL us vs)
  | [], us, vs, _ => by simp [T.fillL]
  | t :: ts, us, vs, h => by
    rw [T.leavesL] at h
    have h1 := fill_count t us (by omega)
    rw [T.fillL, T.fillL, T.fillL, fill_fill t us vs (by omega), fillL_fill ts _ _ (by simp; omega), fillL_drop, h1.1]
end
theorem one_at (n k : Nat) (u : T) (j : Nat) : (oneIn n k u)[j]? = if j < n then some (if k = j then u else T.leaf) else none := by
  by_cases h : j < n
  · rw [if_pos h, List.getElem?_eq_getElem (by rw [oneIn_length]; exact h), oneIn_get]
  · rw [if_neg h, List.getElem?_eq_none (by rw [oneIn_length]; omega)]

theorem one_take (n k : Nat) (u : T) (i : Nat) (h : i ≤ n) : (oneIn n k u).take i = oneIn i k u := by
  apply List.ext_getElem?
  intro j
  rw [List.getElem?_take, one_at, one_at]
  by_cases h1 : j < i
  · rw [if_pos h1, if_pos (by omega), if_pos h1]
  · rw [if_neg h1, if_neg h1]

theorem one_out {i k : Nat} (u : T) (h : i ≤ k) : T.leavesL (oneIn i k u) = i := by
  have e : oneIn i k u = List.replicate i T.leaf := by
    apply List.ext_getElem?
    intro j
    rw [one_at, List.getElem?_replicate]
    by_cases h1 : j < i
    · rw [if_pos h1, if_pos h1, if_neg (by omega)]
    · rw [if_neg h1, if_neg h1]
  rw [e, (leavesL_rep i).1]

theorem leaf_drop (L q d : Nat) (v : T) : T.leaf.fill ((oneIn L q v).drop d) = if d = q ∧ q < L then v else T.leaf := by
  have e : ∀ us : List T, T.leaf.fill us = (us[0]?).getD T.leaf := by
    intro us
    cases us <;> simp [T.fill]
  rw [e, List.getElem?_drop, Nat.add_zero, one_at]
  by_cases h : d < L
  · rw [if_pos h]
    by_cases h1 : q = d
    · rw [if_pos h1, if_pos ⟨h1.symm, by omega⟩]; rfl
    · rw [if_neg h1, if_neg (fun x => h1 x.1.symm)]; rfl
  · rw [if_neg h, if_neg (fun x => h (by omega))]; rfl

theorem fill_ext {t : T} {us vs : List T} (hw : t.wf) (h : ∀ j, j < t.leaves → us[j]? = vs[j]?) : t.fill us = t.fill vs := by
  rw [← fill_take t us t.leaves hw (Nat.le_refl _), ← fill_take t vs t.leaves hw (Nat.le_refl _)]
  congr 1
  apply List.ext_getElem?
  intro j
  rw [List.getElem?_take, List.getElem?_take]
  by_cases h1 : j < t.leaves
  · rw [if_pos h1, if_pos h1, h j h1]
  · rw [if_neg h1, if_neg h1]

/-- One fill inside the other: element by element. -/
theorem one_fill (n k : Nat) (u : T) (L q : Nat) (v : T) (i : Nat) (hi : i < n) : (T.fillL (oneIn n k u) (oneIn L q v))[i]'(by rw [fillL_length, oneIn_length]; exact hi) =
    if k = i then u.fill ((oneIn L q v).drop k) else if (if i < k then i else i - 1 + u.leaves) = q ∧ q < L then v else T.leaf := by
  rw [fillL_get _ _ i (by rw [oneIn_length]; exact hi), oneIn_get, one_take n k u i (by omega)]
  by_cases h : k = i
  · rw [if_pos h, if_pos h, one_out u (by omega), h]
  · rw [if_neg h, if_neg h, leaf_drop]
    by_cases h1 : i < k
    · rw [one_out u (by omega), if_pos h1]
    · have h2 := (one_count (n := i) (k := k) (u := u) (by omega)).1
      rw [if_neg h1, show T.leavesL (oneIn i k u) = i - 1 + u.leaves from by omega]

/-- Grafted inside. -/
theorem graft_inner {t u v : T} {k j : Nat} (huw : u.wf) (hk : k < t.leaves) (hj : j < u.leaves) :
    (t.fill (oneIn t.leaves k u)).fill (oneIn (t.fill (oneIn t.leaves k u)).leaves (k + j) v) = t.fill (oneIn t.leaves k (u.fill (oneIn u.leaves j v))) := by
  have hL := (graft_count (u := u) hk).1
  rw [fill_fill t _ _ (by rw [oneIn_length]; exact Nat.le_refl _)]
  congr 1
  apply List.ext_getElem (by rw [fillL_length, oneIn_length, oneIn_length])
  intro i h1 h2
  rw [oneIn_length] at h2
  rw [one_fill _ _ _ _ _ _ _ h2, oneIn_get]
  by_cases h : k = i
  · rw [if_pos h, if_pos h]
    refine fill_ext huw (fun m hm => ?_)
    rw [List.getElem?_drop, one_at, one_at, if_pos (by omega), if_pos hm]
    by_cases e : j = m
    · rw [if_pos (by omega), if_pos e]
    · rw [if_neg (by omega), if_neg e]
  · rw [if_neg h, if_neg h, if_neg]
    by_cases h3 : i < k
    · rw [if_pos h3]; omega
    · rw [if_neg h3]; omega

/-- Grafted beside. -/
theorem graft_beside {t u v : T} {k j : Nat} (huw : u.wf) (hvw : v.wf) (hkj : k < j) (hj : j < t.leaves) :
    (t.fill (oneIn t.leaves k u)).fill (oneIn (t.fill (oneIn t.leaves k u)).leaves (j + u.leaves - 1) v) =
      (t.fill (oneIn t.leaves j v)).fill (oneIn (t.fill (oneIn t.leaves j v)).leaves k u) := by
  have hL := (graft_count (t := t) (k := k) (u := u) (by omega)).1
  have hM := (graft_count (u := v) hj).1
  have hul := leaves_pos u huw
  have hvl := leaves_pos v hvw
  rw [fill_fill t _ _ (by rw [oneIn_length]; exact Nat.le_refl _), fill_fill t _ _ (by rw [oneIn_length]; exact Nat.le_refl _)]
  congr 1
  apply List.ext_getElem (by rw [fillL_length, fillL_length, oneIn_length, oneIn_length])
  intro i h1 h2
  rw [fillL_length, oneIn_length] at h2
  rw [one_fill _ _ _ _ _ _ _ h2, one_fill _ _ _ _ _ _ _ h2]
  by_cases h : k = i
  · rw [if_pos h, if_neg (show ¬ j = i by omega), if_pos (show i < j by omega), if_pos ⟨h.symm, by omega⟩]
    refine fill_lv u _ huw (fun m hm => ?_)
    rw [List.getElem?_drop, one_at, if_pos (by omega), if_neg (by omega)]
  · rw [if_neg h]
    by_cases h3 : j = i
    · rw [if_pos h3, if_neg (show ¬ i < k by omega), if_pos ⟨by omega, by omega⟩]
      refine (fill_lv v _ hvw (fun m hm => ?_)).symm
      rw [List.getElem?_drop, one_at, if_pos (by omega), if_neg (by omega)]
    · rw [if_neg h3]
      by_cases h4 : i < k
      · rw [if_pos h4, if_neg (by omega), if_pos (show i < j by omega), if_neg (by omega)]
      · rw [if_neg h4, if_neg (by omega)]
        by_cases h5 : i < j
        · rw [if_pos h5, if_neg (by omega)]
        · rw [if_neg h5, if_neg (by omega)]

/-- What grafting gives: nothing, or a tree that is read again. -/
theorem graft_cases (a b : List UInt8) (k : Int) : graftV (graftOf a k b) = .tuple #[.string ⟨#[]⟩, .bool false] ∨
    ∃ (t u x : T) (j : Nat), parse a = some t ∧ parse b = some u ∧ k = (j : Int) ∧ j < t.leaves ∧ x = t.fill (oneIn t.leaves j u) ∧ parse x.text = some x ∧ graftV (graftOf a k b) = .tuple #[.string ⟨x.text.toArray⟩, .bool true] := by
  cases ha : parse a with
  | none => left; rw [graftOf_no ha]; rfl
  | some t =>
    cases hb : parse b with
    | none => left; rw [graftOf_no2 hb]; rfl
    | some u =>
      by_cases hk : 0 ≤ k ∧ k ≤ (t.leaves : Int) - 1
      · obtain ⟨j, rfl⟩ : ∃ j : Nat, k = (j : Int) := ⟨k.toNat, by omega⟩
        have hj : j < t.leaves := by omega
        obtain ⟨hw, _, _, _⟩ := parse_some ha
        obtain ⟨hu, _, _, _⟩ := parse_some hb
        rw [graftOf_in ha hb hj]
        by_cases hs : (t.fill (oneIn t.leaves j u)).leaves ≤ 12 ∧ (t.fill (oneIn t.leaves j u)).nodes ≤ 16
        · right
          exact ⟨t, u, _, j, rfl, rfl, rfl, hj, rfl, parse_text (fill_wf t _ hw (oneIn_wf hu)) hs.1 hs.2, by rw [graftV, done_small hs.1 hs.2]⟩
        · left
          rw [graftV, doneV, if_neg hs]
      · left; rw [graftOf_out ha hk]; rfl
end Go.Proofs.YtoeebipahifpcaaGreat
end
end
section
/- Patterns as mathematics: laying one tree over another, and putting a tree in the place of a part. No walk here. -/
namespace Go.Proofs.YtoeebipahifpcaaGreat

mutual
/-- The least tree that both trees fit. -/
def T.unite : T → T → Option T
  | .leaf, b => some b
  | .node c ks, .leaf => some (.node c ks)
  | .node c ks, .node d js => if c = d ∧ ks.length = js.length then
      match T.uniteL ks js with
      | none => none
      | some us => some (.node c us)
    else none
def T.uniteL : List T → List T → Option (List T)
  | k :: ks, js =>
    match js with
    | [] => some []
    | j :: js =>
      match k.unite j with
      | none => none
      | some u =>
        match T.uniteL ks js with
        | none => none
        | some us => some (u :: us)
  | [], _ => some []
end

theorem unite_leaf (b : T) : T.leaf.unite b = some b := by rw [T.unite]
theorem unite_leaf2 (a : T) : a.unite .leaf = some a := by
  cases a with
  | leaf => rw [T.unite]
  | node c ks => rw [T.unite]

theorem uniteL_nil (js : List T) : T.uniteL [] js = some [] := by rw [T.uniteL]
theorem uniteL_cons (k j : T) (ks js : List T) : T.uniteL (k :: ks) (j :: js) = match k.unite j with
    | none => none
    | some u => match T.uniteL ks js with
      | none => none
      | some us => some (u :: us) := by rw [T.uniteL]

theorem uniteL_snoc : ∀ (ks js : List T) (k : Nat) (acc : List T) (u : T) (hk : k < ks.length) (hj : k < js.length), T.uniteL (ks.take k) (js.take k) = some acc → (ks[k]).unite (js[k]) = some u →
    T.uniteL (ks.take (k + 1)) (js.take (k + 1)) = some (acc ++ [u])
  | [], _, _, _, _, hk, _, _, _ => by simp at hk
  | _ :: _, [], _, _, _, _, hj, _, _ => by simp at hj
  | x :: ks, y :: js, 0, acc, u, _, _, h, hu => by
    simp only [List.take_zero, uniteL_nil, Option.some.injEq] at h
    subst h
    simp only [List.getElem_cons_zero] at hu
    simp only [Nat.zero_add, List.take_succ_cons, List.take_zero, uniteL_cons, hu, uniteL_nil]
    rfl
  | x :: ks, y :: js, k + 1, acc, u, hk, hj, h, hu => by
    simp only [List.take_succ_cons, uniteL_cons] at h
    simp only [List.getElem_cons_succ] at hu
    cases hxy : x.unite y with
    | none => rw [hxy] at h; cases h
    | some v =>
      rw [hxy] at h
      simp only at h
      cases hr : T.uniteL (ks.take k) (js.take k) with
      | none => rw [hr] at h; cases h
      | some us =>
        rw [hr] at h
        simp only [Option.some.injEq] at h
        subst h
        have ih := uniteL_snoc ks js k us u (by simpa using hk) (by simpa using hj) hr hu
        rw [show k + 1 + 1 = (k + 1) + 1 from rfl, List.take_succ_cons, List.take_succ_cons, uniteL_cons, hxy, ih]
        rfl

theorem uniteL_stop : ∀ (ks js : List T) (k : Nat) (hk : k < ks.length) (hj : k < js.length), (ks[k]).unite (js[k]) = none → T.uniteL ks js = none
  | [], _, _, hk, _, _ => by simp at hk
  | _ :: _, [], _, _, hj, _ => by simp at hj
  | x :: ks, y :: js, 0, _, _, hu => by
    simp only [List.getElem_cons_zero] at hu
    rw [uniteL_cons, hu]
  | x :: ks, y :: js, k + 1, hk, hj, hu => by
    simp only [List.getElem_cons_succ] at hu
    have ih := uniteL_stop ks js k (by simpa using hk) (by simpa using hj) hu
    rw [uniteL_cons, ih]
    cases x.unite y <;> rfl

theorem unite_same {c : UInt8} {ks js us : List T} (hl : ks.length = js.length) (h : T.uniteL ks js = some us) : (T.node c ks).unite (.node c js) = some (.node c us) := by
  rw [T.unite, if_pos ⟨rfl, hl⟩, h]
theorem unite_fail {c : UInt8} {ks js : List T} (h : T.uniteL ks js = none) : (T.node c ks).unite (.node c js) = none := by
  rw [T.unite, h]; split <;> rfl
theorem unite_unlike {c d : UInt8} {ks js : List T} (h : ¬ (c = d ∧ ks.length = js.length)) : (T.node c ks).unite (.node d js) = none := by
  rw [T.unite, if_neg h]

mutual
theorem unite_ok : ∀ (a b u : T), a.wf → b.wf → a.unite b = some u → u.wf ∧ u.leaves ≤ a.leaves + b.leaves ∧ u.nodes ≤ a.nodes + b.nodes
  | .leaf, b, u, _, hb, h => by
    rw [T.unite, Option.some.injEq] at h
    subst h
    exact ⟨hb, by omega, by omega⟩
  | .node c ks, .leaf, u, ha, _, h => by
    rw [T.unite, Option.some.injEq] at h
    subst h
    exact ⟨ha, by omega, by omega⟩
  | .node c ks, .node d js, u, ha, hb, h => by
    rw [T.wf] at ha hb
    rw [T.unite] at h
    split at h
    · next hc =>
      cases hr : T.uniteL ks js with
      | none => rw [hr] at h; cases h
      | some us =>
        rw [hr] at h
        simp only [Option.some.injEq] at h
        subst h
        have ih := uniteL_ok ks js us hc.2 ha.2.2.2.2 hb.2.2.2.2 hr
        rw [T.wf]
        simp only [T.leaves, T.nodes]
        exact ⟨⟨ha.1, ha.2.1, by omega, by omega, ih.2.1⟩, by omega, by omega⟩
    · cases h
theorem uniteL_ok : ∀ (ks js us : List T), ks.length = js.length → T.wfL ks → T.wfL js → T.uniteL ks js = some us → us.length = ks.length ∧ T.wfL us ∧ T.leavesL us ≤ T.leavesL ks + T.leavesL js ∧ T.nodesL us ≤ T.nodesL ks + T.nodesL js
  | [], js, us, _, _, _, h => by
    rw [uniteL_nil, Option.some.injEq] at h
    subst h
    exact ⟨rfl, by rw [T.wfL]; trivial, by simp [T.leavesL], by simp [T.nodesL]⟩
  | k :: ks, [], us, hl, _, _, _ => by simp at hl
  | k :: ks, j :: js, us, hl, ha, hb, h => by
    rw [T.wfL] at ha hb
    rw [uniteL_cons] at h
    cases hu : k.unite j with
    | none => rw [hu] at h; cases h
    | some u =>
      rw [hu] at h
      simp only at h
      cases hr : T.uniteL ks js with
      | none => rw [hr] at h; cases h
      | some vs =>
        rw [hr] at h
        simp only [Option.some.injEq] at h
        subst h
        have h1 := unite_ok k j u ha.1 hb.1 hu
        have h2 := uniteL_ok ks js vs (by simpa using hl) ha.2 hb.2 hr
        rw [T.wfL]
        simp only [T.leavesL, T.nodesL, List.length_cons]
        exact ⟨by omega, ⟨h1.1, h2.2.1⟩, by omega, by omega⟩
end

mutual
/-- What is grafted where a part was cut off stands in its place. -/
theorem cut_fillU : ∀ (t : T) (k : Nat) (r p u : T) (a : Nat), t.wf → t.cutAt k = some (r, p, a) → ∀ us : List T, (∀ j, j < r.leaves → us[j]? = some (if j = a then u else T.leaf)) → r.fill us = t.putAt k u
  | .leaf, k, r, p, u, a, _, h, _, _ => by rw [T.cutAt] at h; cases h
  | .node c ks, k, r, p, v, a, hw, h, us, hu => by
    rw [T.cutAt] at h
    rw [T.putAt]
    by_cases h0 : k = 0
    · rw [if_pos h0] at h ⊢
      simp only [Option.some.injEq, Prod.mk.injEq] at h
      obtain ⟨rfl, rfl, rfl⟩ := h
      have := hu 0 (by simp [T.leaves])
      cases us with
      | nil => simp at this
      | cons u us => simpa [T.fill] using this
    · rw [if_neg h0] at h ⊢
      cases hc : T.cutL ks (k - 1) with
      | none => rw [hc] at h; cases h
      | some q =>
        obtain ⟨rs, p', a'⟩ := q
        rw [hc] at h
        simp only [Option.some.injEq, Prod.mk.injEq] at h
        obtain ⟨rfl, rfl, rfl⟩ := h
        rw [T.wf] at hw
        rw [T.leaves] at hu
        rw [T.fill, cutL_fillU ks (k - 1) rs p' v a' hw.2.2.2.2 hc us hu]
theorem cutL_fillU : ∀ (ks : List T) (k : Nat) (rs : List T) (p u : T) (a : Nat), T.wfL ks → T.cutL ks k = some (rs, p, a) → ∀ us : List T, (∀ j, j < T.leavesL rs → us[j]? = some (if j = a then u else T.leaf)) → T.fillL rs us = T.putL ks k u
  | [], k, rs, p, u, a, _, h, _, _ => by rw [T.cutL] at h; cases h
  | t :: ts, k, rs, p, u, a, hw, h, us, hu => by
    rw [T.cutL] at h
    rw [T.wfL] at hw
    rw [T.putL]
    cases hc : t.cutAt k with
    | some q =>
      obtain ⟨r', p', a'⟩ := q
      have hlt : k < t.nodes := by
        rcases Nat.lt_or_ge k t.nodes with h1 | h1
        · exact h1
        · rw [cutAt_none t k h1] at hc; cases hc
      rw [hc] at h
      simp only [Option.some.injEq, Prod.mk.injEq] at h
      obtain ⟨rfl, rfl, rfl⟩ := h
      have hs := cut_size t k r' p' a' hc
      rw [T.leavesL] at hu
      rw [if_pos hlt, T.fillL, cut_fillU t k r' p' u a' hw.1 hc us (fun j hj => hu j (by omega)), fillL_lv ts _ hw.2 (fun j hj => by rw [List.getElem?_drop, hu _ (by omega), if_neg (by omega)])]
    | none =>
      have hge : ¬ k < t.nodes := fun h1 => by
        obtain ⟨r', p', a', e⟩ := cutAt_some t k h1
        rw [e] at hc; cases hc
      rw [hc] at h
      simp only at h
      cases hd : T.cutL ts (k - t.nodes) with
      | none => rw [hd] at h; cases h
      | some q =>
        obtain ⟨rs', p', a'⟩ := q
        rw [hd] at h
        simp only [Option.some.injEq, Prod.mk.injEq] at h
        obtain ⟨rfl, rfl, rfl⟩ := h
        rw [T.leavesL] at hu
        rw [if_neg hge, T.fillL, fill_lv t us hw.1 (fun j hj => by rw [hu j (by omega), if_neg (by omega)]), cutL_fillU ts _ rs' p' u a' hw.2 hd _ (fun j hj => by
          rw [List.getElem?_drop, hu _ (by omega)]
          by_cases e : j = a'
          · rw [if_pos e, if_pos (by omega)]
          · rw [if_neg e, if_neg (by omega)])]
end

theorem graft_put {t r p u : T} {k a : Nat} (hw : t.wf) (h : t.cutAt k = some (r, p, a)) : r.fill (oneIn r.leaves a u) = t.putAt k u :=
  cut_fillU t k r p u a hw h _ (fun j hj => by
    rw [one_at, if_pos hj]
    by_cases e : a = j
    · rw [if_pos e, if_pos e.symm]
    · rw [if_neg e, if_neg (fun h => e h.symm)])

theorem put_size {t r p u : T} {k a : Nat} (hw : t.wf) (h : t.cutAt k = some (r, p, a)) : (t.putAt k u).leaves + p.leaves = t.leaves + u.leaves ∧ (t.putAt k u).nodes + p.nodes = t.nodes + u.nodes := by
  obtain ⟨h1, h2, h3, h4⟩ := cut_size t k r p a h
  rw [← graft_put (u := u) hw h]
  have := graft_count (u := u) h4
  omega

/-- What joining answers: p at the node k of q. -/
def joinOf (p q : T) (k : Nat) : Option T :=
  match q.cutAt k with
  | none => none
  | some (_, s, _) =>
    match p.unite s with
    | none => none
    | some u => if small (q.putAt k u) = true then some (q.putAt k u) else none
end Go.Proofs.YtoeebipahifpcaaGreat
end
