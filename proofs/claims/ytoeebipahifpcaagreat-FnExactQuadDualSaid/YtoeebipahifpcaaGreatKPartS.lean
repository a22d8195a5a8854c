/- Merged out of: XCut, XPartS. -/
import Derived.Test.YtoeebipahifpcaaGreatTree
import Derived.Test.YtoeebipahifpcaaGreatKMirrorS
section
/- Cutting a tree at a node, plainly. -/
namespace Go.Proofs.YtoeebipahifpcaaGreat

mutual
def T.cutAt : T → Nat → Option (T × T × Nat)
  | .leaf, _ => none
  | .node c ks, k => if k = 0 then some (.leaf, .node c ks, 0) else
    match T.cutL ks (k - 1) with
    | none => none
    | some (rs, p, a) => some (.node c rs, p, a)
def T.cutL : List T → Nat → Option (List T × T × Nat)
  | [], _ => none
  | t :: ts, k =>
    match t.cutAt k with
    | some (r, p, a) => some (r :: ts, p, a)
    | none =>
      match T.cutL ts (k - t.nodes) with
      | none => none
      | some (rs, p, a) => some (t :: rs, p, t.leaves + a)
end

mutual
theorem cutAt_none : ∀ (t : T) (k : Nat), t.nodes ≤ k → t.cutAt k = none
  | .leaf, k, _ => by rw [T.cutAt]
  | .node c ks, k, h => by
    rw [T.nodes] at h
    rw [T.cutAt, if_neg (by omega), cutL_none ks (k - 1) (by omega)]
theorem cutL_none : ∀ (ks : List T) (k : Nat), T.nodesL ks ≤ k → T.cutL ks k = none
  | [], k, _ => by rw [T.cutL]
  | t :: ts, k, h => by
    rw [T.nodesL] at h
    rw [T.cutL, cutAt_none t k (by omega)]
    simp only
    rw [cutL_none ts (k - t.nodes) (by omega)]
end

mutual
theorem cutAt_some : ∀ (t : T) (k : Nat), k < t.nodes → ∃ r p a, t.cutAt k = some (r, p, a)
  | .leaf, k, h => by rw [T.nodes] at h; omega
  | .node c ks, k, h => by
    rw [T.nodes] at h
    by_cases h0 : k = 0
    · exact ⟨_, _, _, by rw [T.cutAt, if_pos h0]⟩
    · obtain ⟨rs, p, a, e⟩ := cutL_some ks (k - 1) (by omega)
      exact ⟨_, _, _, by rw [T.cutAt, if_neg h0, e]⟩
theorem cutL_some : ∀ (ks : List T) (k : Nat), k < T.nodesL ks → ∃ rs p a, T.cutL ks k = some (rs, p, a)
  | [], k, h => by rw [T.nodesL] at h; omega
  | t :: ts, k, h => by
    rw [T.nodesL] at h
    by_cases h1 : k < t.nodes
    · obtain ⟨r, p, a, e⟩ := cutAt_some t k h1
      exact ⟨_, _, _, by rw [T.cutL, e]⟩
    · obtain ⟨rs, p, a, e⟩ := cutL_some ts (k - t.nodes) (by omega)
      exact ⟨_, _, _, by rw [T.cutL, cutAt_none t k (by omega)]; simp only; rw [e]⟩
end

theorem cutL_here : ∀ (ks : List T) (i kk : Nat) (h : i < ks.length) (r p : T) (a : Nat), kk < (ks[i]).nodes → (ks[i]).cutAt kk = some (r, p, a) →
    T.cutL ks (T.nodesL (ks.take i) + kk) = some (ks.set i r, p, T.leavesL (ks.take i) + a)
  | [], _, _, h, _, _, _, _, _ => by simp at h
  | t :: ts, 0, kk, _, r, p, a, _, e => by
    simp only [List.take_zero, T.nodesL, Nat.zero_add, T.leavesL, List.set_cons_zero]
    rw [T.cutL]
    simp only [List.getElem_cons_zero] at e
    rw [e]
  | t :: ts, i + 1, kk, h, r, p, a, hk, e => by
    simp only [List.getElem_cons_succ] at hk e
    have ih := cutL_here ts i kk (by simpa using h) r p a hk e
    simp only [List.take_succ_cons, T.nodesL, T.leavesL, List.set_cons_succ]
    rw [T.cutL, cutAt_none t _ (by omega)]
    simp only
    rw [show t.nodes + T.nodesL (ts.take i) + kk - t.nodes = T.nodesL (ts.take i) + kk from by omega, ih]
    simp only [Option.some.injEq, Prod.mk.injEq, true_and]
    omega

theorem wfL_set : ∀ (ks : List T) (i : Nat) (r : T), T.wfL ks → r.wf → T.wfL (ks.set i r)
  | [], _, _, _, _ => by simp [T.wfL]
  | t :: ts, 0, r, h, hr => by rw [T.wfL] at h; simp [T.wfL, h.2, hr]
  | t :: ts, i + 1, r, h, hr => by rw [T.wfL] at h; simp [T.wfL, h.1, wfL_set ts i r h.2 hr]

mutual
/-- What is cut: trees, no greater together than the tree. -/
theorem cutAt_wf : ∀ (t : T) (k : Nat) (r p : T) (a : Nat), t.wf → t.cutAt k = some (r, p, a) → r.wf ∧ p.wf ∧ r.text.length + p.text.length ≤ t.text.length + 1 ∧ a ≤ t.leaves
  | .leaf, k, r, p, a, _, h => by rw [T.cutAt] at h; cases h
  | .node c ks, k, r, p, a, hw, h => by
    rw [T.cutAt] at h
    by_cases h0 : k = 0
    · rw [if_pos h0] at h
      simp only [Option.some.injEq, Prod.mk.injEq] at h
      obtain ⟨rfl, rfl, rfl⟩ := h
      exact ⟨by simp [T.wf], hw, by simp [T.text]; omega, by omega⟩
    · rw [if_neg h0] at h
      cases hc : T.cutL ks (k - 1) with
      | none => rw [hc] at h; cases h
      | some q =>
        obtain ⟨rs, p', a'⟩ := q
        rw [hc] at h
        simp only [Option.some.injEq, Prod.mk.injEq] at h
        obtain ⟨rfl, rfl, rfl⟩ := h
        rw [T.wf] at hw
        obtain ⟨h1, h2, h3, h4, h5⟩ := cutL_wf ks (k - 1) rs p' a' hw.2.2.2.2 hc
        refine ⟨by rw [T.wf, h4]; exact ⟨hw.1, hw.2.1, hw.2.2.1, hw.2.2.2.1, h1⟩, h2, ?_, by rw [T.leaves]; exact h5⟩
        simp only [T.text, List.length_cons, List.length_append, List.length_nil]; omega
theorem cutL_wf : ∀ (ks : List T) (k : Nat) (rs : List T) (p : T) (a : Nat), T.wfL ks → T.cutL ks k = some (rs, p, a) → T.wfL rs ∧ p.wf ∧ (T.textL rs).length + p.text.length ≤ (T.textL ks).length + 1 ∧ rs.length = ks.length ∧ a ≤ T.leavesL ks
  | [], k, rs, p, a, _, h => by rw [T.cutL] at h; cases h
  | t :: ts, k, rs, p, a, hw, h => by
    rw [T.cutL] at h
    rw [T.wfL] at hw
    cases hc : t.cutAt k with
    | some q =>
      obtain ⟨r', p', a'⟩ := q
      rw [hc] at h
      simp only [Option.some.injEq, Prod.mk.injEq] at h
      obtain ⟨rfl, rfl, rfl⟩ := h
      obtain ⟨h1, h2, h3, h4⟩ := cutAt_wf t k r' p' a' hw.1 hc
      refine ⟨by rw [T.wfL]; exact ⟨h1, hw.2⟩, h2, ?_, by simp, by rw [T.leavesL]; omega⟩
      simp only [T.textL, List.length_cons, List.length_append]; omega
    | none =>
      rw [hc] at h
      simp only at h
      cases hd : T.cutL ts (k - t.nodes) with
      | none => rw [hd] at h; cases h
      | some q =>
        obtain ⟨rs', p', a'⟩ := q
        rw [hd] at h
        simp only [Option.some.injEq, Prod.mk.injEq] at h
        obtain ⟨rfl, rfl, rfl⟩ := h
        obtain ⟨h1, h2, h3, h4, h5⟩ := cutL_wf ts _ rs' p' a' hw.2 hd
        refine ⟨by rw [T.wfL]; exact ⟨hw.1, h1⟩, h2, ?_, by simp [h4], by rw [T.leavesL]; omega⟩
        simp only [T.textL, List.length_cons, List.length_append]; omega
end

mutual
/-- A tree in the place of the part at a node. -/
def T.putAt : T → Nat → T → T
  | .leaf, _, _ => .leaf
  | .node c ks, k, s => if k = 0 then s else .node c (T.putL ks (k - 1) s)
def T.putL : List T → Nat → T → List T
  | [], _, _ => []
  | t :: ts, k, s => if k < t.nodes then t.putAt k s :: ts else t :: T.putL ts (k - t.nodes) s
end

mutual
theorem cut_put : ∀ (t : T) (k : Nat) (r p : T) (a : Nat), t.cutAt k = some (r, p, a) → r = t.putAt k .leaf
  | .leaf, k, r, p, a, h => by rw [T.cutAt] at h; cases h
  | .node c ks, k, r, p, a, h => by
    rw [T.cutAt] at h
    rw [T.putAt]
    by_cases h0 : k = 0
    · rw [if_pos h0] at h ⊢
      simp only [Option.some.injEq, Prod.mk.injEq] at h
      exact h.1.symm
    · rw [if_neg h0] at h ⊢
      cases hc : T.cutL ks (k - 1) with
      | none => rw [hc] at h; cases h
      | some q =>
        obtain ⟨rs, p', a'⟩ := q
        rw [hc] at h
        simp only [Option.some.injEq, Prod.mk.injEq] at h
        rw [← h.1, cut_putL ks (k - 1) rs p' a' hc]
theorem cut_putL : ∀ (ks : List T) (k : Nat) (rs : List T) (p : T) (a : Nat), T.cutL ks k = some (rs, p, a) → rs = T.putL ks k .leaf
  | [], k, rs, p, a, h => by rw [T.cutL] at h; cases h
  | t :: ts, k, rs, p, a, h => by
    rw [T.cutL] at h
    rw [T.putL]
    cases hc : t.cutAt k with
    | some q =>
      obtain ⟨r', p', a'⟩ := q
      have hlt : k < t.nodes := by
        rcases Nat.lt_or_ge k t.nodes with h1 | h1
        · exact h1
        · rw [cutAt_none t k h1] at hc; cases hc
      rw [hc] at h
      simp only [Option.some.injEq, Prod.mk.injEq] at h
      rw [if_pos hlt, ← h.1, cut_put t k r' p' a' hc]
    | none =>
      have hge : ¬ k < t.nodes := fun h1 => by
        obtain ⟨r', p', a', e⟩ := cutAt_some t k h1
        rw [e] at hc; cases hc
      rw [hc] at h
      simp only at h
      rw [if_neg hge]
      cases hd : T.cutL ts (k - t.nodes) with
      | none => rw [hd] at h; cases h
      | some q =>
        obtain ⟨rs', p', a'⟩ := q
        rw [hd] at h
        simp only [Option.some.injEq, Prod.mk.injEq] at h
        rw [← h.1, cut_putL ts _ rs' p' a' hd]
end

theorem putL_length : ∀ (ks : List T) (k : Nat) (s : T), (T.putL ks k s).length = ks.length
  | [], _, _ => by simp [T.putL]
  | t :: ts, k, s => by
    rw [T.putL]
    split
    · simp
    · simp [putL_length ts]

theorem putL_get : ∀ (ks : List T) (k : Nat) (s : T) (i : Nat) (h : i < ks.length), (T.putL ks k s)[i]'(by rw [putL_length]; exact h) =
    if T.nodesL (ks.take i) ≤ k ∧ k < T.nodesL (ks.take i) + (ks[i]).nodes then (ks[i]).putAt (k - T.nodesL (ks.take i)) s else ks[i]
  | [], _, _, _, h => by simp at h
  | t :: ts, k, s, 0, _ => by
    simp only [List.take_zero, T.nodesL, Nat.zero_add, List.getElem_cons_zero, Nat.sub_zero, Nat.zero_le, true_and]
    by_cases h1 : k < t.nodes
    · simp only [T.putL, if_pos h1, List.getElem_cons_zero]
    · simp only [T.putL, if_neg h1, List.getElem_cons_zero]
  | t :: ts, k, s, i + 1, h => by
    have ih := putL_get ts (k - t.nodes) s i (by simpa using h)
    simp only [List.take_succ_cons, T.nodesL, List.getElem_cons_succ]
    by_cases h1 : k < t.nodes
    · simp only [T.putL, if_pos h1, List.getElem_cons_succ]
      rw [if_neg (by omega)]
    · simp only [T.putL, if_neg h1, List.getElem_cons_succ]
      rw [ih]
      by_cases h2 : T.nodesL (ts.take i) ≤ k - t.nodes ∧ k - t.nodes < T.nodesL (ts.take i) + (ts[i]'(by simpa using h)).nodes
      · rw [if_pos h2, if_pos (by omega), show k - t.nodes - T.nodesL (ts.take i) = k - (t.nodes + T.nodesL (ts.take i)) from by omega]
      · rw [if_neg h2, if_neg (by omega)]

mutual
theorem putAt_wf : ∀ (t : T) (k : Nat) (s : T), t.wf → s.wf → (t.putAt k s).wf
  | .leaf, k, s, h, hs => by rw [T.putAt]; exact h
  | .node c ks, k, s, h, hs => by
    rw [T.putAt]
    split
    · exact hs
    · rw [T.wf] at h ⊢
      rw [putL_length]
      exact ⟨h.1, h.2.1, h.2.2.1, h.2.2.2.1, putL_wf ks _ s h.2.2.2.2 hs⟩
theorem putL_wf : ∀ (ks : List T) (k : Nat) (s : T), T.wfL ks → s.wf → T.wfL (T.putL ks k s)
  | [], _, _, _, _ => by simp [T.putL, T.wfL]
  | t :: ts, k, s, h, hs => by
    rw [T.wfL] at h
    rw [T.putL]
    split
    · rw [T.wfL]; exact ⟨putAt_wf t k s h.1 hs, h.2⟩
    · rw [T.wfL]; exact ⟨h.1, putL_wf ts _ s h.2 hs⟩
end

end Go.Proofs.YtoeebipahifpcaaGreat
end
section
/- The model: the part at a node. -/
namespace Go.Proofs.YtoeebipahifpcaaGreat
open Go.RowKit

/-- A part is handed back, where it lay. -/
def PartS (P : Nat → Prop) (p : T) (a : Nat) (w : World) (e : Ending) (w' : World) : Prop :=
  Below w.heap.size w w' ∧ ∃ (lb : ByteArray) (sa : Option Addr) (sn sc : Nat), e = .returned (.tuple #[.agg #[.string lb, .slice sa sn sc], .int .i64 a]) ∧ RepS w' P p (.string lb) (.slice sa sn sc)

theorem RepS.shape' {w : World} {P : Nat → Prop} {t : T} {l s : Value} (h : RepS w P t l s) : ∃ (lb : ByteArray) (sa : Option Addr) (sn sc : Nat), l = .string lb ∧ s = .slice sa sn sc := by
  cases t with
  | leaf => rw [RepS] at h; exact ⟨_, _, _, _, h.1, h.2⟩
  | node c ks => rw [RepS] at h; obtain ⟨h1, g, cap, h2, _⟩ := h; exact ⟨_, _, _, _, h1, h2⟩

end Go.Proofs.YtoeebipahifpcaaGreat
end
