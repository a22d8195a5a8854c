/- Patterns as mathematics: laying one tree over another, and putting a tree in the place of a part. No walk here. -/
import Derived.Test.YtfjodghnheliaaaKPCut
namespace Go.Proofs.Ytfjodghnheliaaa

mutual
/-- The least tree that both trees fit. -/
def T.unite : T → T → Option T
  | .leaf, b => some b
  | .node c ks, .leaf => some (.node c ks)
  | .node c ks, .node d js => if c = d ∧ ks.length = js.length then
      match T.uniteL ks js with
      | none => none
      | some us => some (.node c us)
    else none
def T.uniteL : List T → List T → Option (List T)
  | k :: ks, js =>
    match js with
    | [] => some []
    | j :: js =>
      match k.unite j with
      | none => none
      | some u =>
        match T.uniteL ks js with
        | none => none
        | some us => some (u :: us)
  | [], _ => some []
end

theorem unite_leaf (b : T) : T.leaf.unite b = some b := by rw [T.unite]
theorem unite_leaf2 (a : T) : a.unite .leaf = some a := by
  cases a with
  | leaf => rw [T.unite]
  | node c ks => rw [T.unite]

theorem uniteL_nil (js : List T) : T.uniteL [] js = some [] := by rw [T.uniteL]
theorem uniteL_cons (k j : T) (ks js : List T) : T.uniteL (k :: ks) (j :: js) = match k.unite j with
    | none => none
    | some u => match T.uniteL ks js with
      | none => none
      | some us => some (u :: us) := by rw [T.uniteL]

theorem uniteL_snoc : ∀ (ks js : List T) (k : Nat) (acc : List T) (u : T) (hk : k < ks.length) (hj : k < js.length), T.uniteL (ks.take k) (js.take k) = some acc → (ks[k]).unite (js[k]) = some u →
    T.uniteL (ks.take (k + 1)) (js.take (k + 1)) = some (acc ++ [u])
  | [], _, _, _, _, hk, _, _, _ => by simp at hk
  | _ :: _, [], _, _, _, _, hj, _, _ => by simp at hj
  | x :: ks, y :: js, 0, acc, u, _, _, h, hu => by
    simp only [List.take_zero, uniteL_nil, Option.some.injEq] at h
    subst h
    simp only [List.getElem_cons_zero] at hu
    simp only [Nat.zero_add, List.take_succ_cons, List.take_zero, uniteL_cons, hu, uniteL_nil]
    rfl
  | x :: ks, y :: js, k + 1, acc, u, hk, hj, h, hu => by
    simp only [List.take_succ_cons, uniteL_cons] at h
    simp only [List.getElem_cons_succ] at hu
    cases hxy : x.unite y with
    | none => rw [hxy] at h; cases h
    | some v =>
      rw [hxy] at h
      simp only at h
      cases hr : T.uniteL (ks.take k) (js.take k) with
      | none => rw [hr] at h; cases h
      | some us =>
        rw [hr] at h
        simp only [Option.some.injEq] at h
        subst h
        have ih := uniteL_snoc ks js k us u (by simpa using hk) (by simpa using hj) hr hu
        rw [show k + 1 + 1 = (k + 1) + 1 from rfl, List.take_succ_cons, List.take_succ_cons, uniteL_cons, hxy, ih]
        rfl

theorem uniteL_stop : ∀ (ks js : List T) (k : Nat) (hk : k < ks.length) (hj : k < js.length), (ks[k]).unite (js[k]) = none → T.uniteL ks js = none
  | [], _, _, hk, _, _ => by simp at hk
  | _ :: _, [], _, _, hj, _ => by simp at hj
  | x :: ks, y :: js, 0, _, _, hu => by
    simp only [List.getElem_cons_zero] at hu
    rw [uniteL_cons, hu]
  | x :: ks, y :: js, k + 1, hk, hj, hu => by
    simp only [List.getElem_cons_succ] at hu
    have ih := uniteL_stop ks js k (by simpa using hk) (by simpa using hj) hu
    rw [uniteL_cons, ih]
    cases x.unite y <;> rfl

theorem unite_same {c : UInt8} {ks js us : List T} (hl : ks.length = js.length) (h : T.uniteL ks js = some us) : (T.node c ks).unite (.node c js) = some (.node c us) := by
  rw [T.unite, if_pos ⟨rfl, hl⟩, h]
theorem unite_fail {c : UInt8} {ks js : List T} (h : T.uniteL ks js = none) : (T.node c ks).unite (.node c js) = none := by
  rw [T.unite, h]; split <;> rfl
theorem unite_unlike {c d : UInt8} {ks js : List T} (h : ¬ (c = d ∧ ks.length = js.length)) : (T.node c ks).unite (.node d js) = none := by
  rw [T.unite, if_neg h]

mutual
theorem unite_ok : ∀ (a b u : T), a.wf → b.wf → a.unite b = some u → u.wf ∧ u.leaves ≤ a.leaves + b.leaves ∧ u.nodes ≤ a.nodes + b.nodes
  | .leaf, b, u, _, hb, h => by
    rw [T.unite, Option.some.injEq] at h
    subst h
    exact ⟨hb, by omega, by omega⟩
  | .node c ks, .leaf, u, ha, _, h => by
    rw [T.unite, Option.some.injEq] at h
    subst h
    exact ⟨ha, by omega, by omega⟩
  | .node c ks, .node d js, u, ha, hb, h => by
    rw [T.wf] at ha hb
    rw [T.unite] at h
    split at h
    · next hc =>
      cases hr : T.uniteL ks js with
      | none => rw [hr] at h; cases h
      | some us =>
        rw [hr] at h
        simp only [Option.some.injEq] at h
        subst h
        have ih := uniteL_ok ks js us hc.2 ha.2.2.2.2 hb.2.2.2.2 hr
        rw [T.wf]
        simp only [T.leaves, T.nodes]
        exact ⟨⟨ha.1, ha.2.1, by omega, by omega, ih.2.1⟩, by omega, by omega⟩
    · cases h
theorem uniteL_ok : ∀ (ks js us : List T), ks.length = js.length → T.wfL ks → T.wfL js → T.uniteL ks js = some us → us.length = ks.length ∧ T.wfL us ∧ T.leavesL us ≤ T.leavesL ks + T.leavesL js ∧ T.nodesL us ≤ T.nodesL ks + T.nodesL js
  | [], js, us, _, _, _, h => by
    rw [uniteL_nil, Option.some.injEq] at h
    subst h
    exact ⟨rfl, by rw [T.wfL]; trivial, by simp [T.leavesL], by simp [T.nodesL]⟩
  | k :: ks, [], us, hl, _, _, _ => by simp at hl
  | k :: ks, j :: js, us, hl, ha, hb, h => by
    rw [T.wfL] at ha hb
    rw [uniteL_cons] at h
    cases hu : k.unite j with
    | none => rw [hu] at h; cases h
    | some u =>
      rw [hu] at h
      simp only at h
      cases hr : T.uniteL ks js with
      | none => rw [hr] at h; cases h
      | some vs =>
        rw [hr] at h
        simp only [Option.some.injEq] at h
        subst h
        have h1 := unite_ok k j u ha.1 hb.1 hu
        have h2 := uniteL_ok ks js vs (by simpa using hl) ha.2 hb.2 hr
        rw [T.wfL]
        simp only [T.leavesL, T.nodesL, List.length_cons]
        exact ⟨by omega, ⟨h1.1, h2.2.1⟩, by omega, by omega⟩
end

mutual
/-- What is grafted where a part was cut off stands in its place. -/
theorem cut_fillU : ∀ (t : T) (k : Nat) (r p u : T) (a : Nat), t.wf → t.cutAt k = some (r, p, a) → ∀ us : List T, (∀ j, j < r.leaves → us[j]? = some (if j = a then u else T.leaf)) → r.fill us = t.putAt k u
  | .leaf, k, r, p, u, a, _, h, _, _ => by rw [T.cutAt] at h; cases h
  | .node c ks, k, r, p, v, a, hw, h, us, hu => by
    rw [T.cutAt] at h
    rw [T.putAt]
    by_cases h0 : k = 0
    · rw [if_pos h0] at h ⊢
      simp only [Option.some.injEq, Prod.mk.injEq] at h
      obtain ⟨rfl, rfl, rfl⟩ := h
      have := hu 0 (by simp [T.leaves])
      cases us with
      | nil => simp at this
      | cons u us => simpa [T.fill] using this
    · rw [if_neg h0] at h ⊢
      cases hc : T.cutL ks (k - 1) with
      | none => rw [hc] at h; cases h
      | some q =>
        obtain ⟨rs, p', a'⟩ := q
        rw [hc] at h
        simp only [Option.some.injEq, Prod.mk.injEq] at h
        obtain ⟨rfl, rfl, rfl⟩ := h
        rw [T.wf] at hw
        rw [T.leaves] at hu
        rw [T.fill, cutL_fillU ks (k - 1) rs p' v a' hw.2.2.2.2 hc us hu]
theorem cutL_fillU : ∀ (ks : List T) (k : Nat) (rs : List T) (p u : T) (a : Nat), T.wfL ks → T.cutL ks k = some (rs, p, a) → ∀ us : List T, (∀ j, j < T.leavesL rs → us[j]? = some (if j = a then u else T.leaf)) → T.fillL rs us = T.putL ks k u
  | [], k, rs, p, u, a, _, h, _, _ => by rw [T.cutL] at h; cases h
  | t :: ts, k, rs, p, u, a, hw, h, us, hu => by
    rw [T.cutL] at h
    rw [T.wfL] at hw
    rw [T.putL]
    cases hc : t.cutAt k with
    | some q =>
      obtain ⟨r', p', a'⟩ := q
      have hlt : k < t.nodes := by
        rcases Nat.lt_or_ge k t.nodes with h1 | h1
        · exact h1
        · rw [cutAt_none t k h1] at hc; cases hc
      rw [hc] at h
      simp only [Option.some.injEq, Prod.mk.injEq] at h
      obtain ⟨rfl, rfl, rfl⟩ := h
      have hs := cut_size t k r' p' a' hc
      rw [T.leavesL] at hu
      rw [if_pos hlt, T.fillL, cut_fillU t k r' p' u a' hw.1 hc us (fun j hj => hu j (by omega)), fillL_lv ts _ hw.2 (fun j hj => by rw [List.getElem?_drop, hu _ (by omega), if_neg (by omega)])]
    | none =>
      have hge : ¬ k < t.nodes := fun h1 => by
        obtain ⟨r', p', a', e⟩ := cutAt_some t k h1
        rw [e] at hc; cases hc
      rw [hc] at h
      simp only at h
      cases hd : T.cutL ts (k - t.nodes) with
      | none => rw [hd] at h; cases h
      | some q =>
        obtain ⟨rs', p', a'⟩ := q
        rw [hd] at h
        simp only [Option.some.injEq, Prod.mk.injEq] at h
        obtain ⟨rfl, rfl, rfl⟩ := h
        rw [T.leavesL] at hu
        rw [if_neg hge, T.fillL, fill_lv t us hw.1 (fun j hj => by rw [hu j (by omega), if_neg (by omega)]), cutL_fillU ts _ rs' p' u a' hw.2 hd _ (fun j hj => by
          rw [List.getElem?_drop, hu _ (by omega)]
          by_cases e : j = a'
          · rw [if_pos e, if_pos (by omega)]
          · rw [if_neg e, if_neg (by omega)])]
end

theorem graft_put {t r p u : T} {k a : Nat} (hw : t.wf) (h : t.cutAt k = some (r, p, a)) : r.fill (oneIn r.leaves a u) = t.putAt k u :=
  cut_fillU t k r p u a hw h _ (fun j hj => by
    rw [one_at, if_pos hj]
    by_cases e : a = j
    · rw [if_pos e, if_pos e.symm]
    · rw [if_neg e, if_neg (fun h => e h.symm)])

theorem put_size {t r p u : T} {k a : Nat} (hw : t.wf) (h : t.cutAt k = some (r, p, a)) : (t.putAt k u).leaves + p.leaves = t.leaves + u.leaves ∧ (t.putAt k u).nodes + p.nodes = t.nodes + u.nodes := by
  obtain ⟨h1, h2, h3, h4⟩ := cut_size t k r p a h
  rw [← graft_put (u := u) hw h]
  have := graft_count (u := u) h4
  omega

/-- What joining answers: p at the node k of q. -/
def joinOf (p q : T) (k : Nat) : Option T :=
  match q.cutAt k with
  | none => none
  | some (_, s, _) =>
    match p.unite s with
    | none => none
    | some u => if small (q.putAt k u) = true then some (q.putAt k u) else none
end Go.Proofs.Ytfjodghnheliaaa
