/- What is cut off is put back: plain mathematics. -/
import Derived.Test.YtaahjegdcahccaaPMath
import Derived.Test.YtaahjegdcahccaaLawCutC
namespace Go.Proofs.Ytaahjegdcahccaa
open Go.RowKit

mutual
theorem cut_size : ∀ (t : T) (k : Nat) (r p : T) (a : Nat), t.cutAt k = some (r, p, a) → r.leaves + p.leaves = t.leaves + 1 ∧ r.nodes + p.nodes = t.nodes ∧ 1 ≤ p.nodes ∧ a < r.leaves
  | .leaf, k, r, p, a, h => by rw [T.cutAt] at h; cases h
  | .node c ks, k, r, p, a, h => by
    rw [T.cutAt] at h
    by_cases h0 : k = 0
    · rw [if_pos h0] at h
      simp only [Option.some.injEq, Prod.mk.injEq] at h
      obtain ⟨rfl, rfl, rfl⟩ := h
      simp [T.leaves, T.nodes]; omega
    · rw [if_neg h0] at h
      cases hc : T.cutL ks (k - 1) with
      | none => rw [hc] at h; cases h
      | some q =>
        obtain ⟨rs, p', a'⟩ := q
        rw [hc] at h
        simp only [Option.some.injEq, Prod.mk.injEq] at h
        obtain ⟨rfl, rfl, rfl⟩ := h
        have := cutL_size ks (k - 1) rs p' a' hc
        simp only [T.leaves, T.nodes]; omega
theorem cutL_size : ∀ (ks : List T) (k : Nat) (rs : List T) (p : T) (a : Nat), T.cutL ks k = some (rs, p, a) → T.leavesL rs + p.leaves = T.leavesL ks + 1 ∧ T.nodesL rs + p.nodes = T.nodesL ks ∧ 1 ≤ p.nodes ∧ a < T.leavesL rs
  | [], k, rs, p, a, h => by rw [T.cutL] at h; cases h
  | t :: ts, k, rs, p, a, h => by
    rw [T.cutL] at h
    cases hc : t.cutAt k with
    | some q =>
      obtain ⟨r', p', a'⟩ := q
      rw [hc] at h
      simp only [Option.some.injEq, Prod.mk.injEq] at h
      obtain ⟨rfl, rfl, rfl⟩ := h
      have := cut_size t k r' p' a' hc
      simp only [T.leavesL, T.nodesL]; omega
    | none =>
      rw [hc] at h
      simp only at h
      cases hd : T.cutL ts (k - t.nodes) with
      | none => rw [hd] at h; cases h
      | some q =>
        obtain ⟨rs', p', a'⟩ := q
        rw [hd] at h
        simp only [Option.some.injEq, Prod.mk.injEq] at h
        obtain ⟨rfl, rfl, rfl⟩ := h
        have := cutL_size ts _ rs' p' a' hd
        simp only [T.leavesL, T.nodesL]; omega
end

mutual
theorem fill_lv : ∀ (t : T) (us : List T), t.wf → (∀ j, j < t.leaves → us[j]? = some T.leaf) → t.fill us = t
  | .leaf, us, _, h => by
    have := h 0 (by simp [T.leaves])
    cases us with
    | nil => simp at this
    | cons u us => simpa [T.fill] using this
  | .node c ks, us, hw, h => by
    rw [T.wf] at hw
    rw [T.leaves] at h
    rw [T.fill, fillL_lv ks us hw.2.2.2.2 h]
theorem fillL_lv : ∀ (ks : List T) (us : List T), T.wfL ks → (∀ j, j < T.leavesL ks → us[j]? = some T.leaf) → T.fillL ks us = ks
  | [], _, _, _ => by simp [T.fillL]
  | t :: ts, us, hw, h => by
    rw [T.wfL] at hw
    rw [T.leavesL] at h
    rw [T.fillL, fill_lv t us hw.1 (fun j hj => h j (by omega)), fillL_lv ts _ hw.2 (fun j hj => by rw [List.getElem?_drop]; exact h _ (by omega))]
end

mutual
theorem cut_fill : ∀ (t : T) (k : Nat) (r p : T) (a : Nat), t.wf → t.cutAt k = some (r, p, a) → ∀ us : List T, (∀ j, j < r.leaves → us[j]? = some (if j = a then p else T.leaf)) → r.fill us = t
  | .leaf, k, r, p, a, _, h, _, _ => by rw [T.cutAt] at h; cases h
  | .node c ks, k, r, p, a, hw, h, us, hu => by
    rw [T.cutAt] at h
    by_cases h0 : k = 0
    · rw [if_pos h0] at h
      simp only [Option.some.injEq, Prod.mk.injEq] at h
      obtain ⟨rfl, rfl, rfl⟩ := h
      have := hu 0 (by simp [T.leaves])
      cases us with
      | nil => simp at this
      | cons u us => simpa [T.fill] using this
    · rw [if_neg h0] at h
      cases hc : T.cutL ks (k - 1) with
      | none => rw [hc] at h; cases h
      | some q =>
        obtain ⟨rs, p', a'⟩ := q
        rw [hc] at h
        simp only [Option.some.injEq, Prod.mk.injEq] at h
        obtain ⟨rfl, rfl, rfl⟩ := h
        rw [T.wf] at hw
        rw [T.leaves] at hu
        rw [T.fill, cutL_fill ks (k - 1) rs p' a' hw.2.2.2.2 hc us hu]
theorem cutL_fill : ∀ (ks : List T) (k : Nat) (rs : List T) (p : T) (a : Nat), T.wfL ks → T.cutL ks k = some (rs, p, a) → ∀ us : List T, (∀ j, j < T.leavesL rs → us[j]? = some (if j = a then p else T.leaf)) → T.fillL rs us = ks
  | [], k, rs, p, a, _, h, _, _ => by rw [T.cutL] at h; cases h
  | t :: ts, k, rs, p, a, hw, h, us, hu => by
    rw [T.cutL] at h
    rw [T.wfL] at hw
    cases hc : t.cutAt k with
    | some q =>
      obtain ⟨r', p', a'⟩ := q
      rw [hc] at h
      simp only [Option.some.injEq, Prod.mk.injEq] at h
      obtain ⟨rfl, rfl, rfl⟩ := h
      have hs := cut_size t k r' p' a' hc
      rw [T.leavesL] at hu
      rw [T.fillL, cut_fill t k r' p' a' hw.1 hc us (fun j hj => hu j (by omega)), fillL_lv ts _ hw.2 (fun j hj => by rw [List.getElem?_drop, hu _ (by omega), if_neg (by omega)])]
    | none =>
      rw [hc] at h
      simp only at h
      cases hd : T.cutL ts (k - t.nodes) with
      | none => rw [hd] at h; cases h
      | some q =>
        obtain ⟨rs', p', a'⟩ := q
        rw [hd] at h
        simp only [Option.some.injEq, Prod.mk.injEq] at h
        obtain ⟨rfl, rfl, rfl⟩ := h
        rw [T.leavesL] at hu
        rw [T.fillL, fill_lv t us hw.1 (fun j hj => by rw [hu j (by omega), if_neg (by omega)]), cutL_fill ts _ rs' p' a' hw.2 hd _ (fun j hj => by
          rw [List.getElem?_drop, hu _ (by omega)]
          by_cases e : j = a'
          · rw [if_pos e, if_pos (by omega)]
          · rw [if_neg e, if_neg (by omega)])]
end

theorem cut_zero {t r p : T} {a : Nat} (h : t.cutAt 0 = some (r, p, a)) : p = t := by
  cases t with
  | leaf => rw [T.cutAt] at h; cases h
  | node c ks =>
    rw [T.cutAt, if_pos rfl] at h
    simp only [Option.some.injEq, Prod.mk.injEq] at h
    exact h.2.1.symm

/-- What a cut gives, read again. -/
theorem cut_parts {s : List UInt8} {k : Int} {r p : T} {a : Nat} (h : cutOf s k = some (r, p, a)) :
    ∃ t, parse s = some t ∧ parse r.text = some r ∧ parse p.text = some p ∧ graftOf r.text a p.text = some t ∧ 1 ≤ p.nodes ∧ p.nodes ≤ t.nodes ∧ p.leaves ≤ t.leaves ∧ (k = 0 → p = t) ∧ 0 ≤ k := by
  unfold cutOf at h
  cases hp : parse s with
  | none => rw [hp] at h; cases h
  | some t =>
    rw [hp] at h
    simp only at h
    by_cases hk : k < 0
    · rw [if_pos hk] at h; cases h
    · rw [if_neg hk] at h
      obtain ⟨hw, _, hl, hn⟩ := parse_some hp
      obtain ⟨hrw, hpw, _, _⟩ := cutAt_wf t _ r p a hw h
      obtain ⟨z1, z2, z3, z4⟩ := cut_size t _ r p a h
      have hpl := leaves_pos p hpw
      have hrl := leaves_pos r hrw
      have e1 := parse_text hrw (by omega) (by omega)
      have e2 := parse_text hpw (by omega) (by omega)
      refine ⟨t, rfl, e1, e2, ?_, z3, by omega, by omega, ?_, by omega⟩
      · rw [graftOf_in e1 e2 z4, cut_fill t _ r p a hw h (oneIn r.leaves a p) (fun j hj => by
          rw [List.getElem?_eq_getElem (by rw [oneIn_length]; exact hj), oneIn_get]
          by_cases e : j = a
          · rw [if_pos e, if_pos e.symm]
          · rw [if_neg e, if_neg (fun x => e x.symm)])]
      · intro h0
        subst h0
        exact cut_zero h
end Go.Proofs.Ytaahjegdcahccaa
