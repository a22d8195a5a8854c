/- Trees in the places of a tree's leaves, plainly. -/
import Derived.Test.YtmmfcljkcepahaaTree
namespace Go.Proofs.Ytmmfcljkcepahaa

mutual
def T.fill : T → List T → T
  | .leaf, us => us.headD .leaf
  | .node c ks, us => .node c (T.fillL ks us)
def T.fillL : List T → List T → List T
  | [], _ => []
  | t :: ts, us => t.fill us :: T.fillL ts (us.drop t.leaves)
end

theorem fillL_length : ∀ (ks us : List T), (T.fillL ks us).length = ks.length
  | [], _ => by simp [T.fillL]
  | t :: ts, us => by simp [T.fillL, fillL_length ts]

theorem fillL_get : ∀ (ks us : List T) (i : Nat) (h : i < ks.length), (T.fillL ks us)[i]'(by rw [fillL_length]; exact h) = (ks[i]).fill (us.drop (T.leavesL (ks.take i)))
  | [], _, _, h => by simp at h
  | t :: ts, us, 0, _ => by simp [T.fillL, T.leavesL]
  | t :: ts, us, i + 1, h => by
    have ih := fillL_get ts (us.drop t.leaves) i (by simpa using h)
    simp only [T.fillL, List.getElem_cons_succ, List.take_succ_cons, T.leavesL]
    rw [ih, List.drop_drop]

mutual
/-- Only the first trees count, one a leaf. -/
theorem fill_take : ∀ (t : T) (us : List T) (n : Nat), t.wf → t.leaves ≤ n → t.fill (us.take n) = t.fill us
  | .leaf, [], n, _, _ => by simp [T.fill]
  | .leaf, u :: us, n, _, h => by
    rw [T.leaves] at h
    obtain ⟨m, rfl⟩ : ∃ m, n = m + 1 := ⟨n - 1, by omega⟩
    simp [T.fill]
  | .node c ks, us, n, hw, h => by
    rw [T.wf] at hw
    rw [T.leaves] at h
    rw [T.fill, T.fill, fillL_take ks us n hw.2.2.2.2 h]
theorem fillL_take : ∀ (ks us : List T) (n : Nat), T.wfL ks → T.leavesL ks ≤ n → T.fillL ks (us.take n) = T.fillL ks us
  | [], _, _, _, _ => by simp [T.fillL]
  | t :: ts, us, n, hw, h => by
    rw [T.wfL] at hw
    rw [T.leavesL] at h
    rw [T.fillL, T.fillL, fill_take t us n hw.1 (by omega), List.drop_take, fillL_take ts _ _ hw.2 (by omega)]
end

mutual
theorem fill_wf : ∀ (t : T) (us : List T), t.wf → T.wfL us → (t.fill us).wf
  | .leaf, [], _, _ => by simp [T.fill, T.wf]
  | .leaf, u :: us, _, h => by rw [T.wfL] at h; simp only [T.fill, List.headD_cons]; exact h.1
  | .node c ks, us, hw, h => by
    rw [T.wf] at hw
    rw [T.fill, T.wf, fillL_length]
    exact ⟨hw.1, hw.2.1, hw.2.2.1, hw.2.2.2.1, fillL_wf ks us hw.2.2.2.2 h⟩
theorem fillL_wf : ∀ (ks us : List T), T.wfL ks → T.wfL us → T.wfL (T.fillL ks us)
  | [], _, _, _ => by simp [T.fillL, T.wfL]
  | t :: ts, us, hw, h => by
    rw [T.wfL] at hw
    rw [T.fillL, T.wfL]
    have hd : T.wfL (us.drop t.leaves) := by
      have := wfL_append (us.take t.leaves) (us.drop t.leaves)
      rw [List.take_append_drop] at this
      exact (this.1 h).2
    exact ⟨fill_wf t us hw.1 h, fillL_wf ts _ hw.2 hd⟩
end

mutual
theorem fill_size : ∀ (t : T) (us : List T) (M N : Nat), 1 ≤ M → (∀ u ∈ us, u.leaves ≤ M ∧ u.nodes ≤ N) → (t.fill us).leaves ≤ t.leaves * M ∧ (t.fill us).nodes ≤ t.nodes + t.leaves * N
  | .leaf, [], M, N, hM, _ => by simp [T.fill, T.leaves, T.nodes]; exact hM
  | .leaf, u :: us, M, N, hM, h => by
    have := h u (by simp)
    simp only [T.fill, List.headD_cons, T.leaves, T.nodes, Nat.one_mul, Nat.zero_add]
    exact this
  | .node c ks, us, M, N, hM, h => by
    have := fillL_size ks us M N hM h
    simp only [T.fill, T.leaves, T.nodes]
    exact ⟨this.1, by omega⟩
theorem fillL_size : ∀ (ks us : List T) (M N : Nat), 1 ≤ M → (∀ u ∈ us, u.leaves ≤ M ∧ u.nodes ≤ N) → T.leavesL (T.fillL ks us) ≤ T.leavesL ks * M ∧ T.nodesL (T.fillL ks us) ≤ T.nodesL ks + T.leavesL ks * N
  | [], _, M, N, _, _ => by simp [T.fillL, T.leavesL, T.nodesL]
  | t :: ts, us, M, N, hM, h => by
    have h1 := fill_size t us M N hM h
    have h2 := fillL_size ts (us.drop t.leaves) M N hM (fun u hu => h u (List.mem_of_mem_drop hu))
    simp only [T.fillL, T.leavesL, T.nodesL, Nat.add_mul]
    omega
end

/-- What is filled from trees of the document's size is small enough to be written. -/
theorem fill_len {t : T} {us : List T} (hl : t.leaves ≤ 12) (hn : t.nodes ≤ 16) (h : ∀ u ∈ us, u.leaves ≤ 12 ∧ u.nodes ≤ 16) : (t.fill us).leaves ≤ 144 ∧ (t.fill us).nodes ≤ 208 ∧ (t.fill us).text.length ≤ 100000 := by
  have h1 := fill_size t us 12 16 (by omega) h
  have h2 := text_length (t.fill us)
  omega

end Go.Proofs.Ytmmfcljkcepahaa
