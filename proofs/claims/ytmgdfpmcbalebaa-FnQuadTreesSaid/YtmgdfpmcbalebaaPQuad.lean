/- Quadratic trees are twice the pairs of letters: FnQuadTrees. -/
import Derived.Test.YtmgdfpmcbalebaaLawQT
import Derived.Test.YtmgdfpmcbalebaaKPick
import Derived.Test.YtmgdfpmcbalebaaKOrdI
namespace Go.Proofs.Ytmgdfpmcbalebaa
open Go.RowKit

theorem put_place (t : T) : ∀ (us : List T), AscT us → (∀ u ∈ us, ordT t u ≠ 0) → ∃ k, k ≤ us.length ∧ (∀ j (hj : j < us.length), k ≤ j → ordT t us[j] < 0) ∧ (0 < k → ∀ h1 : k - 1 < us.length, 0 < ordT t (us[k - 1]))
  | [], _, _ => ⟨0, Nat.le_refl _, fun j hj => by simp at hj, fun h0 => by omega⟩
  | u :: us, h, hne => by
    have h' := List.pairwise_cons.1 h
    by_cases hu : ordT t u < 0
    · refine ⟨0, Nat.zero_le _, fun j hj _ => ?_, fun h0 => by omega⟩
      cases j with
      | zero => exact hu
      | succ j =>
        simp only [List.getElem_cons_succ]
        exact isCmp_ordT.lt_le hu (by have := h'.1 (us[j]'(by simpa using hj)) (List.getElem_mem _); omega)
    · obtain ⟨k, h1, h2, h3⟩ := put_place t us h'.2 (fun v hv => hne v (by simp [hv]))
      have hu2 := hne u (by simp)
      refine ⟨k + 1, by simp; omega, fun j hj hkj => ?_, fun _ hk1 => ?_⟩
      · cases j with
        | zero => omega
        | succ j =>
          simp only [List.getElem_cons_succ]
          exact h2 j (by simpa using hj) (by omega)
      · cases k with
        | zero => show 0 < ordT t u; omega
        | succ k =>
          show 0 < ordT t us[k]
          exact h3 (by omega) (by omega)

theorem sorted_exists : ∀ (ts : List T), (∀ t ∈ ts, t.wf) → ts.Nodup → ∃ us, AscT us ∧ us.Perm ts
  | [], _, _ => ⟨[], List.Pairwise.nil, List.Perm.nil⟩
  | t :: ts, hw, hn => by
    have hn' := List.nodup_cons.1 hn
    obtain ⟨us, h1, h2⟩ := sorted_exists ts (fun u hu => hw u (by simp [hu])) hn'.2
    obtain ⟨k, hk, ha, hb⟩ := put_place t us h1 (fun u hu h0 => by
      have hm := h2.mem_iff.1 hu
      exact hn'.1 ((ordT_zero (hw t (by simp)) (hw u (by simp [hm])) h0) ▸ hm))
    exact ⟨_, h1.put hk ha (fun h0 => hb h0 (by omega)), (perm_put k h2).trans (List.perm_append_comm (l₁ := ts) (l₂ := [t]))⟩

theorem downT_length {ts : List T} (hw : ∀ t ∈ ts, t.wf) (hn : ts.Nodup) : (downT ts).length = ts.length := by
  obtain ⟨us, h1, h2⟩ := sorted_exists ts hw hn
  rw [← asc_down h1 h2 hw, List.length_reverse, h2.length_eq]

theorem quads_length {ss : List ByteArray} {ts : List T} (h : quadsOf ss = some ts) : ts.length = 2 * ss.length * ss.length ∧ 1 ≤ ss.length ∧ ss.length ≤ 3 := by
  unfold quadsOf at h
  cases hl : lettersOf ss with
  | none => rw [hl] at h; cases h
  | some cs =>
    rw [hl] at h
    cases h
    obtain ⟨h1, h2, h3⟩ := lettersOf_ok hl
    have e : ss.length = cs.length := by rw [h1.txt, List.length_map]
    refine ⟨?_, by omega, by omega⟩
    rw [downT_length (fun t ht => (quad_wf h1.let_ t ht).1) (quadRows_nodup h1.nodup cs h1.nodup), e]
    exact quadRows_length cs cs

def lettersW (w : World) : World := (((((((((((w.alloc (.cells #[.string ⟨#[97]⟩] 9 (0, 0))).alloc (.cells #[.string ⟨#[97]⟩, .string ⟨#[98]⟩] 9 (0, 0))).alloc (.cells #[.string ⟨#[98]⟩, .string ⟨#[97]⟩] 9 (0, 0))).alloc (.cells #[.string ⟨#[97]⟩, .string ⟨#[98]⟩, .string ⟨#[99]⟩] 9 (0, 0))).alloc (.cells #[] 9 (0, 0))).alloc (.cells #[.string ⟨#[97]⟩, .string ⟨#[97]⟩] 9 (0, 0))).alloc (.cells #[.string ⟨#[97]⟩, .string ⟨#[120]⟩] 9 (0, 0))).alloc (.cells #[.string ⟨#[97]⟩, .string ⟨#[98]⟩] 9 (0, 0))).alloc (.cells #[.string ⟨#[97]⟩] 9 (0, 0))).alloc (.cells #[.string ⟨#[97]⟩, .string ⟨#[98]⟩] 9 (0, 0))).alloc (.cells #[.slice (some ⟨w.heap.size, 0, none⟩) 1 1, .slice (some ⟨w.heap.size + 1, 0, none⟩) 2 2, .slice (some ⟨w.heap.size + 1 + 1, 0, none⟩) 2 2, .slice (some ⟨w.heap.size + 1 + 1 + 1, 0, none⟩) 3 3, .slice (some ⟨w.heap.size + 1 + 1 + 1 + 1, 0, none⟩) 0 0, .slice (some ⟨w.heap.size + 1 + 1 + 1 + 1 + 1, 0, none⟩) 2 2, .slice (some ⟨w.heap.size + 1 + 1 + 1 + 1 + 1 + 1, 0, none⟩) 2 2, .slice (some ⟨w.heap.size + 1 + 1 + 1 + 1 + 1 + 1 + 1, 0, none⟩) 2 2, .slice (some ⟨w.heap.size + 1 + 1 + 1 + 1 + 1 + 1 + 1 + 1, 0, none⟩) 1 1, .slice (some ⟨w.heap.size + 1 + 1 + 1 + 1 + 1 + 1 + 1 + 1 + 1, 0, none⟩) 2 2] 22 (0, 0)))
theorem lettersW_size (w : World) : (lettersW w).heap.size = w.heap.size + 11 := by simp [lettersW]
theorem lettersW_below (w : World) : Below w.heap.size w (lettersW w) := by
  unfold lettersW
  exact (((((((((((Below.refl _ _).alloc (Nat.le_refl _) _).alloc (by simp) _).alloc (by simp; omega) _).alloc (by simp; omega) _).alloc (by simp; omega) _).alloc (by simp; omega) _).alloc (by simp; omega) _).alloc (by simp; omega) _).alloc (by simp; omega) _).alloc (by simp; omega) _).alloc (by simp; omega) _
theorem lettersW_b0 (w : World) : (lettersW w).heap[w.heap.size]? = some (.cells #[.string ⟨#[97]⟩] 9 (0, 0)) := by
  unfold lettersW
  rw [Below.heap_alloc _ _ _ (by simp <;> omega)]
  rw [Below.heap_alloc _ _ _ (by simp <;> omega)]
  rw [Below.heap_alloc _ _ _ (by simp <;> omega)]
  rw [Below.heap_alloc _ _ _ (by simp <;> omega)]
  rw [Below.heap_alloc _ _ _ (by simp <;> omega)]
  rw [Below.heap_alloc _ _ _ (by simp <;> omega)]
  rw [Below.heap_alloc _ _ _ (by simp <;> omega)]
  rw [Below.heap_alloc _ _ _ (by simp <;> omega)]
  rw [Below.heap_alloc _ _ _ (by simp <;> omega)]
  rw [Below.heap_alloc _ _ _ (by simp <;> omega)]
  exact heap_alloc_new _ _
theorem lettersW_b1 (w : World) : (lettersW w).heap[w.heap.size + 1]? = some (.cells #[.string ⟨#[97]⟩, .string ⟨#[98]⟩] 9 (0, 0)) := by
  unfold lettersW
  rw [Below.heap_alloc _ _ _ (by simp <;> omega)]
  rw [Below.heap_alloc _ _ _ (by simp <;> omega)]
  rw [Below.heap_alloc _ _ _ (by simp <;> omega)]
  rw [Below.heap_alloc _ _ _ (by simp <;> omega)]
  rw [Below.heap_alloc _ _ _ (by simp <;> omega)]
  rw [Below.heap_alloc _ _ _ (by simp <;> omega)]
  rw [Below.heap_alloc _ _ _ (by simp <;> omega)]
  rw [Below.heap_alloc _ _ _ (by simp <;> omega)]
  rw [Below.heap_alloc _ _ _ (by simp <;> omega)]
  rw [show w.heap.size + 1 = (w.alloc (.cells #[.string ⟨#[97]⟩] 9 (0, 0))).heap.size by simp]
  exact heap_alloc_new _ _
theorem lettersW_b2 (w : World) : (lettersW w).heap[w.heap.size + 1 + 1]? = some (.cells #[.string ⟨#[98]⟩, .string ⟨#[97]⟩] 9 (0, 0)) := by
  unfold lettersW
  rw [Below.heap_alloc _ _ _ (by simp <;> omega)]
  rw [Below.heap_alloc _ _ _ (by simp <;> omega)]
  rw [Below.heap_alloc _ _ _ (by simp <;> omega)]
  rw [Below.heap_alloc _ _ _ (by simp <;> omega)]
  rw [Below.heap_alloc _ _ _ (by simp <;> omega)]
  rw [Below.heap_alloc _ _ _ (by simp <;> omega)]
  rw [Below.heap_alloc _ _ _ (by simp <;> omega)]
  rw [Below.heap_alloc _ _ _ (by simp <;> omega)]
  rw [show w.heap.size + 1 + 1 = ((w.alloc (.cells #[.string ⟨#[97]⟩] 9 (0, 0))).alloc (.cells #[.string ⟨#[97]⟩, .string ⟨#[98]⟩] 9 (0, 0))).heap.size by simp]
  exact heap_alloc_new _ _
theorem lettersW_b3 (w : World) : (lettersW w).heap[w.heap.size + 1 + 1 + 1]? = some (.cells #[.string ⟨#[97]⟩, .string ⟨#[98]⟩, .string ⟨#[99]⟩] 9 (0, 0)) := by
  unfold lettersW
  rw [Below.heap_alloc _ _ _ (by simp <;> omega)]
  rw [Below.heap_alloc _ _ _ (by simp <;> omega)]
  rw [Below.heap_alloc _ _ _ (by simp <;> omega)]
  rw [Below.heap_alloc _ _ _ (by simp <;> omega)]
  rw [Below.heap_alloc _ _ _ (by simp <;> omega)]
  rw [Below.heap_alloc _ _ _ (by simp <;> omega)]
  rw [Below.heap_alloc _ _ _ (by simp <;> omega)]
  rw [show w.heap.size + 1 + 1 + 1 = (((w.alloc (.cells #[.string ⟨#[97]⟩] 9 (0, 0))).alloc (.cells #[.string ⟨#[97]⟩, .string ⟨#[98]⟩] 9 (0, 0))).alloc (.cells #[.string ⟨#[98]⟩, .string ⟨#[97]⟩] 9 (0, 0))).heap.size by simp]
  exact heap_alloc_new _ _
theorem lettersW_b4 (w : World) : (lettersW w).heap[w.heap.size + 1 + 1 + 1 + 1]? = some (.cells #[] 9 (0, 0)) := by
  unfold lettersW
  rw [Below.heap_alloc _ _ _ (by simp <;> omega)]
  rw [Below.heap_alloc _ _ _ (by simp <;> omega)]
  rw [Below.heap_alloc _ _ _ (by simp <;> omega)]
  rw [Below.heap_alloc _ _ _ (by simp <;> omega)]
  rw [Below.heap_alloc _ _ _ (by simp <;> omega)]
  rw [Below.heap_alloc _ _ _ (by simp <;> omega)]
  rw [show w.heap.size + 1 + 1 + 1 + 1 = ((((w.alloc (.cells #[.string ⟨#[97]⟩] 9 (0, 0))).alloc (.cells #[.string ⟨#[97]⟩, .string ⟨#[98]⟩] 9 (0, 0))).alloc (.cells #[.string ⟨#[98]⟩, .string ⟨#[97]⟩] 9 (0, 0))).alloc (.cells #[.string ⟨#[97]⟩, .string ⟨#[98]⟩, .string ⟨#[99]⟩] 9 (0, 0))).heap.size by simp]
  exact heap_alloc_new _ _
theorem lettersW_b5 (w : World) : (lettersW w).heap[w.heap.size + 1 + 1 + 1 + 1 + 1]? = some (.cells #[.string ⟨#[97]⟩, .string ⟨#[97]⟩] 9 (0, 0)) := by
  unfold lettersW
  rw [Below.heap_alloc _ _ _ (by simp <;> omega)]
  rw [Below.heap_alloc _ _ _ (by simp <;> omega)]
  rw [Below.heap_alloc _ _ _ (by simp <;> omega)]
  rw [Below.heap_alloc _ _ _ (by simp <;> omega)]
  rw [Below.heap_alloc _ _ _ (by simp <;> omega)]
  rw [show w.heap.size + 1 + 1 + 1 + 1 + 1 = (((((w.alloc (.cells #[.string ⟨#[97]⟩] 9 (0, 0))).alloc (.cells #[.string ⟨#[97]⟩, .string ⟨#[98]⟩] 9 (0, 0))).alloc (.cells #[.string ⟨#[98]⟩, .string ⟨#[97]⟩] 9 (0, 0))).alloc (.cells #[.string ⟨#[97]⟩, .string ⟨#[98]⟩, .string ⟨#[99]⟩] 9 (0, 0))).alloc (.cells #[] 9 (0, 0))).heap.size by simp]
  exact heap_alloc_new _ _
theorem lettersW_b6 (w : World) : (lettersW w).heap[w.heap.size + 1 + 1 + 1 + 1 + 1 + 1]? = some (.cells #[.string ⟨#[97]⟩, .string ⟨#[120]⟩] 9 (0, 0)) := by
  unfold lettersW
  rw [Below.heap_alloc _ _ _ (by simp <;> omega)]
  rw [Below.heap_alloc _ _ _ (by simp <;> omega)]
  rw [Below.heap_alloc _ _ _ (by simp <;> omega)]
  rw [Below.heap_alloc _ _ _ (by simp <;> omega)]
  rw [show w.heap.size + 1 + 1 + 1 + 1 + 1 + 1 = ((((((w.alloc (.cells #[.string ⟨#[97]⟩] 9 (0, 0))).alloc (.cells #[.string ⟨#[97]⟩, .string ⟨#[98]⟩] 9 (0, 0))).alloc (.cells #[.string ⟨#[98]⟩, .string ⟨#[97]⟩] 9 (0, 0))).alloc (.cells #[.string ⟨#[97]⟩, .string ⟨#[98]⟩, .string ⟨#[99]⟩] 9 (0, 0))).alloc (.cells #[] 9 (0, 0))).alloc (.cells #[.string ⟨#[97]⟩, .string ⟨#[97]⟩] 9 (0, 0))).heap.size by simp]
  exact heap_alloc_new _ _
theorem lettersW_b7 (w : World) : (lettersW w).heap[w.heap.size + 1 + 1 + 1 + 1 + 1 + 1 + 1]? = some (.cells #[.string ⟨#[97]⟩, .string ⟨#[98]⟩] 9 (0, 0)) := by
  unfold lettersW
  rw [Below.heap_alloc _ _ _ (by simp <;> omega)]
  rw [Below.heap_alloc _ _ _ (by simp <;> omega)]
  rw [Below.heap_alloc _ _ _ (by simp <;> omega)]
  rw [show w.heap.size + 1 + 1 + 1 + 1 + 1 + 1 + 1 = (((((((w.alloc (.cells #[.string ⟨#[97]⟩] 9 (0, 0))).alloc (.cells #[.string ⟨#[97]⟩, .string ⟨#[98]⟩] 9 (0, 0))).alloc (.cells #[.string ⟨#[98]⟩, .string ⟨#[97]⟩] 9 (0, 0))).alloc (.cells #[.string ⟨#[97]⟩, .string ⟨#[98]⟩, .string ⟨#[99]⟩] 9 (0, 0))).alloc (.cells #[] 9 (0, 0))).alloc (.cells #[.string ⟨#[97]⟩, .string ⟨#[97]⟩] 9 (0, 0))).alloc (.cells #[.string ⟨#[97]⟩, .string ⟨#[120]⟩] 9 (0, 0))).heap.size by simp]
  exact heap_alloc_new _ _
theorem lettersW_b8 (w : World) : (lettersW w).heap[w.heap.size + 1 + 1 + 1 + 1 + 1 + 1 + 1 + 1]? = some (.cells #[.string ⟨#[97]⟩] 9 (0, 0)) := by
  unfold lettersW
  rw [Below.heap_alloc _ _ _ (by simp <;> omega)]
  rw [Below.heap_alloc _ _ _ (by simp <;> omega)]
  rw [show w.heap.size + 1 + 1 + 1 + 1 + 1 + 1 + 1 + 1 = ((((((((w.alloc (.cells #[.string ⟨#[97]⟩] 9 (0, 0))).alloc (.cells #[.string ⟨#[97]⟩, .string ⟨#[98]⟩] 9 (0, 0))).alloc (.cells #[.string ⟨#[98]⟩, .string ⟨#[97]⟩] 9 (0, 0))).alloc (.cells #[.string ⟨#[97]⟩, .string ⟨#[98]⟩, .string ⟨#[99]⟩] 9 (0, 0))).alloc (.cells #[] 9 (0, 0))).alloc (.cells #[.string ⟨#[97]⟩, .string ⟨#[97]⟩] 9 (0, 0))).alloc (.cells #[.string ⟨#[97]⟩, .string ⟨#[120]⟩] 9 (0, 0))).alloc (.cells #[.string ⟨#[97]⟩, .string ⟨#[98]⟩] 9 (0, 0))).heap.size by simp]
  exact heap_alloc_new _ _
theorem lettersW_b9 (w : World) : (lettersW w).heap[w.heap.size + 1 + 1 + 1 + 1 + 1 + 1 + 1 + 1 + 1]? = some (.cells #[.string ⟨#[97]⟩, .string ⟨#[98]⟩] 9 (0, 0)) := by
  unfold lettersW
  rw [Below.heap_alloc _ _ _ (by simp <;> omega)]
  rw [show w.heap.size + 1 + 1 + 1 + 1 + 1 + 1 + 1 + 1 + 1 = (((((((((w.alloc (.cells #[.string ⟨#[97]⟩] 9 (0, 0))).alloc (.cells #[.string ⟨#[97]⟩, .string ⟨#[98]⟩] 9 (0, 0))).alloc (.cells #[.string ⟨#[98]⟩, .string ⟨#[97]⟩] 9 (0, 0))).alloc (.cells #[.string ⟨#[97]⟩, .string ⟨#[98]⟩, .string ⟨#[99]⟩] 9 (0, 0))).alloc (.cells #[] 9 (0, 0))).alloc (.cells #[.string ⟨#[97]⟩, .string ⟨#[97]⟩] 9 (0, 0))).alloc (.cells #[.string ⟨#[97]⟩, .string ⟨#[120]⟩] 9 (0, 0))).alloc (.cells #[.string ⟨#[97]⟩, .string ⟨#[98]⟩] 9 (0, 0))).alloc (.cells #[.string ⟨#[97]⟩] 9 (0, 0))).heap.size by simp]
  exact heap_alloc_new _ _
theorem lettersW_b10 (w : World) : (lettersW w).heap[w.heap.size + 1 + 1 + 1 + 1 + 1 + 1 + 1 + 1 + 1 + 1]? = some (.cells #[.slice (some ⟨w.heap.size, 0, none⟩) 1 1, .slice (some ⟨w.heap.size + 1, 0, none⟩) 2 2, .slice (some ⟨w.heap.size + 1 + 1, 0, none⟩) 2 2, .slice (some ⟨w.heap.size + 1 + 1 + 1, 0, none⟩) 3 3, .slice (some ⟨w.heap.size + 1 + 1 + 1 + 1, 0, none⟩) 0 0, .slice (some ⟨w.heap.size + 1 + 1 + 1 + 1 + 1, 0, none⟩) 2 2, .slice (some ⟨w.heap.size + 1 + 1 + 1 + 1 + 1 + 1, 0, none⟩) 2 2, .slice (some ⟨w.heap.size + 1 + 1 + 1 + 1 + 1 + 1 + 1, 0, none⟩) 2 2, .slice (some ⟨w.heap.size + 1 + 1 + 1 + 1 + 1 + 1 + 1 + 1, 0, none⟩) 1 1, .slice (some ⟨w.heap.size + 1 + 1 + 1 + 1 + 1 + 1 + 1 + 1 + 1, 0, none⟩) 2 2] 22 (0, 0)) := by
  unfold lettersW
  rw [show w.heap.size + 1 + 1 + 1 + 1 + 1 + 1 + 1 + 1 + 1 + 1 = ((((((((((w.alloc (.cells #[.string ⟨#[97]⟩] 9 (0, 0))).alloc (.cells #[.string ⟨#[97]⟩, .string ⟨#[98]⟩] 9 (0, 0))).alloc (.cells #[.string ⟨#[98]⟩, .string ⟨#[97]⟩] 9 (0, 0))).alloc (.cells #[.string ⟨#[97]⟩, .string ⟨#[98]⟩, .string ⟨#[99]⟩] 9 (0, 0))).alloc (.cells #[] 9 (0, 0))).alloc (.cells #[.string ⟨#[97]⟩, .string ⟨#[97]⟩] 9 (0, 0))).alloc (.cells #[.string ⟨#[97]⟩, .string ⟨#[120]⟩] 9 (0, 0))).alloc (.cells #[.string ⟨#[97]⟩, .string ⟨#[98]⟩] 9 (0, 0))).alloc (.cells #[.string ⟨#[97]⟩] 9 (0, 0))).alloc (.cells #[.string ⟨#[97]⟩, .string ⟨#[98]⟩] 9 (0, 0))).heap.size by simp]
  exact heap_alloc_new _ _

/-- Letters are drawn. -/
def DrLet (R : Nat) (a : Option Addr) (cap : Nat) (bs : List Nat) (p : Nat) (w : World) (e : Ending) (w' : World) : Prop :=
  (∃ (ss : List ByteArray) (g c : Nat), e = .returned (.slice (some ⟨g, 0, none⟩) ss.length c) ∧ ss.length ≤ c ∧ TxG w' g ss ∧ ss.length ≤ 3 ∧ ∀ j (h : j < ss.length), (ss[j]).size ≤ 1) ∧ w.grownBy w' (some R) ∧ RdR w' R a cap bs (p + 1)

set_option maxRecDepth 100000 in
set_option maxHeartbeats 2000000 in
theorem l91Letters_any (R : Nat) (a : Option Addr) (cap p : Nat) (bs : List Nat) (w : World) (h : RdR w R a cap bs p) (hp : p ≤ 1000000) (hR : R < w.heap.size) :
    Calls Try.prog 57 #[.pointer (some ⟨R, 0, none⟩)] w (DrLet R a cap bs p w) := by
  have HW := Lib.hid (lettersW_below w)
  have HSZ := Lib.hid (lettersW_size w)
  have HP := Lib.hid (pick_any R a cap p 10 bs (lettersW w) (h.grown (row := none) ⟨HW.out.os, HW.out.tape, HW.out.output, HW.out.size, fun b hb _ => HW.out.block b hb⟩ (fun r e => by cases e)) hp (by omega) (by omega))
  clear h
  go_enter Try.func57, Try.ntmps57
  go_wp2_with fail
  show Calls _ _ _ (lettersW w) _
  refine HP.out.mono ?_
  rintro e w2 ⟨⟨k, hk, rfl⟩, hg, hs, hr⟩
  have hb : ∀ b o, w.heap.size ≤ b → (lettersW w).heap[b]? = some o → w2.heap[b]? = some o := fun b o h1 h2 => by
    rw [hg.block b (Array.getElem?_eq_some_iff.1 h2).1 (fun e => by simp only [Option.some.injEq] at e; omega)]; exact h2
  have HG : Hid (w.grownBy w2 (some R)) := Lib.hid (by
    refine ⟨hg.os.trans HW.out.os, hg.tape.trans HW.out.tape, hg.output.trans HW.out.output, by rw [hs, HSZ.out]; omega, fun b h1 h2 => ?_⟩
    rw [hg.block b (by rw [HSZ.out]; omega) h2]
    exact HW.out.block b h1)
  have HR2 := Lib.hid hr
  clear hg hr hs
  rcases (show k = 0 ∨ k = 1 ∨ k = 2 ∨ k = 3 ∨ k = 4 ∨ k = 5 ∨ k = 6 ∨ k = 7 ∨ k = 8 ∨ k = 9 by omega) with rfl | rfl | rfl | rfl | rfl | rfl | rfl | rfl | rfl | rfl
  · have c := cellAt (hb _ _ (by omega) (lettersW_b10 w)) (j := 0) rfl
    have HT : Hid (TxG w2 (w.heap.size) [(⟨#[97]⟩ : ByteArray)]) := Lib.hid (fun j hj => by
      match j, hj with
      | 0, _ => exact cellAt (hb _ _ (by omega) (lettersW_b0 w)) rfl
      | n + 1, h => exact absurd h (by simp))
    clear hb
    go_wp2_with fail
    go_ret
    exact ⟨⟨[(⟨#[97]⟩ : ByteArray)], w.heap.size, 1, rfl, by simp, HT.out, by simp, fun j hj => by
      match j, hj with
      | 0, _ => exact Nat.le_refl 1
      | n + 1, h => exact absurd h (by simp)⟩, HG.out, HR2.out⟩
  · have c := cellAt (hb _ _ (by omega) (lettersW_b10 w)) (j := 1) rfl
    have HT : Hid (TxG w2 (w.heap.size + 1) [(⟨#[97]⟩ : ByteArray), (⟨#[98]⟩ : ByteArray)]) := Lib.hid (fun j hj => by
      match j, hj with
      | 0, _ => exact cellAt (hb _ _ (by omega) (lettersW_b1 w)) rfl
      | 1, _ => exact cellAt (hb _ _ (by omega) (lettersW_b1 w)) rfl
      | n + 2, h => exact absurd h (by simp))
    clear hb
    go_wp2_with fail
    go_ret
    exact ⟨⟨[(⟨#[97]⟩ : ByteArray), (⟨#[98]⟩ : ByteArray)], w.heap.size + 1, 2, rfl, by simp, HT.out, by simp, fun j hj => by
      match j, hj with
      | 0, _ => exact Nat.le_refl 1
      | 1, _ => exact Nat.le_refl 1
      | n + 2, h => exact absurd h (by simp)⟩, HG.out, HR2.out⟩
  · have c := cellAt (hb _ _ (by omega) (lettersW_b10 w)) (j := 2) rfl
    have HT : Hid (TxG w2 (w.heap.size + 1 + 1) [(⟨#[98]⟩ : ByteArray), (⟨#[97]⟩ : ByteArray)]) := Lib.hid (fun j hj => by
      match j, hj with
      | 0, _ => exact cellAt (hb _ _ (by omega) (lettersW_b2 w)) rfl
      | 1, _ => exact cellAt (hb _ _ (by omega) (lettersW_b2 w)) rfl
      | n + 2, h => exact absurd h (by simp))
    clear hb
    go_wp2_with fail
    go_ret
    exact ⟨⟨[(⟨#[98]⟩ : ByteArray), (⟨#[97]⟩ : ByteArray)], w.heap.size + 1 + 1, 2, rfl, by simp, HT.out, by simp, fun j hj => by
      match j, hj with
      | 0, _ => exact Nat.le_refl 1
      | 1, _ => exact Nat.le_refl 1
      | n + 2, h => exact absurd h (by simp)⟩, HG.out, HR2.out⟩
  · have c := cellAt (hb _ _ (by omega) (lettersW_b10 w)) (j := 3) rfl
    have HT : Hid (TxG w2 (w.heap.size + 1 + 1 + 1) [(⟨#[97]⟩ : ByteArray), (⟨#[98]⟩ : ByteArray), (⟨#[99]⟩ : ByteArray)]) := Lib.hid (fun j hj => by
      match j, hj with
      | 0, _ => exact cellAt (hb _ _ (by omega) (lettersW_b3 w)) rfl
      | 1, _ => exact cellAt (hb _ _ (by omega) (lettersW_b3 w)) rfl
      | 2, _ => exact cellAt (hb _ _ (by omega) (lettersW_b3 w)) rfl
      | n + 3, h => exact absurd h (by simp))
    clear hb
    go_wp2_with fail
    go_ret
    exact ⟨⟨[(⟨#[97]⟩ : ByteArray), (⟨#[98]⟩ : ByteArray), (⟨#[99]⟩ : ByteArray)], w.heap.size + 1 + 1 + 1, 3, rfl, by simp, HT.out, by simp, fun j hj => by
      match j, hj with
      | 0, _ => exact Nat.le_refl 1
      | 1, _ => exact Nat.le_refl 1
      | 2, _ => exact Nat.le_refl 1
      | n + 3, h => exact absurd h (by simp)⟩, HG.out, HR2.out⟩
  · have c := cellAt (hb _ _ (by omega) (lettersW_b10 w)) (j := 4) rfl
    have HT : Hid (TxG w2 (w.heap.size + 1 + 1 + 1 + 1) []) := Lib.hid (fun j hj => by
      match j, hj with

      | n + 0, h => exact absurd h (by simp))
    clear hb
    go_wp2_with fail
    go_ret
    exact ⟨⟨[], w.heap.size + 1 + 1 + 1 + 1, 0, rfl, by simp, HT.out, by simp, fun j hj => by
      match j, hj with

      | n + 0, h => exact absurd h (by simp)⟩, HG.out, HR2.out⟩
  · have c := cellAt (hb _ _ (by omega) (lettersW_b10 w)) (j := 5) rfl
    have HT : Hid (TxG w2 (w.heap.size + 1 + 1 + 1 + 1 + 1) [(⟨#[97]⟩ : ByteArray), (⟨#[97]⟩ : ByteArray)]) := Lib.hid (fun j hj => by
      match j, hj with
      | 0, _ => exact cellAt (hb _ _ (by omega) (lettersW_b5 w)) rfl
      | 1, _ => exact cellAt (hb _ _ (by omega) (lettersW_b5 w)) rfl
      | n + 2, h => exact absurd h (by simp))
    clear hb
    go_wp2_with fail
    go_ret
    exact ⟨⟨[(⟨#[97]⟩ : ByteArray), (⟨#[97]⟩ : ByteArray)], w.heap.size + 1 + 1 + 1 + 1 + 1, 2, rfl, by simp, HT.out, by simp, fun j hj => by
      match j, hj with
      | 0, _ => exact Nat.le_refl 1
      | 1, _ => exact Nat.le_refl 1
      | n + 2, h => exact absurd h (by simp)⟩, HG.out, HR2.out⟩
  · have c := cellAt (hb _ _ (by omega) (lettersW_b10 w)) (j := 6) rfl
    have HT : Hid (TxG w2 (w.heap.size + 1 + 1 + 1 + 1 + 1 + 1) [(⟨#[97]⟩ : ByteArray), (⟨#[120]⟩ : ByteArray)]) := Lib.hid (fun j hj => by
      match j, hj with
      | 0, _ => exact cellAt (hb _ _ (by omega) (lettersW_b6 w)) rfl
      | 1, _ => exact cellAt (hb _ _ (by omega) (lettersW_b6 w)) rfl
      | n + 2, h => exact absurd h (by simp))
    clear hb
    go_wp2_with fail
    go_ret
    exact ⟨⟨[(⟨#[97]⟩ : ByteArray), (⟨#[120]⟩ : ByteArray)], w.heap.size + 1 + 1 + 1 + 1 + 1 + 1, 2, rfl, by simp, HT.out, by simp, fun j hj => by
      match j, hj with
      | 0, _ => exact Nat.le_refl 1
      | 1, _ => exact Nat.le_refl 1
      | n + 2, h => exact absurd h (by simp)⟩, HG.out, HR2.out⟩
  · have c := cellAt (hb _ _ (by omega) (lettersW_b10 w)) (j := 7) rfl
    have HT : Hid (TxG w2 (w.heap.size + 1 + 1 + 1 + 1 + 1 + 1 + 1) [(⟨#[97]⟩ : ByteArray), (⟨#[98]⟩ : ByteArray)]) := Lib.hid (fun j hj => by
      match j, hj with
      | 0, _ => exact cellAt (hb _ _ (by omega) (lettersW_b7 w)) rfl
      | 1, _ => exact cellAt (hb _ _ (by omega) (lettersW_b7 w)) rfl
      | n + 2, h => exact absurd h (by simp))
    clear hb
    go_wp2_with fail
    go_ret
    exact ⟨⟨[(⟨#[97]⟩ : ByteArray), (⟨#[98]⟩ : ByteArray)], w.heap.size + 1 + 1 + 1 + 1 + 1 + 1 + 1, 2, rfl, by simp, HT.out, by simp, fun j hj => by
      match j, hj with
      | 0, _ => exact Nat.le_refl 1
      | 1, _ => exact Nat.le_refl 1
      | n + 2, h => exact absurd h (by simp)⟩, HG.out, HR2.out⟩
  · have c := cellAt (hb _ _ (by omega) (lettersW_b10 w)) (j := 8) rfl
    have HT : Hid (TxG w2 (w.heap.size + 1 + 1 + 1 + 1 + 1 + 1 + 1 + 1) [(⟨#[97]⟩ : ByteArray)]) := Lib.hid (fun j hj => by
      match j, hj with
      | 0, _ => exact cellAt (hb _ _ (by omega) (lettersW_b8 w)) rfl
      | n + 1, h => exact absurd h (by simp))
    clear hb
    go_wp2_with fail
    go_ret
    exact ⟨⟨[(⟨#[97]⟩ : ByteArray)], w.heap.size + 1 + 1 + 1 + 1 + 1 + 1 + 1 + 1, 1, rfl, by simp, HT.out, by simp, fun j hj => by
      match j, hj with
      | 0, _ => exact Nat.le_refl 1
      | n + 1, h => exact absurd h (by simp)⟩, HG.out, HR2.out⟩
  · have c := cellAt (hb _ _ (by omega) (lettersW_b10 w)) (j := 9) rfl
    have HT : Hid (TxG w2 (w.heap.size + 1 + 1 + 1 + 1 + 1 + 1 + 1 + 1 + 1) [(⟨#[97]⟩ : ByteArray), (⟨#[98]⟩ : ByteArray)]) := Lib.hid (fun j hj => by
      match j, hj with
      | 0, _ => exact cellAt (hb _ _ (by omega) (lettersW_b9 w)) rfl
      | 1, _ => exact cellAt (hb _ _ (by omega) (lettersW_b9 w)) rfl
      | n + 2, h => exact absurd h (by simp))
    clear hb
    go_wp2_with fail
    go_ret
    exact ⟨⟨[(⟨#[97]⟩ : ByteArray), (⟨#[98]⟩ : ByteArray)], w.heap.size + 1 + 1 + 1 + 1 + 1 + 1 + 1 + 1 + 1, 2, rfl, by simp, HT.out, by simp, fun j hj => by
      match j, hj with
      | 0, _ => exact Nat.le_refl 1
      | 1, _ => exact Nat.le_refl 1
      | n + 2, h => exact absurd h (by simp)⟩, HG.out, HR2.out⟩

/-- Letters are drawn out of a code. -/
def DrSS (w : World) (e : Ending) (w' : World) : Prop :=
  Below w.heap.size w w' ∧ ∃ (ss : List ByteArray) (g c : Nat), e = .returned (.slice (some ⟨g, 0, none⟩) ss.length c) ∧ ss.length ≤ c ∧ TxG w' g ss ∧ ss.length ≤ 3 ∧ ∀ j (h : j < ss.length), (ss[j]).size ≤ 1

set_option maxRecDepth 100000 in
set_option maxHeartbeats 1000000 in
theorem dQuadTrees_any (bs : List Nat) (a : Option Addr) (cap : Nat) (w : World) (hn : bs.length ≤ 9223372036854775807) (hcap : bs.length ≤ cap) (h8 : ∀ z ∈ bs, z ≤ 255) (hl : LiesB w a bs) :
    Calls Try.prog 22 #[.slice a bs.length cap] w (DrSS w) := by
  have HO := Lib.hid (l6Open_any bs a cap w hn hcap h8 hl)
  clear hn hcap h8 hl
  go_enter Try.func22, Try.ntmps22
  go_wp2_with fail
  refine HO.out.mono ?_
  rintro e w1 ⟨rfl, hB1, hr⟩
  have HB1 := Lib.hid hB1
  have hlt := hr.cells.2.2.2
  have HL := Lib.hid (l91Letters_any w.heap.size a cap 0 _ w1 hr (by omega) hlt)
  clear hB1 hr
  go_wp2_with fail
  refine HL.out.mono ?_
  rintro e w2 ⟨⟨ss, g, c, rfl, h1, h2, h3, h4⟩, hg, _⟩
  have HB2 : Hid (Below w.heap.size w w2) := Lib.hid (HB1.out.grown hg HB1.out.size (fun q e => by simp only [Option.some.injEq] at e; omega))
  have H2 := Lib.hid h2
  have H4 := Lib.hid h4
  obtain ⟨m, hm⟩ : ∃ m, m = ss.length := ⟨_, rfl⟩
  have HM := Lib.hid hm
  rw [← hm] at h1 h3
  rw [← hm]
  clear h2 h4 hg hm
  go_wp2_with fail
  go_ret
  exact ⟨HB2.out, ss, g, c, by rw [← HM.out]; rfl, by rw [← HM.out]; exact h1, H2.out, by rw [← HM.out]; exact h3, H4.out⟩

set_option maxRecDepth 100000 in
set_option maxHeartbeats 1000000 in
theorem sameTextsQ_any (ps : List (List UInt8)) (n : Nat) (hnp : n = ps.length) (a b : Option Addr) (ca cb : Nat) (w : World) (hn : n ≤ 1048576) (ha : Lies w a ps) (hb : Lies w b ps) :
    Calls Try.prog 23 #[.slice a n ca, .slice b n cb] w (Ans (.bool true) w) := by
  have HA := Lib.hid ha
  have HB := Lib.hid hb
  have HNP := Lib.hid hnp
  clear ha hb hnp
  go_enter Try.func23, Try.ntmps23
  go_wp2_with fail
  go_loopw [5] (fun i wr => ∃ k : Nat, k ≤ n ∧ i = .int .i64 k ∧ Below w.heap.size w wr) (fun i _ => n - (intOf i).toNat)
  case atStart => exact ⟨0, Nat.zero_le _, rfl, Below.refl _ _⟩
  case round =>
    obtain ⟨k, hk, rfl, hB⟩ := hrel
    by_cases hlt : k < n
    · have hlp : k < ps.length := by rw [← HNP.out]; exact hlt
      obtain ⟨g, ea, c1⟩ := (HA.out.below hB) k hlp
      obtain ⟨g', eb, c2⟩ := (HB.out.below hB) k hlp
      subst ea eb
      have k0 : (0 : Int) ≤ k := by omega
      go_wp2_with fail
      go_quiet (fail)
      go_wp2_with fail
      exact ⟨⟨k + 1, by omega, by go_num, below_drewN hB nq⟩, by simp [intOf]; omega⟩
    · go_wp2_with fail
      go_ret
      exact ⟨rfl, hB⟩

theorem text_bytes (t : T) : (⟨t.text.toArray⟩ : ByteArray).data.toList = t.text := by simp

set_option maxRecDepth 100000 in
set_option maxHeartbeats 4000000 in
theorem pQuadTrees_any (bs : List Nat) (a : Option Addr) (cap : Nat) (w : World) (hl : LiesB w a bs) (h8 : ∀ z ∈ bs, z ≤ 255) (hn : bs.length ≤ 9223372036854775807) (hcap : bs.length ≤ cap) :
    Calls Try.prog 5 #[.slice a bs.length cap] w (Ans (.bool true) w) := by
  by_cases h : bs.length ≤ 1048576
  · have HD := Lib.hid (dQuadTrees_any bs a cap w hn hcap h8 hl)
    clear h8 hl
    go_enter Try.func5, Try.ntmps5
    go_wp2_with fail
    refine HD.out.mono ?_
    rintro e w1 ⟨hB1, ss, g, c, rfl, hc, htx, hss3, hss1⟩
    have HB1 := Lib.hid hB1
    have HTX := Lib.hid htx
    have HZ : Hid (∀ j (h : j < ss.length), (ss[j]).size ≤ 1048576) := Lib.hid (fun j h => by have := hss1 j h; omega)
    obtain ⟨m, hm⟩ : ∃ m, m = ss.length := ⟨_, rfl⟩
    have HM := Lib.hid hm
    have hps18 := quadTx_len ss
    obtain ⟨ps, hps⟩ : ∃ ps, ps = quadTx ss := ⟨_, rfl⟩
    rw [← hps] at hps18
    have HPS := Lib.hid hps
    obtain ⟨b, hb⟩ : ∃ b, b = (quadsOf ss).isSome := ⟨_, rfl⟩
    have HBB := Lib.hid hb
    have HI : Hid (∀ (W : World), Below w1.heap.size w1 W → Calls Try.prog 13 #[.slice (some ⟨g, 0, none⟩) m c] W (IList ps b W)) := Lib.hid (fun W hb' => by
      rw [hps, hb]
      exact iQuadTrees_any ss m hm g c W (by omega) (by omega) HZ.out (HTX.out.below hb'))
    have HS : Hid (∀ (W : World), Below w1.heap.size w1 W → Calls Try.prog 11 #[.slice (some ⟨g, 0, none⟩) m c] W (SList2 ps b W)) := Lib.hid (fun W hb' => by
      rw [hps, hb]
      exact sQuadTrees_any ss m hm g c W (by omega) HZ.out (HTX.out.below hb'))
    obtain ⟨L, hL⟩ : ∃ L, L = ps.length := ⟨_, rfl⟩
    have HL := Lib.hid hL
    have hL18 : L ≤ 18 := by omega
    rw [← hm]
    clear hB1 htx hss1 hm hps hb hL hss3 hc hps18
    cases b with
    | false =>
      go_wp2_with fail
      refine (HI.out w1 (Below.refl _ _)).mono ?_
      rintro e w2 ⟨hB2, a2, c2, rfl, hl2, _⟩
      rw [← HL.out]
      have A1_2 := Lib.hid hB2
      have HB2 := Lib.hid (below_step HB1.out hB2)
      have L2 := Lib.hid hl2
      clear hB2 hl2
      go_wp2_with fail
      refine (HS.out w2 A1_2.out).mono ?_
      rintro e w3 ⟨hB3, a3, c3, rfl, hl3⟩
      rw [← HL.out]
      have HB3 := Lib.hid (below_step HB2.out hB3)
      have L23 := Lib.hid (L2.out.below hB3)
      have L3 := Lib.hid hl3
      clear hB3 hl3
      go_wp2_with fail
      refine (sameTextsQ_any ps L HL.out a2 a3 c2 c3 w3 (by omega) L23.out L3.out).mono ?_
      rintro e w4 ⟨rfl, hB4⟩
      have HB4 := Lib.hid (below_step HB3.out hB4)
      have L24 := Lib.hid (L23.out.below hB4)
      have L34 := Lib.hid (L3.out.below hB4)
      clear hB4
      go_wp2_with fail
      refine (sameTextsQ_any ps L HL.out a2 a3 c2 c3 w4 (by omega) L24.out L34.out).mono ?_
      rintro e w5 ⟨rfl, hB5⟩
      go_wp2_with fail
      go_ret
      exact ⟨rfl, below_step HB4.out hB5⟩
    | true =>
      obtain ⟨ts, hts⟩ : ∃ ts, quadsOf ss = some ts := by
        cases hq : quadsOf ss with
        | none => have := HBB.out; rw [hq] at this; cases this
        | some ts => exact ⟨ts, rfl⟩
      obtain ⟨q1, q2, q3⟩ := quadsOf_ok hts
      obtain ⟨r1, r2, r3⟩ := quads_length hts
      have HPT : Hid (ps = ts.map T.text) := Lib.hid (by rw [HPS.out, quadTx, hts]; rfl)
      have HLT : Hid (L = ts.length) := Lib.hid (by rw [HL.out, HPT.out, List.length_map])
      have HLM : Hid (L = 2 * m * m ∧ (m = 1 ∨ m = 2 ∨ m = 3)) := Lib.hid ⟨by rw [HLT.out, HM.out]; exact r1, by have := HM.out; omega⟩
      have HQ2 := Lib.hid q2
      have HQ3 := Lib.hid q3
      have hL0 : 0 < L := by
        obtain ⟨e1, e2 | e2 | e2⟩ := HLM.out <;> rw [e1, e2] <;> decide
      clear hts q1 q2 q3 r1 r2 r3
      go_wp2_with fail
      refine (HI.out w1 (Below.refl _ _)).mono ?_
      rintro e w2 ⟨hB2, a2, c2, rfl, hl2, _⟩
      rw [← HL.out]
      obtain ⟨g2, rfl, hx0⟩ := hl2 0 (by rw [← HL.out]; exact hL0)
      clear hx0
      have A1_2 := Lib.hid hB2
      have HB2 := Lib.hid (below_step HB1.out hB2)
      have L2 := Lib.hid hl2
      clear hB2 hl2
      go_wp2_with fail
      refine (HS.out w2 A1_2.out).mono ?_
      rintro e w3 ⟨hB3, a3, c3, rfl, hl3⟩
      rw [← HL.out]
      have HB3 := Lib.hid (below_step HB2.out hB3)
      have L23 := Lib.hid (L2.out.below hB3)
      have L3 := Lib.hid hl3
      clear hB3 hl3
      go_wp2_with fail
      refine (sameTextsQ_any ps L HL.out _ a3 c2 c3 w3 (by omega) L23.out L3.out).mono ?_
      rintro e w4 ⟨rfl, hB4⟩
      have HB4 := Lib.hid (below_step HB3.out hB4)
      have L24 := Lib.hid (L23.out.below hB4)
      clear hB4
      go_wp2_with fail
      go_loopw [8] (fun iv wr => ∃ i : Nat, i ≤ L ∧ iv = .int .i64 i ∧ Below w4.heap.size w4 wr) (fun iv _ => L - (intOf iv).toNat)
      case atStart => exact ⟨0, Nat.zero_le _, rfl, Below.refl _ _⟩
      case round =>
        obtain ⟨i, hi, rfl, hBr⟩ := hrel
        have HBR := Lib.hid hBr
        by_cases hlt : i < L
        · have hlt2 : i < ts.length := by rw [← HLT.out]; exact hlt
          have hlp : i < ps.length := by rw [← HL.out]; exact hlt
          obtain ⟨g2', e2, d0⟩ := (L24.out.below hBr) i hlp
          cases e2
          have epi : ps[i] = (ts[i]).text := by rw [List.getElem_of_eq HPT.out]; simp
          rw [epi] at d0
          have ht := HQ2.out (ts[i]) (List.getElem_mem hlt2)
          obtain ⟨s, hs⟩ : ∃ s : ByteArray, s = ⟨(ts[i]).text.toArray⟩ := ⟨_, rfl⟩
          rw [← hs] at d0
          have hpt : parse s.data.toList = some ts[i] := by rw [hs, text_bytes]; exact parse_text ht.1 (by omega) (by omega)
          have hsz : s.size ≤ 1000 := by
            have h1 := text_length (ts[i])
            have h2 : s.size = (ts[i]).text.length := by rw [hs]; show (ts[i]).text.toArray.size = _; simp
            omega
          have HLV : Hid (∀ W, Calls Try.prog 24 #[.string s] W (Ans (.int .i64 3) W)) := Lib.hid (fun W => by
            have := iLeaves_any s W (by omega)
            rw [hpt] at this
            have e : leavesOf (some ts[i]) = 3 := by simp only [leavesOf, ht.2.1]; rfl
            rw [e] at this; exact this)
          have HND : Hid (∀ W, Calls Try.prog 25 #[.string s] W (Ans (.int .i64 2) W)) := Lib.hid (fun W => by
            have := iNodes_any s W (by omega)
            rw [hpt] at this
            have e : nodesOf (some ts[i]) = 2 := by simp only [nodesOf, ht.2.2]; rfl
            rw [e] at this; exact this)
          have HPT2 := Lib.hid hpt
          have HSI := Lib.hid hs
          have i0' : (0 : Int) ≤ (i : Int) := by omega
          clear hpt hs epi ht hBr
          go_wp2_with fail
          refine (HLV.out _).mono ?_
          rintro e w5 ⟨rfl, hB5⟩
          have d1 := keep1 hB5 d0
          have HB5 := Lib.hid (below_step HBR.out hB5)
          have AR_5 := Lib.hid hB5
          clear hB5
          go_wp2_with fail
          refine (HND.out _).mono ?_
          rintro e w6 ⟨rfl, hB6⟩
          have d2 := keep1 hB6 d1
          have HB6 := Lib.hid (below_step HB5.out hB6)
          clear hB6
          cases i with
          | zero =>
            go_wp2_with fail
            exact ⟨⟨1, by omega, by first | rfl | go_num, HB6.out⟩, by simp [intOf]; omega⟩
          | succ k =>
            have hk2 : k < ts.length := by omega
            have hkp : k < ps.length := by omega
            obtain ⟨g2', e2, f0⟩ := (L24.out.below HB6.out) k hkp
            cases e2
            have epk : ps[k] = (ts[k]).text := by rw [List.getElem_of_eq HPT.out]; simp
            rw [epk] at f0
            have htk := HQ2.out (ts[k]) (List.getElem_mem hk2)
            obtain ⟨u, hu⟩ : ∃ u : ByteArray, u = ⟨(ts[k]).text.toArray⟩ := ⟨_, rfl⟩
            rw [← hu] at f0
            have hpu : parse u.data.toList = some ts[k] := by rw [hu, text_bytes]; exact parse_text htk.1 (by omega) (by omega)
            have hsu : u.size ≤ 1000 := by
              have h1 := text_length (ts[k])
              have h2 : u.size = (ts[k]).text.length := by rw [hu]; show (ts[k]).text.toArray.size = _; simp
              omega
            have HOR : Hid (∀ W, Calls Try.prog 26 #[.string u, .string s] W (Ans (.tuple #[.int .i64 1, .bool true]) W)) := Lib.hid (fun W => by
              have := iOrder_any u s W (by omega) (by omega)
              rw [orderOf_yes hpu HPT2.out] at this
              have e : ordCmp ((ts[k]).paths []) (ts[k]).text ((ts[k + 1]).paths []) (ts[k + 1]).text = 1 := by
                have h1 := (List.pairwise_iff_getElem.1 HQ3.out) k (k + 1) hk2 hlt2 (by omega)
                have h2 := ordT_range (ts[k]) (ts[k + 1])
                unfold ordT at h1 h2
                omega
              rw [e] at this; exact this)
            have hwr : IntKind.i64.wrap (k : Int) = (k : Int) := by rw [IntKind.wrap_i64]; omega
            have hwr2 : IntKind.i64.wrap ((k : Int) + 1 - 1) = (k : Int) := by rw [IntKind.wrap_i64]; omega
            have k0 : (0 : Int) ≤ (k : Int) := by omega
            have kL : (k : Int) < (L : Int) := by omega
            have kL2 : (k : Int) + 1 < (L : Int) := by omega
            have kp : decide ((0 : Int) < (k : Int) + 1) = true := decide_eq_true (by omega)
            have kp2 : (0 : Int) ≤ (k : Int) + 1 := by omega
            have tn1 : ((k : Int) + 1).toNat = k + 1 := by omega
            clear hpu hu epk htk d0 d1
            go_wp2_with fail
            refine wp_region_held_drew (S := (fun w' => w'.cell? ⟨g2, k, none⟩ = some (.string u) ∧ w'.cell? ⟨g2, k + 1, none⟩ = some (.string s))) (by kernel_rfl) (by exact ⟨f0, d2⟩) (fun hHeld => ?_)
            refine wpAnyH_take (i := 0) (oi := { dst := some 70, op := Op.move (Operand.tmp 4), type := 22, pos := "laws.go:944", after := #[], guard := none }) (v := ?_) rfl (by kernel_rfl) (by kernel_rfl) (by kernel_rfl) (fun _ _ _ h => h) (Or.inl ⟨by rfl, ?_⟩) (by assumption) ?_
            rotate_left
            · (intro w hSw; (try dsimp only at hSw); go_simp <;> with_reducible rfl)
            (try simp only [Act.put, List.setIfInBounds_toArray, List.set_cons_zero, List.set_cons_succ])
            refine wpAnyH_take (i := 1) (oi := { dst := some 71, op := Op.move (Operand.tmp 8), type := 3, pos := "laws.go:944", after := #[], guard := none }) (v := ?_) rfl (by kernel_rfl) (by kernel_rfl) (by kernel_rfl) (fun _ _ _ h => h) (Or.inl ⟨by rfl, ?_⟩) (by assumption) ?_
            rotate_left
            · (intro w hSw; (try dsimp only at hSw); go_simp <;> with_reducible rfl)
            (try simp only [Act.put, List.setIfInBounds_toArray, List.set_cons_zero, List.set_cons_succ])
            refine wpAnyH_take (i := 2) (oi := { dst := some 72, op := Op.binOp BinOp.sub 3 (Operand.tmp 71) (Operand.const (Value.int IntKind.i64 1)) 3, type := 3, pos := "laws.go:944", after := #[{ on := 1, ground := Ground.data }], guard := none }) (v := ?_) rfl (by kernel_rfl) (by kernel_rfl) (by kernel_rfl) (fun _ _ _ h => h) (Or.inl ⟨by rfl, ?_⟩) (by assumption) ?_
            rotate_left
            · (intro w hSw; (try dsimp only at hSw); go_simp <;> with_reducible rfl)
            (try simp only [Act.put, List.setIfInBounds_toArray, List.set_cons_zero, List.set_cons_succ])
            refine wpAnyH_take (i := 3) (oi := { dst := some 73, op := Op.indexAddr 22 (Operand.tmp 70) (Operand.tmp 72), type := 0, pos := "laws.go:944", after := #[{ on := 0, ground := Ground.data }, { on := 2, ground := Ground.data }], guard := none }) (v := ?_) rfl (by kernel_rfl) (by kernel_rfl) (by kernel_rfl) (fun _ _ _ h => h) (Or.inl ⟨by rfl, ?_⟩) (by assumption) ?_
            rotate_left
            · (intro w hSw; (try dsimp only at hSw); go_simp <;> with_reducible rfl)
            (try simp only [Act.put, List.setIfInBounds_toArray, List.set_cons_zero, List.set_cons_succ])
            refine wpAnyH_take (i := 4) (oi := { dst := some 74, op := Op.load 9 (Operand.tmp 73), type := 9, pos := "laws.go:944", after := #[{ on := 3, ground := Ground.data }], guard := none }) (v := ?_) rfl (by kernel_rfl) (by kernel_rfl) (by kernel_rfl) (fun _ _ _ h => h) (Or.inl ⟨by rfl, ?_⟩) (by assumption) ?_
            rotate_left
            · (intro w hSw; (try dsimp only at hSw); go_simp <;> with_reducible rfl)
            (try simp only [Act.put, List.setIfInBounds_toArray, List.set_cons_zero, List.set_cons_succ])
            refine wpAnyH_take (i := 5) (oi := { dst := some 75, op := Op.move (Operand.tmp 4), type := 22, pos := "laws.go:944", after := #[], guard := none }) (v := ?_) rfl (by kernel_rfl) (by kernel_rfl) (by kernel_rfl) (fun _ _ _ h => h) (Or.inl ⟨by rfl, ?_⟩) (by assumption) ?_
            rotate_left
            · (intro w hSw; (try dsimp only at hSw); go_simp <;> with_reducible rfl)
            (try simp only [Act.put, List.setIfInBounds_toArray, List.set_cons_zero, List.set_cons_succ])
            refine wpAnyH_take (i := 6) (oi := { dst := some 76, op := Op.move (Operand.tmp 8), type := 3, pos := "laws.go:944", after := #[], guard := none }) (v := ?_) rfl (by kernel_rfl) (by kernel_rfl) (by kernel_rfl) (fun _ _ _ h => h) (Or.inl ⟨by rfl, ?_⟩) (by assumption) ?_
            rotate_left
            · (intro w hSw; (try dsimp only at hSw); go_simp <;> with_reducible rfl)
            (try simp only [Act.put, List.setIfInBounds_toArray, List.set_cons_zero, List.set_cons_succ])
            refine wpAnyH_take (i := 7) (oi := { dst := some 77, op := Op.indexAddr 22 (Operand.tmp 75) (Operand.tmp 76), type := 0, pos := "laws.go:944", after := #[{ on := 5, ground := Ground.data }, { on := 6, ground := Ground.data }], guard := none }) (v := ?_) rfl (by kernel_rfl) (by kernel_rfl) (by kernel_rfl) (fun _ _ _ h => h) (Or.inl ⟨by rfl, ?_⟩) (by assumption) ?_
            rotate_left
            · (intro w hSw; (try dsimp only at hSw); go_simp <;> with_reducible rfl)
            (try simp only [Act.put, List.setIfInBounds_toArray, List.set_cons_zero, List.set_cons_succ])
            refine wpAnyH_take (i := 8) (oi := { dst := some 78, op := Op.load 9 (Operand.tmp 77), type := 9, pos := "laws.go:944", after := #[{ on := 7, ground := Ground.data }], guard := none }) (v := ?_) rfl (by kernel_rfl) (by kernel_rfl) (by kernel_rfl) (fun _ _ _ h => h) (Or.inl ⟨by rfl, ?_⟩) (by assumption) ?_
            rotate_left
            · (intro w hSw; (try dsimp only at hSw); go_simp <;> with_reducible rfl)
            (try simp only [Act.put, List.setIfInBounds_toArray, List.set_cons_zero, List.set_cons_succ])
            refine wpAnyH_ready (rs := [9]) (by kernel_rfl) (by simp) ?_
            refine AllReadyH.cons (o := { dst := some 79, op := Op.call { callee := Callee.value (Operand.func 26), args := #[Operand.tmp 74, Operand.tmp 78], argTypes := #[9, 9] }, type := 39, pos := "laws.go:944", after := #[{ on := 4, ground := Ground.data }, { on := 8, ground := Ground.data }], guard := none }) rfl (fun K hK => ?_) AllReadyH.nil
            go_simp
            go_wp2_with fail
            refine (HOR.out _).mono ?_
            rintro e w7 ⟨rfl, hB7⟩
            have hb7 : Below w6.heap.size w6 w7 := (Below.refl _ _).drew.trans hB7
            have HC7 := Lib.hid (below_step HB6.out hb7)
            have f1 := keep1 hb7 f0
            have d3 := keep1 hb7 d2
            clear hB7 hb7
            go_wp2_with fail
            refine hK.out _ _ ?_ (fun hHeld => ?_)
            · exact ⟨f1, d3⟩
            clear hK K
            (try simp only [Act.put, List.setIfInBounds_toArray, List.set_cons_zero, List.set_cons_succ])
            refine wpAnyH_take (i := 10) (oi := { dst := some 69, op := Op.move (Operand.tmp 79), type := 39, pos := "laws.go:944", after := #[{ on := 9, ground := Ground.data }], guard := none }) (v := ?_) rfl (by kernel_rfl) (by kernel_rfl) (by kernel_rfl) (fun _ _ _ h => h) (Or.inl ⟨by rfl, ?_⟩) (by assumption) ?_
            rotate_left
            · (intro w hSw; (try dsimp only at hSw); go_simp <;> with_reducible rfl)
            (try simp only [Act.put, List.setIfInBounds_toArray, List.set_cons_zero, List.set_cons_succ])
            refine wpAnyH_take (i := 11) (oi := { dst := some 80, op := Op.extract (Operand.tmp 69) 0, type := 3, pos := "laws.go:944", after := #[{ on := 10, ground := Ground.data }], guard := none }) (v := ?_) rfl (by kernel_rfl) (by kernel_rfl) (by kernel_rfl) (fun _ _ _ h => h) (Or.inl ⟨by rfl, ?_⟩) (by assumption) ?_
            rotate_left
            · (intro w hSw; (try dsimp only at hSw); go_simp <;> with_reducible rfl)
            (try simp only [Act.put, List.setIfInBounds_toArray, List.set_cons_zero, List.set_cons_succ])
            refine wpAnyH_take (i := 12) (oi := { dst := some 81, op := Op.extract (Operand.tmp 69) 1, type := 4, pos := "laws.go:944", after := #[{ on := 10, ground := Ground.data }, { on := 13, ground := Ground.gcOnly Departure.lateStores }], guard := none }) (v := ?_) rfl (by kernel_rfl) (by kernel_rfl) (by kernel_rfl) (fun _ _ _ h => h) (Or.inl ⟨by rfl, ?_⟩) (by assumption) ?_
            rotate_left
            · (intro w hSw; (try dsimp only at hSw); go_simp <;> with_reducible rfl)
            (try simp only [Act.put, List.setIfInBounds_toArray, List.set_cons_zero, List.set_cons_succ])
            refine wpAnyH_take (i := 13) (oi := { dst := some 9, op := Op.assign (Operand.tmp 80), type := 3, pos := "laws.go:944", after := #[{ on := 11, ground := Ground.data }, { on := 9, ground := Ground.chain }, { on := 0, ground := Ground.phase }, { on := 1, ground := Ground.phase }, { on := 2, ground := Ground.phase }, { on := 3, ground := Ground.phase }, { on := 4, ground := Ground.phase }, { on := 5, ground := Ground.phase }, { on := 6, ground := Ground.phase }, { on := 7, ground := Ground.phase }, { on := 8, ground := Ground.phase }, { on := 9, ground := Ground.phase }, { on := 10, ground := Ground.phase }, { on := 11, ground := Ground.phase }, { on := 12, ground := Ground.textOnly Departure.lateStores }], guard := none }) (v := ?_) rfl (by kernel_rfl) (by kernel_rfl) (by kernel_rfl) (fun _ _ _ h => h) (Or.inl ⟨by rfl, ?_⟩) (by assumption) ?_
            rotate_left
            · (intro w hSw; (try dsimp only at hSw); go_simp <;> with_reducible rfl)
            (try simp only [Act.put, List.setIfInBounds_toArray, List.set_cons_zero, List.set_cons_succ])
            refine wpAnyH_take (i := 14) (oi := { dst := some 10, op := Op.assign (Operand.tmp 81), type := 4, pos := "laws.go:944", after := #[{ on := 12, ground := Ground.data }, { on := 13, ground := Ground.chain }, { on := 0, ground := Ground.phase }, { on := 1, ground := Ground.phase }, { on := 2, ground := Ground.phase }, { on := 3, ground := Ground.phase }, { on := 4, ground := Ground.phase }, { on := 5, ground := Ground.phase }, { on := 6, ground := Ground.phase }, { on := 7, ground := Ground.phase }, { on := 8, ground := Ground.phase }, { on := 9, ground := Ground.phase }, { on := 10, ground := Ground.phase }, { on := 11, ground := Ground.phase }, { on := 12, ground := Ground.phase }, { on := 13, ground := Ground.phase }], guard := none }) (v := ?_) rfl (by kernel_rfl) (by kernel_rfl) (by kernel_rfl) (fun _ _ _ h => h) (Or.inl ⟨by rfl, ?_⟩) (by assumption) ?_
            rotate_left
            · (intro w hSw; (try dsimp only at hSw); go_simp <;> with_reducible rfl)
            (try simp only [Act.put, List.setIfInBounds_toArray, List.set_cons_zero, List.set_cons_succ])
            refine wpAnyH_done (by kernel_rfl) ?_ _
            all_goals
              go_wp2_with fail
              exact ⟨⟨k + 1 + 1, by omega, by first | rfl | go_num, HC7.out⟩, by simp [intOf]; omega⟩
        · have hiL : i = L := by omega
          have HBX := Lib.hid (below_step HB4.out hBr)
          obtain ⟨e1, e2⟩ := HLM.out
          clear hBr hiL hL18
          rcases e2 with rfl | rfl | rfl
          · obtain rfl : L = 2 := by omega
            clear e1 hL0
            go_wp2_with fail
            go_ret
            exact ⟨by first | rfl | simp, HBX.out⟩
          · obtain rfl : L = 8 := by omega
            clear e1 hL0
            go_wp2_with fail
            go_ret
            exact ⟨by first | rfl | simp, HBX.out⟩
          · obtain rfl : L = 18 := by omega
            clear e1 hL0
            go_wp2_with fail
            go_ret
            exact ⟨by first | rfl | simp, HBX.out⟩
  · clear hl h8
    go_enter Try.func5, Try.ntmps5
    go_wp2_with fail
    go_ret
    exact ⟨rfl, Below.refl _ _⟩
end Go.Proofs.Ytmgdfpmcbalebaa
