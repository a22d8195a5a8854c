/- Quadratic trees are twice the pairs of letters: FnQuadTrees. -/
import Derived.Test.YtapobhnhnldlkaaGreatKLawQ
import Derived.Test.YtapobhnhnldlkaaGreatKPick
import Derived.Test.YtapobhnhnldlkaaGreatKOrdI
namespace Go.Proofs.YtapobhnhnldlkaaGreat
open Go.RowKit

theorem put_place (t : T) : ∀ (us : List T), AscT us → (∀ u ∈ us, ordT t u ≠ 0) → ∃ k, k ≤ us.length ∧ (∀ j (hj : j < us.length), k ≤ j → ordT t us[j] < 0) ∧ (0 < k → ∀ h1 : k - 1 < us.length, 0 < ordT t (us[k - 1]))
  | [], _, _ => ⟨0, Nat.le_refl _, fun j hj => by simp at hj, fun h0 => by omega⟩
  | u :: us, h, hne => by
    have h' := List.pairwise_cons.1 h
    by_cases hu : ordT t u < 0
    · refine ⟨0, Nat.zero_le _, fun j hj _ => ?_, fun h0 => by omega⟩
      cases j with
      | zero => exact hu
      | succ j =>
        simp only [List.getElem_cons_succ]
        exact isCmp_ordT.lt_le hu (by have := h'.1 (us[j]'(by simpa using hj)) (List.getElem_mem _); omega)
    · obtain ⟨k, h1, h2, h3⟩ := put_place t us h'.2 (fun v hv => hne v (by simp [hv]))
      have hu2 := hne u (by simp)
      refine ⟨k + 1, by simp; omega, fun j hj hkj => ?_, fun _ hk1 => ?_⟩
      · cases j with
        | zero => omega
        | succ j =>
          simp only [List.getElem_cons_succ]
          exact h2 j (by simpa using hj) (by omega)
      · cases k with
        | zero => show 0 < ordT t u; omega
        | succ k =>
          show 0 < ordT t us[k]
          exact h3 (by omega) (by omega)

theorem sorted_exists : ∀ (ts : List T), (∀ t ∈ ts, t.wf) → ts.Nodup → ∃ us, AscT us ∧ us.Perm ts
  | [], _, _ => ⟨[], List.Pairwise.nil, List.Perm.nil⟩
  | t :: ts, hw, hn => by
    have hn' := List.nodup_cons.1 hn
    obtain ⟨us, h1, h2⟩ := sorted_exists ts (fun u hu => hw u (by simp [hu])) hn'.2
    obtain ⟨k, hk, ha, hb⟩ := put_place t us h1 (fun u hu h0 => by
      have hm := h2.mem_iff.1 hu
      exact hn'.1 ((ordT_zero (hw t (by simp)) (hw u (by simp [hm])) h0) ▸ hm))
    exact ⟨_, h1.put hk ha (fun h0 => hb h0 (by omega)), (perm_put k h2).trans (List.perm_append_comm (l₁ := ts) (l₂ := [t]))⟩

theorem downT_length {ts : List T} (hw : ∀ t ∈ ts, t.wf) (hn : ts.Nodup) : (downT ts).length = ts.length := by
  obtain ⟨us, h1, h2⟩ := sorted_exists ts hw hn
  rw [← asc_down h1 h2 hw, List.length_reverse, h2.length_eq]

theorem quads_length {ss : List ByteArray} {ts : List T} (h : quadsOf ss = some ts) : ts.length = 2 * ss.length * ss.length ∧ 1 ≤ ss.length ∧ ss.length ≤ 3 := by
  unfold quadsOf at h
  cases hl : lettersOf ss with
  | none => rw [hl] at h; cases h
  | some cs =>
    rw [hl] at h
    cases h
    obtain ⟨h1, h2, h3⟩ := lettersOf_ok hl
    have e : ss.length = cs.length := by rw [h1.txt, List.length_map]
    refine ⟨?_, by omega, by omega⟩
    rw [downT_length (fun t ht => (quad_wf h1.let_ t ht).1) (quadRows_nodup h1.nodup cs h1.nodup), e]
    exact quadRows_length cs cs

def lettersW (w : World) : World := (((((((((((w.alloc (.cells #[.string ⟨#[97]⟩] 9 (0, 0))).alloc (.cells #[.string ⟨#[97]⟩, .string ⟨#[98]⟩] 9 (0, 0))).alloc (.cells #[.string ⟨#[98]⟩, .string ⟨#[97]⟩] 9 (0, 0))).alloc (.cells #[.string ⟨#[97]⟩, .string ⟨#[98]⟩, .string ⟨#[99]⟩] 9 (0, 0))).alloc (.cells #[] 9 (0, 0))).alloc (.cells #[.string ⟨#[97]⟩, .string ⟨#[97]⟩] 9 (0, 0))).alloc (.cells #[.string ⟨#[97]⟩, .string ⟨#[120]⟩] 9 (0, 0))).alloc (.cells #[.string ⟨#[97]⟩, .string ⟨#[98]⟩] 9 (0, 0))).alloc (.cells #[.string ⟨#[97]⟩] 9 (0, 0))).alloc (.cells #[.string ⟨#[97]⟩, .string ⟨#[98]⟩] 9 (0, 0))).alloc (.cells #[.slice (some ⟨w.heap.size, 0, none⟩) 1 1, .slice (some ⟨w.heap.size + 1, 0, none⟩) 2 2, .slice (some ⟨w.heap.size + 1 + 1, 0, none⟩) 2 2, .slice (some ⟨w.heap.size + 1 + 1 + 1, 0, none⟩) 3 3, .slice (some ⟨w.heap.size + 1 + 1 + 1 + 1, 0, none⟩) 0 0, .slice (some ⟨w.heap.size + 1 + 1 + 1 + 1 + 1, 0, none⟩) 2 2, .slice (some ⟨w.heap.size + 1 + 1 + 1 + 1 + 1 + 1, 0, none⟩) 2 2, .slice (some ⟨w.heap.size + 1 + 1 + 1 + 1 + 1 + 1 + 1, 0, none⟩) 2 2, .slice (some ⟨w.heap.size + 1 + 1 + 1 + 1 + 1 + 1 + 1 + 1, 0, none⟩) 1 1, .slice (some ⟨w.heap.size + 1 + 1 + 1 + 1 + 1 + 1 + 1 + 1 + 1, 0, none⟩) 2 2] 23 (0, 0)))
theorem lettersW_size (w : World) : (lettersW w).heap.size = w.heap.size + 11 := by simp [lettersW]
theorem lettersW_below (w : World) : Below w.heap.size w (lettersW w) := by
  unfold lettersW
  exact (((((((((((Below.refl _ _).alloc (Nat.le_refl _) _).alloc (by simp) _).alloc (by simp; omega) _).alloc (by simp; omega) _).alloc (by simp; omega) _).alloc (by simp; omega) _).alloc (by simp; omega) _).alloc (by simp; omega) _).alloc (by simp; omega) _).alloc (by simp; omega) _).alloc (by simp; omega) _
theorem lettersW_b0 (w : World) : (lettersW w).heap[w.heap.size]? = some (.cells #[.string ⟨#[97]⟩] 9 (0, 0)) := by
  unfold lettersW
  rw [Below.heap_alloc _ _ _ (by simp <;> omega)]
  rw [Below.heap_alloc _ _ _ (by simp <;> omega)]
  rw [Below.heap_alloc _ _ _ (by simp <;> omega)]
  rw [Below.heap_alloc _ _ _ (by simp <;> omega)]
  rw [Below.heap_alloc _ _ _ (by simp <;> omega)]
  rw [Below.heap_alloc _ _ _ (by simp <;> omega)]
  rw [Below.heap_alloc _ _ _ (by simp <;> omega)]
  rw [Below.heap_alloc _ _ _ (by simp <;> omega)]
  rw [Below.heap_alloc _ _ _ (by simp <;> omega)]
  rw [Below.heap_alloc _ _ _ (by simp <;> omega)]
  exact heap_alloc_new _ _
theorem lettersW_b1 (w : World) : (lettersW w).heap[w.heap.size + 1]? = some (.cells #[.string ⟨#[97]⟩, .string ⟨#[98]⟩] 9 (0, 0)) := by
  unfold lettersW
  rw [Below.heap_alloc _ _ _ (by simp <;> omega)]
  rw [Below.heap_alloc _ _ _ (by simp <;> omega)]
  rw [Below.heap_alloc _ _ _ (by simp <;> omega)]
  rw [Below.heap_alloc _ _ _ (by simp <;> omega)]
  rw [Below.heap_alloc _ _ _ (by simp <;> omega)]
  rw [Below.heap_alloc _ _ _ (by simp <;> omega)]
  rw [Below.heap_alloc _ _ _ (by simp <;> omega)]
  rw [Below.heap_alloc _ _ _ (by simp <;> omega)]
  rw [Below.heap_alloc _ _ _ (by simp <;> omega)]
  rw [show w.heap.size + 1 = (w.alloc (.cells #[.string ⟨#[97]⟩] 9 (0, 0))).heap.size by simp]
  exact heap_alloc_new _ _
theorem lettersW_b2 (w : World) : (lettersW w).heap[w.heap.size + 1 + 1]? = some (.cells #[.string ⟨#[98]⟩, .string ⟨#[97]⟩] 9 (0, 0)) := by
  unfold lettersW
  rw [Below.heap_alloc _ _ _ (by simp <;> omega)]
  rw [Below.heap_alloc _ _ _ (by simp <;> omega)]
  rw [Below.heap_alloc _ _ _ (by simp <;> omega)]
  rw [Below.heap_alloc _ _ _ (by simp <;> omega)]
  rw [Below.heap_alloc _ _ _ (by simp <;> omega)]
  rw [Below.heap_alloc _ _ _ (by simp <;> omega)]
  rw [Below.heap_alloc _ _ _ (by simp <;> omega)]
  rw [Below.heap_alloc _ _ _ (by simp <;> omega)]
  rw [show w.heap.size + 1 + 1 = ((w.alloc (.cells #[.string ⟨#[97]⟩] 9 (0, 0))).alloc (.cells #[.string ⟨#[97]⟩, .string ⟨#[98]⟩] 9 (0, 0))).heap.size by simp]
  exact heap_alloc_new _ _
theorem lettersW_b3 (w : World) : (lettersW w).heap[w.heap.size + 1 + 1 + 1]? = some (.cells #[.string ⟨#[97]⟩, .string ⟨#[98]⟩, .string ⟨#[99]⟩] 9 (0, 0)) := by
  unfold lettersW
  rw [Below.heap_alloc _ _ _ (by simp <;> omega)]
  rw [Below.heap_alloc _ _ _ (by simp <;> omega)]
  rw [Below.heap_alloc _ _ _ (by simp <;> omega)]
  rw [Below.heap_alloc _ _ _ (by simp <;> omega)]
  rw [Below.heap_alloc _ _ _ (by simp <;> omega)]
  rw [Below.heap_alloc _ _ _ (by simp <;> omega)]
  rw [Below.heap_alloc _ _ _ (by simp <;> omega)]
  rw [show w.heap.size + 1 + 1 + 1 = (((w.alloc (.cells #[.string ⟨#[97]⟩] 9 (0, 0))).alloc (.cells #[.string ⟨#[97]⟩, .string ⟨#[98]⟩] 9 (0, 0))).alloc (.cells #[.string ⟨#[98]⟩, .string ⟨#[97]⟩] 9 (0, 0))).heap.size by simp]
  exact heap_alloc_new _ _
theorem lettersW_b4 (w : World) : (lettersW w).heap[w.heap.size + 1 + 1 + 1 + 1]? = some (.cells #[] 9 (0, 0)) := by
  unfold lettersW
  rw [Below.heap_alloc _ _ _ (by simp <;> omega)]
  rw [Below.heap_alloc _ _ _ (by simp <;> omega)]
  rw [Below.heap_alloc _ _ _ (by simp <;> omega)]
  rw [Below.heap_alloc _ _ _ (by simp <;> omega)]
  rw [Below.heap_alloc _ _ _ (by simp <;> omega)]
  rw [Below.heap_alloc _ _ _ (by simp <;> omega)]
  rw [show w.heap.size + 1 + 1 + 1 + 1 = ((((w.alloc (.cells #[.string ⟨#[97]⟩] 9 (0, 0))).alloc (.cells #[.string ⟨#[97]⟩, .string ⟨#[98]⟩] 9 (0, 0))).alloc (.cells #[.string ⟨#[98]⟩, .string ⟨#[97]⟩] 9 (0, 0))).alloc (.cells #[.string ⟨#[97]⟩, .string ⟨#[98]⟩, .string ⟨#[99]⟩] 9 (0, 0))).heap.size by simp]
  exact heap_alloc_new _ _
theorem lettersW_b5 (w : World) : (lettersW w).heap[w.heap.size + 1 + 1 + 1 + 1 + 1]? = some (.cells #[.string ⟨#[97]⟩, .string ⟨#[97]⟩] 9 (0, 0)) := by
  unfold lettersW
  rw [Below.heap_alloc _ _ _ (by simp <;> omega)]
  rw [Below.heap_alloc _ _ _ (by simp <;> omega)]
  rw [Below.heap_alloc _ _ _ (by simp <;> omega)]
  rw [Below.heap_alloc _ _ _ (by simp <;> omega)]
  rw [Below.heap_alloc _ _ _ (by simp <;> omega)]
  rw [show w.heap.size + 1 + 1 + 1 + 1 + 1 = (((((w.alloc (.cells #[.string ⟨#[97]⟩] 9 (0, 0))).alloc (.cells #[.string ⟨#[97]⟩, .string ⟨#[98]⟩] 9 (0, 0))).alloc (.cells #[.string ⟨#[98]⟩, .string ⟨#[97]⟩] 9 (0, 0))).alloc (.cells #[.string ⟨#[97]⟩, .string ⟨#[98]⟩, .string ⟨#[99]⟩] 9 (0, 0))).alloc (.cells #[] 9 (0, 0))).heap.size by simp]
  exact heap_alloc_new _ _
theorem lettersW_b6 (w : World) : (lettersW w).heap[w.heap.size + 1 + 1 + 1 + 1 + 1 + 1]? = some (.cells #[.string ⟨#[97]⟩, .string ⟨#[120]⟩] 9 (0, 0)) := by
  unfold lettersW
  rw [Below.heap_alloc _ _ _ (by simp <;> omega)]
  rw [Below.heap_alloc _ _ _ (by simp <;> omega)]
  rw [Below.heap_alloc _ _ _ (by simp <;> omega)]
  rw [Below.heap_alloc _ _ _ (by simp <;> omega)]
  rw [show w.heap.size + 1 + 1 + 1 + 1 + 1 + 1 = ((((((w.alloc (.cells #[.string ⟨#[97]⟩] 9 (0, 0))).alloc (.cells #[.string ⟨#[97]⟩, .string ⟨#[98]⟩] 9 (0, 0))).alloc (.cells #[.string ⟨#[98]⟩, .string ⟨#[97]⟩] 9 (0, 0))).alloc (.cells #[.string ⟨#[97]⟩, .string ⟨#[98]⟩, .string ⟨#[99]⟩] 9 (0, 0))).alloc (.cells #[] 9 (0, 0))).alloc (.cells #[.string ⟨#[97]⟩, .string ⟨#[97]⟩] 9 (0, 0))).heap.size by simp]
  exact heap_alloc_new _ _
theorem lettersW_b7 (w : World) : (lettersW w).heap[w.heap.size + 1 + 1 + 1 + 1 + 1 + 1 + 1]? = some (.cells #[.string ⟨#[97]⟩, .string ⟨#[98]⟩] 9 (0, 0)) := by
  unfold lettersW
  rw [Below.heap_alloc _ _ _ (by simp <;> omega)]
  rw [Below.heap_alloc _ _ _ (by simp <;> omega)]
  rw [Below.heap_alloc _ _ _ (by simp <;> omega)]
  rw [show w.heap.size + 1 + 1 + 1 + 1 + 1 + 1 + 1 = (((((((w.alloc (.cells #[.string ⟨#[97]⟩] 9 (0, 0))).alloc (.cells #[.string ⟨#[97]⟩, .string ⟨#[98]⟩] 9 (0, 0))).alloc (.cells #[.string ⟨#[98]⟩, .string ⟨#[97]⟩] 9 (0, 0))).alloc (.cells #[.string ⟨#[97]⟩, .string ⟨#[98]⟩, .string ⟨#[99]⟩] 9 (0, 0))).alloc (.cells #[] 9 (0, 0))).alloc (.cells #[.string ⟨#[97]⟩, .string ⟨#[97]⟩] 9 (0, 0))).alloc (.cells #[.string ⟨#[97]⟩, .string ⟨#[120]⟩] 9 (0, 0))).heap.size by simp]
  exact heap_alloc_new _ _
theorem lettersW_b8 (w : World) : (lettersW w).heap[w.heap.size + 1 + 1 + 1 + 1 + 1 + 1 + 1 + 1]? = some (.cells #[.string ⟨#[97]⟩] 9 (0, 0)) := by
  unfold lettersW
  rw [Below.heap_alloc _ _ _ (by simp <;> omega)]
  rw [Below.heap_alloc _ _ _ (by simp <;> omega)]
  rw [show w.heap.size + 1 + 1 + 1 + 1 + 1 + 1 + 1 + 1 = ((((((((w.alloc (.cells #[.string ⟨#[97]⟩] 9 (0, 0))).alloc (.cells #[.string ⟨#[97]⟩, .string ⟨#[98]⟩] 9 (0, 0))).alloc (.cells #[.string ⟨#[98]⟩, .string ⟨#[97]⟩] 9 (0, 0))).alloc (.cells #[.string ⟨#[97]⟩, .string ⟨#[98]⟩, .string ⟨#[99]⟩] 9 (0, 0))).alloc (.cells #[] 9 (0, 0))).alloc (.cells #[.string ⟨#[97]⟩, .string ⟨#[97]⟩] 9 (0, 0))).alloc (.cells #[.string ⟨#[97]⟩, .string ⟨#[120]⟩] 9 (0, 0))).alloc (.cells #[.string ⟨#[97]⟩, .string ⟨#[98]⟩] 9 (0, 0))).heap.size by simp]
  exact heap_alloc_new _ _
theorem lettersW_b9 (w : World) : (lettersW w).heap[w.heap.size + 1 + 1 + 1 + 1 + 1 + 1 + 1 + 1 + 1]? = some (.cells #[.string ⟨#[97]⟩, .string ⟨#[98]⟩] 9 (0, 0)) := by
  unfold lettersW
  rw [Below.heap_alloc _ _ _ (by simp <;> omega)]
  rw [show w.heap.size + 1 + 1 + 1 + 1 + 1 + 1 + 1 + 1 + 1 = (((((((((w.alloc (.cells #[.string ⟨#[97]⟩] 9 (0, 0))).alloc (.cells #[.string ⟨#[97]⟩, .string ⟨#[98]⟩] 9 (0, 0))).alloc (.cells #[.string ⟨#[98]⟩, .string ⟨#[97]⟩] 9 (0, 0))).alloc (.cells #[.string ⟨#[97]⟩, .string ⟨#[98]⟩, .string ⟨#[99]⟩] 9 (0, 0))).alloc (.cells #[] 9 (0, 0))).alloc (.cells #[.string ⟨#[97]⟩, .string ⟨#[97]⟩] 9 (0, 0))).alloc (.cells #[.string ⟨#[97]⟩, .string ⟨#[120]⟩] 9 (0, 0))).alloc (.cells #[.string ⟨#[97]⟩, .string ⟨#[98]⟩] 9 (0, 0))).alloc (.cells #[.string ⟨#[97]⟩] 9 (0, 0))).heap.size by simp]
  exact heap_alloc_new _ _
theorem lettersW_b10 (w : World) : (lettersW w).heap[w.heap.size + 1 + 1 + 1 + 1 + 1 + 1 + 1 + 1 + 1 + 1]? = some (.cells #[.slice (some ⟨w.heap.size, 0, none⟩) 1 1, .slice (some ⟨w.heap.size + 1, 0, none⟩) 2 2, .slice (some ⟨w.heap.size + 1 + 1, 0, none⟩) 2 2, .slice (some ⟨w.heap.size + 1 + 1 + 1, 0, none⟩) 3 3, .slice (some ⟨w.heap.size + 1 + 1 + 1 + 1, 0, none⟩) 0 0, .slice (some ⟨w.heap.size + 1 + 1 + 1 + 1 + 1, 0, none⟩) 2 2, .slice (some ⟨w.heap.size + 1 + 1 + 1 + 1 + 1 + 1, 0, none⟩) 2 2, .slice (some ⟨w.heap.size + 1 + 1 + 1 + 1 + 1 + 1 + 1, 0, none⟩) 2 2, .slice (some ⟨w.heap.size + 1 + 1 + 1 + 1 + 1 + 1 + 1 + 1, 0, none⟩) 1 1, .slice (some ⟨w.heap.size + 1 + 1 + 1 + 1 + 1 + 1 + 1 + 1 + 1, 0, none⟩) 2 2] 23 (0, 0)) := by
  unfold lettersW
  rw [show w.heap.size + 1 + 1 + 1 + 1 + 1 + 1 + 1 + 1 + 1 + 1 = ((((((((((w.alloc (.cells #[.string ⟨#[97]⟩] 9 (0, 0))).alloc (.cells #[.string ⟨#[97]⟩, .string ⟨#[98]⟩] 9 (0, 0))).alloc (.cells #[.string ⟨#[98]⟩, .string ⟨#[97]⟩] 9 (0, 0))).alloc (.cells #[.string ⟨#[97]⟩, .string ⟨#[98]⟩, .string ⟨#[99]⟩] 9 (0, 0))).alloc (.cells #[] 9 (0, 0))).alloc (.cells #[.string ⟨#[97]⟩, .string ⟨#[97]⟩] 9 (0, 0))).alloc (.cells #[.string ⟨#[97]⟩, .string ⟨#[120]⟩] 9 (0, 0))).alloc (.cells #[.string ⟨#[97]⟩, .string ⟨#[98]⟩] 9 (0, 0))).alloc (.cells #[.string ⟨#[97]⟩] 9 (0, 0))).alloc (.cells #[.string ⟨#[97]⟩, .string ⟨#[98]⟩] 9 (0, 0))).heap.size by simp]
  exact heap_alloc_new _ _

/-- Letters are drawn. -/
def DrLet (R : Nat) (a : Option Addr) (cap : Nat) (bs : List Nat) (p : Nat) (w : World) (e : Ending) (w' : World) : Prop :=
  (∃ (ss : List ByteArray) (g c : Nat), e = .returned (.slice (some ⟨g, 0, none⟩) ss.length c) ∧ ss.length ≤ c ∧ TxG w' g ss ∧ ss.length ≤ 3 ∧ ∀ j (h : j < ss.length), (ss[j]).size ≤ 1) ∧ w.grownBy w' (some R) ∧ RdR w' R a cap bs (p + 1)

set_option maxRecDepth 100000 in
set_option maxHeartbeats 2000000 in
theorem l91Letters_any (R : Nat) (a : Option Addr) (cap p : Nat) (bs : List Nat) (w : World) (h : RdR w R a cap bs p) (hp : p ≤ 1000000) (hR : R < w.heap.size) :
    Calls Tryz.prog 9 #[.pointer (some ⟨R, 0, none⟩)] w (DrLet R a cap bs p w) := by
  have HW := Lib.hid (lettersW_below w)
  have HSZ := Lib.hid (lettersW_size w)
  have HP := Lib.hid (pick_any R a cap p 10 bs (lettersW w) (h.grown (row := none) ⟨HW.out.os, HW.out.tape, HW.out.output, HW.out.size, fun b hb _ => HW.out.block b hb⟩ (fun r e => by cases e)) hp (by omega) (by omega))
  clear h
  go_enter Tryz.func9, Tryz.ntmps9
  go_wp2_with fail
  show Calls _ _ _ (lettersW w) _
  refine HP.out.mono ?_
  rintro e w2 ⟨⟨k, hk, rfl⟩, hg, hs, hr⟩
  have hb : ∀ b o, w.heap.size ≤ b → (lettersW w).heap[b]? = some o → w2.heap[b]? = some o := fun b o h1 h2 => by
    rw [hg.block b (Array.getElem?_eq_some_iff.1 h2).1 (fun e => by simp only [Option.some.injEq] at e; omega)]; exact h2
  have HG : Hid (w.grownBy w2 (some R)) := Lib.hid (by
    refine ⟨hg.os.trans HW.out.os, hg.tape.trans HW.out.tape, hg.output.trans HW.out.output, by rw [hs, HSZ.out]; omega, fun b h1 h2 => ?_⟩
    rw [hg.block b (by rw [HSZ.out]; omega) h2]
    exact HW.out.block b h1)
  have HR2 := Lib.hid hr
  clear hg hr hs
  rcases (show k = 0 ∨ k = 1 ∨ k = 2 ∨ k = 3 ∨ k = 4 ∨ k = 5 ∨ k = 6 ∨ k = 7 ∨ k = 8 ∨ k = 9 by omega) with rfl | rfl | rfl | rfl | rfl | rfl | rfl | rfl | rfl | rfl
  · have c := cellAt (hb _ _ (by omega) (lettersW_b10 w)) (j := 0) rfl
    have HT : Hid (TxG w2 (w.heap.size) [(⟨#[97]⟩ : ByteArray)]) := Lib.hid (fun j hj => by
      match j, hj with
      | 0, _ => exact cellAt (hb _ _ (by omega) (lettersW_b0 w)) rfl
      | n + 1, h => exact absurd h (by simp))
    clear hb
    go_wp2_with fail
    go_ret
    exact ⟨⟨[(⟨#[97]⟩ : ByteArray)], w.heap.size, 1, rfl, by simp, HT.out, by simp, fun j hj => by
      match j, hj with
      | 0, _ => exact Nat.le_refl 1
      | n + 1, h => exact absurd h (by simp)⟩, HG.out, HR2.out⟩
  · have c := cellAt (hb _ _ (by omega) (lettersW_b10 w)) (j := 1) rfl
    have HT : Hid (TxG w2 (w.heap.size + 1) [(⟨#[97]⟩ : ByteArray), (⟨#[98]⟩ : ByteArray)]) := Lib.hid (fun j hj => by
      match j, hj with
      | 0, _ => exact cellAt (hb _ _ (by omega) (lettersW_b1 w)) rfl
      | 1, _ => exact cellAt (hb _ _ (by omega) (lettersW_b1 w)) rfl
      | n + 2, h => exact absurd h (by simp))
    clear hb
    go_wp2_with fail
    go_ret
    exact ⟨⟨[(⟨#[97]⟩ : ByteArray), (⟨#[98]⟩ : ByteArray)], w.heap.size + 1, 2, rfl, by simp, HT.out, by simp, fun j hj => by
      match j, hj with
      | 0, _ => exact Nat.le_refl 1
      | 1, _ => exact Nat.le_refl 1
      | n + 2, h => exact absurd h (by simp)⟩, HG.out, HR2.out⟩
  · have c := cellAt (hb _ _ (by omega) (lettersW_b10 w)) (j := 2) rfl
    have HT : Hid (TxG w2 (w.heap.size + 1 + 1) [(⟨#[98]⟩ : ByteArray), (⟨#[97]⟩ : ByteArray)]) := Lib.hid (fun j hj => by
      match j, hj with
      | 0, _ => exact cellAt (hb _ _ (by omega) (lettersW_b2 w)) rfl
      | 1, _ => exact cellAt (hb _ _ (by omega) (lettersW_b2 w)) rfl
      | n + 2, h => exact absurd h (by simp))
    clear hb
    go_wp2_with fail
    go_ret
    exact ⟨⟨[(⟨#[98]⟩ : ByteArray), (⟨#[97]⟩ : ByteArray)], w.heap.size + 1 + 1, 2, rfl, by simp, HT.out, by simp, fun j hj => by
      match j, hj with
      | 0, _ => exact Nat.le_refl 1
      | 1, _ => exact Nat.le_refl 1
      | n + 2, h => exact absurd h (by simp)⟩, HG.out, HR2.out⟩
  · have c := cellAt (hb _ _ (by omega) (lettersW_b10 w)) (j := 3) rfl
    have HT : Hid (TxG w2 (w.heap.size + 1 + 1 + 1) [(⟨#[97]⟩ : ByteArray), (⟨#[98]⟩ : ByteArray), (⟨#[99]⟩ : ByteArray)]) := Lib.hid (fun j hj => by
      match j, hj with
      | 0, _ => exact cellAt (hb _ _ (by omega) (lettersW_b3 w)) rfl
      | 1, _ => exact cellAt (hb _ _ (by omega) (lettersW_b3 w)) rfl
      | 2, _ => exact cellAt (hb _ _ (by omega) (lettersW_b3 w)) rfl
      | n + 3, h => exact absurd h (by simp))
    clear hb
    go_wp2_with fail
    go_ret
    exact ⟨⟨[(⟨#[97]⟩ : ByteArray), (⟨#[98]⟩ : ByteArray), (⟨#[99]⟩ : ByteArray)], w.heap.size + 1 + 1 + 1, 3, rfl, by simp, HT.out, by simp, fun j hj => by
      match j, hj with
      | 0, _ => exact Nat.le_refl 1
      | 1, _ => exact Nat.le_refl 1
      | 2, _ => exact Nat.le_refl 1
      | n + 3, h => exact absurd h (by simp)⟩, HG.out, HR2.out⟩
  · have c := cellAt (hb _ _ (by omega) (lettersW_b10 w)) (j := 4) rfl
    have HT : Hid (TxG w2 (w.heap.size + 1 + 1 + 1 + 1) []) := Lib.hid (fun j hj => by
      match j, hj with

      | n + 0, h => exact absurd h (by simp))
    clear hb
    go_wp2_with fail
    go_ret
    exact ⟨⟨[], w.heap.size + 1 + 1 + 1 + 1, 0, rfl, by simp, HT.out, by simp, fun j hj => by
      match j, hj with

      | n + 0, h => exact absurd h (by simp)⟩, HG.out, HR2.out⟩
  · have c := cellAt (hb _ _ (by omega) (lettersW_b10 w)) (j := 5) rfl
    have HT : Hid (TxG w2 (w.heap.size + 1 + 1 + 1 + 1 + 1) [(⟨#[97]⟩ : ByteArray), (⟨#[97]⟩ : ByteArray)]) := Lib.hid (fun j hj => by
      match j, hj with
      | 0, _ => exact cellAt (hb _ _ (by omega) (lettersW_b5 w)) rfl
      | 1, _ => exact cellAt (hb _ _ (by omega) (lettersW_b5 w)) rfl
      | n + 2, h => exact absurd h (by simp))
    clear hb
    go_wp2_with fail
    go_ret
    exact ⟨⟨[(⟨#[97]⟩ : ByteArray), (⟨#[97]⟩ : ByteArray)], w.heap.size + 1 + 1 + 1 + 1 + 1, 2, rfl, by simp, HT.out, by simp, fun j hj => by
      match j, hj with
      | 0, _ => exact Nat.le_refl 1
      | 1, _ => exact Nat.le_refl 1
      | n + 2, h => exact absurd h (by simp)⟩, HG.out, HR2.out⟩
  · have c := cellAt (hb _ _ (by omega) (lettersW_b10 w)) (j := 6) rfl
    have HT : Hid (TxG w2 (w.heap.size + 1 + 1 + 1 + 1 + 1 + 1) [(⟨#[97]⟩ : ByteArray), (⟨#[120]⟩ : ByteArray)]) := Lib.hid (fun j hj => by
      match j, hj with
      | 0, _ => exact cellAt (hb _ _ (by omega) (lettersW_b6 w)) rfl
      | 1, _ => exact cellAt (hb _ _ (by omega) (lettersW_b6 w)) rfl
      | n + 2, h => exact absurd h (by simp))
    clear hb
    go_wp2_with fail
    go_ret
    exact ⟨⟨[(⟨#[97]⟩ : ByteArray), (⟨#[120]⟩ : ByteArray)], w.heap.size + 1 + 1 + 1 + 1 + 1 + 1, 2, rfl, by simp, HT.out, by simp, fun j hj => by
      match j, hj with
      | 0, _ => exact Nat.le_refl 1
      | 1, _ => exact Nat.le_refl 1
      | n + 2, h => exact absurd h (by simp)⟩, HG.out, HR2.out⟩
  · have c := cellAt (hb _ _ (by omega) (lettersW_b10 w)) (j := 7) rfl
    have HT : Hid (TxG w2 (w.heap.size + 1 + 1 + 1 + 1 + 1 + 1 + 1) [(⟨#[97]⟩ : ByteArray), (⟨#[98]⟩ : ByteArray)]) := Lib.hid (fun j hj => by
      match j, hj with
      | 0, _ => exact cellAt (hb _ _ (by omega) (lettersW_b7 w)) rfl
      | 1, _ => exact cellAt (hb _ _ (by omega) (lettersW_b7 w)) rfl
      | n + 2, h => exact absurd h (by simp))
    clear hb
    go_wp2_with fail
    go_ret
    exact ⟨⟨[(⟨#[97]⟩ : ByteArray), (⟨#[98]⟩ : ByteArray)], w.heap.size + 1 + 1 + 1 + 1 + 1 + 1 + 1, 2, rfl, by simp, HT.out, by simp, fun j hj => by
      match j, hj with
      | 0, _ => exact Nat.le_refl 1
      | 1, _ => exact Nat.le_refl 1
      | n + 2, h => exact absurd h (by simp)⟩, HG.out, HR2.out⟩
  · have c := cellAt (hb _ _ (by omega) (lettersW_b10 w)) (j := 8) rfl
    have HT : Hid (TxG w2 (w.heap.size + 1 + 1 + 1 + 1 + 1 + 1 + 1 + 1) [(⟨#[97]⟩ : ByteArray)]) := Lib.hid (fun j hj => by
      match j, hj with
      | 0, _ => exact cellAt (hb _ _ (by omega) (lettersW_b8 w)) rfl
      | n + 1, h => exact absurd h (by simp))
    clear hb
    go_wp2_with fail
    go_ret
    exact ⟨⟨[(⟨#[97]⟩ : ByteArray)], w.heap.size + 1 + 1 + 1 + 1 + 1 + 1 + 1 + 1, 1, rfl, by simp, HT.out, by simp, fun j hj => by
      match j, hj with
      | 0, _ => exact Nat.le_refl 1
      | n + 1, h => exact absurd h (by simp)⟩, HG.out, HR2.out⟩
  · have c := cellAt (hb _ _ (by omega) (lettersW_b10 w)) (j := 9) rfl
    have HT : Hid (TxG w2 (w.heap.size + 1 + 1 + 1 + 1 + 1 + 1 + 1 + 1 + 1) [(⟨#[97]⟩ : ByteArray), (⟨#[98]⟩ : ByteArray)]) := Lib.hid (fun j hj => by
      match j, hj with
      | 0, _ => exact cellAt (hb _ _ (by omega) (lettersW_b9 w)) rfl
      | 1, _ => exact cellAt (hb _ _ (by omega) (lettersW_b9 w)) rfl
      | n + 2, h => exact absurd h (by simp))
    clear hb
    go_wp2_with fail
    go_ret
    exact ⟨⟨[(⟨#[97]⟩ : ByteArray), (⟨#[98]⟩ : ByteArray)], w.heap.size + 1 + 1 + 1 + 1 + 1 + 1 + 1 + 1 + 1, 2, rfl, by simp, HT.out, by simp, fun j hj => by
      match j, hj with
      | 0, _ => exact Nat.le_refl 1
      | 1, _ => exact Nat.le_refl 1
      | n + 2, h => exact absurd h (by simp)⟩, HG.out, HR2.out⟩

/-- Letters are drawn out of a code. -/
def DrSS (w : World) (e : Ending) (w' : World) : Prop :=
  Below w.heap.size w w' ∧ ∃ (ss : List ByteArray) (g c : Nat), e = .returned (.slice (some ⟨g, 0, none⟩) ss.length c) ∧ ss.length ≤ c ∧ TxG w' g ss ∧ ss.length ≤ 3 ∧ ∀ j (h : j < ss.length), (ss[j]).size ≤ 1

theorem text_bytes (t : T) : (⟨t.text.toArray⟩ : ByteArray).data.toList = t.text := by simp

end Go.Proofs.YtapobhnhnldlkaaGreat
