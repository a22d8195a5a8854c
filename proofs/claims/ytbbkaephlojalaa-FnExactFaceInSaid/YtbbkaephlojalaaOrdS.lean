/- The order of trees by the model. -/
import Derived.Test.YtbbkaephlojalaaKOrdI
namespace Go.Proofs.Ytbbkaephlojalaa
open Go.RowKit

theorem less_iff : ∀ (a b : List UInt8), Op.bytesLess a b = decide (Lib.compareBytes a b = -1)
  | [], [] => by simp [Op.bytesLess, Lib.compareBytes]
  | [], _ :: _ => by simp [Op.bytesLess, Lib.compareBytes]
  | _ :: _, [] => by simp [Op.bytesLess, Lib.compareBytes]
  | a :: r, b :: q => by
    have ih := less_iff r q
    simp only [Op.bytesLess, Lib.compareBytes]
    by_cases h : a < b
    · simp [h]
    · by_cases h2 : b < a
      · have hne : ¬ a = b := fun e => by subst e; exact h h2
        simp [h, h2, hne]
      · have he : a = b := UInt8.le_antisymm (UInt8.not_lt.1 h2) (UInt8.not_lt.1 h)
        subst he
        simp [h, ih]

theorem less_iff2 : ∀ (a b : List UInt8), Op.bytesLess b a = decide (Lib.compareBytes a b = 1)
  | [], [] => by simp [Op.bytesLess, Lib.compareBytes]
  | [], _ :: _ => by simp [Op.bytesLess, Lib.compareBytes]
  | _ :: _, [] => by simp [Op.bytesLess, Lib.compareBytes]
  | a :: r, b :: q => by
    have ih := less_iff2 r q
    simp only [Op.bytesLess, Lib.compareBytes]
    by_cases h : a < b
    · have hn : ¬ b < a := fun h2 => UInt8.lt_irrefl a (UInt8.lt_trans h h2)
      have hne : ¬ b = a := fun e => by subst e; exact hn h
      simp [h, hn, hne]
    · by_cases h2 : b < a
      · simp [h, h2]
      · have he : a = b := UInt8.le_antisymm (UInt8.not_lt.1 h2) (UInt8.not_lt.1 h)
        subst he
        simp [h, ih]

theorem toList_mk (l : List UInt8) : (⟨l.toArray⟩ : ByteArray).toList = l := by rw [ByteArray.toList_eq]

theorem cb_eq : ∀ (a b : List UInt8), Lib.compareBytes a b = 0 → a = b
  | [], [], _ => rfl
  | [], _ :: _, h => by simp [Lib.compareBytes] at h
  | _ :: _, [], h => by simp [Lib.compareBytes] at h
  | a :: r, b :: q, h => by
    simp only [Lib.compareBytes] at h
    by_cases h1 : a < b
    · simp [h1] at h
    · by_cases h2 : b < a
      · simp [h1, h2] at h
      · have he : a = b := UInt8.le_antisymm (UInt8.not_lt.1 h2) (UInt8.not_lt.1 h1)
        simp only [h1, h2, if_false] at h
        rw [he, cb_eq r q h]

theorem cb_self : ∀ (a : List UInt8), Lib.compareBytes a a = 0
  | [] => rfl
  | a :: r => by simp [Lib.compareBytes, cb_self r]

theorem ne_of_cb {a b : List UInt8} {z : Int} (h : Lib.compareBytes a b = z) (hz : z ≠ 0) : (a == b) = false := by
  rw [beq_eq_false_iff_ne]
  intro e
  rw [e, cb_self] at h
  exact hz h.symm

theorem word_same {a b : List UInt8} (h : a.length = b.length) : wordCmp a b = Lib.compareBytes a b := by
  rw [wordCmp, cmpI_eq (by omega)]
  simp only [orI, if_true]
  split
  · rename_i h; exact h.symm
  · rfl

mutual
theorem paths_short : ∀ (t : T) (way : List UInt8) (p : List UInt8), p ∈ t.paths way → p.length ≤ way.length + t.nodes
  | .leaf, way, p, h => by
    simp only [T.paths, List.mem_singleton] at h
    subst h
    simp [T.nodes]
  | .node c ks, way, p, h => by
    simp only [T.paths] at h
    have := pathsL_short ks (way ++ [c]) p h
    simp only [List.length_append, List.length_singleton] at this
    simp only [T.nodes]
    omega
theorem pathsL_short : ∀ (ks : List T) (way : List UInt8) (p : List UInt8), p ∈ T.pathsL way ks → p.length ≤ way.length + T.nodesL ks
  | [], way, p, h => by simp [T.pathsL] at h
  | k :: ks, way, p, h => by
    simp only [T.pathsL, List.mem_append] at h
    simp only [T.nodesL]
    rcases h with h | h
    · have := paths_short k way p h; omega
    · have := pathsL_short ks way p h; omega
end

/-- A new list of texts. -/
def ListN (ps : List (List UInt8)) (n : Nat) (w : World) (e : Ending) (w' : World) : Prop :=
  Below w.heap.size w w' ∧ ∃ a cap, e = .returned (.slice a n cap) ∧ Lies w' a ps

end Go.Proofs.Ytbbkaephlojalaa
