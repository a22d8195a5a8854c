/- Depths on both sides. -/
import Derived.Test.YtfjodghnheliaaaKPathsI
import Derived.Test.YtfjodghnheliaaaKReadIC
namespace Go.Proofs.Ytfjodghnheliaaa
open Go.RowKit

mutual
def T.dep : T → Nat
  | .leaf => 0
  | .node _ ks => T.depL ks + 1
def T.depL : List T → Nat
  | [] => 0
  | k :: ks => max k.dep (T.depL ks)
end

theorem depL_append (a b : List T) : T.depL (a ++ b) = max (T.depL a) (T.depL b) := by
  induction a with
  | nil => simp [T.depL]
  | cons x a ih => simp [T.depL, ih, Nat.max_assoc]

theorem depL_take {ks : List T} {k : Nat} (h : k < ks.length) : T.depL (ks.take (k + 1)) = max (T.depL (ks.take k)) (ks[k]).dep := by
  rw [List.take_succ_eq_append_getElem h, depL_append]; simp [T.depL]

mutual
theorem dep_le : ∀ (t : T), t.dep ≤ t.nodes
  | .leaf => by simp [T.dep]
  | .node c ks => by have := depL_le ks; simp [T.dep, T.nodes]; omega
theorem depL_le : ∀ (ks : List T), T.depL ks ≤ T.nodesL ks
  | [] => by simp [T.depL]
  | k :: ks => by have h1 := dep_le k; have h2 := depL_le ks; simp only [T.depL, T.nodesL]; omega
end

/-- The length of the longest. -/
def mx : List (List UInt8) → Nat
  | [] => 0
  | p :: ps => max p.length (mx ps)

theorem mx_append (a b : List (List UInt8)) : mx (a ++ b) = max (mx a) (mx b) := by
  induction a with
  | nil => simp [mx]
  | cons x a ih => simp [mx, ih, Nat.max_assoc]

theorem mx_take {ps : List (List UInt8)} {k : Nat} (h : k < ps.length) : mx (ps.take (k + 1)) = max (mx (ps.take k)) (ps[k]).length := by
  rw [List.take_succ_eq_append_getElem h, mx_append]; simp [mx]

mutual
theorem mx_paths : ∀ (t : T) (way : List UInt8), t.wf → mx (t.paths way) = way.length + t.dep
  | .leaf, way, _ => by simp [T.paths, T.dep, mx]
  | .node c [], way, h => by rw [T.wf] at h; simp at h
  | .node c (k :: ks), way, h => by
    rw [T.wf] at h
    have := mx_pathsL (k :: ks) (way ++ [c]) h.2.2.2.2 (by simp)
    simp only [T.paths, T.dep, this, List.length_append, List.length_singleton]; omega
theorem mx_pathsL : ∀ (ks : List T) (way : List UInt8), T.wfL ks → ks ≠ [] → mx (T.pathsL way ks) = way.length + T.depL ks
  | [], _, _, h => absurd rfl h
  | [k], way, h, _ => by
    rw [T.wfL] at h
    have := mx_paths k way h.1
    simp [T.pathsL, T.depL, this]
  | k :: k' :: ks, way, h, _ => by
    rw [T.wfL] at h
    have h1 := mx_paths k way h.1
    have h2 := mx_pathsL (k' :: ks) way h.2 (by simp)
    rw [T.pathsL, mx_append, h1, h2]
    show _ = way.length + max k.dep (T.depL (k' :: ks))
    omega
end

mutual
/-- Each way is short. -/
theorem paths_short_c : ∀ (t : T) (way : List UInt8), ∀ p ∈ t.paths way, p.length ≤ way.length + t.nodes
  | .leaf, way, p, h => by simp [T.paths] at h; subst h; omega
  | .node c ks, way, p, h => by
    have := pathsL_short_c ks (way ++ [c]) p (by simpa [T.paths] using h)
    simp at this; simp [T.nodes]; omega
theorem pathsL_short_c : ∀ (ks : List T) (way : List UInt8), ∀ p ∈ T.pathsL way ks, p.length ≤ way.length + T.nodesL ks
  | [], _, p, h => by simp [T.pathsL] at h
  | k :: ks, way, p, h => by
    simp only [T.pathsL, List.mem_append] at h
    rcases h with h | h
    · have := paths_short_c k way p h; simp [T.nodesL]; omega
    · have := pathsL_short_c ks way p h; simp [T.nodesL]; omega
end

def depOf : Option T → Int
  | none => -1
  | some t => t.dep

end Go.Proofs.Ytfjodghnheliaaa
