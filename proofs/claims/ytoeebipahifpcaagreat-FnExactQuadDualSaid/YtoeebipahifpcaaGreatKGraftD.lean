/- Merged out of: XDepthC, XKLawGraftBC. -/
import Derived.Test.YtoeebipahifpcaaGreatKPathsJ
import Derived.Test.YtoeebipahifpcaaGreatKReadA
import Derived.Test.YtoeebipahifpcaaGreatLawGraft
import Derived.Test.YtoeebipahifpcaaGreatKLawMirrorC
import Derived.Test.YtoeebipahifpcaaGreatKDrawS
section
/- Depths on both sides. -/
namespace Go.Proofs.YtoeebipahifpcaaGreat
open Go.RowKit

mutual
def T.dep : T → Nat
  | .leaf => 0
  | .node _ ks => T.depL ks + 1
def T.depL : List T → Nat
  | [] => 0
  | k :: ks => max k.dep (T.depL ks)
end

theorem depL_append (a b : List T) : T.depL (a ++ b) = max (T.depL a) (T.depL b) := by
  induction a with
  | nil => simp [T.depL]
  | cons x a ih => simp [T.depL, ih, Nat.max_assoc]

theorem depL_take {ks : List T} {k : Nat} (h : k < ks.length) : T.depL (ks.take (k + 1)) = max (T.depL (ks.take k)) (ks[k]).dep := by
  rw [List.take_succ_eq_append_getElem h, depL_append]; simp [T.depL]

mutual
theorem dep_le : ∀ (t : T), t.dep ≤ t.nodes
  | .leaf => by simp [T.dep]
  | .node c ks => by have := depL_le ks; simp [T.dep, T.nodes]; omega
theorem depL_le : ∀ (ks : List T), T.depL ks ≤ T.nodesL ks
  | [] => by simp [T.depL]
  | k :: ks => by have h1 := dep_le k; have h2 := depL_le ks; simp only [T.depL, T.nodesL]; omega
end

/-- The length of the longest. -/
def mx : List (List UInt8) → Nat
  | [] => 0
  | p :: ps => max p.length (mx ps)

theorem mx_append (a b : List (List UInt8)) : mx (a ++ b) = max (mx a) (mx b) := by
  induction a with
  | nil => simp [mx]
  | cons x a ih => simp [mx, ih, Nat.max_assoc]

theorem mx_take {ps : List (List UInt8)} {k : Nat} (h : k < ps.length) : mx (ps.take (k + 1)) = max (mx (ps.take k)) (ps[k]).length := by
  rw [List.take_succ_eq_append_getElem h, mx_append]; simp [mx]

mutual
theorem mx_paths : ∀ (t : T) (way : List UInt8), t.wf → mx (t.paths way) = way.length + t.dep
  | .leaf, way, _ => by simp [T.paths, T.dep, mx]
  | .node c [], way, h => by rw [T.wf] at h; simp at h
  | .node c (k :: ks), way, h => by
    rw [T.wf] at h
    have := mx_pathsL (k :: ks) (way ++ [c]) h.2.2.2.2 (by simp)
    simp only [T.paths, T.dep, this, List.length_append, List.length_singleton]; omega
theorem mx_pathsL : ∀ (ks : List T) (way : List UInt8), T.wfL ks → ks ≠ [] → mx (T.pathsL way ks) = way.length + T.depL ks
  | [], _, _, h => absurd rfl h
  | [k], way, h, _ => by
    rw [T.wfL] at h
    have := mx_paths k way h.1
    simp [T.pathsL, T.depL, this]
  | k :: k' :: ks, way, h, _ => by
    rw [T.wfL] at h
    have h1 := mx_paths k way h.1
    have h2 := mx_pathsL (k' :: ks) way h.2 (by simp)
    rw [T.pathsL, mx_append, h1, h2]
    show _ = way.length + max k.dep (T.depL (k' :: ks))
    omega
end

mutual
/-- Each way is short. -/
theorem paths_short_c : ∀ (t : T) (way : List UInt8), ∀ p ∈ t.paths way, p.length ≤ way.length + t.nodes
  | .leaf, way, p, h => by simp [T.paths] at h; subst h; omega
  | .node c ks, way, p, h => by
    have := pathsL_short_c ks (way ++ [c]) p (by simpa [T.paths] using h)
    simp at this; simp [T.nodes]; omega
theorem pathsL_short_c : ∀ (ks : List T) (way : List UInt8), ∀ p ∈ T.pathsL way ks, p.length ≤ way.length + T.nodesL ks
  | [], _, p, h => by simp [T.pathsL] at h
  | k :: ks, way, p, h => by
    simp only [T.pathsL, List.mem_append] at h
    rcases h with h | h
    · have := paths_short_c k way p h; simp [T.nodesL]; omega
    · have := pathsL_short_c ks way p h; simp [T.nodesL]; omega
end

def depOf : Option T → Int
  | none => -1
  | some t => t.dep

end Go.Proofs.YtoeebipahifpcaaGreat
end
section
/- Merged out of: XLawGraftBC, XPMath, XPLaws1. -/
section
/- TreeGraft by the model, and its law. -/
namespace Go.Proofs.YtoeebipahifpcaaGreat
open Go.RowKit

end Go.Proofs.YtoeebipahifpcaaGreat
end
section
/- What holds of trees: for the promises. -/
namespace Go.Proofs.YtoeebipahifpcaaGreat
open Go.RowKit

theorem parse_star : parse [42] = some .leaf := by
  have := parse_text (t := .leaf) (by simp [T.wf]) (by simp [T.leaves]) (by simp [T.nodes])
  simpa [T.text] using this

mutual
/-- Leaves in the places of all leaves change nothing. -/
theorem fill_leaves : ∀ (t : T) (us : List T), t.wf → t.leaves ≤ us.length → (∀ u ∈ us, u = T.leaf) → t.fill us = t
  | .leaf, us, _, hl, h => by
    cases us with
    | nil => simp [T.leaves] at hl
    | cons u us => simp [T.fill, h u (by simp)]
  | .node c ks, us, hw, hl, h => by
    rw [T.wf] at hw
    rw [T.fill, fillL_leaves ks us hw.2.2.2.2 (by rw [T.leaves] at hl; exact hl) h]
theorem fillL_leaves : ∀ (ks : List T) (us : List T), T.wfL ks → T.leavesL ks ≤ us.length → (∀ u ∈ us, u = T.leaf) → T.fillL ks us = ks
  | [], us, _, _, _ => by simp [T.fillL]
  | k :: ks, us, hw, hl, h => by
    rw [T.wfL] at hw
    rw [T.leavesL] at hl
    rw [T.fillL, fill_leaves k us hw.1 (by omega) h, fillL_leaves ks _ hw.2 (by simp; omega) (fun u hu => h u (List.mem_of_mem_drop hu))]
end

theorem oneIn_leaf (n k : Nat) : ∀ u ∈ oneIn n k .leaf, u = T.leaf := by
  intro u hu
  obtain ⟨j, hj, rfl⟩ := List.getElem_of_mem hu
  rw [oneIn_get hj]
  split <;> rfl

/-- A tree at a leaf that is all: the tree. -/
theorem graft_star_left {s : List UInt8} {t : T} (h : parse s = some t) : graftOf [42] 0 s = some t := by
  have := graftOf_in (k := 0) parse_star h (by simp [T.leaves])
  rw [show ((0 : Nat) : Int) = 0 from rfl] at this
  rw [this]
  simp [T.leaves, oneIn, T.fill]

theorem graft_star_right {s : List UInt8} {t : T} (h : parse s = some t) : graftOf s 0 [42] = some t := by
  obtain ⟨hw, _, hl, hn⟩ := parse_some h
  have hp := leaves_pos t hw
  have := graftOf_in (k := 0) h parse_star (by omega)
  rw [show ((0 : Nat) : Int) = 0 from rfl] at this
  rw [this, fill_leaves t _ hw (by rw [oneIn_length]; exact Nat.le_refl _) (oneIn_leaf _ _)]

theorem done_small {t : T} (hl : t.leaves ≤ 12) (hn : t.nodes ≤ 16) : doneV t = .tuple #[.string ⟨t.text.toArray⟩, .bool true] := doneV_yes (by simp [small]; omega)

mutual
theorem mirror_mirror : ∀ (t : T), t.mirror.mirror = t
  | .leaf => by simp [T.mirror]
  | .node c ks => by
    simp only [T.mirror]
    rw [mirrorL_eq, mirrorL_eq]
    simp only [List.map_reverse, List.reverse_reverse, List.map_map]
    congr 1
    exact mirrorL_mirror ks
theorem mirrorL_mirror : ∀ (ks : List T), ks.map (T.mirror ∘ T.mirror) = ks
  | [] => rfl
  | k :: ks => by simp [mirror_mirror k, mirrorL_mirror ks]
end
end Go.Proofs.YtoeebipahifpcaaGreat
end
section
/- The promises on one drawn tree. -/
namespace Go.Proofs.YtoeebipahifpcaaGreat
open Go.RowKit

theorem text_of {s : ByteArray} {t : T} (h : parse s.data.toList = some t) : s = ⟨t.text.toArray⟩ := by
  have := (parse_some h).2.1
  apply ByteArray.ext; apply Array.toList_inj.1; rw [this]

end Go.Proofs.YtoeebipahifpcaaGreat
end
end
