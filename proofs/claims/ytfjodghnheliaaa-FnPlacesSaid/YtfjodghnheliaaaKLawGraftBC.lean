/- Merged out of: XLawGraftBC, XPMath, XPLaws1. -/
import Derived.Test.YtfjodghnheliaaaLawGraft
import Derived.Test.YtfjodghnheliaaaKLawMirrorC
import Derived.Test.YtfjodghnheliaaaLawPathsC
import Derived.Test.YtfjodghnheliaaaDepthC
import Derived.Test.YtfjodghnheliaaaKDrawT
section
/- TreeGraft by the model, and its law. -/
namespace Go.Proofs.Ytfjodghnheliaaa
open Go.RowKit

end Go.Proofs.Ytfjodghnheliaaa
end
section
/- What holds of trees: for the promises. -/
namespace Go.Proofs.Ytfjodghnheliaaa
open Go.RowKit

theorem parse_star : parse [42] = some .leaf := by
  have := parse_text (t := .leaf) (by simp [T.wf]) (by simp [T.leaves]) (by simp [T.nodes])
  simpa [T.text] using this

mutual
/-- Leaves in the places of all leaves change nothing. -/
theorem fill_leaves : ∀ (t : T) (us : List T), t.wf → t.leaves ≤ us.length → (∀ u ∈ us, u = T.leaf) → t.fill us = t
  | .leaf, us, _, hl, h => by
    cases us with
    | nil => simp [T.leaves] at hl
    | cons u us => simp [T.fill, h u (by simp)]
  | .node c ks, us, hw, hl, h => by
    rw [T.wf] at hw
    rw [T.fill, fillL_leaves ks us hw.2.2.2.2 (by rw [T.leaves] at hl; exact hl) h]
theorem fillL_leaves : ∀ (ks : List T) (us : List T), T.wfL ks → T.leavesL ks ≤ us.length → (∀ u ∈ us, u = T.leaf) → T.fillL ks us = ks
  | [], us, _, _, _ => by simp [T.fillL]
  | k :: ks, us, hw, hl, h => by
    rw [T.wfL] at hw
    rw [T.leavesL] at hl
    rw [T.fillL, fill_leaves k us hw.1 (by omega) h, fillL_leaves ks _ hw.2 (by simp; omega) (fun u hu => h u (List.mem_of_mem_drop hu))]
end

theorem oneIn_leaf (n k : Nat) : ∀ u ∈ oneIn n k .leaf, u = T.leaf := by
  intro u hu
  obtain ⟨j, hj, rfl⟩ := List.getElem_of_mem hu
  rw [oneIn_get hj]
  split <;> rfl

/-- A tree at a leaf that is all: the tree. -/
theorem graft_star_left {s : List UInt8} {t : T} (h : parse s = some t) : graftOf [42] 0 s = some t := by
  have := graftOf_in (k := 0) parse_star h (by simp [T.leaves])
  rw [show ((0 : Nat) : Int) = 0 from rfl] at this
  rw [this]
  simp [T.leaves, oneIn, T.fill]

theorem graft_star_right {s : List UInt8} {t : T} (h : parse s = some t) : graftOf s 0 [42] = some t := by
  obtain ⟨hw, _, hl, hn⟩ := parse_some h
  have hp := leaves_pos t hw
  have := graftOf_in (k := 0) h parse_star (by omega)
  rw [show ((0 : Nat) : Int) = 0 from rfl] at this
  rw [this, fill_leaves t _ hw (by rw [oneIn_length]; exact Nat.le_refl _) (oneIn_leaf _ _)]

theorem done_small {t : T} (hl : t.leaves ≤ 12) (hn : t.nodes ≤ 16) : doneV t = .tuple #[.string ⟨t.text.toArray⟩, .bool true] := doneV_yes (by simp [small]; omega)

mutual
theorem mirror_mirror : ∀ (t : T), t.mirror.mirror = t
  | .leaf => by simp [T.mirror]
  | .node c ks => by
    simp only [T.mirror]
    rw [mirrorL_eq, mirrorL_eq]
    simp only [List.map_reverse, List.reverse_reverse, List.map_map]
    congr 1
    exact mirrorL_mirror ks
theorem mirrorL_mirror : ∀ (ks : List T), ks.map (T.mirror ∘ T.mirror) = ks
  | [] => rfl
  | k :: ks => by simp [mirror_mirror k, mirrorL_mirror ks]
end
end Go.Proofs.Ytfjodghnheliaaa
end
section
/- The promises on one drawn tree. -/
namespace Go.Proofs.Ytfjodghnheliaaa
open Go.RowKit

theorem text_of {s : ByteArray} {t : T} (h : parse s.data.toList = some t) : s = ⟨t.text.toArray⟩ := by
  have := (parse_some h).2.1
  apply ByteArray.ext; apply Array.toList_inj.1; rw [this]

end Go.Proofs.Ytfjodghnheliaaa
end
