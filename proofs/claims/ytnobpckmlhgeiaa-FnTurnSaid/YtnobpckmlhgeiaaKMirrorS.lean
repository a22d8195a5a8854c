/- Merged out of: XTextS, XOut, XMirrorS. -/
import Derived.Test.YtnobpckmlhgeiaaSpecA
import Derived.Deep.AppendLies
import Derived.Deep.RegionHeld3
import Derived.Deep.RegionLaw
section
/- The model writes a tree. -/
namespace Go.Proofs.Ytnobpckmlhgeiaa
open Go.RowKit

theorem textL_takeS {ks : List T} {k : Nat} (h : k < ks.length) : T.textL (ks.take (k + 1)) = T.textL (ks.take k) ++ (32 :: (ks[k]).text) := by
  rw [List.take_succ_eq_append_getElem h, textL_append]; simp [T.textL]

theorem textL_take_leS {ks : List T} (k : Nat) : (T.textL (ks.take k)).length ≤ (T.textL ks).length := by
  have h := textL_append (ks.take k) (ks.drop k)
  rw [List.take_append_drop] at h
  rw [h, List.length_append]; omega

theorem bytes_append (l m : List UInt8) : (⟨l.toArray⟩ : ByteArray) ++ ⟨m.toArray⟩ = ⟨(l ++ m).toArray⟩ := by
  apply ByteArray.ext
  simp

def TextS (l : List UInt8) (w : World) (e : Ending) (w' : World) : Prop := e = .returned (.string ⟨l.toArray⟩) ∧ Below w.heap.size w w'

end Go.Proofs.Ytnobpckmlhgeiaa
end
section
/- A node that the model builds kid by kid: its box, its row, how the kids lie. -/
namespace Go.Proofs.Ytnobpckmlhgeiaa
open Go.RowKit

end Go.Proofs.Ytnobpckmlhgeiaa
end
section
/- The model mirrors a tree. -/
namespace Go.Proofs.Ytnobpckmlhgeiaa
open Go.RowKit

mutual
def T.mirror : T → T
  | .leaf => .leaf
  | .node c ks => .node c (T.mirrorL ks)
def T.mirrorL : List T → List T
  | [] => []
  | k :: ks => T.mirrorL ks ++ [k.mirror]
end

theorem mirrorL_eq (ks : List T) : T.mirrorL ks = (ks.map T.mirror).reverse := by
  induction ks with
  | nil => rfl
  | cons k ks ih => simp [T.mirrorL, ih]

theorem mirrorL_length (ks : List T) : (T.mirrorL ks).length = ks.length := by rw [mirrorL_eq]; simp

theorem mirrorL_get {ks : List T} {k : Nat} (h : k < ks.length) : (T.mirrorL ks)[k]'(by rw [mirrorL_length]; exact h) = (ks[ks.length - 1 - k]'(by omega)).mirror := by
  simp only [mirrorL_eq, List.getElem_reverse, List.getElem_map, List.length_map]

mutual
theorem mirror_wf : ∀ (t : T), t.wf → t.mirror.wf
  | .leaf, _ => by simp [T.mirror, T.wf]
  | .node c ks, h => by
    rw [T.wf] at h
    rw [T.mirror, T.wf, mirrorL_length]
    exact ⟨h.1, h.2.1, h.2.2.1, h.2.2.2.1, mirrorL_wf ks h.2.2.2.2⟩
theorem mirrorL_wf : ∀ (ks : List T), T.wfL ks → T.wfL (T.mirrorL ks)
  | [], _ => by simp [T.mirrorL, T.wfL]
  | k :: ks, h => by
    rw [T.wfL] at h
    rw [T.mirrorL, wfL_append]
    exact ⟨mirrorL_wf ks h.2, by simp [T.wfL, mirror_wf k h.1]⟩
end

mutual
theorem mirror_size : ∀ (t : T), t.mirror.leaves = t.leaves ∧ t.mirror.nodes = t.nodes
  | .leaf => by simp [T.mirror]
  | .node c ks => by
    have := mirrorL_size ks
    simp [T.mirror, T.leaves, T.nodes, this]
theorem mirrorL_size : ∀ (ks : List T), T.leavesL (T.mirrorL ks) = T.leavesL ks ∧ T.nodesL (T.mirrorL ks) = T.nodesL ks
  | [] => by simp [T.mirrorL]
  | k :: ks => by
    have h1 := mirror_size k
    have h2 := mirrorL_size ks
    simp [T.mirrorL, leavesL_append, nodesL_append, T.leavesL, T.nodesL, h1, h2]
    omega
end

theorem wfL_take {ks : List T} (h : T.wfL ks) (k : Nat) : T.wfL (ks.take k) := by
  have := wfL_append (ks.take k) (ks.drop k)
  rw [List.take_append_drop] at this
  exact (this.1 h).1

theorem grown_frozen {w w' : World} {row : Option Nat} {a : Addr} {v : Value} (hg : w.grownBy w' row) (h : w.cell? a = some v) (hf : w.frozen? a = false) (hne : some a.block ≠ row) : w'.frozen? a = false :=
  (World.frozen?_of_block (hg.block a.block (World.block_lt_of_cell? w a h) hne)).trans hf

/-- A tree is handed back, new. -/
def NewS (t : T) (w : World) (e : Ending) (w' : World) : Prop :=
  Below w.heap.size w w' ∧ ∃ (lb : ByteArray) (sa : Option Addr) (sn sc : Nat), e = .returned (.agg #[.string lb, .slice sa sn sc]) ∧ RepS w' (fun b => w.heap.size ≤ b) t (.string lb) (.slice sa sn sc)

theorem RepS.shape {w : World} {P : Nat → Prop} {t : T} {l s : Value} (h : RepS w P t l s) : ∃ (lb : ByteArray) (sa : Option Addr) (sn sc : Nat), l = .string lb ∧ s = .slice sa sn sc := by
  cases t with
  | leaf => rw [RepS] at h; exact ⟨_, _, _, _, h.1, h.2⟩
  | node c ks => rw [RepS] at h; obtain ⟨h1, g, cap, h2, _⟩ := h; exact ⟨_, _, _, _, h1, h2⟩

end Go.Proofs.Ytnobpckmlhgeiaa
end
