/- Merged out of: XDepthC, XKLawGraftBC. -/
import Derived.Test.YtfflgjidapclkaaKPathsJ
import Derived.Test.YtfflgjidapclkaaKReadA
import Derived.Test.YtfflgjidapclkaaLawGraft
import Derived.Test.YtfflgjidapclkaaKLawMirrorC
import Derived.Test.YtfflgjidapclkaaKDrawS
section
/- Depths on both sides. -/
namespace Go.Proofs.Ytfflgjidapclkaa
open Go.RowKit

mutual
def T.dep : T → Nat
  | .leaf => 0
  | .node _ ks => T.depL ks + 1
def T.depL : List T → Nat
  | [] => 0
  | k :: ks => max k.dep (T.depL ks)
end

theorem depL_append (a b : List T) : T.depL (a ++ b) = max (T.depL a) (T.depL b) := by
  induction a with
  | nil => simp [T.depL]
  | cons x a ih => simp [T.depL, ih, Nat.max_assoc]

theorem depL_take {ks : List T} {k : Nat} (h : k < ks.length) : T.depL (ks.take (k + 1)) = max (T.depL (ks.take k)) (ks[k]).dep := by
  rw [List.take_succ_eq_append_getElem h, depL_append]; simp [T.depL]

mutual
theorem dep_le : ∀ (t : T), t.dep ≤ t.nodes
  | .leaf => by simp [T.dep]
  | .node c ks => by have := depL_le ks; simp [T.dep, T.nodes]; omega
theorem depL_le : ∀ (ks : List T), T.depL ks ≤ T.nodesL ks
  | [] => by simp [T.depL]
  | k :: ks => by have h1 := dep_le k; have h2 := depL_le ks; simp only [T.depL, T.nodesL]; omega
end

/-- The length of the longest. -/
def mx : List (List UInt8) → Nat
  | [] => 0
  | p :: ps => max p.length (mx ps)

theorem mx_append (a b : List (List UInt8)) : mx (a ++ b) = max (mx a) (mx b) := by
  induction a with
  | nil => simp [mx]
  | cons x a ih => simp [mx, ih, Nat.max_assoc]

theorem mx_take {ps : List (List UInt8)} {k : Nat} (h : k < ps.length) : mx (ps.take (k + 1)) = max (mx (ps.take k)) (ps[k]).length := by
  rw [List.take_succ_eq_append_getElem h, mx_append]; simp [mx]

mutual
theorem mx_paths : ∀ (t : T) (way : List UInt8), t.wf → mx (t.paths way) = way.length + t.dep
  | .leaf, way, _ => by simp [T.paths, T.dep, mx]
  | .node c [], way, h => by rw [T.wf] at h; simp at h
  | .node c (k :: ks), way, h => by
    rw [T.wf] at h
    have := mx_pathsL (k :: ks) (way ++ [c]) h.2.2.2.2 (by simp)
    simp only [T.paths, T.dep, this, List.length_append, List.length_singleton]; omega
theorem mx_pathsL : ∀ (ks : List T) (way : List UInt8), T.wfL ks → ks ≠ [] → mx (T.pathsL way ks) = way.length + T.depL ks
  | [], _, _, h => absurd rfl h
  | [k], way, h, _ => by
    rw [T.wfL] at h
    have := mx_paths k way h.1
    simp [T.pathsL, T.depL, this]
  | k :: k' :: ks, way, h, _ => by
    rw [T.wfL] at h
    have h1 := mx_paths k way h.1
    have h2 := mx_pathsL (k' :: ks) way h.2 (by simp)
    rw [T.pathsL, mx_append, h1, h2]
    show _ = way.length + max k.dep (T.depL (k' :: ks))
    omega
end

mutual
/-- Each way is short. -/
theorem paths_short_c : ∀ (t : T) (way : List UInt8), ∀ p ∈ t.paths way, p.length ≤ way.length + t.nodes
  | .leaf, way, p, h => by simp [T.paths] at h; subst h; omega
  | .node c ks, way, p, h => by
    have := pathsL_short_c ks (way ++ [c]) p (by simpa [T.paths] using h)
    simp at this; simp [T.nodes]; omega
theorem pathsL_short_c : ∀ (ks : List T) (way : List UInt8), ∀ p ∈ T.pathsL way ks, p.length ≤ way.length + T.nodesL ks
  | [], _, p, h => by simp [T.pathsL] at h
  | k :: ks, way, p, h => by
    simp only [T.pathsL, List.mem_append] at h
    rcases h with h | h
    · have := paths_short_c k way p h; simp [T.nodesL]; omega
    · have := pathsL_short_c ks way p h; simp [T.nodesL]; omega
end

def depOf : Option T → Int
  | none => -1
  | some t => t.dep

end Go.Proofs.Ytfflgjidapclkaa
end
section
/- Merged out of: XLawGraftBC, XPMath, XPLaws1. -/
section
/- TreeGraft by the model, and its law. -/
namespace Go.Proofs.Ytfflgjidapclkaa
open Go.RowKit

set_option maxRecDepth 100000 in
set_option maxHeartbeats 1000000 in
theorem sGraft_any (s : ByteArray) (k : Int) (s2 : ByteArray) (w : World) (hs : s.size ≤ 140737488351232) (hs2 : s2.size ≤ 140737488351232) :
    Calls Try.prog 10 #[.string s, .int .i64 k, .string s2] w (Ans (graftV (graftOf s.data.toList k s2.data.toList)) w) := by
  have HP2 : Hid (∀ w, Calls Try.prog 28 #[.string s2] w (PsPost s2 w)) := Lib.hid (fun w => l1Parse_any s2 w hs2)
  go_enter Try.func10, Try.ntmps10
  go_wp2_with fail
  refine (l1Parse_any s w hs).mono ?_
  rintro e w1 ⟨hB, lb, sa, sn, sc, b, rfl, hres⟩
  have HB := Lib.hid hB
  have HRS := Lib.hid hres
  clear hB hres
  go_wp2_with fail
  refine (HP2.out _).mono ?_
  rintro e w2 ⟨hB2, ub, ua, un, uc, b2, rfl, hres2⟩
  have HB2 := Lib.hid hB2
  have HA1 : Hid (Below w1.heap.size w1 (w1.alloc (.cells #[.string lb, .slice sa sn sc] 52 (0, 0)))) := Lib.hid ((Below.refl _ _).alloc (Nat.le_refl _) _)
  have HA2 : Hid (Below w2.heap.size w2 (w2.alloc (.cells #[.string ub, .slice ua un uc] 52 (0, 0)))) := Lib.hid ((Below.refl _ _).alloc (Nat.le_refl _) _)
  have hlt12 : w1.heap.size < w2.heap.size := by have := hB2.size; simp at this; omega
  have HBB := Lib.hid (below_step (below_step (below_step HB.out HA1.out) hB2) HA2.out)
  have hx0 : w2.heap[w1.heap.size]? = some (.cells #[.string lb, .slice sa sn sc] 52 (0, 0)) := (hB2.block _ (by simp)).trans (heap_alloc_new w1 _)
  have HX0 := Lib.hid hx0
  obtain ⟨x0, x1, _, _⟩ := two_cells hx0
  have HRS2 := Lib.hid hres2
  clear hB2 hres2 hx0
  rcases HRS.out with ⟨hno, rfl⟩ | ⟨t, hyes, rfl, hrep⟩
  · have HN := Lib.hid (graftOf_no (b := s2.data.toList) (k := k) hno)
    clear hno
    go_wp2_with fail
    go_ret2
    exact ⟨by rw [HN.out]; rfl, HBB.out⟩
  · rcases HRS2.out with ⟨hno, rfl⟩ | ⟨u, hyes2, rfl, hrep2⟩
    · have HN := Lib.hid (graftOf_no2 (a := s.data.toList) (k := k) hno)
      clear hno hyes hrep
      go_wp2_with fail
      go_ret2
      exact ⟨by rw [HN.out]; rfl, HBB.out⟩
    · obtain ⟨hw, _, hl, hn⟩ := parse_some hyes
      obtain ⟨huw, _, hul, hun⟩ := parse_some hyes2
      have HRT := Lib.hid (((((hrep.keep (w' := w1) (P' := fun b => b < w2.heap.size) (fun _ _ _ h => h) (fun b _ h => by omega) hw).below hw HA1.out).below hw HB2.out).below hw HA2.out))
      have HRU := Lib.hid ((hrep2.keep (w' := w2) (P' := fun b => b < w2.heap.size) (fun _ _ _ h => h) (fun b _ h => h) huw).below huw HA2.out)
      have HN := Lib.hid hyes
      have HN2 := Lib.hid hyes2
      obtain ⟨nn, hnn⟩ : ∃ nn, nn = t.leaves := ⟨_, rfl⟩
      have HNN := Lib.hid hnn
      have HLV := l1Leaves_any _ t _ _ _ (fun b => b < w2.heap.size) (Nat.le_refl _) hw (by omega) HRT.out
      rw [← hnn] at HLV
      have HLV := Lib.hid HLV
      have HOUT : Hid (¬ (0 ≤ k ∧ k ≤ (nn : Int) - 1) → graftOf s.data.toList k s2.data.toList = none) := Lib.hid (fun h => graftOf_out HN.out (by rw [← HNN.out]; exact h))
      have hnb : nn ≤ 12 := by omega
      have HHH := Lib.hid (And.intro (And.intro hw huw) (And.intro (And.intro hl hn) (And.intro hul hun)))
      clear hyes hyes2 hrep hrep2 hnn hl hn hul hun hw huw
      go_wp2_with fail
      refine HLV.out.mono ?_
      rintro e w3 ⟨rfl, hB3⟩
      have HB3 := Lib.hid hB3
      by_cases hin : 0 ≤ k ∧ k ≤ (nn : Int) - 1
      · obtain ⟨kn, rfl⟩ : ∃ kn : Nat, k = (kn : Int) := ⟨k.toNat, by omega⟩
        have hkn : kn < nn := by omega
        have hbb : decide ((0 : Int) ≤ (kn : Int) ∧ (kn : Int) ≤ (nn : Int) - 1) = true := by simpa using hin
        have HBN := Lib.hid hbb
        have hy0 : w3.heap[w1.heap.size]? = some (.cells #[.string lb, .slice sa sn sc] 52 (0, 0)) := (hB3.block _ (by simp; omega)).trans ((HA2.out.block _ hlt12).trans HX0.out)
        have hy2 : w3.heap[w2.heap.size]? = some (.cells #[.string ub, .slice ua un uc] 52 (0, 0)) := (hB3.block _ (by simp)).trans (heap_alloc_new w2 _)
        obtain ⟨y0, y1, _, _⟩ := two_cells hy0
        obtain ⟨y2, y3, _, _⟩ := two_cells hy2
        have hl3 : w2.heap.size < w3.heap.size := World.block_lt_of_cell? w3 _ y2
        have HV := Lib.hid (graftOf_in (k := kn) HN.out HN2.out (by rw [← HNN.out]; exact hkn))
        have HG := Lib.hid (l1Graft_any t _ _ kn u _ _ w3 (fun b => b < w2.heap.size) HHH.out.1.1 HHH.out.1.2 (by have := HHH.out.2.1.1; omega) (by rw [← HNN.out]; exact hkn) (fun b h => by omega) (HRT.out.below HHH.out.1.1 hB3) (HRU.out.below HHH.out.1.2 hB3))
        have HFW := Lib.hid (fill_wf t (oneIn t.leaves kn u) HHH.out.1.1 (oneIn_wf HHH.out.1.2))
        have HFL := Lib.hid (fill_len (us := oneIn t.leaves kn u) HHH.out.2.1.1 HHH.out.2.1.2 (oneIn_size HHH.out.2.2.1 HHH.out.2.2.2))
        clear hbb hin hy0 hy2 hB3
        go_wp2_with (go_at_call 29; refine (l6In_any _ _ _ _).mono ?_; rintro e w' ⟨rfl, rfl⟩; rw [HBN.out])
        refine HG.out.mono ?_
        rintro e w4 ⟨hB4, kb, ka, kn', kc, rfl, hr4⟩
        have HD := Lib.hid (l1Done_any _ kb ka kn' kc w4 _ HFW.out (by have := HFL.out; omega) (by have := HFL.out; omega) HFL.out.2.2 hr4)
        obtain ⟨x, bb, hx⟩ := doneV_shape (t.fill (oneIn t.leaves kn u))
        rw [hx] at HD
        have HX := Lib.hid hx
        have HB4 := Lib.hid hB4
        clear hr4 hB4 hx
        go_wp2_with fail
        refine HD.out.mono ?_
        rintro e w5 ⟨rfl, hB5⟩
        go_wp2_with fail
        go_ret2
        exact ⟨by rw [HV.out, graftV, HX.out]; rfl, below_step (below_step (below_step HBB.out HB3.out) HB4.out) hB5⟩
      · have HO := Lib.hid (HOUT.out hin)
        have hbb : decide ((0 : Int) ≤ k ∧ k ≤ (nn : Int) - 1) = false := by simpa using hin
        have HBN := Lib.hid hbb
        clear hbb hin hB3
        go_wp2_with (go_at_call 29; refine (l6In_any _ _ _ _).mono ?_; rintro e w' ⟨rfl, rfl⟩; rw [HBN.out])
        go_ret2
        exact ⟨by rw [HO.out]; rfl, below_step HBB.out HB3.out⟩

end Go.Proofs.Ytfflgjidapclkaa
end
section
/- What holds of trees: for the promises. -/
namespace Go.Proofs.Ytfflgjidapclkaa
open Go.RowKit

theorem parse_star : parse [42] = some .leaf := by
  have := parse_text (t := .leaf) (by simp [T.wf]) (by simp [T.leaves]) (by simp [T.nodes])
  simpa [T.text] using this

mutual
/-- Leaves in the places of all leaves change nothing. -/
theorem fill_leaves : ∀ (t : T) (us : List T), t.wf → t.leaves ≤ us.length → (∀ u ∈ us, u = T.leaf) → t.fill us = t
  | .leaf, us, _, hl, h => by
    cases us with
    | nil => simp [T.leaves] at hl
    | cons u us => simp [T.fill, h u (by simp)]
  | .node c ks, us, hw, hl, h => by
    rw [T.wf] at hw
    rw [T.fill, fillL_leaves ks us hw.2.2.2.2 (by rw [T.leaves] at hl; exact hl) h]
theorem fillL_leaves : ∀ (ks : List T) (us : List T), T.wfL ks → T.leavesL ks ≤ us.length → (∀ u ∈ us, u = T.leaf) → T.fillL ks us = ks
  | [], us, _, _, _ => by simp [T.fillL]
  | k :: ks, us, hw, hl, h => by
    rw [T.wfL] at hw
    rw [T.leavesL] at hl
    rw [T.fillL, fill_leaves k us hw.1 (by omega) h, fillL_leaves ks _ hw.2 (by simp; omega) (fun u hu => h u (List.mem_of_mem_drop hu))]
end

theorem oneIn_leaf (n k : Nat) : ∀ u ∈ oneIn n k .leaf, u = T.leaf := by
  intro u hu
  obtain ⟨j, hj, rfl⟩ := List.getElem_of_mem hu
  rw [oneIn_get hj]
  split <;> rfl

/-- A tree at a leaf that is all: the tree. -/
theorem graft_star_left {s : List UInt8} {t : T} (h : parse s = some t) : graftOf [42] 0 s = some t := by
  have := graftOf_in (k := 0) parse_star h (by simp [T.leaves])
  rw [show ((0 : Nat) : Int) = 0 from rfl] at this
  rw [this]
  simp [T.leaves, oneIn, T.fill]

theorem graft_star_right {s : List UInt8} {t : T} (h : parse s = some t) : graftOf s 0 [42] = some t := by
  obtain ⟨hw, _, hl, hn⟩ := parse_some h
  have hp := leaves_pos t hw
  have := graftOf_in (k := 0) h parse_star (by omega)
  rw [show ((0 : Nat) : Int) = 0 from rfl] at this
  rw [this, fill_leaves t _ hw (by rw [oneIn_length]; exact Nat.le_refl _) (oneIn_leaf _ _)]

theorem done_small {t : T} (hl : t.leaves ≤ 12) (hn : t.nodes ≤ 16) : doneV t = .tuple #[.string ⟨t.text.toArray⟩, .bool true] := doneV_yes (by simp [small]; omega)

mutual
theorem mirror_mirror : ∀ (t : T), t.mirror.mirror = t
  | .leaf => by simp [T.mirror]
  | .node c ks => by
    simp only [T.mirror]
    rw [mirrorL_eq, mirrorL_eq]
    simp only [List.map_reverse, List.reverse_reverse, List.map_map]
    congr 1
    exact mirrorL_mirror ks
theorem mirrorL_mirror : ∀ (ks : List T), ks.map (T.mirror ∘ T.mirror) = ks
  | [] => rfl
  | k :: ks => by simp [mirror_mirror k, mirrorL_mirror ks]
end
end Go.Proofs.Ytfflgjidapclkaa
end
section
/- The promises on one drawn tree. -/
namespace Go.Proofs.Ytfflgjidapclkaa
open Go.RowKit

theorem text_of {s : ByteArray} {t : T} (h : parse s.data.toList = some t) : s = ⟨t.text.toArray⟩ := by
  have := (parse_some h).2.1
  apply ByteArray.ext; apply Array.toList_inj.1; rw [this]

end Go.Proofs.Ytfflgjidapclkaa
end
end
