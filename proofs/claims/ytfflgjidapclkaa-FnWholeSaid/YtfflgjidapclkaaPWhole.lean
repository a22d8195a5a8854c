/- Grafting at all leaves, from the last one on: plain mathematics. -/
import Derived.Test.YtfflgjidapclkaaKPatM
import Derived.Test.YtfflgjidapclkaaKWholeS
namespace Go.Proofs.Ytfflgjidapclkaa
open Go.RowKit

/-- Leaves up to i, then the trees. -/
def lastOf (us : List T) (i : Nat) : List T := List.replicate i T.leaf ++ us.drop i

theorem lastOf_length {us : List T} {i : Nat} (h : i ≤ us.length) : (lastOf us i).length = us.length := by simp [lastOf]; omega

theorem lastOf_get {us : List T} {i : Nat} (h : i ≤ us.length) (j : Nat) (hj : j < us.length) : (lastOf us i)[j]'(by rw [lastOf_length h]; exact hj) = if j < i then T.leaf else us[j] := by
  simp only [lastOf, List.getElem_append, List.length_replicate, List.getElem_replicate, List.getElem_drop]
  by_cases h1 : j < i
  · rw [dif_pos h1, if_pos h1]
  · rw [dif_neg h1, if_neg h1]
    congr 1; omega

theorem lastOf_zero (us : List T) : lastOf us 0 = us := by simp [lastOf]

theorem lastOf_wf {us : List T} (hw : T.wfL us) (i : Nat) : T.wfL (lastOf us i) := by
  rw [lastOf, wfL_append]
  refine ⟨wfL_of (fun j hj => by simp [T.wf]), ?_⟩
  have := wfL_append (us.take i) (us.drop i)
  rw [List.take_append_drop] at this
  exact (this.1 hw).2

theorem lastOf_count {us : List T} (hw : T.wfL us) {i : Nat} (h : i ≤ us.length) : T.leavesL (lastOf us i) ≤ T.leavesL us ∧ T.nodesL (lastOf us i) ≤ T.nodesL us ∧ i ≤ T.leavesL (us.take i) := by
  have h1 := leavesL_append (us.take i) (us.drop i)
  have h2 := nodesL_append (us.take i) (us.drop i)
  rw [List.take_append_drop] at h1 h2
  have h3 := leavesL_rep i
  have h4 : i ≤ T.leavesL (us.take i) := by
    clear h1 h2 h3
    induction i with
    | zero => omega
    | succ i ih =>
      have := ih (by omega)
      rw [leavesL_take (show i < us.length by omega)]
      have := leaves_pos _ (wfL_get hw i (by omega))
      omega
  rw [lastOf, leavesL_append, nodesL_append, h3.1, h3.2]
  omega

theorem take_leaves {us : List T} {i : Nat} (_h : i ≤ us.length) (j : Nat) (hj : j ≤ i) : T.leavesL ((lastOf us i).take j) = j := by
  have e : (lastOf us i).take j = List.replicate j T.leaf := by
    rw [lastOf, List.take_append_of_le_length (by simpa using hj), List.take_replicate]
    congr 1; omega
  rw [e, (leavesL_rep j).1]

/-- One tree more at its leaf. -/
theorem last_step {t : T} {us : List T} (huw : T.wfL us) (hl : us.length = t.leaves) {i : Nat} (hi : i < us.length) :
    (t.fill (lastOf us (i + 1))).fill (oneIn (t.fill (lastOf us (i + 1))).leaves i us[i]) = t.fill (lastOf us i) ∧ i < (t.fill (lastOf us (i + 1))).leaves := by
  have hlen := lastOf_length (us := us) (i := i + 1) (by omega)
  have hc := (fill_count t (lastOf us (i + 1)) (by omega)).1
  rw [List.take_of_length_le (by omega)] at hc
  have hd : ∀ j, j < us.length → T.leavesL ((lastOf us (i + 1)).take j) + ((lastOf us (i + 1))[j]?.getD T.leaf).leaves ≤ T.leavesL (lastOf us (i + 1)) := by
    intro j hj
    have h1 := leavesL_take (ks := lastOf us (i + 1)) (k := j) (by omega)
    have h2 := leavesL_take_le (ks := lastOf us (i + 1)) (j + 1)
    rw [List.getElem?_eq_getElem (by omega)]
    simp only [Option.getD_some]; omega
  have hiL : i < (t.fill (lastOf us (i + 1))).leaves := by
    rw [hc]
    have h1 := hd i hi
    rw [take_leaves (by omega) i (by omega), List.getElem?_eq_getElem (by omega), lastOf_get (by omega) i hi, if_pos (by omega)] at h1
    simp only [Option.getD_some, T.leaves] at h1; omega
  refine ⟨?_, hiL⟩
  rw [fill_fill t _ _ (by omega)]
  congr 1
  apply List.ext_getElem (by rw [fillL_length, hlen, lastOf_length (by omega)])
  intro j h1 h2
  rw [lastOf_length (by omega)] at h2
  rw [fillL_get _ _ j (by omega), lastOf_get (by omega) j h2, lastOf_get (by omega) j h2]
  by_cases h3 : j < i + 1
  · rw [if_pos h3, take_leaves (by omega) j (by omega), leaf_drop]
    by_cases h4 : j = i
    · subst h4
      rw [if_pos ⟨rfl, hiL⟩, if_neg (by omega)]
    · rw [if_neg (fun x => h4 x.1), if_pos (by omega)]
  · rw [if_neg h3, if_neg (by omega)]
    have h5 := hd j h2
    rw [List.getElem?_eq_getElem (by omega), lastOf_get (by omega) j h2, if_neg h3] at h5
    simp only [Option.getD_some] at h5
    have h6 : i + 1 ≤ T.leavesL ((lastOf us (i + 1)).take j) := by
      have e : (lastOf us (i + 1)).take j = List.replicate (i + 1) T.leaf ++ (us.drop (i + 1)).take (j - (i + 1)) := by
        rw [lastOf, List.take_append, List.length_replicate, List.take_of_length_le (by simp; omega)]
      rw [e, leavesL_append, (leavesL_rep (i + 1)).1]; omega
    refine fill_lv _ _ (wfL_get huw j h2) (fun m hm => ?_)
    rw [List.getElem?_drop, one_at, if_pos (by omega), if_neg (by omega)]

/-- What grafting at all leaves gives: nothing, or a tree and all that is between. -/
theorem whole_cases (s : List UInt8) (ps : List (List UInt8)) : graftV (wholeOf s ps) = .tuple #[.string ⟨#[]⟩, .bool false] ∨
    ∃ (t x : T) (us : List T), parse s = some t ∧ us.length = t.leaves ∧ ps.length = t.leaves ∧ T.wfL us ∧ x = t.fill us ∧ x.leaves ≤ 12 ∧ x.nodes ≤ 16 ∧ (∀ j (h : j < ps.length) (h' : j < us.length), parse ps[j] = some us[j]) ∧ graftV (wholeOf s ps) = .tuple #[.string ⟨x.text.toArray⟩, .bool true] := by
  cases hp : parse s with
  | none => left; rw [wholeOf_no hp]; rfl
  | some t =>
    by_cases hl : ps.length = t.leaves
    · by_cases hb : ∃ j, ∃ h : j < ps.length, parse ps[j] = none
      · obtain ⟨j, h, hj⟩ := hb
        left; rw [wholeOf_bad h hj]; rfl
      · have hsome : ∀ j (h : j < ps.length), ∃ u, parse ps[j] = some u := by
          intro j h
          cases hq : parse ps[j] with
          | none => exact absurd ⟨j, h, hq⟩ hb
          | some u => exact ⟨u, rfl⟩
        let us := ps.map (fun p => (parse p).getD T.leaf)
        have hul : us.length = ps.length := by simp [us]
        have hj : ∀ j (h : j < ps.length) (h' : j < us.length), parse ps[j] = some us[j] := by
          intro j h h'
          obtain ⟨u, hu⟩ := hsome j h
          simp [us, hu]
        have hw : T.wfL us := wfL_of (fun j h' => by
          have := hj j (by omega) h'
          exact (parse_some this).1)
        rw [wholeOf_yes hp hl hul hj]
        by_cases hs : (t.fill us).leaves ≤ 12 ∧ (t.fill us).nodes ≤ 16
        · right
          exact ⟨t, _, us, rfl, by omega, hl, hw, rfl, hs.1, hs.2, hj, by rw [graftV, done_small hs.1 hs.2]⟩
        · left; rw [graftV, doneV, if_neg hs]
    · left; rw [wholeOf_len hp hl]; rfl

/-- Each step from the last one on. -/
theorem whole_step {t x : T} {us : List T} (htw : t.wf) (huw : T.wfL us) (hl : us.length = t.leaves) (hx : x = t.fill us) (hxl : x.leaves ≤ 12) (hxn : x.nodes ≤ 16) {i : Nat} (hi : i ≤ us.length) :
    parse (t.fill (lastOf us i)).text = some (t.fill (lastOf us i)) := by
  have h1 := fill_count t (lastOf us i) (by rw [lastOf_length hi]; omega)
  have h2 := fill_count t us (by omega)
  rw [List.take_of_length_le (by rw [lastOf_length hi]; omega)] at h1
  rw [List.take_of_length_le (by omega)] at h2
  have h3 := lastOf_count huw hi
  rw [← hx] at h2
  exact parse_text (fill_wf t _ htw (lastOf_wf huw i)) (by omega) (by omega)

theorem last_all {t : T} {us : List T} (htw : t.wf) (hl : us.length = t.leaves) : t.fill (lastOf us us.length) = t := by
  refine fill_lv t _ htw (fun j hj => ?_)
  rw [List.getElem?_eq_getElem (by rw [lastOf_length (Nat.le_refl _)]; omega), lastOf_get (Nat.le_refl _) j (by omega), if_pos (by omega)]

/-- Leaves at all leaves. -/
theorem whole_stars {s : List UInt8} {t : T} (h : parse s = some t) (n : Nat) (hn : n = t.leaves) : graftV (wholeOf s (List.replicate n [42])) = .tuple #[.string ⟨t.text.toArray⟩, .bool true] := by
  obtain ⟨hw, _, hl, hnd⟩ := parse_some h
  rw [wholeOf_yes (us := List.replicate n T.leaf) h (by simpa using hn) (by simp) (fun j hj hj' => by simp [parse_star]), graftV]
  rw [fill_lv t _ hw (fun j hj => by rw [List.getElem?_replicate, if_pos (by omega)]), done_small hl hnd]
end Go.Proofs.Ytfflgjidapclkaa
