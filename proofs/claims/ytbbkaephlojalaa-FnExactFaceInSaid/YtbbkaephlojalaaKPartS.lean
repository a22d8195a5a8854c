/- Merged out of: XCut, XPartS. -/
import Derived.Test.YtbbkaephlojalaaTree
import Derived.Test.YtbbkaephlojalaaKMirrorS
section
/- Cutting a tree at a node, plainly. -/
namespace Go.Proofs.Ytbbkaephlojalaa

mutual
def T.cutAt : T → Nat → Option (T × T × Nat)
  | .leaf, _ => none
  | .node c ks, k => if k = 0 then some (.leaf, .node c ks, 0) else
    match T.cutL ks (k - 1) with
    | none => none
    | some (rs, p, a) => some (.node c rs, p, a)
def T.cutL : List T → Nat → Option (List T × T × Nat)
  | [], _ => none
  | t :: ts, k =>
    match t.cutAt k with
    | some (r, p, a) => some (r :: ts, p, a)
    | none =>
      match T.cutL ts (k - t.nodes) with
      | none => none
      | some (rs, p, a) => some (t :: rs, p, t.leaves + a)
end

mutual
theorem cutAt_none : ∀ (t : T) (k : Nat), t.nodes ≤ k → t.cutAt k = none
  | .leaf, k, _ => by rw [T.cutAt]
  | .node c ks, k, h => by
    rw [T.nodes] at h
    rw [T.cutAt, if_neg (by omega), cutL_none ks (k - 1) (by omega)]
theorem cutL_none : ∀ (ks : List T) (k : Nat), T.nodesL ks ≤ k → T.cutL ks k = none
  | [], k, _ => by rw [T.cutL]
  | t :: ts, k, h => by
    rw [T.nodesL] at h
    rw [T.cutL, cutAt_none t k (by omega)]
    simp only
    rw [cutL_none ts (k - t.nodes) (by omega)]
end

mutual
theorem cutAt_some : ∀ (t : T) (k : Nat), k < t.nodes → ∃ r p a, t.cutAt k = some (r, p, a)
  | .leaf, k, h => by rw [T.nodes] at h; omega
  | .node c ks, k, h => by
    rw [T.nodes] at h
    by_cases h0 : k = 0
    · exact ⟨_, _, _, by rw [T.cutAt, if_pos h0]⟩
    · obtain ⟨rs, p, a, e⟩ := cutL_some ks (k - 1) (by omega)
      exact ⟨_, _, _, by rw [T.cutAt, if_neg h0, e]⟩
theorem cutL_some : ∀ (ks : List T) (k : Nat), k < T.nodesL ks → ∃ rs p a, T.cutL ks k = some (rs, p, a)
  | [], k, h => by rw [T.nodesL] at h; omega
  | t :: ts, k, h => by
    rw [T.nodesL] at h
    by_cases h1 : k < t.nodes
    · obtain ⟨r, p, a, e⟩ := cutAt_some t k h1
      exact ⟨_, _, _, by rw [T.cutL, e]⟩
    · obtain ⟨rs, p, a, e⟩ := cutL_some ts (k - t.nodes) (by omega)
      exact ⟨_, _, _, by rw [T.cutL, cutAt_none t k (by omega)]; simp only; rw [e]⟩
end

theorem cutL_here : ∀ (ks : List T) (i kk : Nat) (h : i < ks.length) (r p : T) (a : Nat), kk < (ks[i]).nodes → (ks[i]).cutAt kk = some (r, p, a) →
    T.cutL ks (T.nodesL (ks.take i) + kk) = some (ks.set i r, p, T.leavesL (ks.take i) + a)
  | [], _, _, h, _, _, _, _, _ => by simp at h
  | t :: ts, 0, kk, _, r, p, a, _, e => by
    simp only [List.take_zero, T.nodesL, Nat.zero_add, T.leavesL, List.set_cons_zero]
    rw [T.cutL]
    simp only [List.getElem_cons_zero] at e
    rw [e]
  | t :: ts, i + 1, kk, h, r, p, a, hk, e => by
    simp only [List.getElem_cons_succ] at hk e
    have ih := cutL_here ts i kk (by simpa using h) r p a hk e
    simp only [List.take_succ_cons, T.nodesL, T.leavesL, List.set_cons_succ]
    rw [T.cutL, cutAt_none t _ (by omega)]
    simp only
    rw [show t.nodes + T.nodesL (ts.take i) + kk - t.nodes = T.nodesL (ts.take i) + kk from by omega, ih]
    simp only [Option.some.injEq, Prod.mk.injEq, true_and]
    omega

theorem wfL_set : ∀ (ks : List T) (i : Nat) (r : T), T.wfL ks → r.wf → T.wfL (ks.set i r)
  | [], _, _, _, _ => by simp [T.wfL]
  | t :: ts, 0, r, h, hr => by rw [T.wfL] at h; simp [T.wfL, h.2, hr]
  | t :: ts, i + 1, r, h, hr => by rw [T.wfL] at h; simp [T.wfL, h.1, wfL_set ts i r h.2 hr]

mutual
/-- What is cut: trees, no greater together than the tree. -/
theorem cutAt_wf : ∀ (t : T) (k : Nat) (r p : T) (a : Nat), t.wf → t.cutAt k = some (r, p, a) → r.wf ∧ p.wf ∧ r.text.length + p.text.length ≤ t.text.length + 1 ∧ a ≤ t.leaves
  | .leaf, k, r, p, a, _, h => by rw [T.cutAt] at h; cases h
  | .node c ks, k, r, p, a, hw, h => by
    rw [T.cutAt] at h
    by_cases h0 : k = 0
    · rw [if_pos h0] at h
      simp only [Option.some.injEq, Prod.mk.injEq] at h
      obtain ⟨rfl, rfl, rfl⟩ := h
      exact ⟨by simp [T.wf], hw, by simp [T.text]; omega, by omega⟩
    · rw [if_neg h0] at h
      cases hc : T.cutL ks (k - 1) with
      | none => rw [hc] at h; cases h
      | some q =>
        obtain ⟨rs, p', a'⟩ := q
        rw [hc] at h
        simp only [Option.some.injEq, Prod.mk.injEq] at h
        obtain ⟨rfl, rfl, rfl⟩ := h
        rw [T.wf] at hw
        obtain ⟨h1, h2, h3, h4, h5⟩ := cutL_wf ks (k - 1) rs p' a' hw.2.2.2.2 hc
        refine ⟨by rw [T.wf, h4]; exact ⟨hw.1, hw.2.1, hw.2.2.1, hw.2.2.2.1, h1⟩, h2, ?_, by rw [T.leaves]; exact h5⟩
        simp only [T.text, List.length_cons, List.length_append, List.length_nil]; omega
theorem cutL_wf : ∀ (ks : List T) (k : Nat) (rs : List T) (p : T) (a : Nat), T.wfL ks → T.cutL ks k = some (rs, p, a) → T.wfL rs ∧ p.wf ∧ (T.textL rs).length + p.text.length ≤ (T.textL ks).length + 1 ∧ rs.length = ks.length ∧ a ≤ T.leavesL ks
  | [], k, rs, p, a, _, h => by rw [T.cutL] at h; cases h
  | t :: ts, k, rs, p, a, hw, h => by
    rw [T.cutL] at h
    rw [T.wfL] at hw
    cases hc : t.cutAt k with
    | some q =>
      obtain ⟨r', p', a'⟩ := q
      rw [hc] at h
      simp only [Option.some.injEq, Prod.mk.injEq] at h
      obtain ⟨rfl, rfl, rfl⟩ := h
      obtain ⟨h1, h2, h3, h4⟩ := cutAt_wf t k r' p' a' hw.1 hc
      refine ⟨by rw [T.wfL]; exact ⟨h1, hw.2⟩, h2, ?_, by simp, by rw [T.leavesL]; omega⟩
      simp only [T.textL, List.length_cons, List.length_append]; omega
    | none =>
      rw [hc] at h
      simp only at h
      cases hd : T.cutL ts (k - t.nodes) with
      | none => rw [hd] at h; cases h
      | some q =>
        obtain ⟨rs', p', a'⟩ := q
        rw [hd] at h
        simp only [Option.some.injEq, Prod.mk.injEq] at h
        obtain ⟨rfl, rfl, rfl⟩ := h
        obtain ⟨h1, h2, h3, h4, h5⟩ := cutL_wf ts _ rs' p' a' hw.2 hd
        refine ⟨by rw [T.wfL]; exact ⟨hw.1, h1⟩, h2, ?_, by simp [h4], by rw [T.leavesL]; omega⟩
        simp only [T.textL, List.length_cons, List.length_append]; omega
end

mutual
/-- A tree in the place of the part at a node. -/
def T.putAt : T → Nat → T → T
  | .leaf, _, _ => .leaf
  | .node c ks, k, s => if k = 0 then s else .node c (T.putL ks (k - 1) s)
def T.putL : List T → Nat → T → List T
  | [], _, _ => []
  | t :: ts, k, s => if k < t.nodes then t.putAt k s :: ts else t :: T.putL ts (k - t.nodes) s
end

mutual
theorem cut_put : ∀ (t : T) (k : Nat) (r p : T) (a : Nat), t.cutAt k = some (r, p, a) → r = t.putAt k .leaf
  | .leaf, k, r, p, a, h => by rw [T.cutAt] at h; cases h
  | .node c ks, k, r, p, a, h => by
    rw [T.cutAt] at h
    rw [T.putAt]
    by_cases h0 : k = 0
    · rw [if_pos h0] at h ⊢
      simp only [Option.some.injEq, Prod.mk.injEq] at h
      exact h.1.symm
    · rw [if_neg h0] at h ⊢
      cases hc : T.cutL ks (k - 1) with
      | none => rw [hc] at h; cases h
      | some q =>
        obtain ⟨rs, p', a'⟩ := q
        rw [hc] at h
        simp only [Option.some.injEq, Prod.mk.injEq] at h
        rw [← h.1, cut_putL ks (k - 1) rs p' a' hc]
theorem cut_putL : ∀ (ks : List T) (k : Nat) (rs : List T) (p : T) (a : Nat), T.cutL ks k = some (rs, p, a) → rs = T.putL ks k .leaf
  | [], k, rs, p, a, h => by rw [T.cutL] at h; cases h
  | t :: ts, k, rs, p, a, h => by
    rw [T.cutL] at h
    rw [T.putL]
    cases hc : t.cutAt k with
    | some q =>
      obtain ⟨r', p', a'⟩ := q
      have hlt : k < t.nodes := by
        rcases Nat.lt_or_ge k t.nodes with h1 | h1
        · exact h1
        · rw [cutAt_none t k h1] at hc; cases hc
      rw [hc] at h
      simp only [Option.some.injEq, Prod.mk.injEq] at h
      rw [if_pos hlt, ← h.1, cut_put t k r' p' a' hc]
    | none =>
      have hge : ¬ k < t.nodes := fun h1 => by
        obtain ⟨r', p', a', e⟩ := cutAt_some t k h1
        rw [e] at hc; cases hc
      rw [hc] at h
      simp only at h
      rw [if_neg hge]
      cases hd : T.cutL ts (k - t.nodes) with
      | none => rw [hd] at h; cases h
      | some q =>
        obtain ⟨rs', p', a'⟩ := q
        rw [hd] at h
        simp only [Option.some.injEq, Prod.mk.injEq] at h
        rw [← h.1, cut_putL ts _ rs' p' a' hd]
end

theorem putL_length : ∀ (ks : List T) (k : Nat) (s : T), (T.putL ks k s).length = ks.length
  | [], _, _ => by simp [T.putL]
  | t :: ts, k, s => by
    rw [T.putL]
    split
    · simp
    · simp [putL_length ts]

theorem putL_get : ∀ (ks : List T) (k : Nat) (s : T) (i : Nat) (h : i < ks.length), (T.putL ks k s)[i]'(by rw [putL_length]; exact h) =
    if T.nodesL (ks.take i) ≤ k ∧ k < T.nodesL (ks.take i) + (ks[i]).nodes then (ks[i]).putAt (k - T.nodesL (ks.take i)) s else ks[i]
  | [], _, _, _, h => by simp at h
  | t :: ts, k, s, 0, _ => by
    simp only [List.take_zero, T.nodesL, Nat.zero_add, List.getElem_cons_zero, Nat.sub_zero, Nat.zero_le, true_and]
    by_cases h1 : k < t.nodes
    · simp only [T.putL, if_pos h1, List.getElem_cons_zero]
    · simp only [T.putL, if_neg h1, List.getElem_cons_zero]
  | t :: ts, k, s, i + 1, h => by
    have ih := putL_get ts (k - t.nodes) s i (by simpa using h)
    simp only [List.take_succ_cons, T.nodesL, List.getElem_cons_succ]
    by_cases h1 : k < t.nodes
    · simp only [T.putL, if_pos h1, List.getElem_cons_succ]
      rw [if_neg (by omega)]
    · simp only [T.putL, if_neg h1, List.getElem_cons_succ]
      rw [ih]
      by_cases h2 : T.nodesL (ts.take i) ≤ k - t.nodes ∧ k - t.nodes < T.nodesL (ts.take i) + (ts[i]'(by simpa using h)).nodes
      · rw [if_pos h2, if_pos (by omega), show k - t.nodes - T.nodesL (ts.take i) = k - (t.nodes + T.nodesL (ts.take i)) from by omega]
      · rw [if_neg h2, if_neg (by omega)]

mutual
theorem putAt_wf : ∀ (t : T) (k : Nat) (s : T), t.wf → s.wf → (t.putAt k s).wf
  | .leaf, k, s, h, hs => by rw [T.putAt]; exact h
  | .node c ks, k, s, h, hs => by
    rw [T.putAt]
    split
    · exact hs
    · rw [T.wf] at h ⊢
      rw [putL_length]
      exact ⟨h.1, h.2.1, h.2.2.1, h.2.2.2.1, putL_wf ks _ s h.2.2.2.2 hs⟩
theorem putL_wf : ∀ (ks : List T) (k : Nat) (s : T), T.wfL ks → s.wf → T.wfL (T.putL ks k s)
  | [], _, _, _, _ => by simp [T.putL, T.wfL]
  | t :: ts, k, s, h, hs => by
    rw [T.wfL] at h
    rw [T.putL]
    split
    · rw [T.wfL]; exact ⟨putAt_wf t k s h.1 hs, h.2⟩
    · rw [T.wfL]; exact ⟨h.1, putL_wf ts _ s h.2 hs⟩
end

end Go.Proofs.Ytbbkaephlojalaa
end
section
/- The model: the part at a node. -/
namespace Go.Proofs.Ytbbkaephlojalaa
open Go.RowKit

/-- A part is handed back, where it lay. -/
def PartS (P : Nat → Prop) (p : T) (a : Nat) (w : World) (e : Ending) (w' : World) : Prop :=
  Below w.heap.size w w' ∧ ∃ (lb : ByteArray) (sa : Option Addr) (sn sc : Nat), e = .returned (.tuple #[.agg #[.string lb, .slice sa sn sc], .int .i64 a]) ∧ RepS w' P p (.string lb) (.slice sa sn sc)

theorem RepS.shape' {w : World} {P : Nat → Prop} {t : T} {l s : Value} (h : RepS w P t l s) : ∃ (lb : ByteArray) (sa : Option Addr) (sn sc : Nat), l = .string lb ∧ s = .slice sa sn sc := by
  cases t with
  | leaf => rw [RepS] at h; exact ⟨_, _, _, _, h.1, h.2⟩
  | node c ks => rw [RepS] at h; obtain ⟨h1, g, cap, h2, _⟩ := h; exact ⟨_, _, _, _, h1, h2⟩

set_option maxRecDepth 100000 in
set_option maxHeartbeats 2000000 in
theorem l1Part_any (m : Nat) : ∀ (t : T) (l s : Value) (k : Nat) (r p : T) (a : Nat) (w : World) (P : Nat → Prop), SizeOf.sizeOf t ≤ m → t.wf → t.leaves < 1000000 → t.nodes < 1000000 → k < t.nodes → t.cutAt k = some (r, p, a) → (∀ b, P b → b < w.heap.size) → RepS w P t l s →
    Calls Try.prog 46 #[.agg #[l, s], .int .i64 k] w (PartS P p a w) := by
  induction m with
  | zero => intro t l s k r p a w P h; cases t <;> simp at h <;> omega
  | succ m ih =>
    intro t l s k r p a w P hn hwf hlv hnd hk hcut hP hr
    cases t with
    | leaf => rw [T.nodes] at hk; omega
    | node c ks =>
      have HR := Lib.hid hr
      rw [RepS] at hr
      obtain ⟨rfl, g, cap, rfl, hPg, hk6, hL⟩ := hr
      have HWF := Lib.hid hwf
      rw [T.wf] at hwf
      have hwk := Lib.hid hwf.2.2.2.2
      have HL := Lib.hid hL
      have HC := Lib.hid hcut
      clear hL hwf hcut
      by_cases h0 : k = 0
      · have hc := HC.out
        rw [T.cutAt, if_pos h0] at hc
        simp only [Option.some.injEq, Prod.mk.injEq] at hc
        obtain ⟨rfl, rfl, rfl⟩ := hc
        subst h0
        go_enter Try.func46, Try.ntmps46
        go_wp2_with fail
        refine bodyPost_ret (v := .tuple #[.agg #[.string ⟨#[c]⟩, .slice (some ⟨g, 0, none⟩) ks.length cap], .int .i64 0]) (by simp [results, Try.results46, go_sem]) rfl ?_
        have hb : Below w.heap.size w ((w.alloc (.cells #[.string ⟨#[c]⟩, .slice (some ⟨g, 0, none⟩) ks.length cap] 39 (0, 0))).alloc (.cells #[.string ⟨#[c]⟩, .slice (some ⟨g, 0, none⟩) ks.length cap] 39 (0, 0))) := by go_grown
        exact ⟨hb, _, _, _, _, rfl, HR.out.below HWF.out hb⟩
      · have hk0 : ((k : Int) == 0) = false := by simpa using h0
        have hcl : ∃ rs, T.cutL ks (k - 1) = some (rs, p, a) := by
          have hc := HC.out
          rw [T.cutAt, if_neg h0] at hc
          cases hq : T.cutL ks (k - 1) with
          | none => rw [hq] at hc; cases hc
          | some q =>
            obtain ⟨rs, p', a'⟩ := q
            rw [hq] at hc
            simp only [Option.some.injEq, Prod.mk.injEq] at hc
            exact ⟨rs, by rw [hc.2.1, hc.2.2]⟩
        obtain ⟨rs, hcl⟩ := hcl
        have HCL := Lib.hid hcl
        have hk1 : 1 ≤ k := by omega
        rw [T.nodes] at hk hnd
        rw [T.leaves] at hlv
        clear hcl h0
        go_enter Try.func46, Try.ntmps46
        go_wp2_with fail
        go_loopw [1, 6, 7] (fun kv av iv wr => ∃ (i kk : Nat), i ≤ ks.length ∧ k - 1 = T.nodesL (ks.take i) + kk ∧ kv = .int .i64 kk ∧ av = .int .i64 (T.leavesL (ks.take i)) ∧ iv = .int .i64 i ∧
            wr.heap[w.heap.size]? = some (.cells #[.string ⟨#[c]⟩, .slice (some ⟨g, 0, none⟩) ks.length cap] 39 (0, 0)) ∧
            wr.heap[w.heap.size + 1]? = some (.cells #[.string ⟨#[]⟩, .slice none 0 0] 39 (0, 0)) ∧ Below w.heap.size w wr) (fun _ _ iv _ => ks.length - (intOf iv).toNat)
        case atStart =>
          refine ⟨0, k - 1, Nat.zero_le _, by simp [T.nodesL], by go_num, by simp [T.leavesL], rfl, ?_, ?_, by go_grown⟩
          · rw [Below.heap_alloc _ _ _ (by simp)]; exact heap_alloc_new w _
          · have := heap_alloc_new (w.alloc (Obj.cells #[Value.string { data := #[c] }, Value.slice (some { block := g, off := 0 }) ks.length cap] 39)) (Obj.cells #[Value.string { data := #[] }, Value.slice none 0 0] 39)
            simpa using this
        case round =>
          obtain ⟨i, kk, hi, hkk, rfl, rfl, rfl, hb0, hb1, hB⟩ := hrel
          obtain ⟨c0, c1, _, _⟩ := two_cells hb0
          obtain ⟨r0, r1, f0, f1⟩ := two_cells hb1
          have HB0 := Lib.hid hb0
          have HB1 := Lib.hid hb1
          have hzr := (Array.getElem?_eq_some_iff.1 hb1).1
          have HKK := Lib.hid hkk
          have hle0 := nodesL_take_le (ks := ks) i
          have hll0 := leavesL_take_le (ks := ks) i
          have hkkb : kk ≤ k := by omega
          clear hb0 hb1 hkk
          by_cases hlt : i < ks.length
          · obtain ⟨l', s', d1, d2, d3⟩ := HL.out.get i hlt
            rw [Nat.zero_add] at d1 d2
            have hwi := wfL_get hwk.out i hlt
            have hle := nodesL_take_le (ks := ks) (i + 1)
            have hll := leavesL_take_le (ks := ks) (i + 1)
            rw [nodesL_take hlt] at hle
            rw [leavesL_take hlt] at hll
            have hd : SizeOf.sizeOf ks[i] < SizeOf.sizeOf ks := List.sizeOf_lt_of_mem (List.getElem_mem hlt)
            simp only [T.node.sizeOf_spec] at hn
            have d1' : wr.cell? ⟨g, i * 2, none⟩ = some l' := keep1 hB d1
            have d2' : wr.cell? ⟨g, i * 2 + 1, none⟩ = some s' := keep1 hB d2
            have HD := Lib.hid (d3.below hwi hB)
            have hni : (ks[i]).nodes < 1000000 := by omega
            have hnl : (ks[i]).leaves < 1000000 := by omega
            have HN := Lib.hid (l1Nodes_any _ ks[i] l' s' wr P (Nat.le_refl _) hwi hni HD.out)
            clear d1 d2 d3
            go_wp2_with fail
            refine HN.out.mono ?_
            rintro e w1 ⟨rfl, hB1⟩
            have hz1 := hB1.size
            have hb01 : w1.heap[w.heap.size]? = _ := (hB1.block _ ((Array.getElem?_eq_some_iff.1 HB0.out).1)).trans HB0.out
            have hb11 : w1.heap[w.heap.size + 1]? = _ := (hB1.block _ ((Array.getElem?_eq_some_iff.1 HB1.out).1)).trans HB1.out
            obtain ⟨x0, x1, _, _⟩ := two_cells hb01
            obtain ⟨y0, y1, g0, g1⟩ := two_cells hb11
            have e1 := keep1 hB1 d1'
            have e2 := keep1 hB1 d2'
            have HD1 := Lib.hid (HD.out.below hwi hB1)
            have HB01 := Lib.hid hb01
            have HB11 := Lib.hid hb11
            clear hb01 hb11
            by_cases hin : (kk : Int) < (ks[i]).nodes
            · obtain ⟨r', p', a', hcut⟩ := cutAt_some ks[i] kk (by omega)
              have hh := cutL_here ks i kk hlt r' p' a' (by omega) hcut
              rw [← HKK.out, HCL.out] at hh
              simp only [Option.some.injEq, Prod.mk.injEq] at hh
              obtain ⟨_, hpp, haa⟩ := hh
              subst hpp
              have ha' := (cutAt_wf _ _ _ _ _ hwi hcut).2.2.2
              have HI := Lib.hid (ih ks[i] l' s' kk r' p a' w1 P (by omega) hwi hnl hni (by omega) hcut (fun b hb => by have := hP b hb; have := hB.size; omega) HD1.out)
              have HA := Lib.hid haa
              have HPW := Lib.hid (cutAt_wf _ _ _ _ _ hwi hcut).2.1
              clear haa hcut ih hd
              go_wp2_with fail
              refine HI.out.mono ?_
              rintro e w2 ⟨hB2, lb, sa, sn, sc, rfl, hrep⟩
              have hz2 := hB2.size
              have hb12 : w2.heap[w.heap.size + 1]? = _ := (hB2.block _ (by omega)).trans HB11.out
              obtain ⟨u0, u1, v0, v1⟩ := two_cells hb12
              have hz : w.heap.size + 1 < w2.heap.size := by omega
              have HRP := Lib.hid hrep
              clear hb12 hrep
              go_wp2_with fail
              refine bodyPost_ret (v := .tuple #[.agg #[.string lb, .slice sa sn sc], .int .i64 ((T.leavesL (ks.take i) : Int) + a')]) (by simp [results, Try.results46, go_sem, u0, u1, hz]) rfl ?_
              have hbb : Below w.heap.size w w2 := (hB.trans (hB1.mono hB.size)).trans (hB2.mono (by have := hB.size; omega))
              refine ⟨((hbb.setCell (by simp) _).setCell (by simp) _).alloc (by simp; omega) _, _, _, _, _, by rw [HA.out]; rfl, ?_⟩
              refine HRP.out.keep ?_ (fun _ h _ => h) HPW.out
              intro q u hq hu
              have hqb := hP _ hq
              rw [World.cell?_of_block (w := w2)]
              · exact hu
              · rw [Below.heap_alloc _ _ _ (by simp; omega), Below.heap_setCell _ _ _ _ (by simp; omega), Below.heap_setCell _ _ _ _ (by simp; omega)]
            · have HL2 := Lib.hid (l1Leaves_any _ ks[i] l' s' w1 P (Nat.le_refl _) hwi hnl HD1.out)
              have HT := Lib.hid (nodesL_take hlt)
              have HTL := Lib.hid (leavesL_take hlt)
              have hkn : (((kk : Int) - (ks[i]).nodes)) = ((kk - (ks[i]).nodes : Nat) : Int) := by omega
              have HKN := Lib.hid hkn
              clear ih hd hkn
              go_wp2_with fail
              refine HL2.out.mono ?_
              rintro e w2 ⟨rfl, hB2⟩
              have H1 := Lib.hid ((hB2.block _ (by omega)).trans HB01.out)
              have H2 := Lib.hid ((hB2.block _ (by omega)).trans HB11.out)
              have HB2 := Lib.hid (below_step (below_step hB hB1) hB2)
              go_wp2_with fail
              go_roundw
              case rel => exact ⟨i + 1, kk - (ks[i]).nodes, by omega, by rw [HT.out, HKK.out]; omega, by rw [HKN.out], by rw [HTL.out]; go_num, by go_num, H1.out, H2.out, HB2.out⟩
              case measure => simp [intOf]; omega
          · exfalso
            have hii : i = ks.length := by omega
            subst hii
            have := HKK.out
            rw [List.take_length] at this
            omega
end Go.Proofs.Ytbbkaephlojalaa
end
