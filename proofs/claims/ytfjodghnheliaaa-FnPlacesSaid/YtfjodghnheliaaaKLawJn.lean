/- Merged out of: XJnM, XDrawP, XLawJn. -/
import Derived.Test.YtfjodghnheliaaaKPlS
import Derived.Test.YtfjodghnheliaaaKPLaws25
import Derived.Test.YtfjodghnheliaaaKLawPl
section
/- What is joined has both: plain mathematics. -/
namespace Go.Proofs.Ytfjodghnheliaaa

theorem partsL_is {ks js : List T} (h : ks.length = js.length) (hk : ∀ i (h1 : i < ks.length) (h2 : i < js.length), ∃ a, (ks[i]).partsOf (js[i]) = some a) : ∃ a, T.partsL ks js = some a := by
  induction ks generalizing js with
  | nil => exact ⟨[], by rw [partsL_nil]⟩
  | cons x ks ih =>
    cases js with
    | nil => simp at h
    | cons y js =>
      obtain ⟨a, ha⟩ := hk 0 (by simp) (by simp)
      obtain ⟨b, hb⟩ := ih (by simpa using h) (fun i h1 h2 => by
        have := hk (i + 1) (by simpa using h1) (by simpa using h2)
        simpa using this)
      simp only [List.getElem_cons_zero] at ha
      exact ⟨a ++ b, by rw [partsL_cons, ha, hb]⟩

theorem partsOf_self : ∀ (m : Nat) (p : T), SizeOf.sizeOf p ≤ m → ∃ a, p.partsOf p = some a
  | 0, p, h => by cases p <;> simp at h <;> omega
  | m + 1, .leaf, _ => ⟨_, partsOf_leaf _⟩
  | m + 1, .node c ks, h => by
    obtain ⟨a, ha⟩ := partsL_is (ks := ks) (js := ks) rfl (fun i h1 _ => partsOf_self m ks[i] (by
      have h2 : SizeOf.sizeOf ks[i] < SizeOf.sizeOf ks := List.sizeOf_lt_of_mem (List.getElem_mem h1)
      simp only [T.node.sizeOf_spec] at h
      omega))
    exact ⟨a, by rw [partsOf_same rfl]; exact ha⟩

theorem uniteL_get : ∀ (ks js us : List T), ks.length = js.length → T.uniteL ks js = some us → us.length = ks.length ∧ ∀ i (h1 : i < ks.length) (h2 : i < js.length) (h3 : i < us.length), (ks[i]).unite (js[i]) = some us[i]
  | [], js, us, _, h => by
    rw [uniteL_nil, Option.some.injEq] at h
    subst h
    exact ⟨rfl, fun i h1 => by simp at h1⟩
  | k :: ks, [], us, hl, _ => by simp at hl
  | k :: ks, j :: js, us, hl, h => by
    rw [uniteL_cons] at h
    cases hu : k.unite j with
    | none => rw [hu] at h; cases h
    | some u =>
      rw [hu] at h
      simp only at h
      cases hr : T.uniteL ks js with
      | none => rw [hr] at h; cases h
      | some vs =>
        rw [hr] at h
        simp only [Option.some.injEq] at h
        subst h
        obtain ⟨h1, h2⟩ := uniteL_get ks js vs (by simpa using hl) hr
        refine ⟨by simp [h1], fun i a1 a2 a3 => ?_⟩
        cases i with
        | zero => simpa using hu
        | succ i => simpa using h2 i (by simpa using a1) (by simpa using a2) (by simpa using a3)

/-- Both trees stand in what is laid one over the other. -/
theorem unite_fits : ∀ (m : Nat) (p s u : T), SizeOf.sizeOf p ≤ m → p.unite s = some u → (∃ a, p.partsOf u = some a) ∧ (∃ a, s.partsOf u = some a)
  | 0, p, _, _, h, _ => by cases p <;> simp at h <;> omega
  | m + 1, .leaf, s, u, _, h => by
    rw [unite_leaf, Option.some.injEq] at h
    subst h
    exact ⟨⟨_, partsOf_leaf _⟩, partsOf_self _ s (Nat.le_refl _)⟩
  | m + 1, .node c ks, .leaf, u, hm, h => by
    rw [unite_leaf2, Option.some.injEq] at h
    subst h
    exact ⟨partsOf_self _ _ (Nat.le_refl _), ⟨_, partsOf_leaf _⟩⟩
  | m + 1, .node c ks, .node d js, u, hm, h => by
    rw [T.unite] at h
    split at h
    · next hc =>
      obtain ⟨rfl, hlen⟩ := hc
      cases hu : T.uniteL ks js with
      | none => rw [hu] at h; cases h
      | some us =>
        rw [hu] at h
        simp only [Option.some.injEq] at h
        subst h
        obtain ⟨hl, hg⟩ := uniteL_get ks js us hlen hu
        simp only [T.node.sizeOf_spec] at hm
        have hrec : ∀ i (h1 : i < ks.length) (h2 : i < js.length) (h3 : i < us.length), (∃ a, (ks[i]).partsOf us[i] = some a) ∧ (∃ a, (js[i]).partsOf us[i] = some a) := fun i h1 h2 h3 =>
          unite_fits m ks[i] js[i] us[i] (by
            have h2 : SizeOf.sizeOf ks[i] < SizeOf.sizeOf ks := List.sizeOf_lt_of_mem (List.getElem_mem h1)
            omega) (hg i h1 h2 h3)
        obtain ⟨a, ha⟩ := partsL_is (ks := ks) (js := us) hl.symm (fun i h1 h2 => (hrec i h1 (by omega) h2).1)
        obtain ⟨b, hb⟩ := partsL_is (ks := js) (js := us) (by omega) (fun i h1 h2 => (hrec i (by omega) h1 h2).2)
        exact ⟨⟨a, by rw [partsOf_same hl.symm]; exact ha⟩, ⟨b, by rw [partsOf_same (by omega)]; exact hb⟩⟩
    · cases h

mutual
/-- A tree stands where it stood when the part at a node has become greater. -/
theorem put_fits : ∀ (t : T) (k : Nat) (r s u : T) (a : Nat), t.cutAt k = some (r, s, a) → (∃ b, s.partsOf u = some b) → ∃ b, t.partsOf (t.putAt k u) = some b
  | .leaf, k, r, s, u, a, h, _ => by rw [T.cutAt] at h; cases h
  | .node c ks, k, r, s, u, a, h, hs => by
    rw [T.cutAt] at h
    rw [T.putAt]
    by_cases h0 : k = 0
    · rw [if_pos h0] at h ⊢
      simp only [Option.some.injEq, Prod.mk.injEq] at h
      rw [← h.2.1] at hs
      exact hs
    · rw [if_neg h0] at h ⊢
      cases hc : T.cutL ks (k - 1) with
      | none => rw [hc] at h; cases h
      | some v =>
        obtain ⟨rs, q, b⟩ := v
        rw [hc] at h
        simp only [Option.some.injEq, Prod.mk.injEq] at h
        obtain ⟨hl, d, hd⟩ := putL_fits ks (k - 1) rs q u b hc (by rw [h.2.1]; exact hs)
        exact ⟨d, by rw [partsOf_same hl.symm]; exact hd⟩
theorem putL_fits : ∀ (ks : List T) (k : Nat) (rs : List T) (s u : T) (a : Nat), T.cutL ks k = some (rs, s, a) → (∃ b, s.partsOf u = some b) → (T.putL ks k u).length = ks.length ∧ ∃ b, T.partsL ks (T.putL ks k u) = some b
  | [], k, rs, s, u, a, h, _ => by rw [T.cutL] at h; cases h
  | t :: ts, k, rs, s, u, a, h, hs => by
    rw [T.cutL] at h
    rw [T.putL]
    cases hc : t.cutAt k with
    | some v =>
      obtain ⟨r, q, b⟩ := v
      rw [hc] at h
      simp only [Option.some.injEq, Prod.mk.injEq] at h
      have hk : k < t.nodes := by
        by_cases hk : k < t.nodes
        · exact hk
        · rw [cutAt_none t k (by omega)] at hc; cases hc
      rw [if_pos hk]
      obtain ⟨d, hd⟩ := put_fits t k r q u b hc (by rw [h.2.1]; exact hs)
      obtain ⟨e, he⟩ := partsL_is (ks := ts) (js := ts) rfl (fun i _ _ => partsOf_self _ _ (Nat.le_refl _))
      exact ⟨by simp, d ++ e, by rw [partsL_cons, hd, he]⟩
    | none =>
      rw [hc] at h
      simp only at h
      have hk : ¬ k < t.nodes := fun hk => by
        obtain ⟨r, q, b, e⟩ := cutAt_some t k hk
        rw [e] at hc; cases hc
      rw [if_neg hk]
      cases hc2 : T.cutL ts (k - t.nodes) with
      | none => rw [hc2] at h; cases h
      | some v =>
        obtain ⟨r, q, b⟩ := v
        rw [hc2] at h
        simp only [Option.some.injEq, Prod.mk.injEq] at h
        obtain ⟨hl, d, hd⟩ := putL_fits ts (k - t.nodes) r q u b hc2 (by rw [h.2.1]; exact hs)
        obtain ⟨e, he⟩ := partsOf_self _ t (Nat.le_refl _)
        exact ⟨by simp [hl], e ++ d, by rw [partsL_cons, he, hd]⟩
end

mutual
/-- What is put at a node begins there. -/
theorem put_subs : ∀ (t : T) (k : Nat) (r s u : T) (a : Nat), t.cutAt k = some (r, s, a) → u.subs[0]? = some u → (t.putAt k u).subs[k]? = some u
  | .leaf, k, r, s, u, a, h, _ => by rw [T.cutAt] at h; cases h
  | .node c ks, k, r, s, u, a, h, hu => by
    rw [T.cutAt] at h
    rw [T.putAt]
    by_cases h0 : k = 0
    · rw [if_pos h0]; subst h0; exact hu
    · rw [if_neg h0] at h ⊢
      cases hc : T.cutL ks (k - 1) with
      | none => rw [hc] at h; cases h
      | some v =>
        obtain ⟨rs, q, b⟩ := v
        have := putL_subs ks (k - 1) rs q u b hc hu
        rw [T.subs, show k = (k - 1) + 1 by omega, List.getElem?_cons_succ]
        exact this
theorem putL_subs : ∀ (ks : List T) (k : Nat) (rs : List T) (s u : T) (a : Nat), T.cutL ks k = some (rs, s, a) → u.subs[0]? = some u → (T.subsL (T.putL ks k u))[k]? = some u
  | [], k, rs, s, u, a, h, _ => by rw [T.cutL] at h; cases h
  | t :: ts, k, rs, s, u, a, h, hu => by
    rw [T.cutL] at h
    rw [T.putL]
    cases hc : t.cutAt k with
    | some v =>
      obtain ⟨r, q, b⟩ := v
      have hk : k < t.nodes := by
        by_cases hk : k < t.nodes
        · exact hk
        · rw [cutAt_none t k (by omega)] at hc; cases hc
      rw [if_pos hk, T.subsL]
      have h1 := put_subs t k r q u b hc hu
      rw [List.getElem?_append_left (List.getElem?_eq_some_iff.1 h1).1]
      exact h1
    | none =>
      rw [hc] at h
      simp only at h
      have hk : ¬ k < t.nodes := fun hk => by
        obtain ⟨r, q, b, e⟩ := cutAt_some t k hk
        rw [e] at hc; cases hc
      rw [if_neg hk, T.subsL]
      have hl := subs_length t
      cases hc2 : T.cutL ts (k - t.nodes) with
      | none => rw [hc2] at h; cases h
      | some v =>
        obtain ⟨r, q, b⟩ := v
        have h1 := putL_subs ts (k - t.nodes) r q u b hc2 hu
        rw [List.getElem?_append_right (by omega), hl]
        exact h1
end

theorem unite_node {c : UInt8} {ks : List T} {s u : T} (h : (T.node c ks).unite s = some u) : ∃ d js, u = .node d js := by
  cases s with
  | leaf => rw [unite_leaf2, Option.some.injEq] at h; exact ⟨c, ks, h.symm⟩
  | node d js =>
    rw [T.unite] at h
    split at h
    · cases hu : T.uniteL ks js with
      | none => rw [hu] at h; cases h
      | some us => rw [hu] at h; simp only [Option.some.injEq] at h; exact ⟨c, us, h.symm⟩
    · cases h

/-- Joined at a node: the one stands there, the other one at the outside. -/
theorem join_has {x y u : T} {k : Nat} (hx : ∃ c ks, x = .node c ks) (h : joinOf x y k = some u) : small u = true ∧ (∃ b, y.partsOf u = some b) ∧ ∃ v, u.subs[k]? = some v ∧ ∃ b, x.partsOf v = some b := by
  rw [joinOf] at h
  cases hc : y.cutAt k with
  | none => rw [hc] at h; cases h
  | some w =>
    obtain ⟨r, s, a⟩ := w
    rw [hc] at h
    simp only at h
    cases hu : x.unite s with
    | none => rw [hu] at h; cases h
    | some v =>
      rw [hu] at h
      simp only at h
      split at h
      · next hs =>
        simp only [Option.some.injEq] at h
        subst h
        obtain ⟨h1, h2⟩ := unite_fits _ x s v (Nat.le_refl _) hu
        obtain ⟨c, ks, rfl⟩ := hx
        obtain ⟨d, js, hv⟩ := unite_node hu
        exact ⟨hs, put_fits y k r s v a hc h2, v, put_subs y k r s v a hc (by rw [hv, T.subs]; rfl), h1⟩
      · cases h

theorem plAll_at {p t q : T} {k : Nat} {ts : List T} (h : t.subs[k]? = some q) (hp : p.partsOf q = some ts) : (k, ts) ∈ plAll p t := by
  have hk : k < t.nodes := by
    have := (List.getElem?_eq_some_iff.1 h).1
    rw [subs_length] at this; exact this
  rw [plAll, plUp, List.mem_filterMap]
  exact ⟨k, by simpa using hk, plAt_some h hp⟩
theorem plAll_first {p t : T} {ts : List T} (ht : ∃ c ks, t = .node c ks) (hp : p.partsOf t = some ts) : (plAll p t)[0]? = some (0, ts) := by
  obtain ⟨c, ks, rfl⟩ := ht
  have h0 : (T.node c ks).subs[0]? = some (.node c ks) := by rw [T.subs]; rfl
  obtain ⟨m, hm⟩ : ∃ m, (T.node c ks).nodes = m + 1 := ⟨T.nodesL ks, by rw [T.nodes]; omega⟩
  rw [plAll, plUp, hm, List.range_succ_eq_map, List.filterMap_cons, plAt_some h0 hp]
  rfl
end Go.Proofs.Ytfjodghnheliaaa
end
section
/- A pattern is drawn; the draws of FnJoin. -/
namespace Go.Proofs.Ytfjodghnheliaaa
open Go.RowKit

/-- A text is drawn, the reader goes on. -/
def PatDr (R : Nat) (a : Option Addr) (cap : Nat) (bs : List Nat) (p : Nat) (w : World) (e : Ending) (w' : World) : Prop :=
  w.grownBy w' (some R) ∧ ∃ (s : ByteArray) (q : Nat), e = .returned (.string s) ∧ s.size ≤ 2000 ∧ RdR w' R a cap bs q ∧ q ≤ p + 20

set_option maxRecDepth 100000 in
set_option maxHeartbeats 2000000 in
theorem l91Pattern_any (R : Nat) (a : Option Addr) (cap : Nat) (bs : List Nat) (p : Nat) (w : World) (hp : p ≤ 1000) (h : RdR w R a cap bs p) :
    Calls Try.prog 36 #[.pointer (some ⟨R, 0, none⟩)] w (PatDr R a cap bs p w) := by
  have hRw : R < w.heap.size := h.cells.2.2.2
  have HP1 := Lib.hid (pick_any R a cap p 16 bs w h (by omega) (by omega) (by omega))
  clear h
  go_enter Try.func36, Try.ntmps36
  go_wp2_with fail
  refine HP1.out.mono ?_
  rintro e w1 ⟨⟨k1, hk1, rfl⟩, hg1, hs1, hr1⟩
  have HG1 := Lib.hid hg1
  have HR1 := Lib.hid hr1
  clear hg1 hr1 hs1
  by_cases hk0 : k1 = 0
  · subst hk0
    go_wp2_with fail
    go_ret
    exact ⟨HG1.out, ⟨#[42]⟩, p + 1, rfl, by decide, HR1.out, by omega⟩
  · have h2 : ((k1 : Int) == 0) = false := beq_false_of_ne (by omega)
    have HO := Lib.hid (ab_of R a cap bs (p + 1) w1 HR1.out (by omega))
    have hb : w1.grownBy (w1.alloc (.cells abCells 9 (0, 0))) none := grownBy_below (grownBy_refl _ _) ((Below.refl _ _).alloc (Nat.le_refl _) _)
    have HBA := Lib.hid (grownBy_over HG1.out hb (fun _ e => by cases e))
    clear hb
    go_wp2_with fail
    refine HO.out.mono ?_
    rintro e w2 ⟨⟨s, hs, rfl⟩, hg2, hs2, hr2⟩
    have HG2 := Lib.hid (grownBy_trans HBA.out hg2)
    have hw2 : w.heap.size ≤ w2.heap.size := HG2.out.size
    obtain ⟨c, hc, hc1, hc2⟩ : ∃ c : UInt8, s = ⟨#[c]⟩ ∧ 97 ≤ c.toNat ∧ c.toNat ≤ 104 := by
      simp only [abTexts, List.mem_cons, List.not_mem_nil, or_false] at hs
      rcases hs with rfl | rfl
      · exact ⟨97, rfl, by decide, by decide⟩
      · exact ⟨98, rfl, by decide, by decide⟩
    subst hc
    have HP2 := Lib.hid (pick_any R a cap (p + 1 + 1) 2 bs w2 hr2 (by omega) (by omega) (by omega))
    clear hg2 hs2 hr2 hs
    go_wp2_with fail
    refine HP2.out.mono ?_
    rintro e w3 ⟨⟨d1, hd1, rfl⟩, hg3, hs3, hr3⟩
    have HG3 := Lib.hid (grownBy_trans HG2.out hg3)
    have h31 : 3 ^ d1 ≤ 3 := by
      have := Nat.pow_le_pow_right (n := 3) (by decide) (show d1 ≤ 1 by omega)
      simpa using this
    have HT1 := Lib.hid (l91Tree_any R a cap bs d1 (p + 1 + 1 + 1) w3 (by omega) (by omega) hr3)
    clear hg3 hr3 hs3
    go_wp2_with fail
    refine HT1.out.mono ?_
    rintro e w4 ⟨hg4, t1, lb1, sa1, sn1, sc1, q1, rfl, hrep1, hwf1, hlv1, hnd1, hrd1, hq1⟩
    have HG4 := Lib.hid (grownBy_trans HG3.out hg4)
    have hw3 : w.heap.size ≤ w3.heap.size := HG3.out.size
    have HRP1 := Lib.hid (hrep1.keep (P' := fun b => w.heap.size ≤ b) (fun _ _ _ h => h) (fun b h _ => by omega) hwf1)
    have HP3 := Lib.hid (pick_any R a cap q1 2 bs w4 hrd1 (by omega) (by omega) (by omega))
    clear hg4 hrep1 hrd1
    go_wp2_with fail
    refine HP3.out.mono ?_
    rintro e w5 ⟨⟨d2, hd2, rfl⟩, hg5, hs5, hr5⟩
    have HG5 := Lib.hid (grownBy_trans HG4.out hg5)
    have h32 : 3 ^ d2 ≤ 3 := by
      have := Nat.pow_le_pow_right (n := 3) (by decide) (show d2 ≤ 1 by omega)
      simpa using this
    have HRP5 := Lib.hid (HRP1.out.keep (P' := fun b => w.heap.size ≤ b) (keeps_row hg5 _ (fun b h => by omega)) (fun b h _ => h) hwf1)
    have HT2 := Lib.hid (l91Tree_any R a cap bs d2 (q1 + 1) w5 (by omega) (by omega) hr5)
    clear hg5 hr5 hs5
    go_wp2_with fail
    refine HT2.out.mono ?_
    rintro e w6 ⟨hg6, t2, lb2, sa2, sn2, sc2, q2, rfl, hrep2, hwf2, hlv2, hnd2, hrd2, hq2⟩
    have HG6 := Lib.hid (grownBy_trans HG5.out hg6)
    have hw5 : w.heap.size ≤ w5.heap.size := HG5.out.size
    have hw6 : w.heap.size ≤ w6.heap.size := HG6.out.size
    have hb7 : Below w6.heap.size w6 (w6.alloc (.cells #[.string lb1, .slice sa1 sn1 sc1, .string lb2, .slice sa2 sn2 sc2] 70 (0, 0))) := (Below.refl _ _).alloc (Nat.le_refl _) _
    have hr1' := (HRP5.out.keep (P' := fun b => w.heap.size ≤ b) (keeps_row hg6 _ (fun b h => by omega)) (fun b h _ => h) hwf1).below hwf1 hb7
    have hr2' := (hrep2.keep (P' := fun b => w.heap.size ≤ b) (fun _ _ _ h => h) (fun b h _ => by omega) hwf2).below hwf2 hb7
    have hnew := heap_alloc_new w6 (.cells #[.string lb1, .slice sa1 sn1 sc1, .string lb2, .slice sa2 sn2 sc2] 70 (0, 0))
    have hwf : (T.node c [t1, t2]).wf := by
      simp only [T.wf, T.wfL, List.length_cons, List.length_nil]
      exact ⟨hc1, hc2, by omega, by omega, hwf1, hwf2, trivial⟩
    have hlv : (T.node c [t1, t2]).leaves ≤ 6 := by simp only [T.leaves, T.leavesL]; omega
    have hnd : (T.node c [t1, t2]).nodes ≤ 5 := by simp only [T.nodes, T.nodesL]; omega
    have htl := text_length (T.node c [t1, t2])
    have hrep : RepS (w6.alloc (.cells #[.string lb1, .slice sa1 sn1 sc1, .string lb2, .slice sa2 sn2 sc2] 70 (0, 0))) (fun b => w.heap.size ≤ b) (T.node c [t1, t2]) (.string ⟨#[c]⟩) (.slice (some ⟨w6.heap.size, 0, none⟩) 2 2) := by
      rw [RepS]
      refine ⟨rfl, w6.heap.size, 2, rfl, hw6, by simp, ?_⟩
      rw [RepSL, RepSL, RepSL]
      exact ⟨⟨.string lb1, .slice sa1 sn1 sc1, by rw [Lib.cell_of_heap hnew]; rfl, by rw [Lib.cell_of_heap hnew]; rfl, hr1'⟩, ⟨.string lb2, .slice sa2 sn2 sc2, by rw [Lib.cell_of_heap hnew]; rfl, by rw [Lib.cell_of_heap hnew]; rfl, hr2'⟩, trivial⟩
    have HTX := Lib.hid (l1Text_any _ (T.node c [t1, t2]) _ _ _ _ (Nat.le_refl _) hwf (by omega) hrep)
    have HRD := Lib.hid (hrd2.grown (grownBy_below (grownBy_refl _ none) hb7) (fun _ e => by cases e))
    have HG7 := Lib.hid (grownBy_below HG6.out hb7)
    obtain ⟨tx, htx⟩ : ∃ tx, tx = (T.node c [t1, t2]).text := ⟨_, rfl⟩
    rw [← htx] at HTX htl
    have hsz : tx.length ≤ 2000 := by omega
    clear hg6 hrep2 hrd2 hb7 hr1' hr2' hnew hrep htx htl hwf hlv hnd
    go_wp2_with fail
    refine HTX.out.mono ?_
    rintro e w7 ⟨rfl, hb8⟩
    have HB8 := Lib.hid hb8
    clear hb8
    go_wp2_with fail
    go_ret
    exact ⟨grownBy_below HG7.out HB8.out, ⟨tx.toArray⟩, q2, rfl, by change tx.toArray.size ≤ 2000; simpa using hsz, HRD.out.grown (grownBy_below (grownBy_refl _ none) HB8.out) (fun _ e => by cases e), by omega⟩

/-- Two texts and a number are drawn. -/
def PjDr (w : World) (e : Ending) (w' : World) : Prop := Below w.heap.size w w' ∧ ∃ (s s2 : ByteArray) (k : Int), e = .returned (.tuple #[.string s, .string s2, .int .i64 k]) ∧ s.size ≤ 2000 ∧ s2.size ≤ 2000 ∧ -1 ≤ k ∧ k ≤ 1000000

theorem nodesOf_le2 (s : List UInt8) : -1 ≤ nodesOf (parse s) ∧ nodesOf (parse s) ≤ 16 := by
  cases h : parse s with
  | none => simp [nodesOf]
  | some t => obtain ⟨_, _, _, hn⟩ := parse_some h; simp only [nodesOf]; omega

end Go.Proofs.Ytfjodghnheliaaa
end
section
/- The promise on what is joined. -/
namespace Go.Proofs.Ytfjodghnheliaaa
open Go.RowKit

theorem joinV_some {p q : ByteArray} {v : Int} {u : T} (h : joinV p q v = some u) : ∃ x y, ∃ k : Nat, patOf p = some x ∧ patOf q = some y ∧ (k : Int) = v ∧ joinOf x y k = some u := by
  unfold joinV at h
  split at h
  · next x y hx hy =>
    split at h
    · next hv => exact ⟨x, y, v.toNat, hx, hy, by omega, h⟩
    · cases h
  · cases h

theorem partsOf_node {c : UInt8} {ks : List T} {u : T} {a : List T} (h : (T.node c ks).partsOf u = some a) : ∃ d js, u = .node d js := by
  cases u with
  | leaf => rw [partsOf_no] at h; cases h
  | node d js => exact ⟨d, js, rfl⟩

/-- What is joined has both, as the places tell it. -/
theorem joined_told {p q : ByteArray} {v : Int} {u : T} (h : joinV p q v = some u) : ∃ k : Nat, (k : Int) = v ∧ (plV q ⟨u.text.toArray⟩).isSome = true ∧ (plV p ⟨u.text.toArray⟩).isSome = true ∧
    (∃ tx : List (List UInt8), (plTxs q ⟨u.text.toArray⟩)[0]? = some (0, tx)) ∧ ∃ (j : Nat) (tx : List (List UInt8)), (plTxs p ⟨u.text.toArray⟩)[j]? = some (k, tx) := by
  obtain ⟨x, y, k, hx, hy, hk, hj⟩ := joinV_some h
  obtain ⟨hwx, _, hlx, hnx⟩ := parse_some (patOf_some hx).1
  obtain ⟨hwy, _, hly, hny⟩ := parse_some (patOf_some hy).1
  obtain ⟨hw, hl, hn, _⟩ := joinOf_ok hwy hwx ⟨hlx, hnx⟩ ⟨hly, hny⟩ hj
  obtain ⟨_, ⟨b, hb⟩, s, hs, c, hc⟩ := join_has (patOf_some hx).2 hj
  have hpar : parse (⟨u.text.toArray⟩ : ByteArray).data.toList = some u := by simpa using parse_text hw hl hn
  have e1 : plV q ⟨u.text.toArray⟩ = some (plAll y u) := by rw [plV, hy, hpar]
  have e2 : plV p ⟨u.text.toArray⟩ = some (plAll x u) := by rw [plV, hx, hpar]
  obtain ⟨d, js, hyn⟩ := (patOf_some hy).2
  have hun : ∃ d js, u = .node d js := by rw [hyn] at hb; exact partsOf_node hb
  refine ⟨k, hk, by rw [e1]; rfl, by rw [e2]; rfl, ⟨b.map T.text, ?_⟩, ?_⟩
  · rw [plTxs, e1, Option.getD_some, List.getElem?_map, plAll_first hun hb]; rfl
  · obtain ⟨j, hjl, hje⟩ := List.getElem_of_mem (plAll_at hs hc)
    refine ⟨j, c.map T.text, ?_⟩
    rw [plTxs, e2, Option.getD_some, List.getElem?_map, List.getElem?_eq_getElem hjl, hje]; rfl

end Go.Proofs.Ytfjodghnheliaaa
end
