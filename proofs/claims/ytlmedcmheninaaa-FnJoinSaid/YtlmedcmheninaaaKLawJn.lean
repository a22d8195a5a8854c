/- Merged out of: XJnM, XDrawP, XLawJn. -/
import Derived.Test.YtlmedcmheninaaaKPlS
import Derived.Test.YtlmedcmheninaaaKPLaws5
import Derived.Test.YtlmedcmheninaaaPLaws2
import Derived.Test.YtlmedcmheninaaaKLawPl
section
/- What is joined has both: plain mathematics. -/
namespace Go.Proofs.Ytlmedcmheninaaa

theorem partsL_is {ks js : List T} (h : ks.length = js.length) (hk : ∀ i (h1 : i < ks.length) (h2 : i < js.length), ∃ a, (ks[i]).partsOf (js[i]) = some a) : ∃ a, T.partsL ks js = some a := by
  induction ks generalizing js with
  | nil => exact ⟨[], by rw [partsL_nil]⟩
  | cons x ks ih =>
    cases js with
    | nil => simp at h
    | cons y js =>
      obtain ⟨a, ha⟩ := hk 0 (by simp) (by simp)
      obtain ⟨b, hb⟩ := ih (by simpa using h) (fun i h1 h2 => by
        have := hk (i + 1) (by simpa using h1) (by simpa using h2)
        simpa using this)
      simp only [List.getElem_cons_zero] at ha
      exact ⟨a ++ b, by rw [partsL_cons, ha, hb]⟩

theorem partsOf_self : ∀ (m : Nat) (p : T), SizeOf.sizeOf p ≤ m → ∃ a, p.partsOf p = some a
  | 0, p, h => by cases p <;> simp at h <;> omega
  | m + 1, .leaf, _ => ⟨_, partsOf_leaf _⟩
  | m + 1, .node c ks, h => by
    obtain ⟨a, ha⟩ := partsL_is (ks := ks) (js := ks) rfl (fun i h1 _ => partsOf_self m ks[i] (by
      have h2 : SizeOf.sizeOf ks[i] < SizeOf.sizeOf ks := List.sizeOf_lt_of_mem (List.getElem_mem h1)
      simp only [T.node.sizeOf_spec] at h
      omega))
    exact ⟨a, by rw [partsOf_same rfl]; exact ha⟩

theorem uniteL_get : ∀ (ks js us : List T), ks.length = js.length → T.uniteL ks js = some us → us.length = ks.length ∧ ∀ i (h1 : i < ks.length) (h2 : i < js.length) (h3 : i < us.length), (ks[i]).unite (js[i]) = some us[i]
  | [], js, us, _, h => by
    rw [uniteL_nil, Option.some.injEq] at h
    subst h
    exact ⟨rfl, fun i h1 => by simp at h1⟩
  | k :: ks, [], us, hl, _ => by simp at hl
  | k :: ks, j :: js, us, hl, h => by
    rw [uniteL_cons] at h
    cases hu : k.unite j with
    | none => rw [hu] at h; cases h
    | some u =>
      rw [hu] at h
      simp only at h
      cases hr : T.uniteL ks js with
      | none => rw [hr] at h; cases h
      | some vs =>
        rw [hr] at h
        simp only [Option.some.injEq] at h
        subst h
        obtain ⟨h1, h2⟩ := uniteL_get ks js vs (by simpa using hl) hr
        refine ⟨by simp [h1], fun i a1 a2 a3 => ?_⟩
        cases i with
        | zero => simpa using hu
        | succ i => simpa using h2 i (by simpa using a1) (by simpa using a2) (by simpa using a3)

/-- Both trees stand in what is laid one over the other. -/
theorem unite_fits : ∀ (m : Nat) (p s u : T), SizeOf.sizeOf p ≤ m → p.unite s = some u → (∃ a, p.partsOf u = some a) ∧ (∃ a, s.partsOf u = some a)
  | 0, p, _, _, h, _ => by cases p <;> simp at h <;> omega
  | m + 1, .leaf, s, u, _, h => by
    rw [unite_leaf, Option.some.injEq] at h
    subst h
    exact ⟨⟨_, partsOf_leaf _⟩, partsOf_self _ s (Nat.le_refl _)⟩
  | m + 1, .node c ks, .leaf, u, hm, h => by
    rw [unite_leaf2, Option.some.injEq] at h
    subst h
    exact ⟨partsOf_self _ _ (Nat.le_refl _), ⟨_, partsOf_leaf _⟩⟩
  | m + 1, .node c ks, .node d js, u, hm, h => by
    rw [T.unite] at h
    split at h
    · next hc =>
      obtain ⟨rfl, hlen⟩ := hc
      cases hu : T.uniteL ks js with
      | none => rw [hu] at h; cases h
      | some us =>
        rw [hu] at h
        simp only [Option.some.injEq] at h
        subst h
        obtain ⟨hl, hg⟩ := uniteL_get ks js us hlen hu
        simp only [T.node.sizeOf_spec] at hm
        have hrec : ∀ i (h1 : i < ks.length) (h2 : i < js.length) (h3 : i < us.length), (∃ a, (ks[i]).partsOf us[i] = some a) ∧ (∃ a, (js[i]).partsOf us[i] = some a) := fun i h1 h2 h3 =>
          unite_fits m ks[i] js[i] us[i] (by
            have h2 : SizeOf.sizeOf ks[i] < SizeOf.sizeOf ks := List.sizeOf_lt_of_mem (List.getElem_mem h1)
            omega) (hg i h1 h2 h3)
        obtain ⟨a, ha⟩ := partsL_is (ks := ks) (js := us) hl.symm (fun i h1 h2 => (hrec i h1 (by omega) h2).1)
        obtain ⟨b, hb⟩ := partsL_is (ks := js) (js := us) (by omega) (fun i h1 h2 => (hrec i (by omega) h1 h2).2)
        exact ⟨⟨a, by rw [partsOf_same hl.symm]; exact ha⟩, ⟨b, by rw [partsOf_same (by omega)]; exact hb⟩⟩
    · cases h

mutual
/-- A tree stands where it stood when the part at a node has become greater. -/
theorem put_fits : ∀ (t : T) (k : Nat) (r s u : T) (a : Nat), t.cutAt k = some (r, s, a) → (∃ b, s.partsOf u = some b) → ∃ b, t.partsOf (t.putAt k u) = some b
  | .leaf, k, r, s, u, a, h, _ => by rw [T.cutAt] at h; cases h
  | .node c ks, k, r, s, u, a, h, hs => by
    rw [T.cutAt] at h
    rw [T.putAt]
    by_cases h0 : k = 0
    · rw [if_pos h0] at h ⊢
      simp only [Option.some.injEq, Prod.mk.injEq] at h
      rw [← h.2.1] at hs
      exact hs
    · rw [if_neg h0] at h ⊢
      cases hc : T.cutL ks (k - 1) with
      | none => rw [hc] at h; cases h
      | some v =>
        obtain ⟨rs, q, b⟩ := v
        rw [hc] at h
        simp only [Option.some.injEq, Prod.mk.injEq] at h
        obtain ⟨hl, d, hd⟩ := putL_fits ks (k - 1) rs q u b hc (by rw [h.2.1]; exact hs)
        exact ⟨d, by rw [partsOf_same hl.symm]; exact hd⟩
theorem putL_fits : ∀ (ks : List T) (k : Nat) (rs : List T) (s u : T) (a : Nat), T.cutL ks k = some (rs, s, a) → (∃ b, s.partsOf u = some b) → (T.putL ks k u).length = ks.length ∧ ∃ b, T.partsL ks (T.putL ks k u) = some b
  | [], k, rs, s, u, a, h, _ => by rw [T.cutL] at h; cases h
  | t :: ts, k, rs, s, u, a, h, hs => by
    rw [T.cutL] at h
    rw [T.putL]
    cases hc : t.cutAt k with
    | some v =>
      obtain ⟨r, q, b⟩ := v
      rw [hc] at h
      simp only [Option.some.injEq, Prod.mk.injEq] at h
      have hk : k < t.nodes := by
        by_cases hk : k < t.nodes
        · exact hk
        · rw [cutAt_none t k (by omega)] at hc; cases hc
      rw [if_pos hk]
      obtain ⟨d, hd⟩ := put_fits t k r q u b hc (by rw [h.2.1]; exact hs)
      obtain ⟨e, he⟩ := partsL_is (ks := ts) (js := ts) rfl (fun i _ _ => partsOf_self _ _ (Nat.le_refl _))
      exact ⟨by simp, d ++ e, by rw [partsL_cons, hd, he]⟩
    | none =>
      rw [hc] at h
      simp only at h
      have hk : ¬ k < t.nodes := fun hk => by
        obtain ⟨r, q, b, e⟩ := cutAt_some t k hk
        rw [e] at hc; cases hc
      rw [if_neg hk]
      cases hc2 : T.cutL ts (k - t.nodes) with
      | none => rw [hc2] at h; cases h
      | some v =>
        obtain ⟨r, q, b⟩ := v
        rw [hc2] at h
        simp only [Option.some.injEq, Prod.mk.injEq] at h
        obtain ⟨hl, d, hd⟩ := putL_fits ts (k - t.nodes) r q u b hc2 (by rw [h.2.1]; exact hs)
        obtain ⟨e, he⟩ := partsOf_self _ t (Nat.le_refl _)
        exact ⟨by simp [hl], e ++ d, by rw [partsL_cons, he, hd]⟩
end

mutual
/-- What is put at a node begins there. -/
theorem put_subs : ∀ (t : T) (k : Nat) (r s u : T) (a : Nat), t.cutAt k = some (r, s, a) → u.subs[0]? = some u → (t.putAt k u).subs[k]? = some u
  | .leaf, k, r, s, u, a, h, _ => by rw [T.cutAt] at h; cases h
  | .node c ks, k, r, s, u, a, h, hu => by
    rw [T.cutAt] at h
    rw [T.putAt]
    by_cases h0 : k = 0
    · rw [if_pos h0]; subst h0; exact hu
    · rw [if_neg h0] at h ⊢
      cases hc : T.cutL ks (k - 1) with
      | none => rw [hc] at h; cases h
      | some v =>
        obtain ⟨rs, q, b⟩ := v
        have := putL_subs ks (k - 1) rs q u b hc hu
        rw [T.subs, show k = (k - 1) + 1 by omega, List.getElem?_cons_succ]
        exact this
theorem putL_subs : ∀ (ks : List T) (k : Nat) (rs : List T) (s u : T) (a : Nat), T.cutL ks k = some (rs, s, a) → u.subs[0]? = some u → (T.subsL (T.putL ks k u))[k]? = some u
  | [], k, rs, s, u, a, h, _ => by rw [T.cutL] at h; cases h
  | t :: ts, k, rs, s, u, a, h, hu => by
    rw [T.cutL] at h
    rw [T.putL]
    cases hc : t.cutAt k with
    | some v =>
      obtain ⟨r, q, b⟩ := v
      have hk : k < t.nodes := by
        by_cases hk : k < t.nodes
        · exact hk
        · rw [cutAt_none t k (by omega)] at hc; cases hc
      rw [if_pos hk, T.subsL]
      have h1 := put_subs t k r q u b hc hu
      rw [List.getElem?_append_left (List.getElem?_eq_some_iff.1 h1).1]
      exact h1
    | none =>
      rw [hc] at h
      simp only at h
      have hk : ¬ k < t.nodes := fun hk => by
        obtain ⟨r, q, b, e⟩ := cutAt_some t k hk
        rw [e] at hc; cases hc
      rw [if_neg hk, T.subsL]
      have hl := subs_length t
      cases hc2 : T.cutL ts (k - t.nodes) with
      | none => rw [hc2] at h; cases h
      | some v =>
        obtain ⟨r, q, b⟩ := v
        have h1 := putL_subs ts (k - t.nodes) r q u b hc2 hu
        rw [List.getElem?_append_right (by omega), hl]
        exact h1
end

theorem unite_node {c : UInt8} {ks : List T} {s u : T} (h : (T.node c ks).unite s = some u) : ∃ d js, u = .node d js := by
  cases s with
  | leaf => rw [unite_leaf2, Option.some.injEq] at h; exact ⟨c, ks, h.symm⟩
  | node d js =>
    rw [T.unite] at h
    split at h
    · cases hu : T.uniteL ks js with
      | none => rw [hu] at h; cases h
      | some us => rw [hu] at h; simp only [Option.some.injEq] at h; exact ⟨c, us, h.symm⟩
    · cases h

/-- Joined at a node: the one stands there, the other one at the outside. -/
theorem join_has {x y u : T} {k : Nat} (hx : ∃ c ks, x = .node c ks) (h : joinOf x y k = some u) : small u = true ∧ (∃ b, y.partsOf u = some b) ∧ ∃ v, u.subs[k]? = some v ∧ ∃ b, x.partsOf v = some b := by
  rw [joinOf] at h
  cases hc : y.cutAt k with
  | none => rw [hc] at h; cases h
  | some w =>
    obtain ⟨r, s, a⟩ := w
    rw [hc] at h
    simp only at h
    cases hu : x.unite s with
    | none => rw [hu] at h; cases h
    | some v =>
      rw [hu] at h
      simp only at h
      split at h
      · next hs =>
        simp only [Option.some.injEq] at h
        subst h
        obtain ⟨h1, h2⟩ := unite_fits _ x s v (Nat.le_refl _) hu
        obtain ⟨c, ks, rfl⟩ := hx
        obtain ⟨d, js, hv⟩ := unite_node hu
        exact ⟨hs, put_fits y k r s v a hc h2, v, put_subs y k r s v a hc (by rw [hv, T.subs]; rfl), h1⟩
      · cases h

theorem plAll_at {p t q : T} {k : Nat} {ts : List T} (h : t.subs[k]? = some q) (hp : p.partsOf q = some ts) : (k, ts) ∈ plAll p t := by
  have hk : k < t.nodes := by
    have := (List.getElem?_eq_some_iff.1 h).1
    rw [subs_length] at this; exact this
  rw [plAll, plUp, List.mem_filterMap]
  exact ⟨k, by simpa using hk, plAt_some h hp⟩
theorem plAll_first {p t : T} {ts : List T} (ht : ∃ c ks, t = .node c ks) (hp : p.partsOf t = some ts) : (plAll p t)[0]? = some (0, ts) := by
  obtain ⟨c, ks, rfl⟩ := ht
  have h0 : (T.node c ks).subs[0]? = some (.node c ks) := by rw [T.subs]; rfl
  obtain ⟨m, hm⟩ : ∃ m, (T.node c ks).nodes = m + 1 := ⟨T.nodesL ks, by rw [T.nodes]; omega⟩
  rw [plAll, plUp, hm, List.range_succ_eq_map, List.filterMap_cons, plAt_some h0 hp]
  rfl
end Go.Proofs.Ytlmedcmheninaaa
end
section
/- A pattern is drawn; the draws of FnJoin. -/
namespace Go.Proofs.Ytlmedcmheninaaa
open Go.RowKit

/-- A text is drawn, the reader goes on. -/
def PatDr (R : Nat) (a : Option Addr) (cap : Nat) (bs : List Nat) (p : Nat) (w : World) (e : Ending) (w' : World) : Prop :=
  w.grownBy w' (some R) ∧ ∃ (s : ByteArray) (q : Nat), e = .returned (.string s) ∧ s.size ≤ 2000 ∧ RdR w' R a cap bs q ∧ q ≤ p + 20

theorem keeps_row {w w' : World} {R : Nat} (hg : w.grownBy w' (some R)) (P : Nat → Prop) (hP : ∀ b, P b → b ≠ R) : Keeps P w w' := fun q v hq hv => by
  rw [World.cell?_of_block (hg.block q.block (World.block_lt_of_cell? w q hv) (fun e => hP _ hq (by cases e; rfl)))]
  exact hv

def abCells : Array Value := #[.string ⟨#[97]⟩, .string ⟨#[98]⟩]
def abTexts : List ByteArray := [⟨#[97]⟩, ⟨#[98]⟩]

theorem ab_of (R : Nat) (a : Option Addr) (cap : Nat) (bs : List Nat) (p : Nat) (w : World) (h : RdR w R a cap bs p) (hp : p ≤ 1000000) :
    Calls Try.prog 141 #[.pointer (some ⟨R, 0, none⟩), .slice (some ⟨w.heap.size, 0, none⟩) 2 2] (w.alloc (.cells abCells 9 (0, 0))) (OfPost R a cap bs p abTexts (w.alloc (.cells abCells 9 (0, 0)))) := by
  refine of_any R a cap p bs _ w.heap.size 0 2 abTexts (h.grown (grownBy_below (grownBy_refl w none) ((Below.refl _ _).alloc (Nat.le_refl _) _)) (fun _ e => by cases e)) hp (by decide) (by decide) (by have := h.cells.2.2.2; omega) ?_
  intro j hj
  have h1 : (w.alloc (.cells abCells 9 (0, 0))).heap[w.heap.size]? = some (.cells abCells 9 (0, 0)) := heap_alloc_new w _
  simp only [World.cell?, h1, Nat.zero_add]
  have hj2 : j < 2 := hj
  rcases j with _ | _ | j
  · rfl
  · rfl
  · omega

set_option maxRecDepth 100000 in
set_option maxHeartbeats 2000000 in
theorem l91Pattern_any (R : Nat) (a : Option Addr) (cap : Nat) (bs : List Nat) (p : Nat) (w : World) (hp : p ≤ 1000) (h : RdR w R a cap bs p) :
    Calls Try.prog 107 #[.pointer (some ⟨R, 0, none⟩)] w (PatDr R a cap bs p w) := by
  have hRw : R < w.heap.size := h.cells.2.2.2
  have HP1 := Lib.hid (pick_any R a cap p 16 bs w h (by omega) (by omega) (by omega))
  clear h
  go_enter Try.func107, Try.ntmps107
  go_wp2_with fail
  refine HP1.out.mono ?_
  rintro e w1 ⟨⟨k1, hk1, rfl⟩, hg1, hs1, hr1⟩
  have HG1 := Lib.hid hg1
  have HR1 := Lib.hid hr1
  clear hg1 hr1 hs1
  by_cases hk0 : k1 = 0
  · subst hk0
    go_wp2_with fail
    go_ret
    exact ⟨HG1.out, ⟨#[42]⟩, p + 1, rfl, by decide, HR1.out, by omega⟩
  · have h2 : ((k1 : Int) == 0) = false := beq_false_of_ne (by omega)
    have HO := Lib.hid (ab_of R a cap bs (p + 1) w1 HR1.out (by omega))
    have hb : w1.grownBy (w1.alloc (.cells abCells 9 (0, 0))) none := grownBy_below (grownBy_refl _ _) ((Below.refl _ _).alloc (Nat.le_refl _) _)
    have HBA := Lib.hid (grownBy_over HG1.out hb (fun _ e => by cases e))
    clear hb
    go_wp2_with fail
    refine HO.out.mono ?_
    rintro e w2 ⟨⟨s, hs, rfl⟩, hg2, hs2, hr2⟩
    have HG2 := Lib.hid (grownBy_trans HBA.out hg2)
    have hw2 : w.heap.size ≤ w2.heap.size := HG2.out.size
    obtain ⟨c, hc, hc1, hc2⟩ : ∃ c : UInt8, s = ⟨#[c]⟩ ∧ 97 ≤ c.toNat ∧ c.toNat ≤ 104 := by
      simp only [abTexts, List.mem_cons, List.not_mem_nil, or_false] at hs
      rcases hs with rfl | rfl
      · exact ⟨97, rfl, by decide, by decide⟩
      · exact ⟨98, rfl, by decide, by decide⟩
    subst hc
    have HP2 := Lib.hid (pick_any R a cap (p + 1 + 1) 2 bs w2 hr2 (by omega) (by omega) (by omega))
    clear hg2 hs2 hr2 hs
    go_wp2_with fail
    refine HP2.out.mono ?_
    rintro e w3 ⟨⟨d1, hd1, rfl⟩, hg3, hs3, hr3⟩
    have HG3 := Lib.hid (grownBy_trans HG2.out hg3)
    have h31 : 3 ^ d1 ≤ 3 := by
      have := Nat.pow_le_pow_right (n := 3) (by decide) (show d1 ≤ 1 by omega)
      simpa using this
    have HT1 := Lib.hid (l91Tree_any R a cap bs d1 (p + 1 + 1 + 1) w3 (by omega) (by omega) hr3)
    clear hg3 hr3 hs3
    go_wp2_with fail
    refine HT1.out.mono ?_
    rintro e w4 ⟨hg4, t1, lb1, sa1, sn1, sc1, q1, rfl, hrep1, hwf1, hlv1, hnd1, hrd1, hq1⟩
    have HG4 := Lib.hid (grownBy_trans HG3.out hg4)
    have hw3 : w.heap.size ≤ w3.heap.size := HG3.out.size
    have HRP1 := Lib.hid (hrep1.keep (P' := fun b => w.heap.size ≤ b) (fun _ _ _ h => h) (fun b h _ => by omega) hwf1)
    have HP3 := Lib.hid (pick_any R a cap q1 2 bs w4 hrd1 (by omega) (by omega) (by omega))
    clear hg4 hrep1 hrd1
    go_wp2_with fail
    refine HP3.out.mono ?_
    rintro e w5 ⟨⟨d2, hd2, rfl⟩, hg5, hs5, hr5⟩
    have HG5 := Lib.hid (grownBy_trans HG4.out hg5)
    have h32 : 3 ^ d2 ≤ 3 := by
      have := Nat.pow_le_pow_right (n := 3) (by decide) (show d2 ≤ 1 by omega)
      simpa using this
    have HRP5 := Lib.hid (HRP1.out.keep (P' := fun b => w.heap.size ≤ b) (keeps_row hg5 _ (fun b h => by omega)) (fun b h _ => h) hwf1)
    have HT2 := Lib.hid (l91Tree_any R a cap bs d2 (q1 + 1) w5 (by omega) (by omega) hr5)
    clear hg5 hr5 hs5
    go_wp2_with fail
    refine HT2.out.mono ?_
    rintro e w6 ⟨hg6, t2, lb2, sa2, sn2, sc2, q2, rfl, hrep2, hwf2, hlv2, hnd2, hrd2, hq2⟩
    have HG6 := Lib.hid (grownBy_trans HG5.out hg6)
    have hw5 : w.heap.size ≤ w5.heap.size := HG5.out.size
    have hw6 : w.heap.size ≤ w6.heap.size := HG6.out.size
    have hb7 : Below w6.heap.size w6 (w6.alloc (.cells #[.string lb1, .slice sa1 sn1 sc1, .string lb2, .slice sa2 sn2 sc2] 71 (0, 0))) := (Below.refl _ _).alloc (Nat.le_refl _) _
    have hr1' := (HRP5.out.keep (P' := fun b => w.heap.size ≤ b) (keeps_row hg6 _ (fun b h => by omega)) (fun b h _ => h) hwf1).below hwf1 hb7
    have hr2' := (hrep2.keep (P' := fun b => w.heap.size ≤ b) (fun _ _ _ h => h) (fun b h _ => by omega) hwf2).below hwf2 hb7
    have hnew := heap_alloc_new w6 (.cells #[.string lb1, .slice sa1 sn1 sc1, .string lb2, .slice sa2 sn2 sc2] 71 (0, 0))
    have hwf : (T.node c [t1, t2]).wf := by
      simp only [T.wf, T.wfL, List.length_cons, List.length_nil]
      exact ⟨hc1, hc2, by omega, by omega, hwf1, hwf2, trivial⟩
    have hlv : (T.node c [t1, t2]).leaves ≤ 6 := by simp only [T.leaves, T.leavesL]; omega
    have hnd : (T.node c [t1, t2]).nodes ≤ 5 := by simp only [T.nodes, T.nodesL]; omega
    have htl := text_length (T.node c [t1, t2])
    have hrep : RepS (w6.alloc (.cells #[.string lb1, .slice sa1 sn1 sc1, .string lb2, .slice sa2 sn2 sc2] 71 (0, 0))) (fun b => w.heap.size ≤ b) (T.node c [t1, t2]) (.string ⟨#[c]⟩) (.slice (some ⟨w6.heap.size, 0, none⟩) 2 2) := by
      rw [RepS]
      refine ⟨rfl, w6.heap.size, 2, rfl, hw6, by simp, ?_⟩
      rw [RepSL, RepSL, RepSL]
      exact ⟨⟨.string lb1, .slice sa1 sn1 sc1, by rw [Lib.cell_of_heap hnew]; rfl, by rw [Lib.cell_of_heap hnew]; rfl, hr1'⟩, ⟨.string lb2, .slice sa2 sn2 sc2, by rw [Lib.cell_of_heap hnew]; rfl, by rw [Lib.cell_of_heap hnew]; rfl, hr2'⟩, trivial⟩
    have HTX := Lib.hid (l1Text_any _ (T.node c [t1, t2]) _ _ _ _ (Nat.le_refl _) hwf (by omega) hrep)
    have HRD := Lib.hid (hrd2.grown (grownBy_below (grownBy_refl _ none) hb7) (fun _ e => by cases e))
    have HG7 := Lib.hid (grownBy_below HG6.out hb7)
    obtain ⟨tx, htx⟩ : ∃ tx, tx = (T.node c [t1, t2]).text := ⟨_, rfl⟩
    rw [← htx] at HTX htl
    have hsz : tx.length ≤ 2000 := by omega
    clear hg6 hrep2 hrd2 hb7 hr1' hr2' hnew hrep htx htl hwf hlv hnd
    go_wp2_with fail
    refine HTX.out.mono ?_
    rintro e w7 ⟨rfl, hb8⟩
    have HB8 := Lib.hid hb8
    clear hb8
    go_wp2_with fail
    go_ret
    exact ⟨grownBy_below HG7.out HB8.out, ⟨tx.toArray⟩, q2, rfl, by change tx.toArray.size ≤ 2000; simpa using hsz, HRD.out.grown (grownBy_below (grownBy_refl _ none) HB8.out) (fun _ e => by cases e), by omega⟩

/-- Two texts and a number are drawn. -/
def PjDr (w : World) (e : Ending) (w' : World) : Prop := Below w.heap.size w w' ∧ ∃ (s s2 : ByteArray) (k : Int), e = .returned (.tuple #[.string s, .string s2, .int .i64 k]) ∧ s.size ≤ 2000 ∧ s2.size ≤ 2000 ∧ -1 ≤ k ∧ k ≤ 1000000

theorem nodesOf_le2 (s : List UInt8) : -1 ≤ nodesOf (parse s) ∧ nodesOf (parse s) ≤ 16 := by
  cases h : parse s with
  | none => simp [nodesOf]
  | some t => obtain ⟨_, _, _, hn⟩ := parse_some h; simp only [nodesOf]; omega

set_option maxRecDepth 100000 in
set_option maxHeartbeats 2000000 in
theorem dPatJoin_any (bs : List Nat) (a : Option Addr) (cap : Nat) (w : World) (hn : bs.length ≤ 9223372036854775807) (hcap : bs.length ≤ cap) (h8 : ∀ z ∈ bs, z ≤ 255) (hl : LiesB w a bs) :
    Calls Try.prog 48 #[.slice a bs.length cap] w (PjDr w) := by
  have HO := Lib.hid (l6Open_any bs a cap w hn hcap h8 hl)
  clear h8 hl
  go_enter Try.func48, Try.ntmps48
  go_wp2_with fail
  refine HO.out.mono ?_
  rintro e w1 ⟨rfl, hb1, hr1⟩
  have HX := Lib.hid (l91Pattern_any w.heap.size a cap (bs.take 2000) 0 w1 (by omega) hr1)
  have HB1 := Lib.hid hb1
  clear hb1 hr1
  go_wp2_with fail
  refine HX.out.mono ?_
  rintro e w2 ⟨hg2, s, q, rfl, hsz, hr2, hq⟩
  have HB2 := Lib.hid (below_over HB1.out hg2 (fun r e => by cases e; exact Nat.le_refl _))
  have HX2 := Lib.hid (l91Pattern_any w.heap.size a cap (bs.take 2000) q w2 (by omega) hr2)
  clear hg2 hr2
  go_wp2_with fail
  refine HX2.out.mono ?_
  rintro e w3 ⟨hg3, s2, q2, rfl, hsz2, hr3, hq2⟩
  have HB3 := Lib.hid (below_over HB2.out hg3 (fun r e => by cases e; exact Nat.le_refl _))
  obtain ⟨z, hz⟩ : ∃ z, z = nodesOf (parse s2.data.toList) := ⟨_, rfl⟩
  have hzb := nodesOf_le2 s2.data.toList
  have HN := Lib.hid (sNodes_any s2 w3 (by omega))
  rw [← hz] at HN hzb
  have HR3 := Lib.hid hr3
  clear hg3 hr3 hz
  go_wp2_with fail
  refine HN.out.mono ?_
  rintro e w4 ⟨rfl, hb4⟩
  have HB4 := Lib.hid (below_step HB3.out hb4)
  have HR4 := Lib.hid (HR3.out.grown (grownBy_below (grownBy_refl _ none) hb4) (fun _ e => by cases e))
  clear hb4
  obtain ⟨M, hM, hM2, hMz⟩ : ∃ M : Nat, 1 ≤ M ∧ M ≤ 16 ∧ ((1 < z ∧ z = (M : Int)) ∨ (z ≤ 1 ∧ M = 1)) := by
    by_cases h : 1 < z
    · exact ⟨z.toNat, by omega, by omega, .inl ⟨h, by omega⟩⟩
    · exact ⟨1, by omega, by omega, .inr ⟨by omega, rfl⟩⟩
  have HP := Lib.hid (pick_any w.heap.size a cap q2 M (bs.take 2000) w4 HR4.out (by omega) hM (by omega))
  rcases hMz with ⟨h1, rfl⟩ | ⟨h1, rfl⟩
  all_goals
    go_wp2_with fail
    refine HP.out.mono ?_
    rintro e w5 ⟨⟨k1, hk1, rfl⟩, hg5, hs5, hr5⟩
    have HB5 := Lib.hid (below_over HB4.out hg5 (fun r e => by cases e; exact Nat.le_refl _))
    have HQ := Lib.hid (pick_any w.heap.size a cap (q2 + 1) 20 (bs.take 2000) w5 hr5 (by omega) (by omega) (by omega))
    clear hg5 hs5 hr5
    go_wp2_with fail
    refine HQ.out.mono ?_
    rintro e w6 ⟨⟨k2, hk2, rfl⟩, hg6, hs6, hr6⟩
    have HB6 := Lib.hid (below_over HB5.out hg6 (fun r e => by cases e; exact Nat.le_refl _))
    clear hg6 hs6 hr6
    go_wp2_with fail
    refine bodyPost_ret (v := .tuple #[_, _, _]) (by simp [results, Try.results48, go_sem]; exact ⟨rfl, rfl, rfl⟩) rfl ?_
    exact ⟨HB6.out, s, s2, _, rfl, hsz, hsz2, by omega, by omega⟩
end Go.Proofs.Ytlmedcmheninaaa
end
section
/- The promise on what is joined. -/
namespace Go.Proofs.Ytlmedcmheninaaa
open Go.RowKit

theorem joinV_some {p q : ByteArray} {v : Int} {u : T} (h : joinV p q v = some u) : ∃ x y, ∃ k : Nat, patOf p = some x ∧ patOf q = some y ∧ (k : Int) = v ∧ joinOf x y k = some u := by
  unfold joinV at h
  split at h
  · next x y hx hy =>
    split at h
    · next hv => exact ⟨x, y, v.toNat, hx, hy, by omega, h⟩
    · cases h
  · cases h

theorem partsOf_node {c : UInt8} {ks : List T} {u : T} {a : List T} (h : (T.node c ks).partsOf u = some a) : ∃ d js, u = .node d js := by
  cases u with
  | leaf => rw [partsOf_no] at h; cases h
  | node d js => exact ⟨d, js, rfl⟩

/-- What is joined has both, as the places tell it. -/
theorem joined_told {p q : ByteArray} {v : Int} {u : T} (h : joinV p q v = some u) : ∃ k : Nat, (k : Int) = v ∧ (plV q ⟨u.text.toArray⟩).isSome = true ∧ (plV p ⟨u.text.toArray⟩).isSome = true ∧
    (∃ tx : List (List UInt8), (plTxs q ⟨u.text.toArray⟩)[0]? = some (0, tx)) ∧ ∃ (j : Nat) (tx : List (List UInt8)), (plTxs p ⟨u.text.toArray⟩)[j]? = some (k, tx) := by
  obtain ⟨x, y, k, hx, hy, hk, hj⟩ := joinV_some h
  obtain ⟨hwx, _, hlx, hnx⟩ := parse_some (patOf_some hx).1
  obtain ⟨hwy, _, hly, hny⟩ := parse_some (patOf_some hy).1
  obtain ⟨hw, hl, hn, _⟩ := joinOf_ok hwy hwx ⟨hlx, hnx⟩ ⟨hly, hny⟩ hj
  obtain ⟨_, ⟨b, hb⟩, s, hs, c, hc⟩ := join_has (patOf_some hx).2 hj
  have hpar : parse (⟨u.text.toArray⟩ : ByteArray).data.toList = some u := by simpa using parse_text hw hl hn
  have e1 : plV q ⟨u.text.toArray⟩ = some (plAll y u) := by rw [plV, hy, hpar]
  have e2 : plV p ⟨u.text.toArray⟩ = some (plAll x u) := by rw [plV, hx, hpar]
  obtain ⟨d, js, hyn⟩ := (patOf_some hy).2
  have hun : ∃ d js, u = .node d js := by rw [hyn] at hb; exact partsOf_node hb
  refine ⟨k, hk, by rw [e1]; rfl, by rw [e2]; rfl, ⟨b.map T.text, ?_⟩, ?_⟩
  · rw [plTxs, e1, Option.getD_some, List.getElem?_map, plAll_first hun hb]; rfl
  · obtain ⟨j, hjl, hje⟩ := List.getElem_of_mem (plAll_at hs hc)
    refine ⟨j, c.map T.text, ?_⟩
    rw [plTxs, e2, Option.getD_some, List.getElem?_map, List.getElem?_eq_getElem hjl, hje]; rfl

set_option maxRecDepth 100000 in
set_option maxHeartbeats 4000000 in
theorem pJoin_any (bs : List Nat) (a : Option Addr) (cap : Nat) (w : World) (hl : LiesB w a bs) (h8 : ∀ z ∈ bs, z ≤ 255) (hn : bs.length ≤ 9223372036854775807) (hcap : bs.length ≤ cap) :
    Calls Try.prog 13 #[.slice a bs.length cap] w (Ans (.bool true) w) := by
  by_cases h : bs.length ≤ 1048576
  · have HD := Lib.hid (dPatJoin_any bs a cap w hn hcap h8 hl)
    clear h8 hl
    go_enter Try.func13, Try.ntmps13
    go_wp2_with fail
    refine HD.out.mono ?_
    rintro e w1 ⟨hB1, p, q, v, rfl, hp, hq, hv1, hv2⟩
    have HB1 := Lib.hid hB1
    have hI := fun w => iJoin_any p q v w (by omega) (by omega) (by omega)
    have hS := fun w => sJoin_any p q v w (by omega) (by omega)
    obtain ⟨o, ho⟩ : ∃ o, joinV p q v = o := ⟨_, rfl⟩
    rw [ho] at hI hS
    clear hB1
    rcases o with _ | u
    · rw [textV] at hI hS
      have HI := Lib.hid hI
      have HS := Lib.hid hS
      clear hI hS ho
      go_wp2_with fail
      refine (HI.out w1).mono ?_
      rintro e w2 ⟨rfl, hB2⟩
      have HB2 := Lib.hid (below_step HB1.out hB2)
      clear hB2
      go_wp2_with fail
      refine (HS.out w2).mono ?_
      rintro e w3 ⟨rfl, hB3⟩
      have HB3 := Lib.hid (below_step HB2.out hB3)
      clear hB3
      go_wp2_with fail
      go_ret
      exact ⟨rfl, HB3.out⟩
    · obtain ⟨k, hk, hy1, hy2, ⟨tx0, hx0⟩, j, tx1, hz1⟩ := joined_told ho
      rw [textV] at hI hS
      obtain ⟨out, hout⟩ : ∃ out : ByteArray, out = ⟨u.text.toArray⟩ := ⟨_, rfl⟩
      rw [← hout] at hI hS hy1 hy2 hx0 hz1
      have hos : out.size ≤ 1048576 := by
        obtain ⟨x, y, k', hx, hy, _, hj⟩ := joinV_some ho
        obtain ⟨hwx, _, hlx, hnx⟩ := parse_some (patOf_some hx).1
        obtain ⟨hwy, _, hly, hny⟩ := parse_some (patOf_some hy).1
        have h4 := (joinOf_ok hwy hwx ⟨hlx, hnx⟩ ⟨hly, hny⟩ hj).2.2.2
        rw [hout]
        change u.text.toArray.size ≤ 1048576
        simp; omega
      have hX := fun w => iPl_any q out w (by omega) hos
      have hZ := fun w => iPl_any p out w (by omega) hos
      rw [hy1] at hX
      rw [hy2] at hZ
      obtain ⟨kx, hkx⟩ : ∃ kx, kx = plTxs q out := ⟨_, rfl⟩
      obtain ⟨kz, hkz⟩ : ∃ kz, kz = plTxs p out := ⟨_, rfl⟩
      rw [← hkx] at hX hx0
      rw [← hkz] at hZ hz1
      have hxl : 0 < kx.length := (List.getElem?_eq_some_iff.1 hx0).1
      have hjl : j < kz.length := (List.getElem?_eq_some_iff.1 hz1).1
      have hzl : kz.length ≤ 100 := by rw [hkz]; exact (plTxs_ok p out).1
      have hxl2 : kx.length ≤ 100 := by rw [hkx]; exact (plTxs_ok q out).1
      obtain ⟨nx, hnx⟩ : ∃ n, n = kx.length := ⟨_, rfl⟩
      obtain ⟨nz, hnz⟩ : ∃ n, n = kz.length := ⟨_, rfl⟩
      rw [← hnx] at hX hxl hxl2
      rw [← hnz] at hZ hjl hzl
      subst hk
      have HI := Lib.hid hI
      have HS := Lib.hid hS
      have HX := Lib.hid hX
      have HZ := Lib.hid hZ
      have HNX := Lib.hid hnx
      have HNZ := Lib.hid hnz
      have HX0 := Lib.hid hx0
      have HZ1 := Lib.hid hz1
      clear hI hS hX hZ ho hout hkx hkz hnx hnz hx0 hz1 hy1 hy2
      go_wp2_with fail
      refine (HI.out w1).mono ?_
      rintro e w2 ⟨rfl, hB2⟩
      have HB2 := Lib.hid (below_step HB1.out hB2)
      clear hB2
      go_wp2_with fail
      refine (HS.out w2).mono ?_
      rintro e w3 ⟨rfl, hB3⟩
      have HB3 := Lib.hid (below_step HB2.out hB3)
      clear hB3
      go_wp2_with fail
      refine (HX.out w3).mono ?_
      rintro e w4 ⟨hB4, us4, a4, c4, rfl, hl4, ht4, hrd4, hm4⟩
      have HB4 := Lib.hid (below_step HB3.out hB4)
      have HR4 := Lib.hid hrd4
      clear hB4 hl4 ht4 hrd4 hm4
      go_wp2_with fail
      refine (HZ.out w4).mono ?_
      rintro e w5 ⟨hB5, us5, a5, c5, rfl, hl5, ht5, hrd5, hm5⟩
      have HB5 := Lib.hid (below_step HB4.out hB5)
      have HR5 := Lib.hid hrd5
      obtain ⟨gx, g1, cx, ex, x0, _, _⟩ := plE.get (HR4.out.below (by decide) hB5) 0 (by rw [← HNX.out]; exact hxl)
      subst ex
      have hx1 : (kx[0]'(by rw [← HNX.out]; exact hxl)).1 = 0 := by
        have := HX0.out
        rw [List.getElem?_eq_getElem (by rw [← HNX.out]; exact hxl), Option.some.injEq] at this
        rw [this]
      rw [hx1] at x0
      have hgx : gx < w5.heap.size := World.block_lt_of_cell? w5 ⟨gx, 0 * 2, none⟩ x0
      rw [Nat.zero_mul] at x0
      clear hB5 hl5 ht5 hrd5 hm5 hx1
      go_wp2_with fail
      go_loopw [14, 15] (fun fv iv wr => ∃ (i : Nat) (f : Bool), i ≤ nz ∧ iv = .int .i64 i ∧ fv = .bool f ∧ (j < i → f = true) ∧ Below w5.heap.size w5 wr) (fun _ iv _ => nz - (intOf iv).toNat)
      case atStart => exact ⟨0, false, Nat.zero_le _, rfl, rfl, fun h => by omega, Below.refl _ _⟩
      case round =>
        obtain ⟨i, f, hi, rfl, rfl, hf, hB⟩ := hrel
        have HB := Lib.hid hB
        have HF := Lib.hid hf
        by_cases hlt : i < nz
        · have hik : i < kz.length := by rw [← HNZ.out]; exact hlt
          obtain ⟨gz, g2, cz, ez, z0, _, _⟩ := plE.get (HR5.out.below (by decide) hB) i hik
          subst ez
          obtain ⟨nd, hnd⟩ : ∃ nd, nd = (kz[i]).1 := ⟨_, rfl⟩
          rw [← hnd] at z0
          have HND := Lib.hid hnd
          have hcap5 : i < nz := hlt
          clear hf hB hnd
          cases f with
          | true =>
            go_wp2_with fail
            go_roundw
            case rel => exact ⟨i + 1, true, by omega, by go_num, rfl, fun _ => rfl, HB.out⟩
            case measure => simp [intOf]; omega
          | false =>
            by_cases he : nd = k
            · have e1 : ((nd : Int) == (k : Int)) = true := by simp [he]
              have e2 : (nd == k) = true := by simp [he]
              go_wp2_with fail
              go_roundw
              case rel => exact ⟨i + 1, true, by omega, by go_num, by first | rfl | simp [he], fun _ => rfl, HB.out⟩
              case measure => simp [intOf]; omega
            · have e1 : ((nd : Int) == (k : Int)) = false := by simp; omega
              have e2 : (nd == k) = false := by simpa using he
              have HJ : Hid (j < i + 1 → False) := Lib.hid (fun h => by
                by_cases e : j = i
                · subst e
                  have := HZ1.out
                  rw [List.getElem?_eq_getElem hik, Option.some.injEq] at this
                  exact he (by rw [HND.out, this])
                · have := HF.out (by omega)
                  cases this)
              go_wp2_with fail
              go_roundw
              case rel => exact ⟨i + 1, false, by omega, by go_num, by first | rfl | simp [e1, e2], fun h => (HJ.out h).elim, HB.out⟩
              case measure => simp [intOf]; omega
        · have hff : f = true := hf (by omega)
          subst hff
          have x0' := keep1 hB x0
          have hgx' : gx < wr.heap.size := by have := hB.size; omega
          have HBB := Lib.hid (below_step HB5.out hB)
          have hpos : decide (0 < (nx : Int)) = true := decide_eq_true (by omega)
          have hpos2 : 0 < nx := hxl
          clear hf hB
          go_wp2_with fail
          go_ret
          exact ⟨rfl, HBB.out⟩
  · clear hl h8
    go_enter Try.func13, Try.ntmps13
    go_wp2_with fail
    go_ret
    exact ⟨rfl, Below.refl _ _⟩
end Go.Proofs.Ytlmedcmheninaaa
end
