/- The model: is a face in another one. -/
import Derived.Test.YtbbkaephlojalaaFaceSp
import Derived.Test.YtbbkaephlojalaaFaceInI
import Derived.Test.YtbbkaephlojalaaReplS
namespace Go.Proofs.Ytbbkaephlojalaa
open Go.RowKit

mutual
theorem cut_fc : ∀ (t : T) (k : Nat) (r p : T) (a : Nat), t.fc → t.cutAt k = some (r, p, a) → p.fc ∧ p.leaves ≤ t.leaves ∧ ∃ c ks, p = .node c ks
  | .leaf, k, r, p, a, _, h => by rw [T.cutAt] at h; cases h
  | .node c ks, k, r, p, a, hf, h => by
    rw [T.cutAt] at h
    by_cases h0 : k = 0
    · rw [if_pos h0] at h
      simp only [Option.some.injEq, Prod.mk.injEq] at h
      obtain ⟨_, rfl, _⟩ := h
      exact ⟨hf, Nat.le_refl _, c, ks, rfl⟩
    · rw [if_neg h0] at h
      rw [T.fc] at hf
      cases hc : T.cutL ks (k - 1) with
      | none => rw [hc] at h; cases h
      | some q =>
        obtain ⟨rs, p', a'⟩ := q
        rw [hc] at h
        simp only [Option.some.injEq, Prod.mk.injEq] at h
        obtain ⟨_, rfl, _⟩ := h
        rw [T.leaves]
        exact cutL_fc ks _ rs p' a' hf.2.2 hc
theorem cutL_fc : ∀ (ks : List T) (k : Nat) (rs : List T) (p : T) (a : Nat), T.fcL ks → T.cutL ks k = some (rs, p, a) → p.fc ∧ p.leaves ≤ T.leavesL ks ∧ ∃ c ks', p = .node c ks'
  | [], k, rs, p, a, _, h => by rw [T.cutL] at h; cases h
  | t :: ts, k, rs, p, a, hf, h => by
    rw [T.cutL] at h
    rw [T.fcL] at hf
    cases hc : t.cutAt k with
    | some q =>
      obtain ⟨r', p', a'⟩ := q
      rw [hc] at h
      simp only [Option.some.injEq, Prod.mk.injEq] at h
      obtain ⟨_, rfl, _⟩ := h
      obtain ⟨h1, h2, h3⟩ := cut_fc t k r' p' a' hf.1 hc
      rw [T.leavesL]
      exact ⟨h1, by omega, h3⟩
    | none =>
      rw [hc] at h
      simp only at h
      cases hd : T.cutL ts (k - t.nodes) with
      | none => rw [hd] at h; cases h
      | some q =>
        obtain ⟨rs', p', a'⟩ := q
        rw [hd] at h
        simp only [Option.some.injEq, Prod.mk.injEq] at h
        obtain ⟨_, rfl, _⟩ := h
        obtain ⟨h1, h2, h3⟩ := cutL_fc ts _ rs' p' a' hf.2 hd
        rw [T.leavesL]
        exact ⟨h1, by omega, h3⟩
end

/-- No splitting at one node's index is above the face. -/
def NoAt (s t : T) (k : Nat) : Prop := ∀ r c ks a, t.cutAt k = some (r, .node c ks, a) → ∀ p q, 2 ≤ q → q < ks.length → p + q ≤ ks.length → ¬ inF s (t.putAt k (splitN ks p q))
/-- .. at one p below it. -/
def NoP (s t : T) (k : Nat) (ks : List T) (p : Nat) : Prop := ∀ q, 2 ≤ q → q < ks.length → p + q ≤ ks.length → ¬ inF s (t.putAt k (splitN ks p q))

theorem no_all {s t : T} (hs : s.fc) (ht : t.fc) (hne : s ≠ t) (h : ∀ k, k < t.nodes → NoAt s t k) : inFB s t = false := inFB_false fun hi => by
  obtain ⟨t', h1, h2⟩ := (inF_step hs ht hne).1 hi
  obtain ⟨k, r, c, ks, a, p, q, h3, h4, h5, h6, h7, rfl⟩ := h1.at_node ht
  exact h k h3 r c ks a h4 p q h5 h6 h7 h2

theorem fc_nodes6 {t : T} (h : t.fc) (h6 : t.leaves ≤ 6) : t.nodes ≤ 5 ∧ t.text.length ≤ 100 := by
  have h1 := dim_nodes t
  have h2 := fc_dim t h
  have h3 := text_length t
  omega

set_option maxRecDepth 100000 in
set_option maxHeartbeats 8000000 in
theorem l8In_step (s : T) (hsf : s.fc) (hs6 : s.leaves ≤ 6) (t : T) (sb : ByteArray) (sa : Option Addr) (sn sc : Nat) (tb : ByteArray) (ta : Option Addr) (tn tc : Nat) (w : World) (P : Nat → Prop) (htf : t.fc) (ht6 : t.leaves ≤ 6) (hrs : RepS w P s (.string sb) (.slice sa sn sc)) (hrt : RepS w P t (.string tb) (.slice ta tn tc))
    (ih : t.nodes < s.nodes → ∀ (t' : T) (xb : ByteArray) (xa : Option Addr) (xn xc : Nat) (V : World) (Q : Nat → Prop), t'.fc → t'.leaves ≤ 6 → t'.nodes = t.nodes + 1 → RepS V Q s (.string sb) (.slice sa sn sc) → RepS V Q t' (.string xb) (.slice xa xn xc) →
      Calls Try.prog 30 #[.agg #[.string sb, .slice sa sn sc], .agg #[.string xb, .slice xa xn xc]] V (Ans (.bool (inFB s t')) V)) :
    Calls Try.prog 30 #[.agg #[.string sb, .slice sa sn sc], .agg #[.string tb, .slice ta tn tc]] w (Ans (.bool (inFB s t)) w) := by
  have hsw := fc_wf s hsf hs6
  have htw := fc_wf t htf ht6
  have hsn := fc_nodes6 hsf hs6
  have htn := fc_nodes6 htf ht6
  obtain ⟨w0, hw0⟩ : ∃ w0, w0 = (w.alloc (.cells #[.string sb, .slice sa sn sc] 39 (0, 0))).alloc (.cells #[.string tb, .slice ta tn tc] 39 (0, 0)) := ⟨_, rfl⟩
  have hb0 : Below w.heap.size w w0 := by rw [hw0]; exact ((Below.refl _ _).alloc (Nat.le_refl _) _).alloc (by simp) _
  have hz0 : w0.heap.size = w.heap.size + 1 + 1 := by rw [hw0]; simp
  have hs0 : w0.heap[w.heap.size]? = some (.cells #[.string sb, .slice sa sn sc] 39 (0, 0)) := by rw [hw0, Below.heap_alloc _ _ _ (by simp)]; exact heap_alloc_new _ _
  have ht0 : w0.heap[w.heap.size + 1]? = some (.cells #[.string tb, .slice ta tn tc] 39 (0, 0)) := by
    rw [hw0, show w.heap.size + 1 = (w.alloc (.cells #[.string sb, .slice sa sn sc] 39 (0, 0))).heap.size by simp]; exact heap_alloc_new _ _
  obtain ⟨s0, s1, _, _⟩ := two_cells hs0
  obtain ⟨t0, t1, _, _⟩ := two_cells ht0
  have HB0 := Lib.hid hb0
  have HW0 := Lib.hid hw0
  have HZ0 := Lib.hid hz0
  have HRS := Lib.hid ((hrs.below hsw hb0).keep (P' := fun b => b < w0.heap.size) (fun _ _ _ h => h) (fun _ _ h => h) hsw)
  have HRT := Lib.hid ((hrt.below htw hb0).keep (P' := fun b => b < w0.heap.size) (fun _ _ _ h => h) (fun _ _ h => h) htw)
  obtain ⟨xs, hxs⟩ : ∃ xs : ByteArray, xs = ⟨s.text.toArray⟩ := ⟨_, rfl⟩
  obtain ⟨xt, hxt⟩ : ∃ xt : ByteArray, xt = ⟨t.text.toArray⟩ := ⟨_, rfl⟩
  have HTXS : Hid (∀ V, Below w0.heap.size w0 V → Calls Try.prog 33 #[.agg #[.string sb, .slice sa sn sc]] V (Ans (.string xs) V)) := Lib.hid (fun V hb => by
    rw [hxs]; exact l1Text_any _ s _ _ V _ (Nat.le_refl _) hsw (by omega) (HRS.out.below hsw hb))
  have HTXT : Hid (∀ V, Below w0.heap.size w0 V → Calls Try.prog 33 #[.agg #[.string tb, .slice ta tn tc]] V (Ans (.string xt) V)) := Lib.hid (fun V hb => by
    rw [hxt]; exact l1Text_any _ t _ _ V _ (Nat.le_refl _) htw (by omega) (HRT.out.below htw hb))
  obtain ⟨NS, hNS⟩ : ∃ NS : Nat, NS = s.nodes := ⟨_, rfl⟩
  obtain ⟨NT, hNT⟩ : ∃ NT : Nat, NT = t.nodes := ⟨_, rfl⟩
  obtain ⟨LS, hLS⟩ : ∃ LS : Nat, LS = s.leaves := ⟨_, rfl⟩
  obtain ⟨LT, hLT⟩ : ∃ LT : Nat, LT = t.leaves := ⟨_, rfl⟩
  have HNS : Hid (∀ V, Below w0.heap.size w0 V → Calls Try.prog 45 #[.agg #[.string sb, .slice sa sn sc]] V (Ans (.int .i64 (NS : Int)) V)) := Lib.hid (fun V hb => by
    rw [hNS]; exact l1Nodes_any _ s _ _ V _ (Nat.le_refl _) hsw (by omega) (HRS.out.below hsw hb))
  have HNT : Hid (∀ V, Below w0.heap.size w0 V → Calls Try.prog 45 #[.agg #[.string tb, .slice ta tn tc]] V (Ans (.int .i64 (NT : Int)) V)) := Lib.hid (fun V hb => by
    rw [hNT]; exact l1Nodes_any _ t _ _ V _ (Nat.le_refl _) htw (by omega) (HRT.out.below htw hb))
  have HLS : Hid (∀ V, Below w0.heap.size w0 V → Calls Try.prog 37 #[.agg #[.string sb, .slice sa sn sc]] V (Ans (.int .i64 (LS : Int)) V)) := Lib.hid (fun V hb => by
    rw [hLS]; exact l1Leaves_any _ s _ _ V _ (Nat.le_refl _) hsw (by omega) (HRS.out.below hsw hb))
  have HLT : Hid (∀ V, Below w0.heap.size w0 V → Calls Try.prog 37 #[.agg #[.string tb, .slice ta tn tc]] V (Ans (.int .i64 (LT : Int)) V)) := Lib.hid (fun V hb => by
    rw [hLT]; exact l1Leaves_any _ t _ _ V _ (Nat.le_refl _) htw (by omega) (HRT.out.below htw hb))
  have HTX : Hid (xs = xt ↔ s = t) := Lib.hid (by
    rw [hxs, hxt]
    constructor
    · intro h
      have := congrArg (fun b : ByteArray => b.data.toList) h
      exact text_inj hsw htw (by simpa using this)
    · rintro rfl; rfl)
  have HNN : Hid (NS = s.nodes ∧ NT = t.nodes ∧ LS = s.leaves ∧ LT = t.leaves) := Lib.hid ⟨hNS, hNT, hLS, hLT⟩
  have HW := Lib.hid (And.intro hsw htw)
  have hns5 : NS ≤ 5 := by omega
  have hnt5 : NT ≤ 5 := by omega
  have hls6 : LS ≤ 6 := by omega
  have hlt6 : LT ≤ 6 := by omega
  have HIH := Lib.hid ih
  have HSC := Lib.hid (And.intro hs0 ht0)
  obtain ⟨wr, hwr⟩ : ∃ wr, wr = w0 := ⟨_, rfl⟩
  have HWR := Lib.hid hwr
  clear hrs hrt hxs hxt hNS hNT hLS hLT hsn htn hs0 ht0 hz0 hb0 hw0 ih hsw htw hwr
  have HBR : Hid (Below w0.heap.size w0 wr) := Lib.hid (by rw [HWR.out]; exact Below.refl _ _)
  rw [← HWR.out] at s0 s1 t0 t1
  by_cases hst : s = t
  · have hxx : xs = xt := HTX.out.2 hst
    have hsb : (xs.toList == xt.toList) = true := by rw [hxx]; simp
    have HANS : Hid (inFB s t = true) := Lib.hid (by rw [hst]; exact (inFB_iff t t).2 (inF_self t))
    rw [HANS.out]
    clear hst hxx
    go_enter Try.func30, Try.ntmps30
    go_wp2_with fail
    rw [← HW0.out, ← HWR.out]
    refine wp_region_held_drew (S := (fun w' => w'.cell? ⟨w.heap.size, 0, none⟩ = some (.string sb) ∧ w'.cell? ⟨w.heap.size, 1, none⟩ = some (.slice sa sn sc) ∧ w'.cell? ⟨w.heap.size + 1, 0, none⟩ = some (.string tb) ∧ w'.cell? ⟨w.heap.size + 1, 1, none⟩ = some (.slice ta tn tc))) (by kernel_rfl) (by exact ⟨s0, s1, t0, t1⟩) (fun hHeld => ?_)
    refine wpAnyH_take (i := 0) (oi := { dst := some 11, op := Op.load 39 (Operand.tmp 2), type := 39, pos := "l8_faces.go:187", after := #[], guard := none }) (v := ?_) rfl (by kernel_rfl) (by kernel_rfl) (by kernel_rfl) (fun _ _ _ h => h) (Or.inl ⟨by rfl, ?_⟩) (by assumption) ?_
    rotate_left
    · (intro w hSw; (try dsimp only at hSw); go_simp <;> with_reducible rfl)
    (try simp only [Act.put, List.setIfInBounds_toArray, List.set_cons_zero, List.set_cons_succ])
    refine wpAnyH_take (i := 2) (oi := { dst := some 13, op := Op.load 39 (Operand.tmp 3), type := 39, pos := "l8_faces.go:187", after := #[], guard := none }) (v := ?_) rfl (by kernel_rfl) (by kernel_rfl) (by kernel_rfl) (fun _ _ _ h => h) (Or.inl ⟨by rfl, ?_⟩) (by assumption) ?_
    rotate_left
    · (intro w hSw; (try dsimp only at hSw); go_simp <;> with_reducible rfl)
    (try simp only [Act.put, List.setIfInBounds_toArray, List.set_cons_zero, List.set_cons_succ])
    refine wpAnyH_ready (rs := [1]) (by kernel_rfl) (by simp) ?_
    refine AllReadyH.cons (o := { dst := some 12, op := Op.call { callee := Callee.value (Operand.func 33), args := #[Operand.tmp 11], argTypes := #[39] }, type := 9, pos := "l8_faces.go:187", after := #[{ on := 0, ground := Ground.data }], guard := none }) rfl (fun K hK => ?_) AllReadyH.nil
    go_simp
    go_wp2_with fail
    refine (HTXS.out _ (HBR.out.drew)).mono ?_
    rintro e V1 ⟨rfl, hBV1⟩
    have hkV1 : Below wr.heap.size wr V1 := (Below.refl _ _).drew.trans hBV1
    have q1_0 := keep1 hkV1 s0
    have q1_1 := keep1 hkV1 s1
    have q1_2 := keep1 hkV1 t0
    have q1_3 := keep1 hkV1 t1
    have HBV1 := Lib.hid (below_step HBR.out hkV1)
    clear hkV1 hBV1
    go_wp2_with fail
    refine hK.out _ _ ?_ (fun hHeld => ?_)
    · exact ⟨q1_0, q1_1, q1_2, q1_3⟩
    clear hK K
    (try simp only [Act.put, List.setIfInBounds_toArray, List.set_cons_zero, List.set_cons_succ])
    refine wpAnyH_ready (rs := [3]) (by kernel_rfl) (by simp) ?_
    refine AllReadyH.cons (o := { dst := some 14, op := Op.call { callee := Callee.value (Operand.func 33), args := #[Operand.tmp 13], argTypes := #[39] }, type := 9, pos := "l8_faces.go:187", after := #[{ on := 2, ground := Ground.data }, { on := 1, ground := Ground.chain }], guard := none }) rfl (fun K hK => ?_) AllReadyH.nil
    go_simp
    go_wp2_with fail
    refine (HTXT.out _ (HBV1.out)).mono ?_
    rintro e V2 ⟨rfl, hBV2⟩
    have hkV2 := hBV2
    have q2_0 := keep1 hkV2 q1_0
    have q2_1 := keep1 hkV2 q1_1
    have q2_2 := keep1 hkV2 q1_2
    have q2_3 := keep1 hkV2 q1_3
    have HBV2 := Lib.hid (below_step HBV1.out hkV2)
    clear hkV2 hBV2
    go_wp2_with fail
    refine hK.out _ _ ?_ (fun hHeld => ?_)
    · exact ⟨q2_0, q2_1, q2_2, q2_3⟩
    clear hK K
    (try simp only [Act.put, List.setIfInBounds_toArray, List.set_cons_zero, List.set_cons_succ])
    refine wpAnyH_take (i := 4) (oi := { dst := some 15, op := Op.binOp BinOp.eql 9 (Operand.tmp 12) (Operand.tmp 14) 9, type := 4, pos := "l8_faces.go:187", after := #[{ on := 1, ground := Ground.data }, { on := 3, ground := Ground.data }], guard := none }) (v := ?_) rfl (by kernel_rfl) (by kernel_rfl) (by kernel_rfl) (fun _ _ _ h => h) (Or.inl ⟨by rfl, ?_⟩) (by assumption) ?_
    rotate_left
    · (intro w hSw; (try dsimp only at hSw); go_simp <;> with_reducible rfl)
    (try simp only [Act.put, List.setIfInBounds_toArray, List.set_cons_zero, List.set_cons_succ])
    refine wpAnyH_done (by kernel_rfl) ?_ _
    all_goals
      go_wp2_with fail
      go_ret
      exact ⟨rfl, below_step HB0.out HBV2.out⟩
  · have hsb : (xs.toList == xt.toList) = false := ba_ne (fun h => hst (HTX.out.1 h))
    have HNE := Lib.hid hst
    clear hst
    go_enter Try.func30, Try.ntmps30
    go_wp2_with fail
    rw [← HW0.out, ← HWR.out]
    refine wp_region_held_drew (S := (fun w' => w'.cell? ⟨w.heap.size, 0, none⟩ = some (.string sb) ∧ w'.cell? ⟨w.heap.size, 1, none⟩ = some (.slice sa sn sc) ∧ w'.cell? ⟨w.heap.size + 1, 0, none⟩ = some (.string tb) ∧ w'.cell? ⟨w.heap.size + 1, 1, none⟩ = some (.slice ta tn tc))) (by kernel_rfl) (by exact ⟨s0, s1, t0, t1⟩) (fun hHeld => ?_)
    refine wpAnyH_take (i := 0) (oi := { dst := some 11, op := Op.load 39 (Operand.tmp 2), type := 39, pos := "l8_faces.go:187", after := #[], guard := none }) (v := ?_) rfl (by kernel_rfl) (by kernel_rfl) (by kernel_rfl) (fun _ _ _ h => h) (Or.inl ⟨by rfl, ?_⟩) (by assumption) ?_
    rotate_left
    · (intro w hSw; (try dsimp only at hSw); go_simp <;> with_reducible rfl)
    (try simp only [Act.put, List.setIfInBounds_toArray, List.set_cons_zero, List.set_cons_succ])
    refine wpAnyH_take (i := 2) (oi := { dst := some 13, op := Op.load 39 (Operand.tmp 3), type := 39, pos := "l8_faces.go:187", after := #[], guard := none }) (v := ?_) rfl (by kernel_rfl) (by kernel_rfl) (by kernel_rfl) (fun _ _ _ h => h) (Or.inl ⟨by rfl, ?_⟩) (by assumption) ?_
    rotate_left
    · (intro w hSw; (try dsimp only at hSw); go_simp <;> with_reducible rfl)
    (try simp only [Act.put, List.setIfInBounds_toArray, List.set_cons_zero, List.set_cons_succ])
    refine wpAnyH_ready (rs := [1]) (by kernel_rfl) (by simp) ?_
    refine AllReadyH.cons (o := { dst := some 12, op := Op.call { callee := Callee.value (Operand.func 33), args := #[Operand.tmp 11], argTypes := #[39] }, type := 9, pos := "l8_faces.go:187", after := #[{ on := 0, ground := Ground.data }], guard := none }) rfl (fun K hK => ?_) AllReadyH.nil
    go_simp
    go_wp2_with fail
    refine (HTXS.out _ (HBR.out.drew)).mono ?_
    rintro e V3 ⟨rfl, hBV3⟩
    have hkV3 : Below wr.heap.size wr V3 := (Below.refl _ _).drew.trans hBV3
    have q3_0 := keep1 hkV3 s0
    have q3_1 := keep1 hkV3 s1
    have q3_2 := keep1 hkV3 t0
    have q3_3 := keep1 hkV3 t1
    have HBV3 := Lib.hid (below_step HBR.out hkV3)
    clear hkV3 hBV3
    go_wp2_with fail
    refine hK.out _ _ ?_ (fun hHeld => ?_)
    · exact ⟨q3_0, q3_1, q3_2, q3_3⟩
    clear hK K
    (try simp only [Act.put, List.setIfInBounds_toArray, List.set_cons_zero, List.set_cons_succ])
    refine wpAnyH_ready (rs := [3]) (by kernel_rfl) (by simp) ?_
    refine AllReadyH.cons (o := { dst := some 14, op := Op.call { callee := Callee.value (Operand.func 33), args := #[Operand.tmp 13], argTypes := #[39] }, type := 9, pos := "l8_faces.go:187", after := #[{ on := 2, ground := Ground.data }, { on := 1, ground := Ground.chain }], guard := none }) rfl (fun K hK => ?_) AllReadyH.nil
    go_simp
    go_wp2_with fail
    refine (HTXT.out _ (HBV3.out)).mono ?_
    rintro e V4 ⟨rfl, hBV4⟩
    have hkV4 := hBV4
    have q4_0 := keep1 hkV4 q3_0
    have q4_1 := keep1 hkV4 q3_1
    have q4_2 := keep1 hkV4 q3_2
    have q4_3 := keep1 hkV4 q3_3
    have HBV4 := Lib.hid (below_step HBV3.out hkV4)
    clear hkV4 hBV4
    go_wp2_with fail
    refine hK.out _ _ ?_ (fun hHeld => ?_)
    · exact ⟨q4_0, q4_1, q4_2, q4_3⟩
    clear hK K
    (try simp only [Act.put, List.setIfInBounds_toArray, List.set_cons_zero, List.set_cons_succ])
    refine wpAnyH_take (i := 4) (oi := { dst := some 15, op := Op.binOp BinOp.eql 9 (Operand.tmp 12) (Operand.tmp 14) 9, type := 4, pos := "l8_faces.go:187", after := #[{ on := 1, ground := Ground.data }, { on := 3, ground := Ground.data }], guard := none }) (v := ?_) rfl (by kernel_rfl) (by kernel_rfl) (by kernel_rfl) (fun _ _ _ h => h) (Or.inl ⟨by rfl, ?_⟩) (by assumption) ?_
    rotate_left
    · (intro w hSw; (try dsimp only at hSw); go_simp <;> with_reducible rfl)
    (try simp only [Act.put, List.setIfInBounds_toArray, List.set_cons_zero, List.set_cons_succ])
    refine wpAnyH_done (by kernel_rfl) ?_ _
    go_wp2_with fail
    by_cases hNN : NS ≤ NT
    · have g1 : decide ((NS : Int) ≤ (NT : Int)) = true := decide_eq_true (by omega)
      have g1n : decide (NS ≤ NT) = true := decide_eq_true hNN
      have HANS : Hid (inFB s t = false) := Lib.hid (inFB_false fun h => by have := inF_nodes hsf htf h HNE.out; have := HNN.out; omega)
      clear hNN
      refine wp_region_held_drew (S := (fun w' => w'.cell? ⟨w.heap.size, 0, none⟩ = some (.string sb) ∧ w'.cell? ⟨w.heap.size, 1, none⟩ = some (.slice sa sn sc) ∧ w'.cell? ⟨w.heap.size + 1, 0, none⟩ = some (.string tb) ∧ w'.cell? ⟨w.heap.size + 1, 1, none⟩ = some (.slice ta tn tc))) (by kernel_rfl) (by exact ⟨q4_0, q4_1, q4_2, q4_3⟩) (fun hHeld => ?_)
      refine wpAnyH_take (i := 0) (oi := { dst := some 16, op := Op.load 39 (Operand.tmp 2), type := 39, pos := "l8_faces.go:190", after := #[], guard := none }) (v := ?_) rfl (by kernel_rfl) (by kernel_rfl) (by kernel_rfl) (fun _ _ _ h => h) (Or.inl ⟨by rfl, ?_⟩) (by assumption) ?_
      rotate_left
      · (intro w hSw; (try dsimp only at hSw); go_simp <;> with_reducible rfl)
      (try simp only [Act.put, List.setIfInBounds_toArray, List.set_cons_zero, List.set_cons_succ])
      refine wpAnyH_take (i := 2) (oi := { dst := some 18, op := Op.load 39 (Operand.tmp 3), type := 39, pos := "l8_faces.go:190", after := #[], guard := none }) (v := ?_) rfl (by kernel_rfl) (by kernel_rfl) (by kernel_rfl) (fun _ _ _ h => h) (Or.inl ⟨by rfl, ?_⟩) (by assumption) ?_
      rotate_left
      · (intro w hSw; (try dsimp only at hSw); go_simp <;> with_reducible rfl)
      (try simp only [Act.put, List.setIfInBounds_toArray, List.set_cons_zero, List.set_cons_succ])
      refine wpAnyH_ready (rs := [1]) (by kernel_rfl) (by simp) ?_
      refine AllReadyH.cons (o := { dst := some 17, op := Op.call { callee := Callee.value (Operand.func 45), args := #[Operand.tmp 16], argTypes := #[39] }, type := 3, pos := "l8_faces.go:190", after := #[{ on := 0, ground := Ground.data }], guard := none }) rfl (fun K hK => ?_) AllReadyH.nil
      go_simp
      go_wp2_with fail
      refine (HNS.out _ (HBV4.out.drew)).mono ?_
      rintro e V5 ⟨rfl, hBV5⟩
      have hkV5 : Below V4.heap.size V4 V5 := (Below.refl _ _).drew.trans hBV5
      have q5_0 := keep1 hkV5 q4_0
      have q5_1 := keep1 hkV5 q4_1
      have q5_2 := keep1 hkV5 q4_2
      have q5_3 := keep1 hkV5 q4_3
      have HBV5 := Lib.hid (below_step HBV4.out hkV5)
      clear hkV5 hBV5
      go_wp2_with fail
      refine hK.out _ _ ?_ (fun hHeld => ?_)
      · exact ⟨q5_0, q5_1, q5_2, q5_3⟩
      clear hK K
      (try simp only [Act.put, List.setIfInBounds_toArray, List.set_cons_zero, List.set_cons_succ])
      refine wpAnyH_ready (rs := [3]) (by kernel_rfl) (by simp) ?_
      refine AllReadyH.cons (o := { dst := some 19, op := Op.call { callee := Callee.value (Operand.func 45), args := #[Operand.tmp 18], argTypes := #[39] }, type := 3, pos := "l8_faces.go:190", after := #[{ on := 2, ground := Ground.data }, { on := 1, ground := Ground.chain }], guard := none }) rfl (fun K hK => ?_) AllReadyH.nil
      go_simp
      go_wp2_with fail
      refine (HNT.out _ (HBV5.out)).mono ?_
      rintro e V6 ⟨rfl, hBV6⟩
      have hkV6 := hBV6
      have q6_0 := keep1 hkV6 q5_0
      have q6_1 := keep1 hkV6 q5_1
      have q6_2 := keep1 hkV6 q5_2
      have q6_3 := keep1 hkV6 q5_3
      have HBV6 := Lib.hid (below_step HBV5.out hkV6)
      clear hkV6 hBV6
      go_wp2_with fail
      refine hK.out _ _ ?_ (fun hHeld => ?_)
      · exact ⟨q6_0, q6_1, q6_2, q6_3⟩
      clear hK K
      (try simp only [Act.put, List.setIfInBounds_toArray, List.set_cons_zero, List.set_cons_succ])
      refine wpAnyH_take (i := 4) (oi := { dst := some 20, op := Op.binOp BinOp.leq 3 (Operand.tmp 17) (Operand.tmp 19) 3, type := 4, pos := "l8_faces.go:190", after := #[{ on := 1, ground := Ground.data }, { on := 3, ground := Ground.data }], guard := none }) (v := ?_) rfl (by kernel_rfl) (by kernel_rfl) (by kernel_rfl) (fun _ _ _ h => h) (Or.inl ⟨by rfl, ?_⟩) (by assumption) ?_
      rotate_left
      · (intro w hSw; (try dsimp only at hSw); go_simp <;> with_reducible rfl)
      (try simp only [Act.put, List.setIfInBounds_toArray, List.set_cons_zero, List.set_cons_succ])
      refine wpAnyH_take (i := 5) (oi := { dst := some 21, op := Op.move (Operand.tmp 20), type := 4, pos := "l8_faces.go:190", after := #[{ on := 4, ground := Ground.data }, { on := 3, ground := Ground.chain }], guard := none }) (v := ?_) rfl (by kernel_rfl) (by kernel_rfl) (by kernel_rfl) (fun _ _ _ h => h) (Or.inl ⟨by rfl, ?_⟩) (by assumption) ?_
      rotate_left
      · (intro w hSw; (try dsimp only at hSw); go_simp <;> with_reducible rfl)
      (try simp only [Act.put, List.setIfInBounds_toArray, List.set_cons_zero, List.set_cons_succ])
      refine wpAnyH_take (i := 6) (oi := { dst := some 22, op := Op.load 39 (Operand.tmp 2), type := 39, pos := "l8_faces.go:190", after := #[{ on := 5, ground := Ground.guard }], guard := some (5, false) }) (v := undef) rfl (by kernel_rfl) (by kernel_rfl) (by kernel_rfl) (fun _ _ _ h => h) (Or.inr ⟨by rfl, rfl⟩) (by assumption) ?_
      (try simp only [Act.put, List.setIfInBounds_toArray, List.set_cons_zero, List.set_cons_succ])
      refine wpAnyH_take (i := 7) (oi := { dst := some 23, op := Op.call { callee := Callee.value (Operand.func 37), args := #[Operand.tmp 22], argTypes := #[39] }, type := 3, pos := "l8_faces.go:190", after := #[{ on := 6, ground := Ground.data }, { on := 5, ground := Ground.chain }, { on := 5, ground := Ground.guard }], guard := some (5, false) }) (v := undef) rfl (by kernel_rfl) (by kernel_rfl) (by kernel_rfl) (fun _ _ _ h => h) (Or.inr ⟨by rfl, rfl⟩) (by assumption) ?_
      (try simp only [Act.put, List.setIfInBounds_toArray, List.set_cons_zero, List.set_cons_succ])
      refine wpAnyH_take (i := 8) (oi := { dst := some 24, op := Op.load 39 (Operand.tmp 3), type := 39, pos := "l8_faces.go:190", after := #[{ on := 5, ground := Ground.guard }], guard := some (5, false) }) (v := undef) rfl (by kernel_rfl) (by kernel_rfl) (by kernel_rfl) (fun _ _ _ h => h) (Or.inr ⟨by rfl, rfl⟩) (by assumption) ?_
      (try simp only [Act.put, List.setIfInBounds_toArray, List.set_cons_zero, List.set_cons_succ])
      refine wpAnyH_take (i := 9) (oi := { dst := some 25, op := Op.call { callee := Callee.value (Operand.func 37), args := #[Operand.tmp 24], argTypes := #[39] }, type := 3, pos := "l8_faces.go:190", after := #[{ on := 8, ground := Ground.data }, { on := 7, ground := Ground.chain }, { on := 5, ground := Ground.guard }], guard := some (5, false) }) (v := undef) rfl (by kernel_rfl) (by kernel_rfl) (by kernel_rfl) (fun _ _ _ h => h) (Or.inr ⟨by rfl, rfl⟩) (by assumption) ?_
      (try simp only [Act.put, List.setIfInBounds_toArray, List.set_cons_zero, List.set_cons_succ])
      refine wpAnyH_take (i := 10) (oi := { dst := some 26, op := Op.binOp BinOp.neq 3 (Operand.tmp 23) (Operand.tmp 25) 3, type := 4, pos := "l8_faces.go:190", after := #[{ on := 7, ground := Ground.data }, { on := 9, ground := Ground.data }, { on := 5, ground := Ground.guard }], guard := some (5, false) }) (v := undef) rfl (by kernel_rfl) (by kernel_rfl) (by kernel_rfl) (fun _ _ _ h => h) (Or.inr ⟨by rfl, rfl⟩) (by assumption) ?_
      (try simp only [Act.put, List.setIfInBounds_toArray, List.set_cons_zero, List.set_cons_succ])
      refine wpAnyH_take (i := 11) (oi := { dst := some 27, op := Op.pick (Operand.tmp 21) (Operand.const (Value.bool true)) (Operand.tmp 26), type := 4, pos := "l8_faces.go:190", after := #[{ on := 5, ground := Ground.data }, { on := 10, ground := Ground.data }], guard := none }) (v := ?_) rfl (by kernel_rfl) (by kernel_rfl) (by kernel_rfl) (fun _ _ _ h => h) (Or.inl ⟨by rfl, ?_⟩) (by assumption) ?_
      rotate_left
      · (intro w hSw; (try dsimp only at hSw); go_simp <;> with_reducible rfl)
      (try simp only [Act.put, List.setIfInBounds_toArray, List.set_cons_zero, List.set_cons_succ])
      refine wpAnyH_done (by kernel_rfl) ?_ _
      all_goals
        go_wp2_with fail
        go_ret
        exact ⟨by rw [HANS.out]; rfl, below_step HB0.out HBV6.out⟩
    · have g1 : decide ((NS : Int) ≤ (NT : Int)) = false := decide_eq_false (by omega)
      have g1n : decide (NS ≤ NT) = false := decide_eq_false hNN
      have HLTN : Hid (t.nodes < s.nodes) := Lib.hid (by have := HNN.out; omega)
      clear hNN
      by_cases hLL : LS = LT
      · have g2 : ((LS : Int) != (LT : Int)) = false := by simp; omega
        have HLL := Lib.hid hLL
        clear hLL
        refine wp_region_held_drew (S := (fun w' => w'.cell? ⟨w.heap.size, 0, none⟩ = some (.string sb) ∧ w'.cell? ⟨w.heap.size, 1, none⟩ = some (.slice sa sn sc) ∧ w'.cell? ⟨w.heap.size + 1, 0, none⟩ = some (.string tb) ∧ w'.cell? ⟨w.heap.size + 1, 1, none⟩ = some (.slice ta tn tc))) (by kernel_rfl) (by exact ⟨q4_0, q4_1, q4_2, q4_3⟩) (fun hHeld => ?_)
        refine wpAnyH_take (i := 0) (oi := { dst := some 16, op := Op.load 39 (Operand.tmp 2), type := 39, pos := "l8_faces.go:190", after := #[], guard := none }) (v := ?_) rfl (by kernel_rfl) (by kernel_rfl) (by kernel_rfl) (fun _ _ _ h => h) (Or.inl ⟨by rfl, ?_⟩) (by assumption) ?_
        rotate_left
        · (intro w hSw; (try dsimp only at hSw); go_simp <;> with_reducible rfl)
        (try simp only [Act.put, List.setIfInBounds_toArray, List.set_cons_zero, List.set_cons_succ])
        refine wpAnyH_take (i := 2) (oi := { dst := some 18, op := Op.load 39 (Operand.tmp 3), type := 39, pos := "l8_faces.go:190", after := #[], guard := none }) (v := ?_) rfl (by kernel_rfl) (by kernel_rfl) (by kernel_rfl) (fun _ _ _ h => h) (Or.inl ⟨by rfl, ?_⟩) (by assumption) ?_
        rotate_left
        · (intro w hSw; (try dsimp only at hSw); go_simp <;> with_reducible rfl)
        (try simp only [Act.put, List.setIfInBounds_toArray, List.set_cons_zero, List.set_cons_succ])
        refine wpAnyH_ready (rs := [1]) (by kernel_rfl) (by simp) ?_
        refine AllReadyH.cons (o := { dst := some 17, op := Op.call { callee := Callee.value (Operand.func 45), args := #[Operand.tmp 16], argTypes := #[39] }, type := 3, pos := "l8_faces.go:190", after := #[{ on := 0, ground := Ground.data }], guard := none }) rfl (fun K hK => ?_) AllReadyH.nil
        go_simp
        go_wp2_with fail
        refine (HNS.out _ (HBV4.out.drew)).mono ?_
        rintro e V7 ⟨rfl, hBV7⟩
        have hkV7 : Below V4.heap.size V4 V7 := (Below.refl _ _).drew.trans hBV7
        have q7_0 := keep1 hkV7 q4_0
        have q7_1 := keep1 hkV7 q4_1
        have q7_2 := keep1 hkV7 q4_2
        have q7_3 := keep1 hkV7 q4_3
        have HBV7 := Lib.hid (below_step HBV4.out hkV7)
        clear hkV7 hBV7
        go_wp2_with fail
        refine hK.out _ _ ?_ (fun hHeld => ?_)
        · exact ⟨q7_0, q7_1, q7_2, q7_3⟩
        clear hK K
        (try simp only [Act.put, List.setIfInBounds_toArray, List.set_cons_zero, List.set_cons_succ])
        refine wpAnyH_ready (rs := [3]) (by kernel_rfl) (by simp) ?_
        refine AllReadyH.cons (o := { dst := some 19, op := Op.call { callee := Callee.value (Operand.func 45), args := #[Operand.tmp 18], argTypes := #[39] }, type := 3, pos := "l8_faces.go:190", after := #[{ on := 2, ground := Ground.data }, { on := 1, ground := Ground.chain }], guard := none }) rfl (fun K hK => ?_) AllReadyH.nil
        go_simp
        go_wp2_with fail
        refine (HNT.out _ (HBV7.out)).mono ?_
        rintro e V8 ⟨rfl, hBV8⟩
        have hkV8 := hBV8
        have q8_0 := keep1 hkV8 q7_0
        have q8_1 := keep1 hkV8 q7_1
        have q8_2 := keep1 hkV8 q7_2
        have q8_3 := keep1 hkV8 q7_3
        have HBV8 := Lib.hid (below_step HBV7.out hkV8)
        clear hkV8 hBV8
        go_wp2_with fail
        refine hK.out _ _ ?_ (fun hHeld => ?_)
        · exact ⟨q8_0, q8_1, q8_2, q8_3⟩
        clear hK K
        (try simp only [Act.put, List.setIfInBounds_toArray, List.set_cons_zero, List.set_cons_succ])
        refine wpAnyH_take (i := 4) (oi := { dst := some 20, op := Op.binOp BinOp.leq 3 (Operand.tmp 17) (Operand.tmp 19) 3, type := 4, pos := "l8_faces.go:190", after := #[{ on := 1, ground := Ground.data }, { on := 3, ground := Ground.data }], guard := none }) (v := ?_) rfl (by kernel_rfl) (by kernel_rfl) (by kernel_rfl) (fun _ _ _ h => h) (Or.inl ⟨by rfl, ?_⟩) (by assumption) ?_
        rotate_left
        · (intro w hSw; (try dsimp only at hSw); go_simp <;> with_reducible rfl)
        (try simp only [Act.put, List.setIfInBounds_toArray, List.set_cons_zero, List.set_cons_succ])
        refine wpAnyH_take (i := 5) (oi := { dst := some 21, op := Op.move (Operand.tmp 20), type := 4, pos := "l8_faces.go:190", after := #[{ on := 4, ground := Ground.data }, { on := 3, ground := Ground.chain }], guard := none }) (v := ?_) rfl (by kernel_rfl) (by kernel_rfl) (by kernel_rfl) (fun _ _ _ h => h) (Or.inl ⟨by rfl, ?_⟩) (by assumption) ?_
        rotate_left
        · (intro w hSw; (try dsimp only at hSw); go_simp <;> with_reducible rfl)
        (try simp only [Act.put, List.setIfInBounds_toArray, List.set_cons_zero, List.set_cons_succ])
        refine wpAnyH_take (i := 6) (oi := { dst := some 22, op := Op.load 39 (Operand.tmp 2), type := 39, pos := "l8_faces.go:190", after := #[{ on := 5, ground := Ground.guard }], guard := some (5, false) }) (v := ?_) rfl (by kernel_rfl) (by kernel_rfl) (by kernel_rfl) (fun _ _ _ h => h) (Or.inl ⟨by rfl, ?_⟩) (by assumption) ?_
        rotate_left
        · (intro w hSw; (try dsimp only at hSw); go_simp <;> with_reducible rfl)
        (try simp only [Act.put, List.setIfInBounds_toArray, List.set_cons_zero, List.set_cons_succ])
        refine wpAnyH_take (i := 8) (oi := { dst := some 24, op := Op.load 39 (Operand.tmp 3), type := 39, pos := "l8_faces.go:190", after := #[{ on := 5, ground := Ground.guard }], guard := some (5, false) }) (v := ?_) rfl (by kernel_rfl) (by kernel_rfl) (by kernel_rfl) (fun _ _ _ h => h) (Or.inl ⟨by rfl, ?_⟩) (by assumption) ?_
        rotate_left
        · (intro w hSw; (try dsimp only at hSw); go_simp <;> with_reducible rfl)
        (try simp only [Act.put, List.setIfInBounds_toArray, List.set_cons_zero, List.set_cons_succ])
        refine wpAnyH_ready (rs := [7]) (by kernel_rfl) (by simp) ?_
        refine AllReadyH.cons (o := { dst := some 23, op := Op.call { callee := Callee.value (Operand.func 37), args := #[Operand.tmp 22], argTypes := #[39] }, type := 3, pos := "l8_faces.go:190", after := #[{ on := 6, ground := Ground.data }, { on := 5, ground := Ground.chain }, { on := 5, ground := Ground.guard }], guard := some (5, false) }) rfl (fun K hK => ?_) AllReadyH.nil
        go_simp
        go_wp2_with fail
        refine (HLS.out _ (HBV8.out)).mono ?_
        rintro e V9 ⟨rfl, hBV9⟩
        have hkV9 := hBV9
        have q9_0 := keep1 hkV9 q8_0
        have q9_1 := keep1 hkV9 q8_1
        have q9_2 := keep1 hkV9 q8_2
        have q9_3 := keep1 hkV9 q8_3
        have HBV9 := Lib.hid (below_step HBV8.out hkV9)
        clear hkV9 hBV9
        go_wp2_with fail
        refine hK.out _ _ ?_ (fun hHeld => ?_)
        · exact ⟨q9_0, q9_1, q9_2, q9_3⟩
        clear hK K
        (try simp only [Act.put, List.setIfInBounds_toArray, List.set_cons_zero, List.set_cons_succ])
        refine wpAnyH_ready (rs := [9]) (by kernel_rfl) (by simp) ?_
        refine AllReadyH.cons (o := { dst := some 25, op := Op.call { callee := Callee.value (Operand.func 37), args := #[Operand.tmp 24], argTypes := #[39] }, type := 3, pos := "l8_faces.go:190", after := #[{ on := 8, ground := Ground.data }, { on := 7, ground := Ground.chain }, { on := 5, ground := Ground.guard }], guard := some (5, false) }) rfl (fun K hK => ?_) AllReadyH.nil
        go_simp
        go_wp2_with fail
        refine (HLT.out _ (HBV9.out)).mono ?_
        rintro e V10 ⟨rfl, hBV10⟩
        have hkV10 := hBV10
        have q10_0 := keep1 hkV10 q9_0
        have q10_1 := keep1 hkV10 q9_1
        have q10_2 := keep1 hkV10 q9_2
        have q10_3 := keep1 hkV10 q9_3
        have HBV10 := Lib.hid (below_step HBV9.out hkV10)
        clear hkV10 hBV10
        go_wp2_with fail
        refine hK.out _ _ ?_ (fun hHeld => ?_)
        · exact ⟨q10_0, q10_1, q10_2, q10_3⟩
        clear hK K
        (try simp only [Act.put, List.setIfInBounds_toArray, List.set_cons_zero, List.set_cons_succ])
        refine wpAnyH_take (i := 10) (oi := { dst := some 26, op := Op.binOp BinOp.neq 3 (Operand.tmp 23) (Operand.tmp 25) 3, type := 4, pos := "l8_faces.go:190", after := #[{ on := 7, ground := Ground.data }, { on := 9, ground := Ground.data }, { on := 5, ground := Ground.guard }], guard := some (5, false) }) (v := ?_) rfl (by kernel_rfl) (by kernel_rfl) (by kernel_rfl) (fun _ _ _ h => h) (Or.inl ⟨by rfl, ?_⟩) (by assumption) ?_
        rotate_left
        · (intro w hSw; (try dsimp only at hSw); go_simp <;> with_reducible rfl)
        (try simp only [Act.put, List.setIfInBounds_toArray, List.set_cons_zero, List.set_cons_succ])
        refine wpAnyH_take (i := 11) (oi := { dst := some 27, op := Op.pick (Operand.tmp 21) (Operand.const (Value.bool true)) (Operand.tmp 26), type := 4, pos := "l8_faces.go:190", after := #[{ on := 5, ground := Ground.data }, { on := 10, ground := Ground.data }], guard := none }) (v := ?_) rfl (by kernel_rfl) (by kernel_rfl) (by kernel_rfl) (fun _ _ _ h => h) (Or.inl ⟨by rfl, ?_⟩) (by assumption) ?_
        rotate_left
        · (intro w hSw; (try dsimp only at hSw); go_simp <;> with_reducible rfl)
        (try simp only [Act.put, List.setIfInBounds_toArray, List.set_cons_zero, List.set_cons_succ])
        refine wpAnyH_done (by kernel_rfl) ?_ _
        go_wp2_with fail
        clear s0 s1 t0 t1
        go_loopw [5] (fun kv wr => ∃ k : Nat, k ≤ NT ∧ kv = .int .i64 k ∧ Below w0.heap.size w0 wr ∧ ∀ k', k' < k → NoAt s t k') (fun kv _ => NT - (intOf kv).toNat)
        case atStart => exact ⟨0, Nat.zero_le _, rfl, HBV10.out, fun k' h => by omega⟩
        case round =>
          obtain ⟨wo, rfl⟩ : ∃ wo : World, wo = wr := ⟨_, rfl⟩
          obtain ⟨k, hkN, rfl, hBo, hno⟩ := hrel
          have HBO := Lib.hid hBo
          have HNO := Lib.hid hno
          obtain ⟨s0, s1, _, _⟩ := two_cells ((hBo.block _ (lt_of_block HSC.out.1)).trans HSC.out.1)
          obtain ⟨t0, t1, _, _⟩ := two_cells ((hBo.block _ (lt_of_block HSC.out.2)).trans HSC.out.2)
          clear hBo hno
          by_cases hlt : k < NT
          · obtain ⟨r, part, ai, hcut⟩ := cutAt_some t k (by have := HNN.out; omega)
            obtain ⟨hpf, hpl, c, ks, rfl⟩ := cut_fc t k r part ai htf hcut
            have HPT := Lib.hid (fun (V : World) (hb : Below w0.heap.size w0 V) => l1Part_any _ t (.string tb) (.slice ta tn tc) k r (.node c ks) ai V (fun b => b < w0.heap.size) (Nat.le_refl _) HW.out.2 (by omega) (by have := HNN.out; omega) (by have := HNN.out; omega) hcut (fun b h => Nat.lt_of_lt_of_le h hb.size) (HRT.out.below HW.out.2 hb))
            have HCUT := Lib.hid hcut
            have hpw := fc_wf _ hpf (by omega)
            have HPW := Lib.hid hpw
            have HPF := Lib.hid hpf
            rw [T.fc] at hpf
            rw [T.wf] at hpw
            obtain ⟨m, hm⟩ : ∃ m, m = ks.length := ⟨_, rfl⟩
            have hm2 : 2 ≤ m := by omega
            have hm6 : m ≤ 6 := by omega
            have HM := Lib.hid hm
            have HWK := Lib.hid hpw.2.2.2.2
            clear hcut hpf hpl hpw hm
            go_wp2_with fail
            refine (HNT.out _ HBO.out).mono ?_
            rintro e V1 ⟨rfl, hb1⟩
            have s0 := keep1 hb1 s0
            have s1 := keep1 hb1 s1
            have t0 := keep1 hb1 t0
            have t1 := keep1 hb1 t1
            have HB1 := Lib.hid (below_step HBO.out hb1)
            clear hb1
            go_wp2_with fail
            refine (HPT.out V1 HB1.out).mono ?_
            rintro e V2 ⟨hb2, pb, pa, pn, pc, rfl, hrp⟩
            have hpn : pn = m := by
              rw [RepS] at hrp
              obtain ⟨_, g', cap', e, _⟩ := hrp
              simp only [Value.slice.injEq] at e
              rw [HM.out]; exact e.2.1
            subst hpn
            obtain ⟨V3, hV3⟩ : ∃ V3, V3 = V2.alloc (.cells #[.string pb, .slice pa pn pc] 39 (0, 0)) := ⟨_, rfl⟩
            obtain ⟨B6, hB6⟩ : ∃ B6, B6 = V2.heap.size := ⟨_, rfl⟩
            have hb3 : Below V2.heap.size V2 V3 := by rw [hV3]; exact (Below.refl _ _).alloc (Nat.le_refl _) _
            have h6 : V3.heap[B6]? = some (.cells #[.string pb, .slice pa pn pc] 39 (0, 0)) := by rw [hV3, hB6]; exact heap_alloc_new _ _
            have s0 := keep1 hb3 (keep1 hb2 s0)
            have s1 := keep1 hb3 (keep1 hb2 s1)
            have t0 := keep1 hb3 (keep1 hb2 t0)
            have t1 := keep1 hb3 (keep1 hb2 t1)
            obtain ⟨u0, u1, _, _⟩ := two_cells h6
            have HB3 := Lib.hid (below_step (below_step HB1.out hb2) hb3)
            have HRP3 := Lib.hid ((hrp.below HPW.out hb3).keep (P' := fun b => b < V3.heap.size) (fun _ _ _ h => h) (fun b h h' => by have := HB3.out.size; omega) HPW.out)
            have HV3 := Lib.hid hV3
            have HB6E : Hid (V2.heap.size = B6) := Lib.hid hB6.symm
            have HCELLS : Hid (V3.cell? ⟨w.heap.size, 0, none⟩ = some (.string sb) ∧ V3.cell? ⟨w.heap.size, 1, none⟩ = some (.slice sa sn sc) ∧ V3.cell? ⟨w.heap.size + 1, 0, none⟩ = some (.string tb) ∧ V3.cell? ⟨w.heap.size + 1, 1, none⟩ = some (.slice ta tn tc) ∧ V3.cell? ⟨B6, 0, none⟩ = some (.string pb) ∧ V3.cell? ⟨B6, 1, none⟩ = some (.slice pa pn pc)) := Lib.hid ⟨s0, s1, t0, t1, u0, u1⟩
            have hwm : IntKind.i64.wrap ((pn : Int) - 2) = (pn : Int) - 2 := by rw [IntKind.wrap_i64]; omega
            have hb6' : V2.cell? ⟨0, 0, none⟩ = V2.cell? ⟨0, 0, none⟩ := rfl
            clear hb2 hb3 hrp hV3 hB6 h6 hb6'
            go_upto_region 9 with fail
            rw [← HV3.out, HB6E.out]
            go_wp2_with fail
            go_loopw [9] (fun pv wr => ∃ p : Nat, p + 1 ≤ pn ∧ pv = .int .i64 p ∧ Below V3.heap.size V3 wr ∧ ∀ p', p' < p → NoP s t k ks p') (fun pv _ => pn - (intOf pv).toNat)
            case atStart => exact ⟨0, by omega, rfl, Below.refl _ _, fun p' h => by omega⟩
            case round =>
              obtain ⟨wp, rfl⟩ : ∃ wp : World, wp = wr := ⟨_, rfl⟩
              obtain ⟨p, hpm, rfl, hBp, hnp⟩ := hrel
              have HBP := Lib.hid hBp
              have HNP := Lib.hid hnp
              clear hBp hnp
              by_cases hp2 : p + 2 ≤ pn
              · have hpd : decide ((p : Int) ≤ (pn : Int) - 2) = true := decide_eq_true (by omega)
                go_wp2_with fail
                go_loopw [10] (fun qv wr => ∃ q : Nat, 2 ≤ q ∧ q ≤ pn ∧ qv = .int .i64 q ∧ Below V3.heap.size V3 wr ∧ ∀ q', 2 ≤ q' → q' < q → p + q' ≤ pn → ¬ inF s (t.putAt k (splitN ks p q'))) (fun qv _ => pn - (intOf qv).toNat)
                case atStart => exact ⟨2, Nat.le_refl _, hm2, rfl, HBP.out, fun q' h1 h2 => by omega⟩
                case round =>
                  obtain ⟨wq, rfl⟩ : ∃ wq : World, wq = wr := ⟨_, rfl⟩
                  obtain ⟨q, hq2, hqm, rfl, hBq, hnq⟩ := hrel
                  have HBQ := Lib.hid hBq
                  have HQ := Lib.hid hnq
                  obtain ⟨s0, s1, t0, t1, u0, u1⟩ := HCELLS.out
                  have s0 := keep1 hBq s0
                  have s1 := keep1 hBq s1
                  have t0 := keep1 hBq t0
                  have t1 := keep1 hBq t1
                  have u0 := keep1 hBq u0
                  have u1 := keep1 hBq u1
                  clear hBq hnq
                  by_cases hqlt : q < pn
                  · by_cases hpq : p + q ≤ pn
                    · have hpqd : decide ((p : Int) + (q : Int) ≤ (pn : Int)) = true := decide_eq_true (by omega)
                      have HS1 : Hid (Sp1 t (t.putAt k (splitN ks p q))) := Lib.hid (split_at t k r c ks ai p q htf HCUT.out hq2 (by rw [← HM.out]; exact hqlt) (by rw [← HM.out]; exact hpq))
                      have HSP1 : Hid (True ∧ (t.putAt k (splitN ks p q)).fc ∧ (t.putAt k (splitN ks p q)).leaves ≤ 6 ∧ (t.putAt k (splitN ks p q)).nodes = t.nodes + 1) := Lib.hid ⟨trivial, HS1.out.same.2.2.1 htf, by rw [HS1.out.same.1]; exact ht6, HS1.out.same.2.1⟩
                      have HUW : Hid (splitN ks p q).wf := Lib.hid (by
                        have h1 := split_here (ks := ks) (p := p) (q := q) hq2 (by rw [← HM.out]; exact hqlt) (by rw [← HM.out]; exact hpq)
                        have hpf := HPF.out
                        have hlp := (cut_fc t k r _ ai htf HCUT.out).2.1
                        rw [T.fc] at hpf
                        have hf97 : (T.node 97 ks).fc := by rw [T.fc]; exact ⟨rfl, hpf.2⟩
                        refine fc_wf _ (h1.same.2.2.1 hf97) ?_
                        rw [h1.same.1]
                        rw [T.leaves] at hlp ⊢
                        omega)
                      have HSP := Lib.hid (fun (V : World) (hb : Below V3.heap.size V3 V) => l8Split_any c ks p q pb pa pn pc V HWK.out hq2 (by rw [← HM.out]; exact hqlt) (by rw [← HM.out]; exact hpq) ((HRP3.out.below HPW.out hb).keep (fun _ _ _ h => h) (fun _ _ h => h) HPW.out))
                      obtain ⟨bq, hbq⟩ : ∃ bq, bq = inFB s (t.putAt k (splitN ks p q)) := ⟨_, rfl⟩
                      have HBQE := Lib.hid hbq
                      clear hbq
                      cases bq
                      · have HFF : Hid (¬ inF s (t.putAt k (splitN ks p q))) := Lib.hid (fun h => by have := (inFB_iff _ _).2 h; rw [← HBQE.out] at this; cases this)
                        go_wp2_with fail
                        refine wp_region_held_drew (S := (fun w' => w'.cell? ⟨w.heap.size, 0, none⟩ = some (.string sb) ∧ w'.cell? ⟨w.heap.size, 1, none⟩ = some (.slice sa sn sc) ∧ w'.cell? ⟨w.heap.size + 1, 0, none⟩ = some (.string tb) ∧ w'.cell? ⟨w.heap.size + 1, 1, none⟩ = some (.slice ta tn tc) ∧ w'.cell? ⟨B6, 0, none⟩ = some (.string pb) ∧ w'.cell? ⟨B6, 1, none⟩ = some (.slice pa pn pc))) (by kernel_rfl) (by exact ⟨s0, s1, t0, t1, u0, u1⟩) (fun hHeld => ?_)
                        refine wpAnyH_take (i := 0) (oi := { dst := some 61, op := Op.load 39 (Operand.tmp 2), type := 39, pos := "l8_faces.go:198", after := #[], guard := none }) (v := ?_) rfl (by kernel_rfl) (by kernel_rfl) (by kernel_rfl) (fun _ _ _ h => h) (Or.inl ⟨by rfl, ?_⟩) (by assumption) ?_
                        rotate_left
                        · (intro w hSw; (try dsimp only at hSw); go_simp <;> with_reducible rfl)
                        (try simp only [Act.put, List.setIfInBounds_toArray, List.set_cons_zero, List.set_cons_succ])
                        refine wpAnyH_take (i := 1) (oi := { dst := some 62, op := Op.load 39 (Operand.tmp 3), type := 39, pos := "l8_faces.go:198", after := #[], guard := none }) (v := ?_) rfl (by kernel_rfl) (by kernel_rfl) (by kernel_rfl) (fun _ _ _ h => h) (Or.inl ⟨by rfl, ?_⟩) (by assumption) ?_
                        rotate_left
                        · (intro w hSw; (try dsimp only at hSw); go_simp <;> with_reducible rfl)
                        (try simp only [Act.put, List.setIfInBounds_toArray, List.set_cons_zero, List.set_cons_succ])
                        refine wpAnyH_take (i := 2) (oi := { dst := some 63, op := Op.move (Operand.tmp 5), type := 3, pos := "l8_faces.go:198", after := #[], guard := none }) (v := ?_) rfl (by kernel_rfl) (by kernel_rfl) (by kernel_rfl) (fun _ _ _ h => h) (Or.inl ⟨by rfl, ?_⟩) (by assumption) ?_
                        rotate_left
                        · (intro w hSw; (try dsimp only at hSw); go_simp <;> with_reducible rfl)
                        (try simp only [Act.put, List.setIfInBounds_toArray, List.set_cons_zero, List.set_cons_succ])
                        refine wpAnyH_take (i := 3) (oi := { dst := some 64, op := Op.load 39 (Operand.tmp 6), type := 39, pos := "l8_faces.go:198", after := #[], guard := none }) (v := ?_) rfl (by kernel_rfl) (by kernel_rfl) (by kernel_rfl) (fun _ _ _ h => h) (Or.inl ⟨by rfl, ?_⟩) (by assumption) ?_
                        rotate_left
                        · (intro w hSw; (try dsimp only at hSw); go_simp <;> with_reducible rfl)
                        (try simp only [Act.put, List.setIfInBounds_toArray, List.set_cons_zero, List.set_cons_succ])
                        refine wpAnyH_take (i := 4) (oi := { dst := some 65, op := Op.move (Operand.tmp 9), type := 3, pos := "l8_faces.go:198", after := #[], guard := none }) (v := ?_) rfl (by kernel_rfl) (by kernel_rfl) (by kernel_rfl) (fun _ _ _ h => h) (Or.inl ⟨by rfl, ?_⟩) (by assumption) ?_
                        rotate_left
                        · (intro w hSw; (try dsimp only at hSw); go_simp <;> with_reducible rfl)
                        (try simp only [Act.put, List.setIfInBounds_toArray, List.set_cons_zero, List.set_cons_succ])
                        refine wpAnyH_take (i := 5) (oi := { dst := some 66, op := Op.move (Operand.tmp 10), type := 3, pos := "l8_faces.go:198", after := #[], guard := none }) (v := ?_) rfl (by kernel_rfl) (by kernel_rfl) (by kernel_rfl) (fun _ _ _ h => h) (Or.inl ⟨by rfl, ?_⟩) (by assumption) ?_
                        rotate_left
                        · (intro w hSw; (try dsimp only at hSw); go_simp <;> with_reducible rfl)
                        (try simp only [Act.put, List.setIfInBounds_toArray, List.set_cons_zero, List.set_cons_succ])
                        refine wpAnyH_ready (rs := [6]) (by kernel_rfl) (by simp) ?_
                        refine AllReadyH.cons (o := { dst := some 67, op := Op.call { callee := Callee.value (Operand.func 48), args := #[Operand.tmp 64, Operand.tmp 65, Operand.tmp 66], argTypes := #[39, 3, 3] }, type := 39, pos := "l8_faces.go:198", after := #[{ on := 3, ground := Ground.data }, { on := 4, ground := Ground.data }, { on := 5, ground := Ground.data }], guard := none }) rfl (fun K hK => ?_) AllReadyH.nil
                        go_simp
                        go_wp2_with fail
                        refine (HSP.out _ (HBQ.out.drew)).mono ?_
                        rintro e V5 ⟨hB5, xb, xa, xn, xc, rfl, hr5⟩
                        have hk5 : Below wq.heap.size wq V5 := (Below.refl _ _).drew.trans hB5
                        have x0 := keep1 hk5 s0
                        have x1 := keep1 hk5 s1
                        have x2 := keep1 hk5 t0
                        have x3 := keep1 hk5 t1
                        have x4 := keep1 hk5 u0
                        have x5 := keep1 hk5 u1
                        have HB5 := Lib.hid (below_step HBQ.out hk5)
                        have HR5 := Lib.hid hr5
                        clear hk5 hB5 hr5
                        go_wp2_with fail
                        refine hK.out _ _ ?_ (fun hHeld => ?_)
                        · exact ⟨x0, x1, x2, x3, x4, x5⟩
                        clear hK K
                        (try simp only [Act.put, List.setIfInBounds_toArray, List.set_cons_zero, List.set_cons_succ])
                        refine wpAnyH_ready (rs := [7]) (by kernel_rfl) (by simp) ?_
                        refine AllReadyH.cons (o := { dst := some 68, op := Op.call { callee := Callee.value (Operand.func 47), args := #[Operand.tmp 62, Operand.tmp 63, Operand.tmp 67], argTypes := #[39, 3, 39] }, type := 39, pos := "l8_faces.go:198", after := #[{ on := 1, ground := Ground.data }, { on := 2, ground := Ground.data }, { on := 6, ground := Ground.data }, { on := 6, ground := Ground.chain }], guard := none }) rfl (fun K hK => ?_) AllReadyH.nil
                        go_simp
                        go_wp2_with fail
                        have HRP := Lib.hid (l1Replace_any _ t (.string tb) (.slice ta tn tc) k (splitN ks p q) (.string xb) (.slice xa xn xc) V5 (fun b => b < V5.heap.size) (Nat.le_refl _) HW.out.2 HUW.out (by have := HNN.out.2.1; omega) (by have := HNN.out.2.1; omega) (fun b h => h) ((HRT.out.below HW.out.2 (below_step HB3.out HB5.out)).keep (fun _ _ _ h => h) (fun _ _ h => h) HW.out.2) HR5.out)
                        refine HRP.out.mono ?_
                        rintro e V6 ⟨hB6, yb, ya, yn, yc, rfl, hr6⟩
                        have y0 := keep1 hB6 x0
                        have y1 := keep1 hB6 x1
                        have y2 := keep1 hB6 x2
                        have y3 := keep1 hB6 x3
                        have y4 := keep1 hB6 x4
                        have y5 := keep1 hB6 x5
                        have HB6 := Lib.hid (below_step HB5.out hB6)
                        have HR6 := Lib.hid hr6
                        clear hB6 hr6 HRP
                        go_wp2_with fail
                        refine hK.out _ _ ?_ (fun hHeld => ?_)
                        · exact ⟨y0, y1, y2, y3, y4, y5⟩
                        clear hK K
                        (try simp only [Act.put, List.setIfInBounds_toArray, List.set_cons_zero, List.set_cons_succ])
                        refine wpAnyH_ready (rs := [8]) (by kernel_rfl) (by simp) ?_
                        refine AllReadyH.cons (o := { dst := some 69, op := Op.call { callee := Callee.value (Operand.func 30), args := #[Operand.tmp 61, Operand.tmp 68], argTypes := #[39, 39] }, type := 4, pos := "l8_faces.go:198", after := #[{ on := 0, ground := Ground.data }, { on := 7, ground := Ground.data }, { on := 7, ground := Ground.chain }], guard := none }) rfl (fun K hK => ?_) AllReadyH.nil
                        go_simp
                        go_wp2_with fail
                        have HIN := HIH.out HLTN.out (t.putAt k (splitN ks p q)) yb ya yn yc V6 (fun b => b < V6.heap.size) HSP1.out.2.1 HSP1.out.2.2.1 HSP1.out.2.2.2 ((HRS.out.below HW.out.1 (below_step HB3.out HB6.out)).keep (fun _ _ _ h => h) (fun _ _ h => h) HW.out.1) (HR6.out.keep (fun _ _ _ h => h) (fun _ _ h => h) (fc_wf _ HSP1.out.2.1 HSP1.out.2.2.1))
                        rw [← HBQE.out] at HIN
                        refine HIN.mono ?_
                        rintro e V7 ⟨rfl, hB7⟩
                        have z0 := keep1 hB7 y0
                        have z1 := keep1 hB7 y1
                        have z2 := keep1 hB7 y2
                        have z3 := keep1 hB7 y3
                        have z4 := keep1 hB7 y4
                        have z5 := keep1 hB7 y5
                        have HB7 := Lib.hid (below_step HB6.out hB7)
                        clear hB7
                        go_wp2_with fail
                        refine hK.out _ _ ?_ (fun hHeld => ?_)
                        · exact ⟨z0, z1, z2, z3, z4, z5⟩
                        clear hK K
                        (try simp only [Act.put, List.setIfInBounds_toArray, List.set_cons_zero, List.set_cons_succ])
                        refine wpAnyH_done (by kernel_rfl) ?_ _
                        go_wp2_with fail
                        go_roundw
                        case rel => exact ⟨q + 1, by omega, by omega, by go_num, HB7.out, fun q' h1 h2 h3 => by
                            by_cases e : q' = q
                            · subst e; exact HFF.out
                            · exact HQ.out q' h1 (by omega) h3⟩
                        case measure => simp [intOf]; omega
                      · have HTT : Hid (inFB s t = true) := Lib.hid ((inFB_iff s t).2 ((inF_step hsf htf HNE.out).2 ⟨_, HS1.out, (inFB_iff _ _).1 HBQE.out.symm⟩))
                        go_wp2_with fail
                        refine wp_region_held_drew (S := (fun w' => w'.cell? ⟨w.heap.size, 0, none⟩ = some (.string sb) ∧ w'.cell? ⟨w.heap.size, 1, none⟩ = some (.slice sa sn sc) ∧ w'.cell? ⟨w.heap.size + 1, 0, none⟩ = some (.string tb) ∧ w'.cell? ⟨w.heap.size + 1, 1, none⟩ = some (.slice ta tn tc) ∧ w'.cell? ⟨B6, 0, none⟩ = some (.string pb) ∧ w'.cell? ⟨B6, 1, none⟩ = some (.slice pa pn pc))) (by kernel_rfl) (by exact ⟨s0, s1, t0, t1, u0, u1⟩) (fun hHeld => ?_)
                        refine wpAnyH_take (i := 0) (oi := { dst := some 61, op := Op.load 39 (Operand.tmp 2), type := 39, pos := "l8_faces.go:198", after := #[], guard := none }) (v := ?_) rfl (by kernel_rfl) (by kernel_rfl) (by kernel_rfl) (fun _ _ _ h => h) (Or.inl ⟨by rfl, ?_⟩) (by assumption) ?_
                        rotate_left
                        · (intro w hSw; (try dsimp only at hSw); go_simp <;> with_reducible rfl)
                        (try simp only [Act.put, List.setIfInBounds_toArray, List.set_cons_zero, List.set_cons_succ])
                        refine wpAnyH_take (i := 1) (oi := { dst := some 62, op := Op.load 39 (Operand.tmp 3), type := 39, pos := "l8_faces.go:198", after := #[], guard := none }) (v := ?_) rfl (by kernel_rfl) (by kernel_rfl) (by kernel_rfl) (fun _ _ _ h => h) (Or.inl ⟨by rfl, ?_⟩) (by assumption) ?_
                        rotate_left
                        · (intro w hSw; (try dsimp only at hSw); go_simp <;> with_reducible rfl)
                        (try simp only [Act.put, List.setIfInBounds_toArray, List.set_cons_zero, List.set_cons_succ])
                        refine wpAnyH_take (i := 2) (oi := { dst := some 63, op := Op.move (Operand.tmp 5), type := 3, pos := "l8_faces.go:198", after := #[], guard := none }) (v := ?_) rfl (by kernel_rfl) (by kernel_rfl) (by kernel_rfl) (fun _ _ _ h => h) (Or.inl ⟨by rfl, ?_⟩) (by assumption) ?_
                        rotate_left
                        · (intro w hSw; (try dsimp only at hSw); go_simp <;> with_reducible rfl)
                        (try simp only [Act.put, List.setIfInBounds_toArray, List.set_cons_zero, List.set_cons_succ])
                        refine wpAnyH_take (i := 3) (oi := { dst := some 64, op := Op.load 39 (Operand.tmp 6), type := 39, pos := "l8_faces.go:198", after := #[], guard := none }) (v := ?_) rfl (by kernel_rfl) (by kernel_rfl) (by kernel_rfl) (fun _ _ _ h => h) (Or.inl ⟨by rfl, ?_⟩) (by assumption) ?_
                        rotate_left
                        · (intro w hSw; (try dsimp only at hSw); go_simp <;> with_reducible rfl)
                        (try simp only [Act.put, List.setIfInBounds_toArray, List.set_cons_zero, List.set_cons_succ])
                        refine wpAnyH_take (i := 4) (oi := { dst := some 65, op := Op.move (Operand.tmp 9), type := 3, pos := "l8_faces.go:198", after := #[], guard := none }) (v := ?_) rfl (by kernel_rfl) (by kernel_rfl) (by kernel_rfl) (fun _ _ _ h => h) (Or.inl ⟨by rfl, ?_⟩) (by assumption) ?_
                        rotate_left
                        · (intro w hSw; (try dsimp only at hSw); go_simp <;> with_reducible rfl)
                        (try simp only [Act.put, List.setIfInBounds_toArray, List.set_cons_zero, List.set_cons_succ])
                        refine wpAnyH_take (i := 5) (oi := { dst := some 66, op := Op.move (Operand.tmp 10), type := 3, pos := "l8_faces.go:198", after := #[], guard := none }) (v := ?_) rfl (by kernel_rfl) (by kernel_rfl) (by kernel_rfl) (fun _ _ _ h => h) (Or.inl ⟨by rfl, ?_⟩) (by assumption) ?_
                        rotate_left
                        · (intro w hSw; (try dsimp only at hSw); go_simp <;> with_reducible rfl)
                        (try simp only [Act.put, List.setIfInBounds_toArray, List.set_cons_zero, List.set_cons_succ])
                        refine wpAnyH_ready (rs := [6]) (by kernel_rfl) (by simp) ?_
                        refine AllReadyH.cons (o := { dst := some 67, op := Op.call { callee := Callee.value (Operand.func 48), args := #[Operand.tmp 64, Operand.tmp 65, Operand.tmp 66], argTypes := #[39, 3, 3] }, type := 39, pos := "l8_faces.go:198", after := #[{ on := 3, ground := Ground.data }, { on := 4, ground := Ground.data }, { on := 5, ground := Ground.data }], guard := none }) rfl (fun K hK => ?_) AllReadyH.nil
                        go_simp
                        go_wp2_with fail
                        refine (HSP.out _ (HBQ.out.drew)).mono ?_
                        rintro e V5 ⟨hB5, xb, xa, xn, xc, rfl, hr5⟩
                        have hk5 : Below wq.heap.size wq V5 := (Below.refl _ _).drew.trans hB5
                        have x0 := keep1 hk5 s0
                        have x1 := keep1 hk5 s1
                        have x2 := keep1 hk5 t0
                        have x3 := keep1 hk5 t1
                        have x4 := keep1 hk5 u0
                        have x5 := keep1 hk5 u1
                        have HB5 := Lib.hid (below_step HBQ.out hk5)
                        have HR5 := Lib.hid hr5
                        clear hk5 hB5 hr5
                        go_wp2_with fail
                        refine hK.out _ _ ?_ (fun hHeld => ?_)
                        · exact ⟨x0, x1, x2, x3, x4, x5⟩
                        clear hK K
                        (try simp only [Act.put, List.setIfInBounds_toArray, List.set_cons_zero, List.set_cons_succ])
                        refine wpAnyH_ready (rs := [7]) (by kernel_rfl) (by simp) ?_
                        refine AllReadyH.cons (o := { dst := some 68, op := Op.call { callee := Callee.value (Operand.func 47), args := #[Operand.tmp 62, Operand.tmp 63, Operand.tmp 67], argTypes := #[39, 3, 39] }, type := 39, pos := "l8_faces.go:198", after := #[{ on := 1, ground := Ground.data }, { on := 2, ground := Ground.data }, { on := 6, ground := Ground.data }, { on := 6, ground := Ground.chain }], guard := none }) rfl (fun K hK => ?_) AllReadyH.nil
                        go_simp
                        go_wp2_with fail
                        have HRP := Lib.hid (l1Replace_any _ t (.string tb) (.slice ta tn tc) k (splitN ks p q) (.string xb) (.slice xa xn xc) V5 (fun b => b < V5.heap.size) (Nat.le_refl _) HW.out.2 HUW.out (by have := HNN.out.2.1; omega) (by have := HNN.out.2.1; omega) (fun b h => h) ((HRT.out.below HW.out.2 (below_step HB3.out HB5.out)).keep (fun _ _ _ h => h) (fun _ _ h => h) HW.out.2) HR5.out)
                        refine HRP.out.mono ?_
                        rintro e V6 ⟨hB6, yb, ya, yn, yc, rfl, hr6⟩
                        have y0 := keep1 hB6 x0
                        have y1 := keep1 hB6 x1
                        have y2 := keep1 hB6 x2
                        have y3 := keep1 hB6 x3
                        have y4 := keep1 hB6 x4
                        have y5 := keep1 hB6 x5
                        have HB6 := Lib.hid (below_step HB5.out hB6)
                        have HR6 := Lib.hid hr6
                        clear hB6 hr6 HRP
                        go_wp2_with fail
                        refine hK.out _ _ ?_ (fun hHeld => ?_)
                        · exact ⟨y0, y1, y2, y3, y4, y5⟩
                        clear hK K
                        (try simp only [Act.put, List.setIfInBounds_toArray, List.set_cons_zero, List.set_cons_succ])
                        refine wpAnyH_ready (rs := [8]) (by kernel_rfl) (by simp) ?_
                        refine AllReadyH.cons (o := { dst := some 69, op := Op.call { callee := Callee.value (Operand.func 30), args := #[Operand.tmp 61, Operand.tmp 68], argTypes := #[39, 39] }, type := 4, pos := "l8_faces.go:198", after := #[{ on := 0, ground := Ground.data }, { on := 7, ground := Ground.data }, { on := 7, ground := Ground.chain }], guard := none }) rfl (fun K hK => ?_) AllReadyH.nil
                        go_simp
                        go_wp2_with fail
                        have HIN := HIH.out HLTN.out (t.putAt k (splitN ks p q)) yb ya yn yc V6 (fun b => b < V6.heap.size) HSP1.out.2.1 HSP1.out.2.2.1 HSP1.out.2.2.2 ((HRS.out.below HW.out.1 (below_step HB3.out HB6.out)).keep (fun _ _ _ h => h) (fun _ _ h => h) HW.out.1) (HR6.out.keep (fun _ _ _ h => h) (fun _ _ h => h) (fc_wf _ HSP1.out.2.1 HSP1.out.2.2.1))
                        rw [← HBQE.out] at HIN
                        refine HIN.mono ?_
                        rintro e V7 ⟨rfl, hB7⟩
                        have z0 := keep1 hB7 y0
                        have z1 := keep1 hB7 y1
                        have z2 := keep1 hB7 y2
                        have z3 := keep1 hB7 y3
                        have z4 := keep1 hB7 y4
                        have z5 := keep1 hB7 y5
                        have HB7 := Lib.hid (below_step HB6.out hB7)
                        clear hB7
                        go_wp2_with fail
                        refine hK.out _ _ ?_ (fun hHeld => ?_)
                        · exact ⟨z0, z1, z2, z3, z4, z5⟩
                        clear hK K
                        (try simp only [Act.put, List.setIfInBounds_toArray, List.set_cons_zero, List.set_cons_succ])
                        refine wpAnyH_done (by kernel_rfl) ?_ _
                        go_wp2_with fail
                        go_ret
                        exact ⟨by rw [HTT.out]; rfl, below_step HB0.out (below_step HB3.out HB7.out)⟩
                    · have hpqd : decide ((p : Int) + (q : Int) ≤ (pn : Int)) = false := decide_eq_false (by omega)
                      have HNX : Hid (∀ p', p' < p + 1 → NoP s t k ks p') := Lib.hid (fun p' hp' => by
                        by_cases e : p' = p
                        · subst e
                          intro q' h1 h2 h3
                          have hm := HM.out
                          exact HQ.out q' h1 (by omega) (by omega)
                        · exact HNP.out p' (by omega))
                      go_wp2_with fail
                      go_roundw
                      case rel => exact ⟨p + 1, by omega, by go_num, HBQ.out, HNX.out⟩
                      case measure => simp [intOf]; omega
                  · have HNX : Hid (∀ p', p' < p + 1 → NoP s t k ks p') := Lib.hid (fun p' hp' => by
                      by_cases e : p' = p
                      · subst e
                        intro q' h1 h2 h3
                        have hm := HM.out
                        exact HQ.out q' h1 (by omega) (by omega)
                      · exact HNP.out p' (by omega))
                    go_wp2_with fail
                    go_roundw
                    case rel => exact ⟨p + 1, by omega, by go_num, HBQ.out, HNX.out⟩
                    case measure => simp [intOf]; omega
              · have hpd : decide ((p : Int) ≤ (pn : Int) - 2) = false := decide_eq_false (by omega)
                have HNX : Hid (∀ k', k' < k + 1 → NoAt s t k') := Lib.hid (fun k' hk' => by
                  by_cases e : k' = k
                  · subst e
                    intro r' c' ks' a' hc' p' q' h1 h2 h3
                    have hcut := HCUT.out
                    rw [hc'] at hcut
                    simp only [Option.some.injEq, Prod.mk.injEq, T.node.injEq] at hcut
                    obtain ⟨_, ⟨_, rfl⟩, _⟩ := hcut
                    have hm := HM.out
                    exact HNP.out p' (by omega) q' h1 h2 h3
                  · exact HNO.out k' (by omega))
                have HBK := Lib.hid (below_step HB3.out HBP.out)
                go_wp2_with fail
                go_roundw
                case rel => exact ⟨k + 1, by omega, by go_num, HBK.out, HNX.out⟩
                case measure => simp [intOf]; omega
          · have hkk : k = NT := by omega
            have HANS : Hid (inFB s t = false) := Lib.hid (no_all hsf htf HNE.out (fun k' hk' => HNO.out k' (by have := HNN.out; omega)))
            go_wp2_with fail
            refine (HNT.out _ HBO.out).mono ?_
            rintro e V1 ⟨rfl, hb1⟩
            have HB1 := Lib.hid (below_step HBO.out hb1)
            clear hb1
            go_wp2_with fail
            go_ret
            exact ⟨by rw [HANS.out]; rfl, below_step HB0.out HB1.out⟩
      · have g2 : ((LS : Int) != (LT : Int)) = true := by simp; omega
        have HANS : Hid (inFB s t = false) := Lib.hid (inFB_false fun h => hLL (by have := HNN.out; have := h.1; omega))
        clear hLL
        refine wp_region_held_drew (S := (fun w' => w'.cell? ⟨w.heap.size, 0, none⟩ = some (.string sb) ∧ w'.cell? ⟨w.heap.size, 1, none⟩ = some (.slice sa sn sc) ∧ w'.cell? ⟨w.heap.size + 1, 0, none⟩ = some (.string tb) ∧ w'.cell? ⟨w.heap.size + 1, 1, none⟩ = some (.slice ta tn tc))) (by kernel_rfl) (by exact ⟨q4_0, q4_1, q4_2, q4_3⟩) (fun hHeld => ?_)
        refine wpAnyH_take (i := 0) (oi := { dst := some 16, op := Op.load 39 (Operand.tmp 2), type := 39, pos := "l8_faces.go:190", after := #[], guard := none }) (v := ?_) rfl (by kernel_rfl) (by kernel_rfl) (by kernel_rfl) (fun _ _ _ h => h) (Or.inl ⟨by rfl, ?_⟩) (by assumption) ?_
        rotate_left
        · (intro w hSw; (try dsimp only at hSw); go_simp <;> with_reducible rfl)
        (try simp only [Act.put, List.setIfInBounds_toArray, List.set_cons_zero, List.set_cons_succ])
        refine wpAnyH_take (i := 2) (oi := { dst := some 18, op := Op.load 39 (Operand.tmp 3), type := 39, pos := "l8_faces.go:190", after := #[], guard := none }) (v := ?_) rfl (by kernel_rfl) (by kernel_rfl) (by kernel_rfl) (fun _ _ _ h => h) (Or.inl ⟨by rfl, ?_⟩) (by assumption) ?_
        rotate_left
        · (intro w hSw; (try dsimp only at hSw); go_simp <;> with_reducible rfl)
        (try simp only [Act.put, List.setIfInBounds_toArray, List.set_cons_zero, List.set_cons_succ])
        refine wpAnyH_ready (rs := [1]) (by kernel_rfl) (by simp) ?_
        refine AllReadyH.cons (o := { dst := some 17, op := Op.call { callee := Callee.value (Operand.func 45), args := #[Operand.tmp 16], argTypes := #[39] }, type := 3, pos := "l8_faces.go:190", after := #[{ on := 0, ground := Ground.data }], guard := none }) rfl (fun K hK => ?_) AllReadyH.nil
        go_simp
        go_wp2_with fail
        refine (HNS.out _ (HBV4.out.drew)).mono ?_
        rintro e V11 ⟨rfl, hBV11⟩
        have hkV11 : Below V4.heap.size V4 V11 := (Below.refl _ _).drew.trans hBV11
        have q11_0 := keep1 hkV11 q4_0
        have q11_1 := keep1 hkV11 q4_1
        have q11_2 := keep1 hkV11 q4_2
        have q11_3 := keep1 hkV11 q4_3
        have HBV11 := Lib.hid (below_step HBV4.out hkV11)
        clear hkV11 hBV11
        go_wp2_with fail
        refine hK.out _ _ ?_ (fun hHeld => ?_)
        · exact ⟨q11_0, q11_1, q11_2, q11_3⟩
        clear hK K
        (try simp only [Act.put, List.setIfInBounds_toArray, List.set_cons_zero, List.set_cons_succ])
        refine wpAnyH_ready (rs := [3]) (by kernel_rfl) (by simp) ?_
        refine AllReadyH.cons (o := { dst := some 19, op := Op.call { callee := Callee.value (Operand.func 45), args := #[Operand.tmp 18], argTypes := #[39] }, type := 3, pos := "l8_faces.go:190", after := #[{ on := 2, ground := Ground.data }, { on := 1, ground := Ground.chain }], guard := none }) rfl (fun K hK => ?_) AllReadyH.nil
        go_simp
        go_wp2_with fail
        refine (HNT.out _ (HBV11.out)).mono ?_
        rintro e V12 ⟨rfl, hBV12⟩
        have hkV12 := hBV12
        have q12_0 := keep1 hkV12 q11_0
        have q12_1 := keep1 hkV12 q11_1
        have q12_2 := keep1 hkV12 q11_2
        have q12_3 := keep1 hkV12 q11_3
        have HBV12 := Lib.hid (below_step HBV11.out hkV12)
        clear hkV12 hBV12
        go_wp2_with fail
        refine hK.out _ _ ?_ (fun hHeld => ?_)
        · exact ⟨q12_0, q12_1, q12_2, q12_3⟩
        clear hK K
        (try simp only [Act.put, List.setIfInBounds_toArray, List.set_cons_zero, List.set_cons_succ])
        refine wpAnyH_take (i := 4) (oi := { dst := some 20, op := Op.binOp BinOp.leq 3 (Operand.tmp 17) (Operand.tmp 19) 3, type := 4, pos := "l8_faces.go:190", after := #[{ on := 1, ground := Ground.data }, { on := 3, ground := Ground.data }], guard := none }) (v := ?_) rfl (by kernel_rfl) (by kernel_rfl) (by kernel_rfl) (fun _ _ _ h => h) (Or.inl ⟨by rfl, ?_⟩) (by assumption) ?_
        rotate_left
        · (intro w hSw; (try dsimp only at hSw); go_simp <;> with_reducible rfl)
        (try simp only [Act.put, List.setIfInBounds_toArray, List.set_cons_zero, List.set_cons_succ])
        refine wpAnyH_take (i := 5) (oi := { dst := some 21, op := Op.move (Operand.tmp 20), type := 4, pos := "l8_faces.go:190", after := #[{ on := 4, ground := Ground.data }, { on := 3, ground := Ground.chain }], guard := none }) (v := ?_) rfl (by kernel_rfl) (by kernel_rfl) (by kernel_rfl) (fun _ _ _ h => h) (Or.inl ⟨by rfl, ?_⟩) (by assumption) ?_
        rotate_left
        · (intro w hSw; (try dsimp only at hSw); go_simp <;> with_reducible rfl)
        (try simp only [Act.put, List.setIfInBounds_toArray, List.set_cons_zero, List.set_cons_succ])
        refine wpAnyH_take (i := 6) (oi := { dst := some 22, op := Op.load 39 (Operand.tmp 2), type := 39, pos := "l8_faces.go:190", after := #[{ on := 5, ground := Ground.guard }], guard := some (5, false) }) (v := ?_) rfl (by kernel_rfl) (by kernel_rfl) (by kernel_rfl) (fun _ _ _ h => h) (Or.inl ⟨by rfl, ?_⟩) (by assumption) ?_
        rotate_left
        · (intro w hSw; (try dsimp only at hSw); go_simp <;> with_reducible rfl)
        (try simp only [Act.put, List.setIfInBounds_toArray, List.set_cons_zero, List.set_cons_succ])
        refine wpAnyH_take (i := 8) (oi := { dst := some 24, op := Op.load 39 (Operand.tmp 3), type := 39, pos := "l8_faces.go:190", after := #[{ on := 5, ground := Ground.guard }], guard := some (5, false) }) (v := ?_) rfl (by kernel_rfl) (by kernel_rfl) (by kernel_rfl) (fun _ _ _ h => h) (Or.inl ⟨by rfl, ?_⟩) (by assumption) ?_
        rotate_left
        · (intro w hSw; (try dsimp only at hSw); go_simp <;> with_reducible rfl)
        (try simp only [Act.put, List.setIfInBounds_toArray, List.set_cons_zero, List.set_cons_succ])
        refine wpAnyH_ready (rs := [7]) (by kernel_rfl) (by simp) ?_
        refine AllReadyH.cons (o := { dst := some 23, op := Op.call { callee := Callee.value (Operand.func 37), args := #[Operand.tmp 22], argTypes := #[39] }, type := 3, pos := "l8_faces.go:190", after := #[{ on := 6, ground := Ground.data }, { on := 5, ground := Ground.chain }, { on := 5, ground := Ground.guard }], guard := some (5, false) }) rfl (fun K hK => ?_) AllReadyH.nil
        go_simp
        go_wp2_with fail
        refine (HLS.out _ (HBV12.out)).mono ?_
        rintro e V13 ⟨rfl, hBV13⟩
        have hkV13 := hBV13
        have q13_0 := keep1 hkV13 q12_0
        have q13_1 := keep1 hkV13 q12_1
        have q13_2 := keep1 hkV13 q12_2
        have q13_3 := keep1 hkV13 q12_3
        have HBV13 := Lib.hid (below_step HBV12.out hkV13)
        clear hkV13 hBV13
        go_wp2_with fail
        refine hK.out _ _ ?_ (fun hHeld => ?_)
        · exact ⟨q13_0, q13_1, q13_2, q13_3⟩
        clear hK K
        (try simp only [Act.put, List.setIfInBounds_toArray, List.set_cons_zero, List.set_cons_succ])
        refine wpAnyH_ready (rs := [9]) (by kernel_rfl) (by simp) ?_
        refine AllReadyH.cons (o := { dst := some 25, op := Op.call { callee := Callee.value (Operand.func 37), args := #[Operand.tmp 24], argTypes := #[39] }, type := 3, pos := "l8_faces.go:190", after := #[{ on := 8, ground := Ground.data }, { on := 7, ground := Ground.chain }, { on := 5, ground := Ground.guard }], guard := some (5, false) }) rfl (fun K hK => ?_) AllReadyH.nil
        go_simp
        go_wp2_with fail
        refine (HLT.out _ (HBV13.out)).mono ?_
        rintro e V14 ⟨rfl, hBV14⟩
        have hkV14 := hBV14
        have q14_0 := keep1 hkV14 q13_0
        have q14_1 := keep1 hkV14 q13_1
        have q14_2 := keep1 hkV14 q13_2
        have q14_3 := keep1 hkV14 q13_3
        have HBV14 := Lib.hid (below_step HBV13.out hkV14)
        clear hkV14 hBV14
        go_wp2_with fail
        refine hK.out _ _ ?_ (fun hHeld => ?_)
        · exact ⟨q14_0, q14_1, q14_2, q14_3⟩
        clear hK K
        (try simp only [Act.put, List.setIfInBounds_toArray, List.set_cons_zero, List.set_cons_succ])
        refine wpAnyH_take (i := 10) (oi := { dst := some 26, op := Op.binOp BinOp.neq 3 (Operand.tmp 23) (Operand.tmp 25) 3, type := 4, pos := "l8_faces.go:190", after := #[{ on := 7, ground := Ground.data }, { on := 9, ground := Ground.data }, { on := 5, ground := Ground.guard }], guard := some (5, false) }) (v := ?_) rfl (by kernel_rfl) (by kernel_rfl) (by kernel_rfl) (fun _ _ _ h => h) (Or.inl ⟨by rfl, ?_⟩) (by assumption) ?_
        rotate_left
        · (intro w hSw; (try dsimp only at hSw); go_simp <;> with_reducible rfl)
        (try simp only [Act.put, List.setIfInBounds_toArray, List.set_cons_zero, List.set_cons_succ])
        refine wpAnyH_take (i := 11) (oi := { dst := some 27, op := Op.pick (Operand.tmp 21) (Operand.const (Value.bool true)) (Operand.tmp 26), type := 4, pos := "l8_faces.go:190", after := #[{ on := 5, ground := Ground.data }, { on := 10, ground := Ground.data }], guard := none }) (v := ?_) rfl (by kernel_rfl) (by kernel_rfl) (by kernel_rfl) (fun _ _ _ h => h) (Or.inl ⟨by rfl, ?_⟩) (by assumption) ?_
        rotate_left
        · (intro w hSw; (try dsimp only at hSw); go_simp <;> with_reducible rfl)
        (try simp only [Act.put, List.setIfInBounds_toArray, List.set_cons_zero, List.set_cons_succ])
        refine wpAnyH_done (by kernel_rfl) ?_ _
        all_goals
          go_wp2_with fail
          go_ret
          exact ⟨by rw [HANS.out]; rfl, below_step HB0.out HBV14.out⟩

end Go.Proofs.Ytbbkaephlojalaa
