/- A face is drawn. -/
import Derived.Test.YtbbkaephlojalaaKDrawS
import Derived.Test.YtbbkaephlojalaaFaceM
namespace Go.Proofs.Ytbbkaephlojalaa
open Go.RowKit

/-- A drawn face: new, with so many leaves, and the reader moved on. -/
def FaceDr (R : Nat) (a : Option Addr) (cap : Nat) (bs : List Nat) (p n : Nat) (w : World) (e : Ending) (w' : World) : Prop :=
  w.grownBy w' (some R) ∧ ∃ (t : T) (lb : ByteArray) (sa : Option Addr) (sn sc q : Nat), e = .returned (.agg #[.string lb, .slice sa sn sc]) ∧ RepS w' (fun b => w.heap.size ≤ b) t (.string lb) (.slice sa sn sc) ∧
    t.wf ∧ t.fc ∧ t.leaves = n ∧ RdR w' R a cap bs q ∧ q + 2 ≤ p + 2 * n

set_option maxRecDepth 100000 in
set_option maxHeartbeats 4000000 in
theorem l92Face_any (R : Nat) (a : Option Addr) (cap : Nat) (bs : List Nat) : ∀ (m n p : Nat) (z : Int) (w : World), n ≤ m → 1 ≤ n → n ≤ 6 → z = n → p + 2 * n ≤ 1000000 → RdR w R a cap bs p →
    Calls Try.prog 34 #[.pointer (some ⟨R, 0, none⟩), .int .i64 z] w (FaceDr R a cap bs p n w) := by
  intro m
  induction m with
  | zero => intro n p z w h1 h2; omega
  | succ m ih =>
    intro n p z0 w hnm hn1 hn6 hz0 hp h
    have HR := Lib.hid h
    have hRlt := h.cells.2.2.2
    by_cases h1n : n = 1
    · subst h1n
      subst hz0
      clear h ih
      go_enter Try.func34, Try.ntmps34
      go_wp2_with fail
      refine bodyPost_ret (v := .agg #[.string ⟨#[]⟩, .slice none 0 0]) (by simp [results, Try.results34, go_sem]) rfl ?_
      exact ⟨grownBy_below (grownBy_refl w (some R)) ((Below.refl _ _).alloc (Nat.le_refl _) _), .leaf, ⟨#[]⟩, none, 0, 0, p, rfl, by rw [RepS]; exact ⟨rfl, rfl⟩, by simp [T.wf], by simp [T.fc], by simp [T.leaves], HR.out.grown (grownBy_below (grownBy_refl w none) ((Below.refl _ _).alloc (Nat.le_refl _) _)) (fun _ e => by cases e), by omega⟩
    · have hd0 : decide (z0 ≤ 1) = false := decide_eq_false (by omega)
      have R0 := Lib.hid (OutRel.start (P := fun _ => False) (base := w.heap.size + 1 + 1) (c := 97) (w := w.alloc (.cells #[.string ⟨#[]⟩, .slice none 0 0] 39)) (by simp) (fun _ h => h.elim))
      have HZ0 := Lib.hid hz0
      clear h
      have hz2 : 2 ≤ z0 := by omega
      have hz6 : z0 ≤ 6 := by omega
      clear hz0
      go_enter Try.func34, Try.ntmps34
      go_wp2_with fail
      go_loopw [6] (fun lv wr => ∃ (k q : Nat) (va : Option Addr) (vn vc : Nat) (xs : List Value) (acc : List T) (z : Int), lv = .int .i64 z ∧ z = (n : Int) - T.leavesL acc ∧ T.leavesL acc ≤ n ∧ acc.length = k ∧
          OutRel (fun _ => False) (w.heap.size + 1 + 1) (w.heap.size + 1) 97 acc (.slice va vn vc) xs wr ∧ wr.heap[w.heap.size]? = some (.cells #[.string ⟨#[]⟩, .slice none 0 0] 39 (0, 0)) ∧
          RdR wr R a cap bs q ∧ q + k ≤ p + 2 * T.leavesL acc ∧ T.fcL acc ∧ (k = 0 → T.leavesL acc = 0) ∧ (k = 1 → T.leavesL acc < n) ∧ w.grownBy wr (some R) ∧ w.heap.size + 1 + 1 ≤ wr.heap.size) (fun lv _ => (intOf lv).toNat)
      case atStart =>
        refine ⟨0, p, none, 0, 0, [], [], z0, rfl, by simp [T.leavesL]; exact HZ0.out, by simp [T.leavesL], rfl, ?_, ?_, ?_, by simp [T.leavesL], by simp [T.fcL], fun _ => by simp [T.leavesL], by omega, ?_, by simp⟩
        · have := R0.out; simpa using this
        · rw [Below.heap_alloc _ _ _ (by simp)]; exact heap_alloc_new w _
        · exact HR.out.grown (grownBy_below (grownBy_refl w none) (((Below.refl _ _).alloc (Nat.le_refl _) _).alloc (by simp) _)) (fun _ e => by cases e)
        · exact grownBy_below (grownBy_refl w _) (((Below.refl _ _).alloc (Nat.le_refl _) _).alloc (by simp) _)
      case round =>
        obtain ⟨k, q, va, vn, vc, xs, acc, z, rfl, hz, hln, hacc, hrel, hbx, hrd, hq, hfc, hk0, hk1, hgw, hsz⟩ := hrel
        have hvn := hrel.vn
        rw [hacc] at hvn
        replace hvn := hvn.symm
        subst hvn
        have HREL := Lib.hid hrel
        have HBX := Lib.hid hbx
        have HRD := Lib.hid hrd
        have HQQ := Lib.hid (show q + k ≤ p + 2 * T.leavesL acc ∧ T.fcL acc ∧ (k = 0 → T.leavesL acc = 0) ∧ (k = 1 → T.leavesL acc < n) ∧ T.leavesL acc ≤ n from ⟨hq, hfc, hk0, hk1, hln⟩)
        have HGW := Lib.hid hgw
        have HACC := Lib.hid hacc
        have HZ := Lib.hid hz
        obtain ⟨r0, r1, fr0, fr1⟩ := two_cells hbx
        have hown0 := Lib.hid hrel.2.2.2.1.lt
        have hacl := fcL_leaves acc hfc
        rw [hacc] at hacl
        have HACL := Lib.hid hacl
        by_cases hlt : T.leavesL acc < n
        · have hz1 : 1 ≤ z := by omega
          have hz61 : z ≤ 6 := by omega
          have hdz : decide (0 < z) = true := decide_eq_true (by omega)
          obtain ⟨L, hL⟩ : ∃ L : Nat, (L : Int) = z := ⟨z.toNat, by omega⟩
          have HP := Lib.hid (pick_any R a cap q L bs wr hrd (by omega) (by omega) (by omega))
          rw [hL] at HP
          have HQ : Hid (∀ b, b < w.heap.size + 1 + 1 → some b ≠ (Value.slice va k vc).ownBlock) := Lib.hid (fun b hb e => by have := (hown0.out b e.symm).1; omega)
          have HRL : Hid (R < w.heap.size) := Lib.hid hRlt
          have hql : q + 1 ≤ p + 2 * n := by omega
          have hLz := Lib.hid hL
          clear hrel hbx hrd hq hfc hk0 hk1 hgw hacc hz hln hL
          go_wp2_with fail
          refine HP.out.mono ?_
          rintro e w2 ⟨⟨j, hj, rfl⟩, hg2, hs2, hr2⟩
          have HG2 := Lib.hid hg2
          have HR2 := Lib.hid hr2
          have hj6 : (j : Int) < z := by have := hLz.out; omega
          have HOWN : Hid (w2.drew.ownsRow (w.heap.size + 1 + 1) 39 2 (.slice va k vc) k xs) := Lib.hid (by
            have := (HREL.out.2.2.2.1).kept hg2 (by right; intro e; have h1 := (hown0.out _ e).1; have h2 := HRL.out; omega)
            rw [HACC.out] at this; exact this)
          obtain ⟨c10, c11, f10, f11⟩ := two_cells ((hg2.block (w.heap.size + 1) (by omega) (by simp only [ne_eq, Option.some.injEq]; have := HRL.out; omega)).trans HREL.out.1)
          have hs2' : wr.heap.size ≤ w2.heap.size := hg2.size
          clear hg2 hs2 hr2
          have hBo : w.heap.size + 1 < w2.heap.size := by omega
          by_cases he : (1 : Int) + j = z0
          · have hee : ((1 : Int) + j == z0) = true := by simpa using he
            have HE := Lib.hid he
            clear he
            have hone : T.leavesL acc + 1 ≤ n := by omega
            have hmm : 1 ≤ m := by omega
            have hqb : q + 1 + 2 * 1 ≤ 1000000 := by
              have h1 := HQQ.out
              rcases Nat.eq_zero_or_pos k with hk | hk
              · have := h1.2.2.1 hk; omega
              · omega
            obtain ⟨i0, hi0, hz, hzs, hzb⟩ := info_parts info42
            have HI := Lib.hid (ih 1 (q + 1) (1) w2.drew hmm (by omega) (by omega) (by omega) hqb HR2.out)
            clear ih
            go_wp2_with fail
            go_region_law (first
                | (refine step_append_lies _ (by rfl) _ _ 37 (by rfl) (w.heap.size + 1 + 1) 39 i0 (.agg #[.string ⟨#[]⟩, .slice none 0 0]) 2 40 Try.underlying37 hi0 hz hzs hzb rfl (by decide) (.slice va k vc) k xs (by rfl) ((HOWN.out.kept hg3 (by right; intro e; have h1 := (hown0.out _ e).1; have h2 := HRL.out; omega)).alloc (.cells #[.string lb, .slice sa sn sc] 39 (0, 0))) ⟨w3.heap.size, 0, none⟩ 1 1 [.string lb, .slice sa sn sc] (by rfl) (by rfl) (cells_two rfl _ _) (by simp [Value.oneCell']) (by decide) (by unfold maxLen; omega) (by omega) (by have := hg3.size; simp at this ⊢; omega) (w3.heap.size + 1) (by simp) ?_; intro gg cap' w4 hown4 hg4 hf4 hlt4; have y1 := hg4.cell (a := ⟨w.heap.size + 1, 1, none⟩) (v := .slice va k vc) (keep1 ((Below.refl _ _).alloc (Nat.le_refl _) _) x1) (HQ.out _ (by simp)); have y2 := grown_frozen (a := ⟨w.heap.size + 1, 1, none⟩) (v := .slice va k vc) hg4 (keep1 ((Below.refl _ _).alloc (Nat.le_refl _) _) x1) (keepf (v := .slice va k vc) ((Below.refl _ _).alloc (Nat.le_refl _) _) x1 x5) (HQ.out _ (by simp)))
                | (go_simp; go_at_call 34; refine HI.out.mono ?_; rintro e w3 ⟨hg3, t3, lb, sa, sn, sc, q3, rfl, hrep, hwf3, hfc3, hlv3, hrd3, hq3⟩; have hne : (some (w.heap.size + 1) : Option Nat) ≠ some R := (by have := HRL.out; simp only [ne_eq, Option.some.injEq]; omega); have x1 := hg3.cell (a := ⟨w.heap.size + 1, 1, none⟩) (v := .slice va k vc) c11 hne; have x5 := grown_frozen (a := ⟨w.heap.size + 1, 1, none⟩) (v := .slice va k vc) hg3 c11 f11 hne; have x6 : w.heap.size + 1 < w3.heap.size := World.block_lt_of_cell? w3 _ x1; clear hne))
            all_goals
              have hg3' : w2.grownBy w3 (some R) := ⟨hg3.os, hg3.tape, hg3.output, hg3.size, hg3.block⟩
              have hb2' : Below w3.heap.size w3 (w3.alloc (.cells #[.string lb, .slice sa sn sc] 39 (0, 0))) := (Below.refl _ _).alloc (Nat.le_refl _) _
              have NX := HREL.out.nextR (t := t3) hsz (by have := HRL.out; omega) (grownBy_trans HG2.out hg3') (hrep.keep (fun _ _ _ h => h) (fun b h _ => Nat.le_trans HG2.out.size h) hwf3) hwf3 hb2' (by rw [HACC.out]; exact hown4) hg4 (by rcases hf4 with h | h; exact .inl h; exact .inr (by omega))
              rw [HACC.out] at NX
              have gs : w4.grownBy (w4.setCell ⟨w.heap.size + 1, 1, none⟩ (.slice (some ⟨gg, 0, none⟩) (k + 1) cap')) (some (w.heap.size + 1)) := grownBy_setCell (grownBy_refl _ _) _
              have ga : w3.grownBy (w3.alloc (.cells #[.string lb, .slice sa sn sc] 39 (0, 0))) none := grownBy_below (grownBy_refl _ _) hb2'
              have hrl := HRL.out
              have hown1 := hown0.out
              have hgw := grownBy_trans HG2.out hg3'
              have BX : (w4.setCell ⟨w.heap.size + 1, 1, none⟩ (.slice (some ⟨gg, 0, none⟩) (k + 1) cap')).heap[w.heap.size]? = some (.cells #[.string ⟨#[]⟩, .slice none 0 0] 39 (0, 0)) := by
                have hl1 : w.heap.size < wr.heap.size := by omega
                have hl3 := Nat.lt_of_lt_of_le hl1 hgw.size
                rw [gs.block _ (Nat.lt_of_lt_of_le (Nat.lt_of_lt_of_le hl3 ga.size) hg4.size) (by simp only [ne_eq, Option.some.injEq]; omega), hg4.block _ (Nat.lt_of_lt_of_le hl3 ga.size) (HQ.out _ (by omega)), ga.block _ hl3 (by simp), hgw.block _ hl1 (by simp only [ne_eq, Option.some.injEq]; omega)]
                exact HBX.out
              have RD : RdR (w4.setCell ⟨w.heap.size + 1, 1, none⟩ (.slice (some ⟨gg, 0, none⟩) (k + 1) cap')) R a cap bs q3 :=
                ((hrd3.grown ga (fun _ e => by cases e)).grown hg4 (fun r e => by have := (hown1 r e).1; omega)).grown gs (fun r e => by cases e; omega)
              have GW : w.grownBy (w4.setCell ⟨w.heap.size + 1, 1, none⟩ (.slice (some ⟨gg, 0, none⟩) (k + 1) cap')) (some R) :=
                grownBy_over (grownBy_over (grownBy_over (grownBy_trans HGW.out hgw) ga (fun _ e => by cases e)) hg4 (fun r e => by have := (hown1 r e).1; omega)) gs (fun r e => by cases e; omega)
              have SZ : w.heap.size + 1 + 1 ≤ (w4.setCell ⟨w.heap.size + 1, 1, none⟩ (.slice (some ⟨gg, 0, none⟩) (k + 1) cap')).heap.size := by
                have h1 := hgw.size; have h2 := ga.size; have h3 := hg4.size; have h4 := gs.size; omega
              have BD : q3 + (k + 1) ≤ p + 2 * T.leavesL (acc ++ [t3]) ∧ T.fcL (acc ++ [t3]) ∧ T.leavesL (acc ++ [t3]) = T.leavesL acc + 1 ∧ (k + 1 = 1 → T.leavesL (acc ++ [t3]) < n) ∧ T.leavesL (acc ++ [t3]) ≤ n ∧ (z - (1) : Int) = (n : Int) - T.leavesL (acc ++ [t3]) := by
                have h1 := HQQ.out
                have h3 := HZ.out
                have h4 := HE.out
                have h5 := HZ0.out
                have h2 : T.leavesL (acc ++ [t3]) = T.leavesL acc + 1 := by
                  rw [leavesL_append]
                  simp only [T.leavesL]
                  omega
                refine ⟨by rw [h2]; omega, by rw [fcL_append]; exact ⟨h1.2.1, by rw [T.fcL]; exact ⟨hfc3, trivial⟩⟩, h2, fun e => ?_, by rw [h2]; omega, by rw [h2]; omega⟩
                rw [h2]
                have h0 := h1.2.2.1 (by omega)
                omega
              have ALL := Lib.hid (And.intro NX (And.intro BX (And.intro RD (And.intro GW (And.intro SZ BD)))))
              clear NX BX RD GW SZ BD gs ga hg3' hb2' hown4 hg4 hf4 hg3 hrep hrd3 hq3 hlv3 hfc3 hwf3 x1 x5 y1 y2 hrl hown1 hgw
              go_wp2_with fail
              go_roundw
              case rel => exact ⟨k + 1, q3, some ⟨gg, 0, none⟩, k + 1, cap', _, acc ++ [t3], z - (1), rfl, ALL.out.2.2.2.2.2.2.2.2.2.2, ALL.out.2.2.2.2.2.2.2.2.2.1, by rw [List.length_append, HACC.out]; rfl, ALL.out.1, ALL.out.2.1, ALL.out.2.2.1, ALL.out.2.2.2.2.2.1, ALL.out.2.2.2.2.2.2.1, (fun e => by omega), ALL.out.2.2.2.2.2.2.2.2.1, ALL.out.2.2.2.1, ALL.out.2.2.2.2.1⟩
              case measure => have h3 := HZ.out; have h4 := HQQ.out; simp [intOf]; omega
          · have hee : ((1 : Int) + j == z0) = false := by simpa using he
            have hone : T.leavesL acc + (j + 1) ≤ n := by have h2 := HZ.out; omega
            have hmm : j + 1 ≤ m := by
              have h2 := HZ.out
              have h3 := HZ0.out
              have h4 := HQQ.out.2.2.1
              have h5 := HACL.out
              rcases Nat.eq_zero_or_pos k with hk | hk
              · have := h4 hk; omega
              · omega
            have hqb : q + 1 + 2 * (j + 1) ≤ 1000000 := by
              have h1 := HQQ.out
              have h3 := HZ0.out
              rcases Nat.eq_zero_or_pos k with hk | hk
              · have := h1.2.2.1 hk; omega
              · omega
            have HE := Lib.hid he
            clear he
            obtain ⟨i0, hi0, hz, hzs, hzb⟩ := info_parts info42
            have HI := Lib.hid (ih (j + 1) (q + 1) (1 + (j : Int)) w2.drew hmm (by omega) (by omega) (by omega) hqb HR2.out)
            clear ih
            go_wp2_with fail
            go_region_law (first
                | (refine step_append_lies _ (by rfl) _ _ 37 (by rfl) (w.heap.size + 1 + 1) 39 i0 (.agg #[.string ⟨#[]⟩, .slice none 0 0]) 2 40 Try.underlying37 hi0 hz hzs hzb rfl (by decide) (.slice va k vc) k xs (by rfl) ((HOWN.out.kept hg3 (by right; intro e; have h1 := (hown0.out _ e).1; have h2 := HRL.out; omega)).alloc (.cells #[.string lb, .slice sa sn sc] 39 (0, 0))) ⟨w3.heap.size, 0, none⟩ 1 1 [.string lb, .slice sa sn sc] (by rfl) (by rfl) (cells_two rfl _ _) (by simp [Value.oneCell']) (by decide) (by unfold maxLen; omega) (by omega) (by have := hg3.size; simp at this ⊢; omega) (w3.heap.size + 1) (by simp) ?_; intro gg cap' w4 hown4 hg4 hf4 hlt4; have y1 := hg4.cell (a := ⟨w.heap.size + 1, 1, none⟩) (v := .slice va k vc) (keep1 ((Below.refl _ _).alloc (Nat.le_refl _) _) x1) (HQ.out _ (by simp)); have y2 := grown_frozen (a := ⟨w.heap.size + 1, 1, none⟩) (v := .slice va k vc) hg4 (keep1 ((Below.refl _ _).alloc (Nat.le_refl _) _) x1) (keepf (v := .slice va k vc) ((Below.refl _ _).alloc (Nat.le_refl _) _) x1 x5) (HQ.out _ (by simp)))
                | (go_simp; go_at_call 34; refine HI.out.mono ?_; rintro e w3 ⟨hg3, t3, lb, sa, sn, sc, q3, rfl, hrep, hwf3, hfc3, hlv3, hrd3, hq3⟩; have hne : (some (w.heap.size + 1) : Option Nat) ≠ some R := (by have := HRL.out; simp only [ne_eq, Option.some.injEq]; omega); have x1 := hg3.cell (a := ⟨w.heap.size + 1, 1, none⟩) (v := .slice va k vc) c11 hne; have x5 := grown_frozen (a := ⟨w.heap.size + 1, 1, none⟩) (v := .slice va k vc) hg3 c11 f11 hne; have x6 : w.heap.size + 1 < w3.heap.size := World.block_lt_of_cell? w3 _ x1; clear hne))
            all_goals
              have hg3' : w2.grownBy w3 (some R) := ⟨hg3.os, hg3.tape, hg3.output, hg3.size, hg3.block⟩
              have hb2' : Below w3.heap.size w3 (w3.alloc (.cells #[.string lb, .slice sa sn sc] 39 (0, 0))) := (Below.refl _ _).alloc (Nat.le_refl _) _
              have NX := HREL.out.nextR (t := t3) hsz (by have := HRL.out; omega) (grownBy_trans HG2.out hg3') (hrep.keep (fun _ _ _ h => h) (fun b h _ => Nat.le_trans HG2.out.size h) hwf3) hwf3 hb2' (by rw [HACC.out]; exact hown4) hg4 (by rcases hf4 with h | h; exact .inl h; exact .inr (by omega))
              rw [HACC.out] at NX
              have gs : w4.grownBy (w4.setCell ⟨w.heap.size + 1, 1, none⟩ (.slice (some ⟨gg, 0, none⟩) (k + 1) cap')) (some (w.heap.size + 1)) := grownBy_setCell (grownBy_refl _ _) _
              have ga : w3.grownBy (w3.alloc (.cells #[.string lb, .slice sa sn sc] 39 (0, 0))) none := grownBy_below (grownBy_refl _ _) hb2'
              have hrl := HRL.out
              have hown1 := hown0.out
              have hgw := grownBy_trans HG2.out hg3'
              have BX : (w4.setCell ⟨w.heap.size + 1, 1, none⟩ (.slice (some ⟨gg, 0, none⟩) (k + 1) cap')).heap[w.heap.size]? = some (.cells #[.string ⟨#[]⟩, .slice none 0 0] 39 (0, 0)) := by
                have hl1 : w.heap.size < wr.heap.size := by omega
                have hl3 := Nat.lt_of_lt_of_le hl1 hgw.size
                rw [gs.block _ (Nat.lt_of_lt_of_le (Nat.lt_of_lt_of_le hl3 ga.size) hg4.size) (by simp only [ne_eq, Option.some.injEq]; omega), hg4.block _ (Nat.lt_of_lt_of_le hl3 ga.size) (HQ.out _ (by omega)), ga.block _ hl3 (by simp), hgw.block _ hl1 (by simp only [ne_eq, Option.some.injEq]; omega)]
                exact HBX.out
              have RD : RdR (w4.setCell ⟨w.heap.size + 1, 1, none⟩ (.slice (some ⟨gg, 0, none⟩) (k + 1) cap')) R a cap bs q3 :=
                ((hrd3.grown ga (fun _ e => by cases e)).grown hg4 (fun r e => by have := (hown1 r e).1; omega)).grown gs (fun r e => by cases e; omega)
              have GW : w.grownBy (w4.setCell ⟨w.heap.size + 1, 1, none⟩ (.slice (some ⟨gg, 0, none⟩) (k + 1) cap')) (some R) :=
                grownBy_over (grownBy_over (grownBy_over (grownBy_trans HGW.out hgw) ga (fun _ e => by cases e)) hg4 (fun r e => by have := (hown1 r e).1; omega)) gs (fun r e => by cases e; omega)
              have SZ : w.heap.size + 1 + 1 ≤ (w4.setCell ⟨w.heap.size + 1, 1, none⟩ (.slice (some ⟨gg, 0, none⟩) (k + 1) cap')).heap.size := by
                have h1 := hgw.size; have h2 := ga.size; have h3 := hg4.size; have h4 := gs.size; omega
              have BD : q3 + (k + 1) ≤ p + 2 * T.leavesL (acc ++ [t3]) ∧ T.fcL (acc ++ [t3]) ∧ T.leavesL (acc ++ [t3]) = T.leavesL acc + (j + 1) ∧ (k + 1 = 1 → T.leavesL (acc ++ [t3]) < n) ∧ T.leavesL (acc ++ [t3]) ≤ n ∧ (z - (1 + (j : Int)) : Int) = (n : Int) - T.leavesL (acc ++ [t3]) := by
                have h1 := HQQ.out
                have h3 := HZ.out
                have h4 := HE.out
                have h5 := HZ0.out
                have h2 : T.leavesL (acc ++ [t3]) = T.leavesL acc + (j + 1) := by
                  rw [leavesL_append]
                  simp only [T.leavesL]
                  omega
                refine ⟨by rw [h2]; omega, by rw [fcL_append]; exact ⟨h1.2.1, by rw [T.fcL]; exact ⟨hfc3, trivial⟩⟩, h2, fun e => ?_, by rw [h2]; omega, by rw [h2]; omega⟩
                rw [h2]
                have h0 := h1.2.2.1 (by omega)
                omega
              have ALL := Lib.hid (And.intro NX (And.intro BX (And.intro RD (And.intro GW (And.intro SZ BD)))))
              clear NX BX RD GW SZ BD gs ga hg3' hb2' hown4 hg4 hf4 hg3 hrep hrd3 hq3 hlv3 hfc3 hwf3 x1 x5 y1 y2 hrl hown1 hgw
              go_wp2_with fail
              go_roundw
              case rel => exact ⟨k + 1, q3, some ⟨gg, 0, none⟩, k + 1, cap', _, acc ++ [t3], z - (1 + (j : Int)), rfl, ALL.out.2.2.2.2.2.2.2.2.2.2, ALL.out.2.2.2.2.2.2.2.2.2.1, by rw [List.length_append, HACC.out]; rfl, ALL.out.1, ALL.out.2.1, ALL.out.2.2.1, ALL.out.2.2.2.2.2.1, ALL.out.2.2.2.2.2.2.1, (fun e => by omega), ALL.out.2.2.2.2.2.2.2.2.1, ALL.out.2.2.2.1, ALL.out.2.2.2.2.1⟩
              case measure => have h3 := HZ.out; have h4 := HQQ.out; simp [intOf]; omega
        · have hln2 : T.leavesL acc = n := by omega
          have hdz : decide (0 < z) = false := decide_eq_false (by omega)
          obtain ⟨c10, c11, f10, f11⟩ := two_cells HREL.out.1
          clear hrel hbx hrd hq hfc hk0 hk1 hgw hacc hz hln
          go_wp2_with fail
          refine bodyPost_ret (v := .agg #[.string ⟨#[97]⟩, .slice va k vc]) (by simp [results, Try.results34, go_sem, r0, r1]) rfl ?_
          have gs : wr.grownBy ((wr.setCell ⟨w.heap.size, 0, none⟩ (.string ⟨#[97]⟩)).setCell ⟨w.heap.size, 1, none⟩ (.slice va k vc)) (some w.heap.size) := grownBy_setCell (grownBy_setCell (grownBy_refl _ _) _) _
          have hl := HACC.out
          have h1 := HQQ.out
          have hk2 : 2 ≤ k := by
            rcases Nat.eq_zero_or_pos k with hk | hk
            · have := h1.2.2.1 hk; omega
            · rcases Nat.lt_or_ge k 2 with hk2 | hk2
              · have := h1.2.2.2.1 (by omega); omega
              · exact hk2
          have hk6 : k ≤ 6 := by have := HACL.out; omega
          have hrep := HREL.out.rep (w2 := (wr.setCell ⟨w.heap.size, 0, none⟩ (.string ⟨#[97]⟩)).setCell ⟨w.heap.size, 1, none⟩ (.slice va k vc)) (by omega) (by omega) (by
            intro q u hq hu
            have hne : q.block ≠ w.heap.size := by rcases hq with h | h; exact h.elim; omega
            rw [World.cell?_of_block (gs.block q.block (World.block_lt_of_cell? wr _ hu) (by simpa using hne))]
            exact hu)
          have hwf : (T.node 97 acc).wf := by rw [T.wf]; exact ⟨by decide, by decide, by omega, by omega, HREL.out.2.2.2.2.2⟩
          exact ⟨grownBy_over HGW.out gs (fun r e => by cases e; exact Nat.le_refl _), .node 97 acc, ⟨#[97]⟩, va, k, vc, q, rfl, hrep.keep (fun _ _ _ h => h) (fun b h _ => by rcases h with h | h; exact h.elim; omega) hwf, hwf, by rw [T.fc]; exact ⟨rfl, by omega, h1.2.1⟩, by rw [T.leaves]; exact hln2, HRD.out.grown gs (fun r e => by cases e; exact hRlt), by omega⟩

def badFaces : List ByteArray := [⟨#[]⟩, ⟨#[40, 98, 32, 42, 32, 42, 41]⟩, ⟨#[40, 97, 32, 42, 41]⟩, ⟨#[40, 97, 32, 42, 32, 42, 32, 40, 97, 32, 42, 32, 42, 41, 32, 40, 97, 32, 42, 32, 42, 32, 42, 41, 41]⟩]
theorem badFaces_size : ∀ s ∈ badFaces, s.size ≤ 2000 := by decide
def badFaceCells : Array Value := #[.string ⟨#[]⟩, .string ⟨#[40, 98, 32, 42, 32, 42, 41]⟩, .string ⟨#[40, 97, 32, 42, 41]⟩, .string ⟨#[40, 97, 32, 42, 32, 42, 32, 40, 97, 32, 42, 32, 42, 41, 32, 40, 97, 32, 42, 32, 42, 32, 42, 41, 41]⟩]
theorem badFaceCells_get : ∀ j (h : j < 4), badFaceCells[j]? = some (.string (badFaces[j]'h)) := by
  intro j h
  match j, h with
  | 0, _ => rfl
  | 1, _ => rfl
  | 2, _ => rfl
  | 3, _ => rfl

theorem badFace_of (R : Nat) (a : Option Addr) (cap : Nat) (bs : List Nat) (p : Nat) (w : World) (h : RdR w R a cap bs p) (hp : p ≤ 1000000) :
    Calls Try.prog 32 #[.pointer (some ⟨R, 0, none⟩), .slice (some ⟨w.heap.size, 0, none⟩) 4 4] (w.alloc (.cells badFaceCells 9 (0, 0))) (OfPost R a cap bs p badFaces (w.alloc (.cells badFaceCells 9 (0, 0)))) := by
  refine of_any R a cap p bs _ w.heap.size 0 4 badFaces (h.grown (grownBy_below (grownBy_refl w none) ((Below.refl _ _).alloc (Nat.le_refl _) _)) (fun _ e => by cases e)) hp (by decide) (by decide) (by have := h.cells.2.2.2; omega) ?_
  intro j hj
  have h1 : (w.alloc (.cells badFaceCells 9 (0, 0))).heap[w.heap.size]? = some (.cells badFaceCells 9 (0, 0)) := heap_alloc_new w _
  simp only [World.cell?, h1, Nat.zero_add]
  exact badFaceCells_get j hj

/-- A drawn text. -/
def FTextDr (R : Nat) (w : World) (e : Ending) (w' : World) : Prop := w.grownBy w' (some R) ∧ ∃ s : ByteArray, e = .returned (.string s) ∧ s.size ≤ 2000

set_option maxRecDepth 100000 in
set_option maxHeartbeats 2000000 in
theorem l92FaceText_any (R : Nat) (a : Option Addr) (cap : Nat) (bs : List Nat) (p : Nat) (w : World) (hp : p ≤ 1000) (h : RdR w R a cap bs p) :
    Calls Try.prog 19 #[.pointer (some ⟨R, 0, none⟩)] w (FTextDr R w) := by
  have HR := Lib.hid h
  have HP1 := Lib.hid (pick_any R a cap p 20 bs w h (by omega) (by omega) (by omega))
  clear h
  go_enter Try.func19, Try.ntmps19
  go_wp2_with fail
  refine HP1.out.mono ?_
  rintro e w1 ⟨⟨k1, hk1, rfl⟩, hg1, hs1, hr1⟩
  have HG1 := Lib.hid hg1
  have HR1 := Lib.hid hr1
  clear hg1 hs1 hr1
  by_cases hk0 : k1 = 0
  · subst hk0
    have HO := Lib.hid (badFace_of R a cap bs (p + 1) w1 HR1.out (by omega))
    go_wp2_with fail
    refine HO.out.mono ?_
    rintro e w2 ⟨⟨s, hs, rfl⟩, hg2, hs2, hr2⟩
    have hsz := badFaces_size s hs
    have hb : w1.grownBy (w1.alloc (.cells badFaceCells 9 (0, 0))) none := grownBy_below (grownBy_refl _ _) ((Below.refl _ _).alloc (Nat.le_refl _) _)
    have ALL := Lib.hid (grownBy_trans (grownBy_over HG1.out hb (fun _ e => by cases e)) hg2)
    clear hg2 hs2 hr2 hs hb
    go_wp2_with fail
    go_ret
    exact ⟨ALL.out, s, rfl, hsz⟩
  · have h2 : ((k1 : Int) == 0) = false := beq_false_of_ne (by omega)
    have HP2 := Lib.hid (pick_any R a cap (p + 1) 6 bs w1 HR1.out (by omega) (by omega) (by omega))
    go_wp2_with fail
    refine HP2.out.mono ?_
    rintro e w2 ⟨⟨k2, hk2, rfl⟩, hg2, hs2, hr2⟩
    have HT := Lib.hid (l92Face_any R a cap bs (k2 + 1) (k2 + 1) (p + 2) (1 + (k2 : Int)) w2 (Nat.le_refl _) (by omega) (by omega) (by omega) (by omega) hr2)
    have HG2 := Lib.hid (grownBy_trans HG1.out hg2)
    clear hg2 hs2 hr2
    go_wp2_with fail
    refine HT.out.mono ?_
    rintro e w3 ⟨hg3, t, lb, sa, sn, sc, q, rfl, hrep, hwf, hfc, hlv, hrd, hq⟩
    have htl := text_length t
    have hdn := dim_nodes t
    have hd0 := fc_dim t hfc
    have HT2 := Lib.hid (l1Text_any _ t _ _ w3 _ (Nat.le_refl _) hwf (by omega) hrep)
    have HG3 := Lib.hid (grownBy_trans HG2.out hg3)
    have hsz : t.text.length ≤ 2000 := by omega
    clear hg3 hrep hrd htl hdn hd0 hlv
    go_wp2_with fail
    refine HT2.out.mono ?_
    rintro e w4 ⟨rfl, hb4⟩
    have HB4 := Lib.hid hb4
    clear hb4
    go_wp2_with fail
    go_ret
    exact ⟨grownBy_below HG3.out HB4.out, ⟨t.text.toArray⟩, rfl, by change t.text.toArray.size ≤ 2000; simpa using hsz⟩


set_option maxHeartbeats 1000000 in
theorem dFaceValid_any (bs : List Nat) (a : Option Addr) (cap : Nat) (w : World) (hn : bs.length ≤ 9223372036854775807) (hcap : bs.length ≤ cap) (h8 : ∀ z ∈ bs, z ≤ 255) (hl : LiesB w a bs) :
    Calls Try.prog 8 #[.slice a bs.length cap] w (DrPost w) := by
  have HO := Lib.hid (l6Open_any bs a cap w hn hcap h8 hl)
  clear h8 hl
  go_enter Try.func8, Try.ntmps8
  go_wp2_with fail
  refine HO.out.mono ?_
  rintro e w1 ⟨rfl, hb1, hr1⟩
  have HX := Lib.hid (l92FaceText_any w.heap.size a cap (bs.take 2000) 0 w1 (by decide) hr1)
  have HB1 := Lib.hid hb1
  clear hb1 hr1
  go_wp2_with fail
  refine HX.out.mono ?_
  rintro e w2 ⟨hg2, s, rfl, hsz⟩
  have HB2 := Lib.hid (below_over HB1.out hg2 (fun r e => by cases e; exact Nat.le_refl _))
  clear hg2
  go_wp2_with fail
  go_ret
  exact ⟨HB2.out, s, rfl, hsz⟩

set_option maxHeartbeats 1000000 in
theorem dFaceDim_any (bs : List Nat) (a : Option Addr) (cap : Nat) (w : World) (hn : bs.length ≤ 9223372036854775807) (hcap : bs.length ≤ cap) (h8 : ∀ z ∈ bs, z ≤ 255) (hl : LiesB w a bs) :
    Calls Try.prog 14 #[.slice a bs.length cap] w (DrPost w) := by
  have HO := Lib.hid (l6Open_any bs a cap w hn hcap h8 hl)
  clear h8 hl
  go_enter Try.func14, Try.ntmps14
  go_wp2_with fail
  refine HO.out.mono ?_
  rintro e w1 ⟨rfl, hb1, hr1⟩
  have HX := Lib.hid (l92FaceText_any w.heap.size a cap (bs.take 2000) 0 w1 (by decide) hr1)
  have HB1 := Lib.hid hb1
  clear hb1 hr1
  go_wp2_with fail
  refine HX.out.mono ?_
  rintro e w2 ⟨hg2, s, rfl, hsz⟩
  have HB2 := Lib.hid (below_over HB1.out hg2 (fun r e => by cases e; exact Nat.le_refl _))
  clear hg2
  go_wp2_with fail
  go_ret
  exact ⟨HB2.out, s, rfl, hsz⟩

end Go.Proofs.Ytbbkaephlojalaa
