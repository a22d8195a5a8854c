/- Merged out of: XSumRS, XSumAddS. -/
import Derived.Test.YtapobhnhnldlkaaGreatSumR
import Derived.Test.YtapobhnhnldlkaaGreatOrdS
import Derived.Deep.RegionHeld3
import Derived.Deep.CutRange
import Derived.Deep.CutBlock
section
/- The model reads a sum. -/
namespace Go.Proofs.YtapobhnhnldlkaaGreat
open Go.RowKit

/-- What the model's reader answers. -/
def L3R (xs : List (Int × ByteArray)) (w : World) (e : Ending) (w' : World) : Prop :=
  Below w.heap.size w w' ∧ ∃ (a : Option Addr) (n c : Nat) (b : Bool), e = .returned (.tuple #[.slice a n c, .bool b]) ∧
    ((sumOf xs = none ∧ b = false) ∨ ∃ ps, sumOf xs = some ps ∧ b = true ∧ n = ps.length ∧ Rd tmS w' (fun _ => True) a ps ∧ (∃ g, a = some ⟨g, 0, none⟩) ∧ n ≤ c ∧ c ≤ 9223372036854775807)

theorem infoTmS : (Tryz.prog.info? 107).map (fun i => (i.zero, i.size, i.bytes)) = some (some (.agg #[.int .i64 0, .string ⟨#[]⟩, .slice none 0 0]), 3, 48) := by kernel_rfl

theorem cells_three {w : World} {n : Nat} {t : TypeId} (hn : n = w.heap.size) (x y z : Value) :
    ∀ (j : Nat) (u : Value), [x, y, z][j]? = some u → (w.alloc (.cells #[x, y, z] t)).cell? ((⟨n, 0, none⟩ : Addr).add j) = some u := by
  intro j u h
  have e : (⟨n, 0, none⟩ : Addr).add j = ⟨n, j, none⟩ := by unfold Addr.add; split <;> simp_all
  rw [e, World.cell?_alloc_at _ _ _ _ hn]
  simpa using h

set_option maxRecDepth 100000 in
set_option maxHeartbeats 4000000 in
theorem l3Read_any (xs : List (Int × ByteArray)) (n : Nat) (hnx : n = xs.length) (g cap : Nat) (w : World) (hn : n ≤ 1048576) (hz : ∀ j (h : j < xs.length), (xs[j]).2.size ≤ 1048576) (hl : TermL w g xs) :
    Calls Tryz.prog 49 #[.slice (some ⟨g, 0, none⟩) n cap] w (L3R xs w) := by
  have HL := Lib.hid hl
  have HZ := Lib.hid hz
  have HNN := Lib.hid hnx
  clear hl hz hnx
  obtain ⟨i0, hi0, hzz, hzs, hzb⟩ := info_parts infoTmS
  go_enter Tryz.func49, Tryz.ntmps49
  go_wp2_with fail
  go_loopw [4, 5] (fun ov iv wr => ∃ (ps : List Tm) (k : Nat) (va : Option Addr) (vc : Nat) (vs : List Value), k = ps.length ∧ k ≤ n ∧ va ≠ none ∧ iv = .int .i64 k ∧ ov = .slice va k vc ∧ rdAll 1 100 true (xs.take k) = some ps ∧ Row tmS 107 w.heap.size ps (.slice va k vc) vs wr ∧ Below w.heap.size w wr) (fun _ iv _ => n - (intOf iv).toNat)
  case atStart =>
    refine ⟨[], 0, some ⟨w.heap.size, 0, none⟩, 0, [], rfl, Nat.zero_le _, by simp, rfl, rfl, rfl, ?_, (Below.refl _ _).alloc (Nat.le_refl _) _⟩
    exact ⟨World.ownsRow_made w #[] 0 (Nat.le_refl _) (by simp [maxLen]) rfl, fun _ h => by simp at h⟩
  case round =>
    obtain ⟨ps, k, va, vc, vs, hkp, hk, hva, rfl, rfl, hrd, hrow, hB⟩ := hrel
    have HVA := Lib.hid hva
    clear hva
    have HKP := Lib.hid hkp
    have HRD := Lib.hid hrd
    have HROW := Lib.hid hrow
    have HB := Lib.hid hB
    by_cases hlt : k < n
    · have hltx : k < xs.length := by rw [← HNN.out]; exact hlt
      obtain ⟨c0, c1⟩ := (HL.out.below hB) k hltx
      have hzk := HZ.out k hltx
      obtain ⟨s, hs⟩ : ∃ s, s = (xs[k]).2 := ⟨_, rfl⟩
      obtain ⟨x, hx⟩ : ∃ x, x = (xs[k]).1 := ⟨_, rfl⟩
      rw [← hs] at c1 hzk
      rw [← hx] at c0
      have HS := Lib.hid hs
      have HX := Lib.hid hx
      have HP := Lib.hid (fun w => l1Parse_any s w (by omega))
      clear hkp hrd hrow hB hs hx
      go_wp2_with fail
      refine (HP.out _).mono ?_
      rintro e w1 ⟨hB1, lb, sa, sn, sc, b, rfl, hres⟩
      have HB1 := Lib.hid hB1
      have HA1 : Hid (Below w1.heap.size w1 (w1.alloc (.cells #[.string lb, .slice sa sn sc] 52 (0, 0)))) := Lib.hid ((Below.refl _ _).alloc (Nat.le_refl _) _)
      have HBA := Lib.hid (below_step (below_step HB.out hB1) HA1.out)
      have d0 := keep1 HA1.out (keep1 hB1 c0)
      have hx0 := heap_alloc_new w1 (.cells #[.string lb, .slice sa sn sc] 52 (0, 0))
      obtain ⟨x0, x1, _, _⟩ := two_cells hx0
      clear hB1 hx0
      rcases hres with ⟨hno, rfl⟩ | ⟨t, hyes, rfl, hrep⟩
      · have HN : Hid (sumOf xs = none) := Lib.hid (by rw [sumOf, rd_no_tree hltx (by rw [← HS.out]; exact hno)]; split <;> rfl)
        clear hno
        go_wp2_with fail
        go_ret2
        exact ⟨HBA.out, _, _, _, false, rfl, .inl ⟨HN.out, rfl⟩⟩
      · have HY := Lib.hid hyes
        have HREP := Lib.hid hrep
        obtain ⟨hw, htx, htl, htn⟩ := parse_some hyes
        clear hyes hrep htx
        by_cases hin : 1 ≤ x ∧ x ≤ 100
        · have HIN : Hid (∀ w, Calls Tryz.prog 39 #[.int .i64 x, .int .i64 1, .int .i64 100] w fun e w' => e = .returned (.bool true) ∧ w = w') := Lib.hid (fun w => by
            have := l6In_any x 1 100 w
            rw [decide_eq_true hin] at this
            exact this)
          have HXI := Lib.hid hin
          clear hin
          have hbe := below_step HB.out HB1.out
          have HBW := Lib.hid (below_step (Below.refl wr.heap.size wr) (below_step HB1.out HA1.out))
          have HTR := Lib.hid ((HREP.out.keep (w' := w1) (P' := fun _ => True) (fun _ _ _ h => h) (fun _ _ _ => trivial) hw).below hw HA1.out)
          have HTQ : Hid (RepS (w1.alloc (.cells #[.string lb, .slice sa sn sc] 52 (0, 0))) (fun b => (Value.slice va k vc).ownBlock ≠ some b) t (.string lb) (.slice sa sn sc)) := Lib.hid ((HREP.out.keep (w' := w1) (fun _ _ _ h => h) (fun b hb _ e => by have := (HROW.out.own.lt b e).2; omega) hw).below hw HA1.out)
          by_cases hk0 : k = 0
          · have hd : decide (0 < k) = false := decide_eq_false (by omega)
            have HK0 := Lib.hid hk0
            clear hk0
            go_wp2_with (go_at_call 39; refine (HIN.out _).mono ?_; rintro e w' ⟨rfl, rfl⟩)
            go_quiet (fail)
            have HNX : Hid (rdAll 1 100 true (xs.take (k + 1)) = some (ps ++ [(x, t)])) := Lib.hid (by
              have := rd_fit hltx HRD.out (by rw [← HS.out]; exact HY.out) (by
                have hps : ps = [] := List.length_eq_zero_iff.1 (by have := HKP.out; have := HK0.out; omega)
                subst hps
                rw [← HX.out, fits, decide_eq_true HXI.out.1, decide_eq_true HXI.out.2]; rfl)
              rw [← HX.out] at this
              exact this)
            obtain ⟨W, hW⟩ : ∃ W, W = (w1.alloc (.cells #[.string lb, .slice sa sn sc] 52 (0, 0))).drewN nq := ⟨_, rfl⟩
            have HBR : Hid (Below wr.heap.size wr W) := Lib.hid (by rw [hW]; exact below_drewN HBW.out nq)
            have e0 : W.cell? ⟨g, k * 2, none⟩ = some (.int .i64 x) := by rw [hW]; exact d0
            have e1 : W.cell? ⟨w1.heap.size, 0, none⟩ = some (.string lb) := by rw [hW]; exact x0
            have e2 : W.cell? ⟨w1.heap.size, 1, none⟩ = some (.slice sa sn sc) := by rw [hW]; exact x1
            have HTW : Hid (RepS W (fun b => (Value.slice va k vc).ownBlock ≠ some b) t (.string lb) (.slice sa sn sc)) := Lib.hid (by rw [hW]; exact HTQ.out.below hw (below_drewN (Below.refl _ _) nq))
            rw [← hW]
            clear hW d0 x0 x1
            have hsW := HBR.out.size
            have OWN := owns_below HROW.out.own HBR.out
            rw [← HKP.out] at OWN
            have HOWN := Lib.hid OWN
            have k0 : (0 : Int) ≤ k := by omega
            clear OWN
            go_wp2_with fail
            go_region_law (refine step_append_lies _ (by rfl) _ _ 101 (by rfl) w.heap.size 107 i0 (.agg #[.int .i64 0, .string ⟨#[]⟩, .slice none 0 0]) 3 48 Tryz.underlying101 hi0 hzz hzs hzb rfl (by decide) (.slice va k vc) k vs (by rfl) (World.ownsRow.alloc (World.ownsRow.drew HOWN.out) (.cells #[.int .i64 x, .string lb, .slice sa sn sc] 107 (0, 0))) ⟨W.heap.size, 0, none⟩ 1 1 [.int .i64 x, .string lb, .slice sa sn sc] (by rfl) (by rfl) (cells_three rfl _ _ _) (by simp [Value.oneCell']) (by decide) (by unfold maxLen; omega) (by omega) (by have := HB.out.size; simp; omega) (W.heap.size + 1) (by simp) ?_; intro gg cap' w2 hown2 hg2 hf2 hlt2)
            all_goals
              have hs2 := hg2.size
              have NX : Row tmS 107 w.heap.size (ps ++ [(x, t)]) (.slice (some ⟨gg, 0, none⟩) (k + 1) cap') (vs ++ [.int .i64 x, .string lb, .slice sa sn sc]) w2 := by
                have h := HROW.out.next (a := (x, t)) (w1 := W) (w1' := W.drew.alloc (.cells #[.int .i64 x, .string lb, .slice sa sn sc] 107 (0, 0))) HBR.out ⟨lb, sa, sn, sc, rfl, hw, HTW.out⟩ ((Below.refl _ _).drew.alloc (Nat.le_refl _) _) (by rw [← HKP.out]; exact hown2) hg2 (by rcases hf2 with h | h; exact .inl h; exact .inr (by omega))
                rw [← HKP.out] at h
                exact h
              have NXX := Lib.hid NX
              have BB := Lib.hid ((((below_step HB.out HBR.out).drew.alloc (by have := HB.out.size; simp; omega) (.cells #[.int .i64 x, .string lb, .slice sa sn sc] 107 (0, 0))).grown hg2 (by have := HB.out.size; simp; omega) (fun q e => by have := (HOWN.out.lt q e).1; omega)))
              clear NX hown2 hg2 hf2
              go_wp2_with fail
              go_roundw
              case rel => exact ⟨ps ++ [(x, t)], k + 1, some ⟨gg, 0, none⟩, cap', _, by rw [List.length_append]; have := HKP.out; simp; omega, by omega, by simp, by go_num, rfl, HNX.out, NXX.out, BB.out⟩
              case measure => simp [intOf]; omega
          · have hd : decide (0 < k) = true := decide_eq_true (by omega)
            have hkpos : 0 < k := by omega
            obtain ⟨j, hj⟩ : ∃ j : Nat, j = k - 1 := ⟨_, rfl⟩
            have HJ := Lib.hid hj
            have hkw2 : IntKind.i64.wrap (j : Int) = (j : Int) := by rw [IntKind.wrap_i64]; omega
            have hkw : IntKind.i64.wrap ((k : Int) - 1) = (j : Int) := by rw [IntKind.wrap_i64]; omega
            have hj0 : (0 : Int) ≤ (j : Int) := by omega
            have hjk : (j : Int) < (k : Int) := by omega
            have hjk' : j < k := by omega
            have hp0 : 0 < ps.length := by have := HKP.out; omega
            have hpj : j < ps.length := by have := HKP.out; omega
            have hrd2 := HROW.out.rd.below (by decide) HBW.out
            obtain ⟨gv, yb, ya, yn, yc, rfl, _, _, y1, y2, hyw, hyr⟩ := tmS.get hrd2 0 hp0
            obtain ⟨gv', zb, za, zn, zc, e2, _, _, z1, z2, hzw, hzr⟩ := tmS.get hrd2 j hpj
            cases e2
            rw [Nat.zero_mul, Nat.zero_add] at y1 y2
            have HLT := Lib.hid (fun (W : World) (hb : Below (w1.alloc (.cells #[.string lb, .slice sa sn sc] 52 (0, 0))).heap.size (w1.alloc (.cells #[.string lb, .slice sa sn sc] 52 (0, 0))) W) => l1Leaves_any _ t _ _ W _ (Nat.le_refl _) hw (by omega) (HTR.out.below hw hb))
            have HOK := Lib.hid (rdAll_ok _ _ _ rfl HRD.out).2.1
            have HY0 := Lib.hid (HOK.out.tree (ps[0]) (List.getElem_mem hp0))
            have HYJ := Lib.hid (HOK.out.tree (ps[j]) (List.getElem_mem hpj))
            have HLY := Lib.hid (fun (W : World) (hb : Below (w1.alloc (.cells #[.string lb, .slice sa sn sc] 52 (0, 0))).heap.size (w1.alloc (.cells #[.string lb, .slice sa sn sc] 52 (0, 0))) W) => l1Leaves_any _ (ps[0]).2 _ _ W _ (Nat.le_refl _) hyw (by have := HY0.out.2.1; omega) (hyr.below hyw hb))
            have HOR := Lib.hid (fun (W : World) (hb : Below (w1.alloc (.cells #[.string lb, .slice sa sn sc] 52 (0, 0))).heap.size (w1.alloc (.cells #[.string lb, .slice sa sn sc] 52 (0, 0))) W) => l2Order_any (ps[j]).2 t zb za zn zc lb sa sn sc W (fun b => b < W.heap.size) hzw (Nat.le_trans HYJ.out.2.1 (by omega)) (Nat.le_trans HYJ.out.2.2 (by omega)) hw (by omega) (by omega) (fun _ h => h) ((hzr.below hzw hb).keep (fun _ _ _ h => h) (fun _ _ h => h) hzw) ((HTR.out.below hw hb).keep (fun _ _ _ h => h) (fun _ _ h => h) hw))
            obtain ⟨L, hL⟩ : ∃ L, L = t.leaves := ⟨_, rfl⟩
            obtain ⟨M, hM⟩ : ∃ M, M = (ps[0]).2.leaves := ⟨_, rfl⟩
            obtain ⟨z, hz⟩ : ∃ z, z = ordT (ps[j]).2 t := ⟨_, rfl⟩
            have HLT2 : Hid (∀ (W : World), Below (w1.alloc (.cells #[.string lb, .slice sa sn sc] 52 (0, 0))).heap.size (w1.alloc (.cells #[.string lb, .slice sa sn sc] 52 (0, 0))) W → Calls Tryz.prog 40 #[.agg #[.string lb, .slice sa sn sc]] W fun e w' => e = .returned (.int .i64 (L : Int)) ∧ Below W.heap.size W w') := Lib.hid (by rw [hL]; exact HLT.out)
            have HLY2 : Hid (∀ (W : World), Below (w1.alloc (.cells #[.string lb, .slice sa sn sc] 52 (0, 0))).heap.size (w1.alloc (.cells #[.string lb, .slice sa sn sc] 52 (0, 0))) W → Calls Tryz.prog 40 #[.agg #[.string yb, .slice ya yn yc]] W fun e w' => e = .returned (.int .i64 (M : Int)) ∧ Below W.heap.size W w') := Lib.hid (by rw [hM]; exact HLY.out)
            have HOR2 : Hid (∀ (W : World), Below (w1.alloc (.cells #[.string lb, .slice sa sn sc] 52 (0, 0))).heap.size (w1.alloc (.cells #[.string lb, .slice sa sn sc] 52 (0, 0))) W → Calls Tryz.prog 50 #[.agg #[.string zb, .slice za zn zc], .agg #[.string lb, .slice sa sn sc]] W (Ans (.int .i64 z) W)) := Lib.hid (by rw [hz]; exact HOR.out)
            have HFH : Hid (fitsHd ps t = decide (L = M)) := Lib.hid (by rw [fitsHd_get hp0, hL, hM])
            have HFL : Hid (fitsLast ps t = decide (0 < z)) := Lib.hid (by rw [fitsLast_get (j := j) (by have := HKP.out; have := HJ.out; omega), hz])
            have HW0 : Hid (Below wr.heap.size wr (w1.alloc (.cells #[.string lb, .slice sa sn sc] 52 (0, 0)))) := Lib.hid HBW.out
            clear HLT HLY HOR hL hM hz hyr hzr hrd2 hj
            by_cases hLM : L = M
            · subst hLM
              by_cases hzp : 0 < z
              · have hz0 : decide (z ≤ 0) = false := decide_eq_false (by omega)
                have HNX : Hid (rdAll 1 100 true (xs.take (k + 1)) = some (ps ++ [(x, t)])) := Lib.hid (by
                  have := rd_fit hltx HRD.out (by rw [← HS.out]; exact HY.out) (by
                    rw [← HX.out, fits, decide_eq_true HXI.out.1, decide_eq_true HXI.out.2, HFH.out, HFL.out, decide_eq_true hzp]; simp)
                  rw [← HX.out] at this
                  exact this)
                go_wp2_with (go_at_call 39; refine (HIN.out _).mono ?_; rintro e w' ⟨rfl, rfl⟩)
                go_region_held3 (fun w' => w'.cell? ⟨w1.heap.size, 0, none⟩ = some (.string lb) ∧ w'.cell? ⟨w1.heap.size, 1, none⟩ = some (.slice sa sn sc) ∧ w'.cell? ⟨gv, 1, none⟩ = some (.string yb) ∧ w'.cell? ⟨gv, 2, none⟩ = some (.slice ya yn yc) ∧ w'.cell? ⟨gv, j * 3 + 1, none⟩ = some (.string zb) ∧ w'.cell? ⟨gv, j * 3 + 2, none⟩ = some (.slice za zn zc))
                  (first | exact ⟨x0, x1, y1, y2, z1, z2⟩ | exact ⟨p0, p1, p2, p3, p4, p5⟩ | exact ⟨q0, q1, q2, q3, q4, q5⟩ | exact ⟨r0, r1, r2, r3, r4, r5⟩)
                  (first
                  | (go_at_call 50; have hq := HC2.out; clear hq; refine (HOR2.out _ HC2.out).mono ?_; rintro e w4 ⟨rfl, hB4⟩; have r0 := keep1 hB4 q0; have r1 := keep1 hB4 q1; have r2 := keep1 hB4 q2; have r3 := keep1 hB4 q3; have r4 := keep1 hB4 q4; have r5 := keep1 hB4 q5; have HC3 := Lib.hid (below_step HC2.out hB4); clear hB4)
                  | (go_at_call 40; have hq := HC1.out; clear hq; refine (HLY2.out _ HC1.out).mono ?_; rintro e w3 ⟨rfl, hB3⟩; have q0 := keep1 hB3 p0; have q1 := keep1 hB3 p1; have q2 := keep1 hB3 p2; have q3 := keep1 hB3 p3; have q4 := keep1 hB3 p4; have q5 := keep1 hB3 p5; have HC2 := Lib.hid (below_step HC1.out hB3); clear hB3)
                  | (go_at_call 40; refine (HLT2.out _ (Below.refl _ _).drew).mono ?_; rintro e w2 ⟨rfl, hB2⟩; have hB2' : Below (w1.alloc (.cells #[.string lb, .slice sa sn sc] 52 (0, 0))).heap.size (w1.alloc (.cells #[.string lb, .slice sa sn sc] 52 (0, 0))) w2 := (Below.refl _ _).drew.trans hB2; have p0 := keep1 hB2' x0; have p1 := keep1 hB2' x1; have p2 := keep1 hB2' y1; have p3 := keep1 hB2' y2; have p4 := keep1 hB2' z1; have p5 := keep1 hB2' z2; have HC1 := Lib.hid hB2'; clear hB2 hB2'))
                all_goals
                  have HBR : Hid (Below wr.heap.size wr w4) := Lib.hid (below_step HW0.out HC3.out)
                  have e0 : w4.cell? ⟨g, k * 2, none⟩ = some (.int .i64 x) := keep1 HC3.out d0
                  have HTW : Hid (RepS w4 (fun b => (Value.slice (some ⟨gv, 0, none⟩) k vc).ownBlock ≠ some b) t (.string lb) (.slice sa sn sc)) := Lib.hid (HTQ.out.below hw HC3.out)
                  clear x0 x1 y1 y2 z1 z2 p0 p1 p2 p3 p4 p5 q0 q1 q2 q3 q4 q5 r2 r3 r4 r5 d0
                  have hsW := HBR.out.size
                  have OWN := owns_below HROW.out.own HBR.out
                  rw [← HKP.out] at OWN
                  have HOWN := Lib.hid OWN
                  have k0 : (0 : Int) ≤ k := by omega
                  clear OWN
                  go_wp2_with fail
                  go_region_law (refine step_append_lies _ (by rfl) _ _ 101 (by rfl) w.heap.size 107 i0 (.agg #[.int .i64 0, .string ⟨#[]⟩, .slice none 0 0]) 3 48 Tryz.underlying101 hi0 hzz hzs hzb rfl (by decide) (.slice (some ⟨gv, 0, none⟩) k vc) k vs (by rfl) (World.ownsRow.alloc (World.ownsRow.drew HOWN.out) (.cells #[.int .i64 x, .string lb, .slice sa sn sc] 107 (0, 0))) ⟨w4.heap.size, 0, none⟩ 1 1 [.int .i64 x, .string lb, .slice sa sn sc] (by rfl) (by rfl) (cells_three rfl _ _ _) (by simp [Value.oneCell']) (by decide) (by unfold maxLen; omega) (by omega) (by have := HB.out.size; simp; omega) (w4.heap.size + 1) (by simp) ?_; intro gg cap' w2 hown2 hg2 hf2 hlt2)
                  all_goals
                    have hs2 := hg2.size
                    have NX : Row tmS 107 w.heap.size (ps ++ [(x, t)]) (.slice (some ⟨gg, 0, none⟩) (k + 1) cap') (vs ++ [.int .i64 x, .string lb, .slice sa sn sc]) w2 := by
                      have h := HROW.out.next (a := (x, t)) (w1 := w4) (w1' := w4.drew.alloc (.cells #[.int .i64 x, .string lb, .slice sa sn sc] 107 (0, 0))) HBR.out ⟨lb, sa, sn, sc, rfl, hw, HTW.out⟩ ((Below.refl _ _).drew.alloc (Nat.le_refl _) _) (by rw [← HKP.out]; exact hown2) hg2 (by rcases hf2 with h | h; exact .inl h; exact .inr (by omega))
                      rw [← HKP.out] at h
                      exact h
                    have NXX := Lib.hid NX
                    have BB := Lib.hid ((((below_step HB.out HBR.out).drew.alloc (by have := HB.out.size; simp; omega) (.cells #[.int .i64 x, .string lb, .slice sa sn sc] 107 (0, 0))).grown hg2 (by have := HB.out.size; simp; omega) (fun q e => by have := (HOWN.out.lt q e).1; omega)))
                    clear NX hown2 hg2 hf2
                    go_wp2_with fail
                    go_roundw
                    case rel => exact ⟨ps ++ [(x, t)], k + 1, some ⟨gg, 0, none⟩, cap', _, by rw [List.length_append]; have := HKP.out; simp; omega, by omega, by simp, by go_num, rfl, HNX.out, NXX.out, BB.out⟩
                    case measure => simp [intOf]; omega
              · have hz0 : decide (z ≤ 0) = true := decide_eq_true (by omega)
                have HN : Hid (sumOf xs = none) := Lib.hid (by
                  have hF : rdAll 1 100 true xs = none := rd_no_fit hltx HRD.out (by rw [← HS.out]; exact HY.out) (by
                    rw [fits, HFL.out, decide_eq_false hzp]; simp)
                  rw [sumOf, hF]; split <;> rfl)
                go_wp2_with (go_at_call 39; refine (HIN.out _).mono ?_; rintro e w' ⟨rfl, rfl⟩)
                go_region_held3 (fun w' => w'.cell? ⟨w1.heap.size, 0, none⟩ = some (.string lb) ∧ w'.cell? ⟨w1.heap.size, 1, none⟩ = some (.slice sa sn sc) ∧ w'.cell? ⟨gv, 1, none⟩ = some (.string yb) ∧ w'.cell? ⟨gv, 2, none⟩ = some (.slice ya yn yc) ∧ w'.cell? ⟨gv, j * 3 + 1, none⟩ = some (.string zb) ∧ w'.cell? ⟨gv, j * 3 + 2, none⟩ = some (.slice za zn zc))
                  (first | exact ⟨x0, x1, y1, y2, z1, z2⟩ | exact ⟨p0, p1, p2, p3, p4, p5⟩ | exact ⟨q0, q1, q2, q3, q4, q5⟩ | exact ⟨r0, r1, r2, r3, r4, r5⟩)
                  (first
                  | (go_at_call 50; have hq := HC2.out; clear hq; refine (HOR2.out _ HC2.out).mono ?_; rintro e w4 ⟨rfl, hB4⟩; have r0 := keep1 hB4 q0; have r1 := keep1 hB4 q1; have r2 := keep1 hB4 q2; have r3 := keep1 hB4 q3; have r4 := keep1 hB4 q4; have r5 := keep1 hB4 q5; have HC3 := Lib.hid (below_step HC2.out hB4); clear hB4)
                  | (go_at_call 40; have hq := HC1.out; clear hq; refine (HLY2.out _ HC1.out).mono ?_; rintro e w3 ⟨rfl, hB3⟩; have q0 := keep1 hB3 p0; have q1 := keep1 hB3 p1; have q2 := keep1 hB3 p2; have q3 := keep1 hB3 p3; have q4 := keep1 hB3 p4; have q5 := keep1 hB3 p5; have HC2 := Lib.hid (below_step HC1.out hB3); clear hB3)
                  | (go_at_call 40; refine (HLT2.out _ (Below.refl _ _).drew).mono ?_; rintro e w2 ⟨rfl, hB2⟩; have hB2' : Below (w1.alloc (.cells #[.string lb, .slice sa sn sc] 52 (0, 0))).heap.size (w1.alloc (.cells #[.string lb, .slice sa sn sc] 52 (0, 0))) w2 := (Below.refl _ _).drew.trans hB2; have p0 := keep1 hB2' x0; have p1 := keep1 hB2' x1; have p2 := keep1 hB2' y1; have p3 := keep1 hB2' y2; have p4 := keep1 hB2' z1; have p5 := keep1 hB2' z2; have HC1 := Lib.hid hB2'; clear hB2 hB2'))
                all_goals
                  go_wp2_with fail
                  go_ret2
                  exact ⟨below_step (below_step HB.out HW0.out) HC3.out, _, _, _, false, rfl, .inl ⟨HN.out, rfl⟩⟩
            · have hLM1 : (L == M) = false := by simpa using hLM
              have hLM2 : (L != M) = true := by simpa using hLM
              have hLM3 : ((L : Int) == (M : Int)) = false := by simp; omega
              have hLM4 : ((L : Int) != (M : Int)) = true := by simp; omega
              have HN : Hid (sumOf xs = none) := Lib.hid (by
                have hF : rdAll 1 100 true xs = none := rd_no_fit hltx HRD.out (by rw [← HS.out]; exact HY.out) (by
                  rw [fits, HFH.out, decide_eq_false hLM]; simp)
                rw [sumOf, hF]; split <;> rfl)
              go_wp2_with (go_at_call 39; refine (HIN.out _).mono ?_; rintro e w' ⟨rfl, rfl⟩)
              refine wp_region_held_drew (S := (fun w' => w'.cell? ⟨w1.heap.size, 0, none⟩ = some (.string lb) ∧ w'.cell? ⟨w1.heap.size, 1, none⟩ = some (.slice sa sn sc) ∧ w'.cell? ⟨gv, 1, none⟩ = some (.string yb) ∧ w'.cell? ⟨gv, 2, none⟩ = some (.slice ya yn yc))) (by kernel_rfl) (by exact ⟨x0, x1, y1, y2⟩) (fun hHeld => ?_)
              refine wpAnyH_take (i := 0) (oi := { dst := some 36, op := Op.move (Operand.tmp 5), type := 3, pos := "l3_sums.go:44", after := #[], guard := none }) (v := ?_) rfl (by kernel_rfl) (by kernel_rfl) (by kernel_rfl) (fun _ _ _ h => h) (Or.inl ⟨by rfl, ?_⟩) (by assumption) ?_
              rotate_left
              · (intro w hSw; (try dsimp only at hSw); go_simp <;> with_reducible rfl)
              (try simp only [Act.put, List.setIfInBounds_toArray, List.set_cons_zero, List.set_cons_succ])
              refine wpAnyH_take (i := 1) (oi := { dst := some 37, op := Op.binOp BinOp.gtr 3 (Operand.tmp 36) (Operand.const (Value.int IntKind.i64 0)) 3, type := 4, pos := "l3_sums.go:44", after := #[{ on := 0, ground := Ground.data }], guard := none }) (v := ?_) rfl (by kernel_rfl) (by kernel_rfl) (by kernel_rfl) (fun _ _ _ h => h) (Or.inl ⟨by rfl, ?_⟩) (by assumption) ?_
              rotate_left
              · (intro w hSw; (try dsimp only at hSw); go_simp <;> with_reducible rfl)
              (try simp only [Act.put, List.setIfInBounds_toArray, List.set_cons_zero, List.set_cons_succ])
              refine wpAnyH_take (i := 2) (oi := { dst := some 38, op := Op.move (Operand.tmp 37), type := 4, pos := "l3_sums.go:44", after := #[{ on := 1, ground := Ground.data }], guard := none }) (v := ?_) rfl (by kernel_rfl) (by kernel_rfl) (by kernel_rfl) (fun _ _ _ h => h) (Or.inl ⟨by rfl, ?_⟩) (by assumption) ?_
              rotate_left
              · (intro w hSw; (try dsimp only at hSw); go_simp <;> with_reducible rfl)
              (try simp only [Act.put, List.setIfInBounds_toArray, List.set_cons_zero, List.set_cons_succ])
              refine wpAnyH_take (i := 3) (oi := { dst := some 39, op := Op.load 52 (Operand.tmp 6), type := 52, pos := "l3_sums.go:44", after := #[{ on := 2, ground := Ground.guard }], guard := some (2, true) }) (v := ?_) rfl (by kernel_rfl) (by kernel_rfl) (by kernel_rfl) (fun _ _ _ h => h) (Or.inl ⟨by rfl, ?_⟩) (by assumption) ?_
              rotate_left
              · (intro w hSw; (try dsimp only at hSw); go_simp <;> with_reducible rfl)
              (try simp only [Act.put, List.setIfInBounds_toArray, List.set_cons_zero, List.set_cons_succ])
              refine wpAnyH_take (i := 5) (oi := { dst := some 41, op := Op.move (Operand.tmp 4), type := 101, pos := "l3_sums.go:44", after := #[{ on := 2, ground := Ground.guard }], guard := some (2, true) }) (v := ?_) rfl (by kernel_rfl) (by kernel_rfl) (by kernel_rfl) (fun _ _ _ h => h) (Or.inl ⟨by rfl, ?_⟩) (by assumption) ?_
              rotate_left
              · (intro w hSw; (try dsimp only at hSw); go_simp <;> with_reducible rfl)
              (try simp only [Act.put, List.setIfInBounds_toArray, List.set_cons_zero, List.set_cons_succ])
              refine wpAnyH_take (i := 6) (oi := { dst := some 42, op := Op.indexAddr 101 (Operand.tmp 41) (Operand.const (Value.int IntKind.i64 0)), type := 0, pos := "l3_sums.go:44", after := #[{ on := 5, ground := Ground.data }, { on := 2, ground := Ground.guard }], guard := some (2, true) }) (v := ?_) rfl (by kernel_rfl) (by kernel_rfl) (by kernel_rfl) (fun _ _ _ h => h) (Or.inl ⟨by rfl, ?_⟩) (by assumption) ?_
              rotate_left
              · (intro w hSw; (try dsimp only at hSw); go_simp <;> with_reducible rfl)
              (try simp only [Act.put, List.setIfInBounds_toArray, List.set_cons_zero, List.set_cons_succ])
              refine wpAnyH_take (i := 7) (oi := { dst := some 43, op := Op.fieldAddr 107 (Operand.tmp 42) 1, type := 0, pos := "l3_sums.go:44", after := #[{ on := 6, ground := Ground.data }, { on := 2, ground := Ground.guard }], guard := some (2, true) }) (v := ?_) rfl (by kernel_rfl) (by kernel_rfl) (by kernel_rfl) (fun _ _ _ h => h) (Or.inl ⟨by rfl, ?_⟩) (by assumption) ?_
              rotate_left
              · (intro w hSw; (try dsimp only at hSw); go_simp <;> with_reducible rfl)
              (try simp only [Act.put, List.setIfInBounds_toArray, List.set_cons_zero, List.set_cons_succ])
              refine wpAnyH_take (i := 8) (oi := { dst := some 44, op := Op.load 52 (Operand.tmp 43), type := 52, pos := "l3_sums.go:44", after := #[{ on := 7, ground := Ground.data }, { on := 2, ground := Ground.guard }], guard := some (2, true) }) (v := ?_) rfl (by kernel_rfl) (by kernel_rfl) (by kernel_rfl) (fun _ _ _ h => h) (Or.inl ⟨by rfl, ?_⟩) (by assumption) ?_
              rotate_left
              · (intro w hSw; (try dsimp only at hSw); go_simp <;> with_reducible rfl)
              (try simp only [Act.put, List.setIfInBounds_toArray, List.set_cons_zero, List.set_cons_succ])
              refine wpAnyH_ready (rs := [4]) (by kernel_rfl) (by simp) ?_
              refine AllReadyH.cons (o := { dst := some 40, op := Op.call { callee := Callee.value (Operand.func 40), args := #[Operand.tmp 39], argTypes := #[52] }, type := 3, pos := "l3_sums.go:44", after := #[{ on := 3, ground := Ground.data }, { on := 2, ground := Ground.chain }, { on := 2, ground := Ground.guard }], guard := some (2, true) }) rfl (fun K hK => ?_) AllReadyH.nil
              go_simp
              go_wp2_with (go_at_call 40; refine (HLT2.out _ (Below.refl _ _).drew).mono ?_; rintro e w2 ⟨rfl, hB2⟩; have hB2' : Below (w1.alloc (.cells #[.string lb, .slice sa sn sc] 52 (0, 0))).heap.size (w1.alloc (.cells #[.string lb, .slice sa sn sc] 52 (0, 0))) w2 := (Below.refl _ _).drew.trans hB2; have p0 := keep1 hB2' x0; have p1 := keep1 hB2' x1; have p2 := keep1 hB2' y1; have p3 := keep1 hB2' y2; have HC1 := Lib.hid hB2'; clear hB2 hB2')
              refine hK.out _ _ ?_ (fun hHeld => ?_)
              · exact ⟨p0, p1, p2, p3⟩
              clear hK K
              (try simp only [Act.put, List.setIfInBounds_toArray, List.set_cons_zero, List.set_cons_succ])
              refine wpAnyH_ready (rs := [9]) (by kernel_rfl) (by simp) ?_
              refine AllReadyH.cons (o := { dst := some 45, op := Op.call { callee := Callee.value (Operand.func 40), args := #[Operand.tmp 44], argTypes := #[52] }, type := 3, pos := "l3_sums.go:44", after := #[{ on := 8, ground := Ground.data }, { on := 4, ground := Ground.chain }, { on := 2, ground := Ground.guard }], guard := some (2, true) }) rfl (fun K hK => ?_) AllReadyH.nil
              go_simp
              go_wp2_with (go_at_call 40; refine (HLY2.out _ HC1.out).mono ?_; rintro e w3 ⟨rfl, hB3⟩; have q0 := keep1 hB3 p0; have q1 := keep1 hB3 p1; have q2 := keep1 hB3 p2; have q3 := keep1 hB3 p3; have HC2 := Lib.hid (below_step HC1.out hB3); clear hB3)
              refine hK.out _ _ ?_ (fun hHeld => ?_)
              · exact ⟨q0, q1, q2, q3⟩
              clear hK K
              (try simp only [Act.put, List.setIfInBounds_toArray, List.set_cons_zero, List.set_cons_succ])
              refine wpAnyH_take (i := 10) (oi := { dst := some 46, op := Op.binOp BinOp.neq 3 (Operand.tmp 40) (Operand.tmp 45) 3, type := 4, pos := "l3_sums.go:44", after := #[{ on := 4, ground := Ground.data }, { on := 9, ground := Ground.data }, { on := 2, ground := Ground.guard }], guard := some (2, true) }) (v := ?_) rfl (by kernel_rfl) (by kernel_rfl) (by kernel_rfl) (fun _ _ _ h => h) (Or.inl ⟨by rfl, ?_⟩) (by assumption) ?_
              rotate_left
              · (intro w hSw; (try dsimp only at hSw); go_simp <;> with_reducible rfl)
              (try simp only [Act.put, List.setIfInBounds_toArray, List.set_cons_zero, List.set_cons_succ])
              refine wpAnyH_take (i := 11) (oi := { dst := some 47, op := Op.move (Operand.tmp 46), type := 4, pos := "l3_sums.go:44", after := #[{ on := 10, ground := Ground.data }, { on := 9, ground := Ground.chain }, { on := 2, ground := Ground.guard }], guard := some (2, true) }) (v := ?_) rfl (by kernel_rfl) (by kernel_rfl) (by kernel_rfl) (fun _ _ _ h => h) (Or.inl ⟨by rfl, ?_⟩) (by assumption) ?_
              rotate_left
              · (intro w hSw; (try dsimp only at hSw); go_simp <;> with_reducible rfl)
              (try simp only [Act.put, List.setIfInBounds_toArray, List.set_cons_zero, List.set_cons_succ])
              refine wpAnyH_take (i := 12) (oi := { dst := some 48, op := Op.move (Operand.tmp 4), type := 101, pos := "l3_sums.go:44", after := #[{ on := 11, ground := Ground.guard }], guard := some (11, false) }) (v := undef) rfl (by kernel_rfl) (by kernel_rfl) (by kernel_rfl) (fun _ _ _ h => h) (Or.inr ⟨by rfl, rfl⟩) (by assumption) ?_
              (try simp only [Act.put, List.setIfInBounds_toArray, List.set_cons_zero, List.set_cons_succ])
              refine wpAnyH_take (i := 13) (oi := { dst := some 49, op := Op.move (Operand.tmp 5), type := 3, pos := "l3_sums.go:44", after := #[{ on := 11, ground := Ground.guard }], guard := some (11, false) }) (v := undef) rfl (by kernel_rfl) (by kernel_rfl) (by kernel_rfl) (fun _ _ _ h => h) (Or.inr ⟨by rfl, rfl⟩) (by assumption) ?_
              (try simp only [Act.put, List.setIfInBounds_toArray, List.set_cons_zero, List.set_cons_succ])
              refine wpAnyH_take (i := 14) (oi := { dst := some 50, op := Op.binOp BinOp.sub 3 (Operand.tmp 49) (Operand.const (Value.int IntKind.i64 1)) 3, type := 3, pos := "l3_sums.go:44", after := #[{ on := 13, ground := Ground.data }, { on := 11, ground := Ground.guard }], guard := some (11, false) }) (v := undef) rfl (by kernel_rfl) (by kernel_rfl) (by kernel_rfl) (fun _ _ _ h => h) (Or.inr ⟨by rfl, rfl⟩) (by assumption) ?_
              (try simp only [Act.put, List.setIfInBounds_toArray, List.set_cons_zero, List.set_cons_succ])
              refine wpAnyH_take (i := 15) (oi := { dst := some 51, op := Op.indexAddr 101 (Operand.tmp 48) (Operand.tmp 50), type := 0, pos := "l3_sums.go:44", after := #[{ on := 12, ground := Ground.data }, { on := 14, ground := Ground.data }, { on := 11, ground := Ground.guard }], guard := some (11, false) }) (v := undef) rfl (by kernel_rfl) (by kernel_rfl) (by kernel_rfl) (fun _ _ _ h => h) (Or.inr ⟨by rfl, rfl⟩) (by assumption) ?_
              (try simp only [Act.put, List.setIfInBounds_toArray, List.set_cons_zero, List.set_cons_succ])
              refine wpAnyH_take (i := 16) (oi := { dst := some 52, op := Op.fieldAddr 107 (Operand.tmp 51) 1, type := 0, pos := "l3_sums.go:44", after := #[{ on := 15, ground := Ground.data }, { on := 11, ground := Ground.guard }], guard := some (11, false) }) (v := undef) rfl (by kernel_rfl) (by kernel_rfl) (by kernel_rfl) (fun _ _ _ h => h) (Or.inr ⟨by rfl, rfl⟩) (by assumption) ?_
              (try simp only [Act.put, List.setIfInBounds_toArray, List.set_cons_zero, List.set_cons_succ])
              refine wpAnyH_take (i := 17) (oi := { dst := some 53, op := Op.load 52 (Operand.tmp 52), type := 52, pos := "l3_sums.go:44", after := #[{ on := 16, ground := Ground.data }, { on := 11, ground := Ground.guard }], guard := some (11, false) }) (v := undef) rfl (by kernel_rfl) (by kernel_rfl) (by kernel_rfl) (fun _ _ _ h => h) (Or.inr ⟨by rfl, rfl⟩) (by assumption) ?_
              (try simp only [Act.put, List.setIfInBounds_toArray, List.set_cons_zero, List.set_cons_succ])
              refine wpAnyH_take (i := 18) (oi := { dst := some 54, op := Op.load 52 (Operand.tmp 6), type := 52, pos := "l3_sums.go:44", after := #[{ on := 11, ground := Ground.guard }], guard := some (11, false) }) (v := undef) rfl (by kernel_rfl) (by kernel_rfl) (by kernel_rfl) (fun _ _ _ h => h) (Or.inr ⟨by rfl, rfl⟩) (by assumption) ?_
              (try simp only [Act.put, List.setIfInBounds_toArray, List.set_cons_zero, List.set_cons_succ])
              refine wpAnyH_take (i := 19) (oi := { dst := some 55, op := Op.call { callee := Callee.value (Operand.func 50), args := #[Operand.tmp 53, Operand.tmp 54], argTypes := #[52, 52] }, type := 3, pos := "l3_sums.go:44", after := #[{ on := 17, ground := Ground.data }, { on := 18, ground := Ground.data }, { on := 11, ground := Ground.chain }, { on := 11, ground := Ground.guard }], guard := some (11, false) }) (v := undef) rfl (by kernel_rfl) (by kernel_rfl) (by kernel_rfl) (fun _ _ _ h => h) (Or.inr ⟨by rfl, rfl⟩) (by assumption) ?_
              (try simp only [Act.put, List.setIfInBounds_toArray, List.set_cons_zero, List.set_cons_succ])
              refine wpAnyH_take (i := 20) (oi := { dst := some 56, op := Op.binOp BinOp.leq 3 (Operand.tmp 55) (Operand.const (Value.int IntKind.i64 0)) 3, type := 4, pos := "l3_sums.go:44", after := #[{ on := 19, ground := Ground.data }, { on := 11, ground := Ground.guard }], guard := some (11, false) }) (v := undef) rfl (by kernel_rfl) (by kernel_rfl) (by kernel_rfl) (fun _ _ _ h => h) (Or.inr ⟨by rfl, rfl⟩) (by assumption) ?_
              (try simp only [Act.put, List.setIfInBounds_toArray, List.set_cons_zero, List.set_cons_succ])
              refine wpAnyH_take (i := 21) (oi := { dst := some 57, op := Op.pick (Operand.tmp 47) (Operand.const (Value.bool true)) (Operand.tmp 56), type := 4, pos := "l3_sums.go:44", after := #[{ on := 11, ground := Ground.data }, { on := 20, ground := Ground.data }, { on := 2, ground := Ground.guard }], guard := some (2, true) }) (v := ?_) rfl (by kernel_rfl) (by kernel_rfl) (by kernel_rfl) (fun _ _ _ h => h) (Or.inl ⟨by rfl, ?_⟩) (by assumption) ?_
              rotate_left
              · (intro w hSw; (try dsimp only at hSw); go_simp <;> with_reducible rfl)
              (try simp only [Act.put, List.setIfInBounds_toArray, List.set_cons_zero, List.set_cons_succ])
              refine wpAnyH_take (i := 22) (oi := { dst := some 58, op := Op.pick (Operand.tmp 38) (Operand.tmp 57) (Operand.const (Value.bool false)), type := 4, pos := "l3_sums.go:44", after := #[{ on := 2, ground := Ground.data }, { on := 21, ground := Ground.data }], guard := none }) (v := ?_) rfl (by kernel_rfl) (by kernel_rfl) (by kernel_rfl) (fun _ _ _ h => h) (Or.inl ⟨by rfl, ?_⟩) (by assumption) ?_
              rotate_left
              · (intro w hSw; (try dsimp only at hSw); go_simp <;> with_reducible rfl)
              (try simp only [Act.put, List.setIfInBounds_toArray, List.set_cons_zero, List.set_cons_succ])
              refine wpAnyH_done (by kernel_rfl) ?_ _
              all_goals
                go_wp2_with fail
                go_ret2
                exact ⟨below_step (below_step HB.out HW0.out) HC2.out, _, _, _, false, rfl, .inl ⟨HN.out, rfl⟩⟩
        · have HIN : Hid (∀ w, Calls Tryz.prog 39 #[.int .i64 x, .int .i64 1, .int .i64 100] w fun e w' => e = .returned (.bool false) ∧ w = w') := Lib.hid (fun w => by
            have := l6In_any x 1 100 w
            rw [decide_eq_false hin] at this
            exact this)
          have HN : Hid (sumOf xs = none) := Lib.hid (by
            have hF : rdAll 1 100 true xs = none := rd_no_fit hltx HRD.out (by rw [← HS.out]; exact HY.out) (by
              rw [← HX.out, fits]
              rcases Classical.em (1 ≤ x) with h1 | h1
              · rw [decide_eq_false (fun h2 => hin ⟨h1, h2⟩)]; simp
              · rw [decide_eq_false h1]; simp)
            rw [sumOf, hF]; split <;> rfl)
          clear hin
          go_wp2_with (go_at_call 39; refine (HIN.out _).mono ?_; rintro e w' ⟨rfl, rfl⟩)
          go_ret2
          exact ⟨HBA.out, _, _, _, false, rfl, .inl ⟨HN.out, rfl⟩⟩
    · have hkn : k = n := by omega
      by_cases h6 : n ≤ 60
      · have ht : decide ((n : Int) ≤ 60) = true := decide_eq_true (by omega)
        have HR : Hid (sumOf xs = some ps) := Lib.hid (by
          have := HRD.out
          rw [hkn, HNN.out, List.take_length] at this
          rw [sumOf, if_neg (by have := HNN.out; omega), this])
        have HRR := Lib.hid hrow.rd
        have HSH : Hid ((∃ g, va = some ⟨g, 0, none⟩) ∧ k ≤ vc ∧ vc ≤ 9223372036854775807) := Lib.hid (by
          obtain ⟨g, cap, e, h1, h2, _⟩ := owns_some hrow.own (fun e => by simp only [Value.slice.injEq] at e; exact HVA.out e.1)
          simp only [Value.slice.injEq] at e
          exact ⟨⟨g, e.1⟩, by have := HKP.out; omega, by omega⟩)
        clear hkp hrd hrow
        go_wp2_with fail
        go_ret2
        exact ⟨HB.out, _, _, _, true, rfl, .inr ⟨ps, HR.out, rfl, HKP.out, HRR.out, HSH.out⟩⟩
      · have ht : decide ((n : Int) ≤ 60) = false := decide_eq_false (by omega)
        have HR : Hid (sumOf xs = none) := Lib.hid (by
          rw [sumOf, if_pos (by have := HNN.out; omega)])
        clear hkp hrd hrow
        go_wp2_with fail
        go_ret2
        exact ⟨HB.out, _, _, _, false, rfl, .inl ⟨HR.out, rfl⟩⟩
end Go.Proofs.YtapobhnhnldlkaaGreat
end
section
/- The model adds a term to a sum. -/
namespace Go.Proofs.YtapobhnhnldlkaaGreat
open Go.RowKit

/-- A list of terms is handed back, new. -/
def NewTms (qs : List Tm) (w : World) (e : Ending) (w' : World) : Prop :=
  Below w.heap.size w w' ∧ ∃ g cap, e = .returned (.slice (some ⟨g, 0, none⟩) qs.length cap) ∧ qs.length ≤ cap ∧ cap ≤ 9223372036854775807 ∧ Rd tmS w' (fun _ => True) (some ⟨g, 0, none⟩) qs

theorem l3Mod_any (x : Int) (w : World) (_h1 : -1000000000000 ≤ x) (_h2 : x ≤ 1000000000000) :
    Calls Tryz.prog 15 #[.int .i64 x] w fun e w' => e = .returned (.int .i64 (x % 101)) ∧ w = w' := by
  have HV : Hid ((x.tmod 101 + 101) % 101 = x % 101) := Lib.hid (by
    have h3 := Int.tmod_add_mul_tdiv x 101
    have h4 := Int.tmod_lt_of_pos x (show (0 : Int) < 101 by omega)
    have h5 := Int.lt_tmod_of_pos x (show (0 : Int) < 101 by omega)
    omega)
  have hb1 := Int.tmod_lt_of_pos x (show (0 : Int) < 101 by omega)
  have hb2 := Int.lt_tmod_of_pos x (show (0 : Int) < 101 by omega)
  go_enter Tryz.func15, Tryz.ntmps15
  go_wp2_with fail
  go_ret
  exact ⟨by rw [← HV.out]; rfl, rfl⟩

set_option maxRecDepth 100000 in
set_option maxHeartbeats 4000000 in
theorem l3Add_any (ps : List Tm) (n : Nat) (hnp : n = ps.length) (g cap : Nat) (c : Int) (t : T) (lb : ByteArray) (sa : Option Addr) (sn sc : Nat) (w : World) (hcap : n ≤ cap) (hcap2 : cap ≤ 9223372036854775807) (hn : n ≤ 100000)
    (hps : ∀ p ∈ ps, p.2.leaves ≤ 1000 ∧ p.2.nodes ≤ 1000 ∧ -1000 ≤ p.1 ∧ p.1 ≤ 1000) (hw : t.wf) (hl : t.leaves ≤ 1000) (hnn : t.nodes ≤ 1000) (hc1 : -1000000000 ≤ c) (hc2 : c ≤ 1000000000)
    (hr : Rd tmS w (fun _ => True) (some ⟨g, 0, none⟩) ps) (hrt : RepS w (fun _ => True) t (.string lb) (.slice sa sn sc)) :
    Calls Tryz.prog 41 #[.slice (some ⟨g, 0, none⟩) n cap, .agg #[.int .i64 c, .string lb, .slice sa sn sc]] w (NewTms (addT ps c t) w) := by
  have HPS := Lib.hid hps
  have HR := Lib.hid hr
  have HRT := Lib.hid hrt
  have HNP := Lib.hid hnp
  clear hps hr hrt hnp
  obtain ⟨i0, hi0, hzz, hzs, hzb⟩ := info_parts infoTmS
  go_enter Tryz.func41, Tryz.ntmps41
  have HO : Hid (∀ (W : World), Below w.heap.size w W → ∀ k (h : k < ps.length), ∃ yb ya yn yc, W.cell? ⟨g, k * 3 + 1, none⟩ = some (.string yb) ∧ W.cell? ⟨g, k * 3 + 2, none⟩ = some (.slice ya yn yc) ∧ W.cell? ⟨g, k * 3, none⟩ = some (.int .i64 (ps[k]).1) ∧
      ∀ W', Below W.heap.size W W' → Calls Tryz.prog 50 #[.agg #[.string yb, .slice ya yn yc], .agg #[.string lb, .slice sa sn sc]] W' (Ans (.int .i64 (ordT (ps[k]).2 t)) W')) := Lib.hid (fun W hB k h => by
    obtain ⟨g', yb, ya, yn, yc, e, _, y0, y1, y2, hyw, hyr⟩ := tmS.get (HR.out.below (by decide) hB) k h
    cases e
    have hp := HPS.out (ps[k]) (List.getElem_mem h)
    refine ⟨yb, ya, yn, yc, y1, y2, y0, fun W' hB' => ?_⟩
    exact l2Order_any (ps[k]).2 t yb ya yn yc lb sa sn sc W' (fun b => b < W'.heap.size) hyw (by omega) (by omega) hw hl hnn (fun _ h => h) ((hyr.below hyw hB').keep (fun _ _ _ h => h) (fun _ _ h => h) hyw) (((HRT.out.below hw hB).below hw hB').keep (fun _ _ _ h => h) (fun _ _ h => h) hw))
  go_upto_block 0 with fail
  go_cut [5] from 7 to 23 (fun iv wx => ∃ k : Nat, k ≤ n ∧ iv = .int .i64 k ∧ (∀ i (h : i < ps.length), i < k → 0 < ordT (ps[i]).2 t) ∧ (∀ h : k < ps.length, ordT (ps[k]).2 t ≤ 0) ∧ Below (w.heap.size + 1) (w.alloc (.cells #[.int .i64 c, .string lb, .slice sa sn sc] 107 (0, 0))) wx)
  case first =>
    go_wp2_with fail
    go_loopw [5] (fun iv wr => ∃ k : Nat, k ≤ n ∧ iv = .int .i64 k ∧ (∀ i (h : i < ps.length), i < k → 0 < ordT (ps[i]).2 t) ∧ Below (w.heap.size + 1) (w.alloc (.cells #[.int .i64 c, .string lb, .slice sa sn sc] 107 (0, 0))) wr) (fun iv _ => n - (intOf iv).toNat)
    case atStart => exact ⟨0, Nat.zero_le _, rfl, fun i _ h => by omega, Below.refl _ _⟩
    case round =>
      obtain ⟨k, hk, rfl, hbef, hB⟩ := hrel
      have HBEF := Lib.hid hbef
      have hBw : Below w.heap.size w wr := ((Below.refl _ _).alloc (Nat.le_refl _) _).trans (hB.mono (by omega))
      have hx0 : wr.heap[w.heap.size]? = some (.cells #[.int .i64 c, .string lb, .slice sa sn sc] 107 (0, 0)) := (hB.block _ (by omega)).trans (heap_alloc_new w _)
      have x0 : wr.cell? ⟨w.heap.size, 0, none⟩ = some (.int .i64 c) := by rw [Lib.cell_of_heap hx0]; rfl
      have x1 : wr.cell? ⟨w.heap.size, 1, none⟩ = some (.string lb) := by rw [Lib.cell_of_heap hx0]; rfl
      have x2 : wr.cell? ⟨w.heap.size, 2, none⟩ = some (.slice sa sn sc) := by rw [Lib.cell_of_heap hx0]; rfl
      have HB := Lib.hid hB
      clear hbef hx0 hB
      by_cases hlt : k < n
      · have hltp : k < ps.length := by rw [← HNP.out]; exact hlt
        obtain ⟨yb, ya, yn, yc, y1, y2, _, hO⟩ := HO.out wr hBw k hltp
        obtain ⟨z, hz⟩ : ∃ z, z = ordT (ps[k]).2 t := ⟨_, rfl⟩
        have HZ := Lib.hid hz
        rw [← hz] at hO
        have HOZ := Lib.hid hO
        have k0 : (0 : Int) ≤ (k : Int) := by omega
        have hd : decide (k < n) = true := decide_eq_true hlt
        clear hO hz hBw
        by_cases hzp : 0 < z
        all_goals
          have hzd : decide (0 < z) = decide (0 < z) := rfl
          first | (have hzt : decide (0 < z) = true := decide_eq_true hzp) | (have hzt : decide (0 < z) = false := decide_eq_false hzp)
          clear hzd
          go_wp2_with fail
          go_region_held3 (fun w' => w'.cell? ⟨w.heap.size, 1, none⟩ = some (.string lb) ∧ w'.cell? ⟨w.heap.size, 2, none⟩ = some (.slice sa sn sc) ∧ w'.cell? ⟨g, k * 3 + 1, none⟩ = some (.string yb) ∧ w'.cell? ⟨g, k * 3 + 2, none⟩ = some (.slice ya yn yc))
            (first | exact ⟨x1, x2, y1, y2⟩ | exact ⟨p1, p2, p3, p4⟩)
            (first
            | (go_at_call 50; refine (HOZ.out _ (Below.refl _ _).drew).mono ?_; rintro e w2 ⟨rfl, hB2⟩; have hB2' : Below wr.heap.size wr w2 := (Below.refl _ _).drew.trans hB2; have p1 := keep1 hB2' x1; have p2 := keep1 hB2' x2; have p3 := keep1 hB2' y1; have p4 := keep1 hB2' y2; have HC1 := Lib.hid (HB.out.trans (hB2'.mono (by have := HB.out.size; simp at this; omega))); clear hB2 hB2'))
          all_goals
            go_wp2_with fail
            first
            | (go_roundw
               case rel => exact ⟨k + 1, by omega, by go_num, fun i h hi => by
                   by_cases e : i = k
                   · subst e; rw [← HZ.out]; exact hzp
                   · exact HBEF.out i h (by omega), HC1.out⟩
               case measure => simp [intOf]; omega)
            | (go_meet
               exact ⟨k, hk, rfl, HBEF.out, fun h => by rw [← HZ.out]; omega, HC1.out⟩)
      · have hd : decide (k < n) = false := decide_eq_false hlt
        have hkn : k = n := by omega
        have HKN := Lib.hid hkn
        clear hkn
        go_wp2_with fail
        go_quiet (fail)
        go_wp2_with fail
        go_meet
        exact ⟨k, hk, rfl, HBEF.out, fun h => by have := HNP.out; omega, below_drewN HB.out nq⟩
  case rest =>
    obtain ⟨k, hk, rfl, hbef, hat, hB⟩ := hcut
    have HBEF := Lib.hid hbef
    have HAT := Lib.hid hat
    have hBw : Below w.heap.size w wc := ((Below.refl _ _).alloc (Nat.le_refl _) _).trans (hB.mono (by omega))
    have HBX := Lib.hid ((hB.block w.heap.size (by omega)).trans (heap_alloc_new w (.cells #[.int .i64 c, .string lb, .slice sa sn sc] 107 (0, 0))))
    have hszc : w.heap.size + 1 ≤ wc.heap.size := by have := hB.size; simpa using this
    have hrW := HR.out.weak (P' := fun b => b < w.heap.size) (by decide) (fun _ _ h => h)
    obtain ⟨c1, c2, c3⟩ := hrW.cells (by decide) 0 k (by have := HNP.out; omega)
    rw [Nat.zero_mul] at c1 c2 c3
    have OWN0 : Hid ((wc.alloc (.cells #[] 107)).ownsRow (w.heap.size + 1) 107 3 (.slice (some ⟨wc.heap.size, 0, none⟩) 0 0) 0 []) := Lib.hid (World.ownsRow_made wc #[] 0 hszc (by simp [maxLen]) rfl)
    obtain ⟨news, hnews⟩ : ∃ news, news = rowCells w g 0 (k * 3) := ⟨_, rfl⟩
    have HNL : Hid (news.length = k * 3) := Lib.hid (by rw [hnews, rowCells_length])
    have HNC : Hid (∀ j u, news[j]? = some u → (wc.alloc (.cells #[] 107)).cell? ((⟨g, 0, none⟩ : Addr).add j) = some u) := Lib.hid (fun j u hu => by
      have e : (⟨g, 0, none⟩ : Addr).add j = ⟨g, j, none⟩ := by unfold Addr.add; split <;> simp_all
      rw [hnews] at hu
      have := c1 j u hu
      rw [Nat.zero_add] at this
      rw [e]; exact keep1 (hBw.alloc hBw.size _) this)
    have HN1 : Hid (∀ u ∈ news, u.oneCell' = true) := Lib.hid (by rw [hnews]; exact c2)
    have HN3 : Hid (∀ q (hq : q < (ps.take k).length), ∃ cs, (∀ j, j < 3 → news[q * 3 + j]? = cs[j]?) ∧ tmS.R w (fun b => b < w.heap.size) (ps.take k)[q] cs) := Lib.hid (fun q hq => by
      rw [List.length_take] at hq
      obtain ⟨cs, e1, e2⟩ := c3 q (by omega)
      refine ⟨cs, by rw [hnews]; exact e1, ?_⟩
      simp only [Nat.zero_add] at e2
      rw [List.getElem_take]; exact e2)
    have HB := Lib.hid hB
    clear hbef hat hBw hrW c1 c2 c3 hnews hB
    have k0 : (0 : Int) ≤ (k : Int) := by omega
    have kc : (k : Int) ≤ (cap : Int) := by omega
    have kc' : k ≤ cap := by omega
    go_upto_region 5 with (at_builtin; refine wpList_append_own_at _ rfl _ _ 101 rfl (w.heap.size + 1) 107 i0 (.agg #[.int .i64 0, .string ⟨#[]⟩, .slice none 0 0]) 3 48 Tryz.underlying101 hi0 hzz hzs hzb rfl (by decide) (.slice (some ⟨wc.heap.size, 0, none⟩) 0 0) 0 [] rfl OWN0.out ⟨g, 0, none⟩ k cap news rfl HNL.out HNC.out HN1.out (by unfold maxLen; omega) (by omega) (by simp; omega) ?_; intro v1 w2 hown2 hg2 hnil2 hat2)
    rw [Nat.zero_add, List.nil_append] at hown2
    obtain ⟨k1, hk1⟩ : ∃ k1, k1 = k := ⟨_, rfl⟩
    subst hk1
    obtain ⟨g1, q1, rfl, hq1, hq2, hg1b⟩ := owns_some hown2 (fun e => by have := hnil2.1 e; simp at this)
    obtain ⟨a1, ha1⟩ : ∃ a1, a1 = some (⟨g1, 0, none⟩ : Addr) := ⟨_, rfl⟩
    rw [← ha1] at hown2
    rw [← ha1]
    have HA1 := Lib.hid ha1
    clear ha1 hnil2
    have hkl : (ps.take k1).length = k1 := by rw [List.length_take]; have := HNP.out; omega
    have HOWN := Lib.hid hown2
    have HKL := Lib.hid hkl
    have HBX2 : Hid (w2.heap[w.heap.size]? = some (.cells #[.int .i64 c, .string lb, .slice sa sn sc] 107 (0, 0))) := Lib.hid (by
      rw [hg2.block _ (by simp; omega) (fun e => by simp [Value.ownBlock] at e; omega), Below.heap_alloc _ _ _ (by omega)]
      exact HBX.out)
    have HB2 : Hid (Below (w.heap.size + 1) (w.alloc (.cells #[.int .i64 c, .string lb, .slice sa sn sc] 107 (0, 0))) w2) := Lib.hid ((HB.out.alloc (by simpa using hszc) _).grown hg2 (by simp; omega) (fun q e => by simp [Value.ownBlock] at e; omega))
    clear hown2 hg2 hat2 hkl OWN0 HNC HN1
    have hBw2 : Below w.heap.size w w2 := ((Below.refl _ _).alloc (Nat.le_refl _) _).trans (HB2.out.mono (by omega))
    have x0 : w2.cell? ⟨w.heap.size, 0, none⟩ = some (.int .i64 c) := by rw [Lib.cell_of_heap HBX2.out]; rfl
    have x1 : w2.cell? ⟨w.heap.size, 1, none⟩ = some (.string lb) := by rw [Lib.cell_of_heap HBX2.out]; rfl
    have x2 : w2.cell? ⟨w.heap.size, 2, none⟩ = some (.slice sa sn sc) := by rw [Lib.cell_of_heap HBX2.out]; rfl
    go_cut [43] from 29 to 43 (fun bv wx => ∃ b : Bool, bv = .bool b ∧ (b = true → ∃ h : k1 < ps.length, ordT (ps[k1]).2 t = 0) ∧ (b = false → ∀ h : k1 < ps.length, ordT (ps[k1]).2 t < 0) ∧ Below w2.heap.size w2 wx)
    case first =>
      by_cases hlt : k1 < n
      · have hltp : k1 < ps.length := by rw [← HNP.out]; exact hlt
        obtain ⟨yb, ya, yn, yc, y1, y2, _, hO⟩ := HO.out w2 hBw2 k1 hltp
        obtain ⟨z, hz⟩ : ∃ z, z = ordT (ps[k1]).2 t := ⟨_, rfl⟩
        have HZ := Lib.hid hz
        have HZ2 : Hid (z ≤ 0) := Lib.hid (by rw [hz]; exact HAT.out hltp)
        rw [← hz] at hO
        have HOZ := Lib.hid hO
        have hd : decide (k1 < n) = true := decide_eq_true hlt
        clear hO hz hBw2
        go_wp2_with fail
        go_region_held3 (fun w' => w'.cell? ⟨w.heap.size, 1, none⟩ = some (.string lb) ∧ w'.cell? ⟨w.heap.size, 2, none⟩ = some (.slice sa sn sc) ∧ w'.cell? ⟨g, k1 * 3 + 1, none⟩ = some (.string yb) ∧ w'.cell? ⟨g, k1 * 3 + 2, none⟩ = some (.slice ya yn yc))
          (first | exact ⟨x1, x2, y1, y2⟩ | exact ⟨p1, p2, p3, p4⟩)
          (first
          | (go_at_call 50; refine (HOZ.out _ (Below.refl _ _).drew).mono ?_; rintro e w3 ⟨rfl, hB3⟩; have hB3' : Below w2.heap.size w2 w3 := (Below.refl _ _).drew.trans hB3; have p1 := keep1 hB3' x1; have p2 := keep1 hB3' x2; have p3 := keep1 hB3' y1; have p4 := keep1 hB3' y2; have HC1 := Lib.hid hB3'; clear hB3 hB3'))
        all_goals
          go_wp2_with fail
          go_meet
          exact ⟨z == 0, rfl, fun h => ⟨hltp, by rw [← HZ.out]; simpa using h⟩, fun h _ => by rw [← HZ.out]; have := HZ2.out; have h2 : z ≠ 0 := by simpa using h
                                                                                              omega, HC1.out⟩
      · have hd : decide (k1 < n) = false := decide_eq_false hlt
        go_wp2_with fail
        go_quiet (fail)
        go_wp2_with fail
        go_meet
        exact ⟨false, rfl, (fun h => by cases h), fun _ h => by have := HNP.out; omega, below_drewN (Below.refl _ _) nq⟩
    case rest =>
      obtain ⟨b, rfl, hbt, hbf, hB3⟩ := hcut
      have HBT := Lib.hid hbt
      have HBF := Lib.hid hbf
      have HR3 := Lib.hid (owns_below HOWN.out hB3)
      have HX3 := Lib.hid ((hB3.block w.heap.size (by have := HB2.out.size; simp at this; omega)).trans HBX2.out)
      have HB3 := Lib.hid (HB2.out.trans (hB3.mono (by have := HB2.out.size; simpa using this)))
      clear hbt hbf hB3 x0 x1 x2 hBw2
      go_upto_if 43 with fail
      go_cut [0] from 44 to 59 (fun lv wx => ∃ (rest : List Tm) (cc : Int) (off m cm i : Nat), lv = .slice (some ⟨g, off, none⟩) m cm ∧ rest = ps.drop i ∧ m = rest.length ∧ i ≤ n ∧ (m = 0 ∨ off = i * 3) ∧ addT ps c t = ps.take k1 ++ put cc t rest ∧ -1000001000 ≤ cc ∧ cc ≤ 1000001000 ∧ wx.heap[w.heap.size]? = some (.cells #[.int .i64 cc, .string lb, .slice sa sn sc] 107 (0, 0)) ∧ wx.ownsRow (w.heap.size + 1) 107 3 (.slice a1 k1 q1) k1 news ∧ Below w.heap.size w wx ∧ w.heap.size + 1 ≤ wx.heap.size)
      case first =>
        have hBw3 : Below w.heap.size w wc := ((Below.refl _ _).alloc (Nat.le_refl _) _).trans (HB3.out.mono (by omega))
        have hsz3 : w.heap.size + 1 ≤ wc.heap.size := by have := HB3.out.size; simpa using this
        have hx3 := HX3.out
        have x0 : wc.cell? ⟨w.heap.size, 0, none⟩ = some (.int .i64 c) := by rw [Lib.cell_of_heap hx3]; rfl
        have f0 : wc.frozen? ⟨w.heap.size, 0, none⟩ = false := Lib.frozen_of_heap hx3 _
        have kn : (k1 : Int) ≤ (n : Int) := by omega
        have nc : (n : Int) ≤ (cap : Int) := by omega
        have HBW3 := Lib.hid hBw3
        cases b with
        | true =>
          obtain ⟨hltp, hz⟩ := HBT.out rfl
          have hlt : k1 < n := by rw [HNP.out]; exact hltp
          obtain ⟨yb, ya, yn, yc, _, _, y0, _⟩ := HO.out wc hBw3 k1 hltp
          obtain ⟨ck, hck⟩ : ∃ ck, ck = (ps[k1]).1 := ⟨_, rfl⟩
          have HCK := Lib.hid hck
          have hp := HPS.out (ps[k1]) (List.getElem_mem hltp)
          rw [← hck] at y0 hp
          have HADD := Lib.hid (addT_eq c t ps k1 hltp HBEF.out hz)
          have hwr : IntKind.i64.wrap (c + ck) = c + ck := by rw [IntKind.wrap_i64]; omega
          have hck1 := hp.2.2.1
          have hck2 := hp.2.2.2
          have k10 : (0 : Int) ≤ (k1 : Int) + 1 := by omega
          have k1n : (k1 : Int) + 1 ≤ (n : Int) := by omega
          have HXS := Lib.hid (heap_setCell_same (w := wc.drew) (k := 0) (show wc.drew.heap[w.heap.size]? = _ from hx3) (.int .i64 (c + ck)))
          have HRS : Hid ((wc.drew.setCell ⟨w.heap.size, 0, none⟩ (.int .i64 (c + ck))).ownsRow (w.heap.size + 1) 107 3 (.slice a1 k1 q1) k1 news) := Lib.hid (HR3.out.drew.kept (grownBy_setCell (grownBy_refl _ _) _) (.inr fun e => by have := (HR3.out.lt _ e).1; omega))
          have HBS := Lib.hid ((HBW3.out.drew).setCell (p := ⟨w.heap.size, 0, none⟩) (by simp) (.int .i64 (c + ck)))
          clear hck hp hz hx3 hBw3
          by_cases hkc : k1 + 1 = cap
          · have hkn : k1 + 1 = n := by omega
            have hkc1 : (k1 : Int) + 1 = (cap : Int) := by omega
            have HKC := Lib.hid (show k1 + 1 = cap ∧ k1 + 1 = n from ⟨hkc, hkn⟩)
            go_wp2_with fail
            go_region_law (fail)
            all_goals
              go_wp2_with fail
              go_meet
              refine ⟨ps.drop (k1 + 1), c + ck, _, _, _, k1 + 1, rfl, rfl, ?_, by omega, ?_, by rw [HCK.out]; exact HADD.out, by omega, by omega, HXS.out, HRS.out, HBS.out, by simpa using hsz3⟩
              · rw [List.length_drop]; have := HNP.out; omega
              · left; have := HKC.out; omega
          · go_wp2_with fail
            go_region_law (fail)
            all_goals
              go_wp2_with fail
              go_meet
              refine ⟨ps.drop (k1 + 1), c + ck, _, _, _, k1 + 1, rfl, rfl, ?_, by omega, ?_, by rw [HCK.out]; exact HADD.out, by omega, by omega, HXS.out, HRS.out, HBS.out, by simpa using hsz3⟩
              · rw [List.length_drop]; have := HNP.out; omega
              · exact .inr rfl
        | false =>
          have HADD := Lib.hid (addT_at c t ps k1 (by have := HNP.out; omega) HBEF.out (HBF.out rfl))
          have HBS := Lib.hid hBw3
          clear hx3 hBw3
          by_cases hkc : k1 = cap
          · have HKC := Lib.hid (show k1 = n by omega)
            subst hkc
            go_wp2_with fail
            go_meet
            refine ⟨ps.drop k1, c, _, _, _, k1, rfl, rfl, ?_, by omega, ?_, HADD.out, by omega, by omega, HX3.out, HR3.out, HBS.out, hsz3⟩
            · rw [List.length_drop]; have := HNP.out; omega
            · left; have := HKC.out; omega
          · go_wp2_with fail
            go_meet
            refine ⟨ps.drop k1, c, _, _, _, k1, rfl, rfl, ?_, by omega, .inr rfl, HADD.out, by omega, by omega, HX3.out, HR3.out, HBS.out, hsz3⟩
            rw [List.length_drop]; have := HNP.out; omega
      case rest =>
        obtain ⟨rest, cc, off, m, cm, i, rfl, hrest, hm, hin, hoff, hadd, hcc1, hcc2, hbx, hown, hB, hsz⟩ := hcut
        have HREST := Lib.hid hrest
        have HMM := Lib.hid hm
        have HADD := Lib.hid hadd
        have HOWN2 := Lib.hid hown
        have HBB := Lib.hid hB
        have x0 : wc.cell? ⟨w.heap.size, 0, none⟩ = some (.int .i64 cc) := by rw [Lib.cell_of_heap hbx]; rfl
        have f0 : wc.frozen? ⟨w.heap.size, 0, none⟩ = false := Lib.frozen_of_heap hbx _
        obtain ⟨e, he⟩ : ∃ e, e = cc % 101 := ⟨_, rfl⟩
        have HE := Lib.hid he
        have he1 : 0 ≤ e := by omega
        have he2 : e ≤ 100 := by omega
        have HMOD := Lib.hid (l3Mod_any cc wc (by omega) (by omega))
        have HMOD2 : Hid (Calls Tryz.prog 15 #[.int .i64 cc] wc fun r w' => r = .returned (.int .i64 e) ∧ wc = w') := Lib.hid (by rw [he]; exact HMOD.out)
        have hbx2 := heap_setCell_same (k := 0) hbx (.int .i64 e)
        have HBX4 : Hid ((wc.setCell ⟨w.heap.size, 0, none⟩ (.int .i64 e)).heap[w.heap.size]? = some (.cells #[.int .i64 e, .string lb, .slice sa sn sc] 107 (0, 0))) := Lib.hid hbx2
        have HB4 : Hid (Below w.heap.size w (wc.setCell ⟨w.heap.size, 0, none⟩ (.int .i64 e))) := Lib.hid (hB.setCell (p := ⟨w.heap.size, 0, none⟩) (by simp) _)
        have HO4 : Hid ((wc.setCell ⟨w.heap.size, 0, none⟩ (.int .i64 e)).ownsRow (w.heap.size + 1) 107 3 (.slice a1 k1 q1) k1 news) := Lib.hid (hown.kept (grownBy_setCell (grownBy_refl _ _) _) (.inr fun e => by have := (hown.lt _ e).1; omega))
        clear hrest hm hadd hown hB hbx he hbx2 HMOD
        go_upto_if 66 with (go_at_call 15; refine HMOD2.out.mono ?_; rintro r w' ⟨rfl, rfl⟩)
        go_cut [6] from 66 to 70 (fun ov wx => ∃ (a2 : Option Addr) (n2 q2 : Nat) (vs2 : List Value), ov = .slice a2 n2 q2 ∧ n2 = (ps.take k1 ++ (if e = 0 then [] else [(e, t)])).length ∧ a2 ≠ none ∧ Row tmS 107 (w.heap.size + 1) (ps.take k1 ++ (if e = 0 then [] else [(e, t)])) (.slice a2 n2 q2) vs2 wx ∧ Below w.heap.size w wx ∧ w.heap.size + 1 ≤ wx.heap.size)
        case first =>
          have hRow : Row tmS 107 (w.heap.size + 1) (ps.take k1) (.slice a1 k1 q1) news (wc.setCell ⟨w.heap.size, 0, none⟩ (.int .i64 e)) :=
            Row.of_old HB4.out (by rw [HKL.out]; exact HO4.out) (by omega) HN3.out
          by_cases he0 : e = 0
          · have HE0 := Lib.hid he0
            have hb0 : (e != 0) = false := by simp [he0]
            clear he0
            go_wp2_with fail
            go_meet
            refine ⟨a1, k1, q1, news, rfl, by rw [if_pos HE0.out, List.append_nil, HKL.out], by rw [HA1.out]; simp, ?_, HB4.out, by simpa using hsz⟩
            rw [if_pos HE0.out, List.append_nil]; exact hRow
          · have HE0 := Lib.hid he0
            have hb0 : (e != 0) = true := by simp [he0]
            have hbx4 := HBX4.out
            have z0 : (wc.setCell ⟨w.heap.size, 0, none⟩ (.int .i64 e)).cell? ⟨w.heap.size, 0, none⟩ = some (.int .i64 e) := by rw [Lib.cell_of_heap hbx4]; rfl
            have z1 : (wc.setCell ⟨w.heap.size, 0, none⟩ (.int .i64 e)).cell? ⟨w.heap.size, 1, none⟩ = some (.string lb) := by rw [Lib.cell_of_heap hbx4]; rfl
            have z2 : (wc.setCell ⟨w.heap.size, 0, none⟩ (.int .i64 e)).cell? ⟨w.heap.size, 2, none⟩ = some (.slice sa sn sc) := by rw [Lib.cell_of_heap hbx4]; rfl
            have HROW := Lib.hid hRow
            have HOA := Lib.hid (World.ownsRow.alloc HO4.out (.cells #[.int .i64 e, .string lb, .slice sa sn sc] 107 (0, 0)))
            clear he0 hbx4 hRow
            go_wp2_with (at_builtin; refine wpList_append_own_at _ rfl _ _ 101 rfl (w.heap.size + 1) 107 i0 (.agg #[.int .i64 0, .string ⟨#[]⟩, .slice none 0 0]) 3 48 Tryz.underlying101 hi0 hzz hzs hzb rfl (by decide) (.slice a1 k1 q1) k1 news rfl HOA.out ⟨wc.heap.size, 0, none⟩ 1 1 [.int .i64 e, .string lb, .slice sa sn sc] rfl rfl (cells_three (by simp) _ _ _) (by simp [Value.oneCell']) (by unfold maxLen; omega) (by omega) (by simp; omega) ?_; intro v3 w3 hown3 hg3 hnil3 hat3)
            obtain ⟨g3, q3, rfl, _, _, _⟩ := owns_some hown3 (fun e => by have := hnil3.1 e; simp at this)
            have NX : Row tmS 107 (w.heap.size + 1) (ps.take k1 ++ [(e, t)]) (.slice (some ⟨g3, 0, none⟩) (k1 + 1) q3) (news ++ [.int .i64 e, .string lb, .slice sa sn sc]) w3 := by
              have h := HROW.out.many (bs := [(e, t)]) (v' := .slice (some ⟨g3, 0, none⟩) (k1 + 1) q3) (news := [.int .i64 e, .string lb, .slice sa sn sc]) (w2 := w3) (Below.refl _ _) (fun q hq => by
                have hq0 : q = 0 := by simpa using hq
                subst hq0
                refine ⟨[.int .i64 e, .string lb, .slice sa sn sc], fun j hj => by simp, lb, sa, sn, sc, rfl, hw, ?_⟩
                exact (HRT.out.keep (P' := fun b => b < w.heap.size) (fun _ _ _ h => h) (fun _ _ h => h) hw).keep (Keeps.of_below HB4.out _) (fun b hb _ e => by have := (HO4.out.lt b e).1; omega) hw) ((Below.refl _ _).alloc (Nat.le_refl _) _) (by rw [HKL.out]; exact hown3) hg3 (fun b e => by
                rcases hat3 with h | h
                · left; rw [← h]; exact e
                · right; rw [h] at e; simp only [Option.some.injEq] at e; simp at e ⊢; omega)
              exact h
            have HNX := Lib.hid NX
            have HBN := Lib.hid ((HB4.out.alloc (by simp; omega) (.cells #[.int .i64 e, .string lb, .slice sa sn sc] 107 (0, 0))).grown hg3 (by simp; omega) (fun q e => by have := (HO4.out.lt q e).1; omega))
            have hs3 := hg3.size
            go_meet
            refine ⟨some ⟨g3, 0, none⟩, k1 + 1, q3, _, rfl, by rw [if_neg HE0.out, List.length_append, HKL.out]; rfl, by simp, by rw [if_neg HE0.out]; exact HNX.out, HBN.out, by simp at hs3; omega⟩
        case rest =>
          obtain ⟨a2, n2, q2, vs2, rfl, hn2, ha2, hrow, hB5, hsz5⟩ := hcut
          have HROW := Lib.hid hrow
          have HB5 := Lib.hid hB5
          have HN2 := Lib.hid hn2
          have hO := hrow.own
          rw [← hn2] at hO
          have HO := Lib.hid hO
          have hrW := HR.out.weak (P' := fun b => b < w.heap.size) (by decide) (fun _ _ h => h)
          obtain ⟨d1, d2, d3⟩ := hrW.cells (by decide) i m (by rw [HMM.out, HREST.out, List.length_drop]; have := HNP.out; omega)
          obtain ⟨tail, htail⟩ : ∃ tail, tail = rowCells w g (i * 3) (m * 3) := ⟨_, rfl⟩
          have HTL : Hid (tail.length = m * 3) := Lib.hid (by rw [htail, rowCells_length])
          have HTC : Hid (∀ j u, tail[j]? = some u → wc.cell? ((⟨g, off, none⟩ : Addr).add j) = some u) := Lib.hid (fun j u hu => by
            have e : (⟨g, off, none⟩ : Addr).add j = ⟨g, off + j, none⟩ := by unfold Addr.add; split <;> simp_all
            rcases hoff with h0 | h0
            · rw [htail] at hu
              rw [List.getElem?_eq_none (by rw [rowCells_length]; omega)] at hu; cases hu
            · rw [htail] at hu
              have := d1 j u hu
              rw [e, h0]; exact keep1 HB5.out this)
          have HT1 : Hid (∀ u ∈ tail, u.oneCell' = true) := Lib.hid (by rw [htail]; exact d2)
          have HT3 : Hid (∀ q (hq : q < rest.length), ∃ cs, (∀ j, j < 3 → tail[q * 3 + j]? = cs[j]?) ∧ tmS.R w (fun b => b < w.heap.size) rest[q] cs) := Lib.hid (fun q hq => by
            obtain ⟨cs, e1, e2⟩ := d3 q (by rw [HMM.out]; exact hq)
            refine ⟨cs, by rw [htail]; exact e1, ?_⟩
            have e : rest[q] = ps[i + q]'(by rw [HREST.out, List.length_drop] at hq; omega) := by
              have := HREST.out
              subst this
              rw [List.getElem_drop]
            rw [e]; exact e2)
          have hm6 : m ≤ 100000 := by rw [HMM.out, HREST.out, List.length_drop]; have := HNP.out; omega
          have hn26 : n2 ≤ 100001 := by
            rw [HN2.out, List.length_append, HKL.out]
            split <;> simp <;> omega
          clear hrow hB5 hn2 hO hrW d1 d2 d3 htail
          go_wp2_with (at_builtin; refine wpList_append_own_at _ rfl _ _ 101 rfl (w.heap.size + 1) 107 i0 (.agg #[.int .i64 0, .string ⟨#[]⟩, .slice none 0 0]) 3 48 Tryz.underlying101 hi0 hzz hzs hzb rfl (by decide) (.slice a2 n2 q2) n2 vs2 rfl HO.out ⟨g, off, none⟩ m cm tail rfl HTL.out HTC.out HT1.out (by unfold maxLen; omega) (by omega) hsz5 ?_; intro v6 w6 hown6 hg6 hnil6 hat6)
          obtain ⟨g6, q6, rfl, hq6, hq6', _⟩ := owns_some hown6 (fun e => by have := (hnil6.1 e).1; simp only [Value.slice.injEq] at this; exact ha2 this.1)
          have NX : Row tmS 107 (w.heap.size + 1) (ps.take k1 ++ (if e = 0 then [] else [(e, t)]) ++ rest) (.slice (some ⟨g6, 0, none⟩) (n2 + m) q6) (vs2 ++ tail) w6 := by
            have h := HROW.out.many (bs := rest) (v' := .slice (some ⟨g6, 0, none⟩) (n2 + m) q6) (news := tail) (w2 := w6) (Below.refl _ _) (fun q hq => by
              obtain ⟨cs, e1, e2⟩ := HT3.out q hq
              exact ⟨cs, e1, tmS.keep (Keeps.of_below HB5.out _) (fun b hb _ e => by have := (HO.out.lt b e).1; omega) e2⟩) (Below.refl _ _) (by rw [← HN2.out, ← HMM.out]; exact hown6) hg6 (fun b e => by
              rcases hat6 with h | h
              · left; rw [← h]; exact e
              · right; rw [h] at e; simp only [Option.some.injEq] at e; omega)
            exact h
          have HADD2 : Hid (addT ps c t = ps.take k1 ++ (if e = 0 then [] else [(e, t)]) ++ rest) := Lib.hid (by
            rw [HADD.out, put, ← HE.out]
            split
            · simp
            · simp)
          have HB6 := Lib.hid (HB5.out.grown hg6 (by omega) (fun q e => by have := (HO.out.lt q e).1; omega))
          have HLEN : Hid (n2 + m = (addT ps c t).length) := Lib.hid (by rw [HADD2.out, List.length_append, ← HN2.out, ← HMM.out])
          have HNX := Lib.hid NX.rd
          clear NX hown6 hg6 hnil6 hat6
          go_wp2_with fail
          go_ret
          refine ⟨HB6.out, g6, q6, by rw [← HLEN.out]; rfl, by rw [← HLEN.out]; exact hq6, hq6', ?_⟩
          rw [HADD2.out]; exact HNX.out
end Go.Proofs.YtapobhnhnldlkaaGreat
end
