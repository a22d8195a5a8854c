/- Merged out of: XSumRS, XSumAddS. -/
import Derived.Test.YtoeebipahifpcaaGreatSumR
import Derived.Test.YtoeebipahifpcaaGreatOrdS
import Derived.Deep.RegionHeld3
import Derived.Deep.CutRange
import Derived.Deep.CutBlock
section
/- The model reads a sum. -/
namespace Go.Proofs.YtoeebipahifpcaaGreat
open Go.RowKit

/-- What the model's reader answers. -/
def L3R (xs : List (Int × ByteArray)) (w : World) (e : Ending) (w' : World) : Prop :=
  Below w.heap.size w w' ∧ ∃ (a : Option Addr) (n c : Nat) (b : Bool), e = .returned (.tuple #[.slice a n c, .bool b]) ∧
    ((sumOf xs = none ∧ b = false) ∨ ∃ ps, sumOf xs = some ps ∧ b = true ∧ n = ps.length ∧ Rd tmS w' (fun _ => True) a ps ∧ (∃ g, a = some ⟨g, 0, none⟩) ∧ n ≤ c ∧ c ≤ 9223372036854775807)

theorem infoTmS : (Tryz.prog.info? 97).map (fun i => (i.zero, i.size, i.bytes)) = some (some (.agg #[.int .i64 0, .string ⟨#[]⟩, .slice none 0 0]), 3, 48) := by kernel_rfl

theorem cells_three {w : World} {n : Nat} {t : TypeId} (hn : n = w.heap.size) (x y z : Value) :
    ∀ (j : Nat) (u : Value), [x, y, z][j]? = some u → (w.alloc (.cells #[x, y, z] t)).cell? ((⟨n, 0, none⟩ : Addr).add j) = some u := by
  intro j u h
  have e : (⟨n, 0, none⟩ : Addr).add j = ⟨n, j, none⟩ := by unfold Addr.add; split <;> simp_all
  rw [e, World.cell?_alloc_at _ _ _ _ hn]
  simpa using h

set_option maxRecDepth 100000 in
set_option maxHeartbeats 4000000 in
theorem l3Read_any (xs : List (Int × ByteArray)) (n : Nat) (hnx : n = xs.length) (g cap : Nat) (w : World) (hn : n ≤ 1048576) (hz : ∀ j (h : j < xs.length), (xs[j]).2.size ≤ 1048576) (hl : TermL w g xs) :
    Calls Tryz.prog 55 #[.slice (some ⟨g, 0, none⟩) n cap] w (L3R xs w) := by
  have HL := Lib.hid hl
  have HZ := Lib.hid hz
  have HNN := Lib.hid hnx
  clear hl hz hnx
  obtain ⟨i0, hi0, hzz, hzs, hzb⟩ := info_parts infoTmS
  go_enter Tryz.func55, Tryz.ntmps55
  go_wp2_with fail
  go_loopw [4, 5] (fun ov iv wr => ∃ (ps : List Tm) (k : Nat) (va : Option Addr) (vc : Nat) (vs : List Value), k = ps.length ∧ k ≤ n ∧ va ≠ none ∧ iv = .int .i64 k ∧ ov = .slice va k vc ∧ rdAll 1 100 true (xs.take k) = some ps ∧ Row tmS 97 w.heap.size ps (.slice va k vc) vs wr ∧ Below w.heap.size w wr) (fun _ iv _ => n - (intOf iv).toNat)
  case atStart =>
    refine ⟨[], 0, some ⟨w.heap.size, 0, none⟩, 0, [], rfl, Nat.zero_le _, by simp, rfl, rfl, rfl, ?_, (Below.refl _ _).alloc (Nat.le_refl _) _⟩
    exact ⟨World.ownsRow_made w #[] 0 (Nat.le_refl _) (by simp [maxLen]) rfl, fun _ h => by simp at h⟩
  case round =>
    obtain ⟨ps, k, va, vc, vs, hkp, hk, hva, rfl, rfl, hrd, hrow, hB⟩ := hrel
    have HVA := Lib.hid hva
    clear hva
    have HKP := Lib.hid hkp
    have HRD := Lib.hid hrd
    have HROW := Lib.hid hrow
    have HB := Lib.hid hB
    by_cases hlt : k < n
    · have hltx : k < xs.length := by rw [← HNN.out]; exact hlt
      obtain ⟨c0, c1⟩ := (HL.out.below hB) k hltx
      have hzk := HZ.out k hltx
      obtain ⟨s, hs⟩ : ∃ s, s = (xs[k]).2 := ⟨_, rfl⟩
      obtain ⟨x, hx⟩ : ∃ x, x = (xs[k]).1 := ⟨_, rfl⟩
      rw [← hs] at c1 hzk
      rw [← hx] at c0
      have HS := Lib.hid hs
      have HX := Lib.hid hx
      have HP := Lib.hid (fun w => l1Parse_any s w (by omega))
      clear hkp hrd hrow hB hs hx
      go_wp2_with fail
      refine (HP.out _).mono ?_
      rintro e w1 ⟨hB1, lb, sa, sn, sc, b, rfl, hres⟩
      have HB1 := Lib.hid hB1
      have HA1 : Hid (Below w1.heap.size w1 (w1.alloc (.cells #[.string lb, .slice sa sn sc] 66 (0, 0)))) := Lib.hid ((Below.refl _ _).alloc (Nat.le_refl _) _)
      have HBA := Lib.hid (below_step (below_step HB.out hB1) HA1.out)
      have d0 := keep1 HA1.out (keep1 hB1 c0)
      have hx0 := heap_alloc_new w1 (.cells #[.string lb, .slice sa sn sc] 66 (0, 0))
      obtain ⟨x0, x1, _, _⟩ := two_cells hx0
      clear hB1 hx0
      rcases hres with ⟨hno, rfl⟩ | ⟨t, hyes, rfl, hrep⟩
      · have HN : Hid (sumOf xs = none) := Lib.hid (by rw [sumOf, rd_no_tree hltx (by rw [← HS.out]; exact hno)]; split <;> rfl)
        clear hno
        go_wp2_with fail
        go_ret2
        exact ⟨HBA.out, _, _, _, false, rfl, .inl ⟨HN.out, rfl⟩⟩
      · have HY := Lib.hid hyes
        have HREP := Lib.hid hrep
        obtain ⟨hw, htx, htl, htn⟩ := parse_some hyes
        clear hyes hrep htx
        by_cases hin : 1 ≤ x ∧ x ≤ 100
        · have HIN : Hid (∀ w, Calls Tryz.prog 60 #[.int .i64 x, .int .i64 1, .int .i64 100] w fun e w' => e = .returned (.bool true) ∧ w = w') := Lib.hid (fun w => by
            have := l6In_any x 1 100 w
            rw [decide_eq_true hin] at this
            exact this)
          have HXI := Lib.hid hin
          clear hin
          have hbe := below_step HB.out HB1.out
          have HBW := Lib.hid (below_step (Below.refl wr.heap.size wr) (below_step HB1.out HA1.out))
          have HTR := Lib.hid ((HREP.out.keep (w' := w1) (P' := fun _ => True) (fun _ _ _ h => h) (fun _ _ _ => trivial) hw).below hw HA1.out)
          have HTQ : Hid (RepS (w1.alloc (.cells #[.string lb, .slice sa sn sc] 66 (0, 0))) (fun b => (Value.slice va k vc).ownBlock ≠ some b) t (.string lb) (.slice sa sn sc)) := Lib.hid ((HREP.out.keep (w' := w1) (fun _ _ _ h => h) (fun b hb _ e => by have := (HROW.out.own.lt b e).2; omega) hw).below hw HA1.out)
          by_cases hk0 : k = 0
          · have hd : decide (0 < k) = false := decide_eq_false (by omega)
            have HK0 := Lib.hid hk0
            clear hk0
            go_wp2_with (go_at_call 60; refine (HIN.out _).mono ?_; rintro e w' ⟨rfl, rfl⟩)
            go_quiet (fail)
            have HNX : Hid (rdAll 1 100 true (xs.take (k + 1)) = some (ps ++ [(x, t)])) := Lib.hid (by
              have := rd_fit hltx HRD.out (by rw [← HS.out]; exact HY.out) (by
                have hps : ps = [] := List.length_eq_zero_iff.1 (by have := HKP.out; have := HK0.out; omega)
                subst hps
                rw [← HX.out, fits, decide_eq_true HXI.out.1, decide_eq_true HXI.out.2]; rfl)
              rw [← HX.out] at this
              exact this)
            obtain ⟨W, hW⟩ : ∃ W, W = (w1.alloc (.cells #[.string lb, .slice sa sn sc] 66 (0, 0))).drewN nq := ⟨_, rfl⟩
            have HBR : Hid (Below wr.heap.size wr W) := Lib.hid (by rw [hW]; exact below_drewN HBW.out nq)
            have e0 : W.cell? ⟨g, k * 2, none⟩ = some (.int .i64 x) := by rw [hW]; exact d0
            have e1 : W.cell? ⟨w1.heap.size, 0, none⟩ = some (.string lb) := by rw [hW]; exact x0
            have e2 : W.cell? ⟨w1.heap.size, 1, none⟩ = some (.slice sa sn sc) := by rw [hW]; exact x1
            have HTW : Hid (RepS W (fun b => (Value.slice va k vc).ownBlock ≠ some b) t (.string lb) (.slice sa sn sc)) := Lib.hid (by rw [hW]; exact HTQ.out.below hw (below_drewN (Below.refl _ _) nq))
            rw [← hW]
            clear hW d0 x0 x1
            have hsW := HBR.out.size
            have OWN := owns_below HROW.out.own HBR.out
            rw [← HKP.out] at OWN
            have HOWN := Lib.hid OWN
            have k0 : (0 : Int) ≤ k := by omega
            clear OWN
            go_wp2_with fail
            go_region_law (refine step_append_lies _ (by rfl) _ _ 92 (by rfl) w.heap.size 97 i0 (.agg #[.int .i64 0, .string ⟨#[]⟩, .slice none 0 0]) 3 48 Tryz.underlying92 hi0 hzz hzs hzb rfl (by decide) (.slice va k vc) k vs (by rfl) (World.ownsRow.alloc (World.ownsRow.drew HOWN.out) (.cells #[.int .i64 x, .string lb, .slice sa sn sc] 97 (0, 0))) ⟨W.heap.size, 0, none⟩ 1 1 [.int .i64 x, .string lb, .slice sa sn sc] (by rfl) (by rfl) (cells_three rfl _ _ _) (by simp [Value.oneCell']) (by decide) (by unfold maxLen; omega) (by omega) (by have := HB.out.size; simp; omega) (W.heap.size + 1) (by simp) ?_; intro gg cap' w2 hown2 hg2 hf2 hlt2)
            all_goals
              have hs2 := hg2.size
              have NX : Row tmS 97 w.heap.size (ps ++ [(x, t)]) (.slice (some ⟨gg, 0, none⟩) (k + 1) cap') (vs ++ [.int .i64 x, .string lb, .slice sa sn sc]) w2 := by
                have h := HROW.out.next (a := (x, t)) (w1 := W) (w1' := W.drew.alloc (.cells #[.int .i64 x, .string lb, .slice sa sn sc] 97 (0, 0))) HBR.out ⟨lb, sa, sn, sc, rfl, hw, HTW.out⟩ ((Below.refl _ _).drew.alloc (Nat.le_refl _) _) (by rw [← HKP.out]; exact hown2) hg2 (by rcases hf2 with h | h; exact .inl h; exact .inr (by omega))
                rw [← HKP.out] at h
                exact h
              have NXX := Lib.hid NX
              have BB := Lib.hid ((((below_step HB.out HBR.out).drew.alloc (by have := HB.out.size; simp; omega) (.cells #[.int .i64 x, .string lb, .slice sa sn sc] 97 (0, 0))).grown hg2 (by have := HB.out.size; simp; omega) (fun q e => by have := (HOWN.out.lt q e).1; omega)))
              clear NX hown2 hg2 hf2
              go_wp2_with fail
              go_roundw
              case rel => exact ⟨ps ++ [(x, t)], k + 1, some ⟨gg, 0, none⟩, cap', _, by rw [List.length_append]; have := HKP.out; simp; omega, by omega, by simp, by go_num, rfl, HNX.out, NXX.out, BB.out⟩
              case measure => simp [intOf]; omega
          · have hd : decide (0 < k) = true := decide_eq_true (by omega)
            have hkpos : 0 < k := by omega
            obtain ⟨j, hj⟩ : ∃ j : Nat, j = k - 1 := ⟨_, rfl⟩
            have HJ := Lib.hid hj
            have hkw2 : IntKind.i64.wrap (j : Int) = (j : Int) := by rw [IntKind.wrap_i64]; omega
            have hkw : IntKind.i64.wrap ((k : Int) - 1) = (j : Int) := by rw [IntKind.wrap_i64]; omega
            have hj0 : (0 : Int) ≤ (j : Int) := by omega
            have hjk : (j : Int) < (k : Int) := by omega
            have hjk' : j < k := by omega
            have hp0 : 0 < ps.length := by have := HKP.out; omega
            have hpj : j < ps.length := by have := HKP.out; omega
            have hrd2 := HROW.out.rd.below (by decide) HBW.out
            obtain ⟨gv, yb, ya, yn, yc, rfl, _, _, y1, y2, hyw, hyr⟩ := tmS.get hrd2 0 hp0
            obtain ⟨gv', zb, za, zn, zc, e2, _, _, z1, z2, hzw, hzr⟩ := tmS.get hrd2 j hpj
            cases e2
            rw [Nat.zero_mul, Nat.zero_add] at y1 y2
            have HLT := Lib.hid (fun (W : World) (hb : Below (w1.alloc (.cells #[.string lb, .slice sa sn sc] 66 (0, 0))).heap.size (w1.alloc (.cells #[.string lb, .slice sa sn sc] 66 (0, 0))) W) => l1Leaves_any _ t _ _ W _ (Nat.le_refl _) hw (by omega) (HTR.out.below hw hb))
            have HOK := Lib.hid (rdAll_ok _ _ _ rfl HRD.out).2.1
            have HY0 := Lib.hid (HOK.out.tree (ps[0]) (List.getElem_mem hp0))
            have HYJ := Lib.hid (HOK.out.tree (ps[j]) (List.getElem_mem hpj))
            have HLY := Lib.hid (fun (W : World) (hb : Below (w1.alloc (.cells #[.string lb, .slice sa sn sc] 66 (0, 0))).heap.size (w1.alloc (.cells #[.string lb, .slice sa sn sc] 66 (0, 0))) W) => l1Leaves_any _ (ps[0]).2 _ _ W _ (Nat.le_refl _) hyw (by have := HY0.out.2.1; omega) (hyr.below hyw hb))
            have HOR := Lib.hid (fun (W : World) (hb : Below (w1.alloc (.cells #[.string lb, .slice sa sn sc] 66 (0, 0))).heap.size (w1.alloc (.cells #[.string lb, .slice sa sn sc] 66 (0, 0))) W) => l2Order_any (ps[j]).2 t zb za zn zc lb sa sn sc W (fun b => b < W.heap.size) hzw (Nat.le_trans HYJ.out.2.1 (by omega)) (Nat.le_trans HYJ.out.2.2 (by omega)) hw (by omega) (by omega) (fun _ h => h) ((hzr.below hzw hb).keep (fun _ _ _ h => h) (fun _ _ h => h) hzw) ((HTR.out.below hw hb).keep (fun _ _ _ h => h) (fun _ _ h => h) hw))
            obtain ⟨L, hL⟩ : ∃ L, L = t.leaves := ⟨_, rfl⟩
            obtain ⟨M, hM⟩ : ∃ M, M = (ps[0]).2.leaves := ⟨_, rfl⟩
            obtain ⟨z, hz⟩ : ∃ z, z = ordT (ps[j]).2 t := ⟨_, rfl⟩
            have HLT2 : Hid (∀ (W : World), Below (w1.alloc (.cells #[.string lb, .slice sa sn sc] 66 (0, 0))).heap.size (w1.alloc (.cells #[.string lb, .slice sa sn sc] 66 (0, 0))) W → Calls Tryz.prog 72 #[.agg #[.string lb, .slice sa sn sc]] W fun e w' => e = .returned (.int .i64 (L : Int)) ∧ Below W.heap.size W w') := Lib.hid (by rw [hL]; exact HLT.out)
            have HLY2 : Hid (∀ (W : World), Below (w1.alloc (.cells #[.string lb, .slice sa sn sc] 66 (0, 0))).heap.size (w1.alloc (.cells #[.string lb, .slice sa sn sc] 66 (0, 0))) W → Calls Tryz.prog 72 #[.agg #[.string yb, .slice ya yn yc]] W fun e w' => e = .returned (.int .i64 (M : Int)) ∧ Below W.heap.size W w') := Lib.hid (by rw [hM]; exact HLY.out)
            have HOR2 : Hid (∀ (W : World), Below (w1.alloc (.cells #[.string lb, .slice sa sn sc] 66 (0, 0))).heap.size (w1.alloc (.cells #[.string lb, .slice sa sn sc] 66 (0, 0))) W → Calls Tryz.prog 56 #[.agg #[.string zb, .slice za zn zc], .agg #[.string lb, .slice sa sn sc]] W (Ans (.int .i64 z) W)) := Lib.hid (by rw [hz]; exact HOR.out)
            have HFH : Hid (fitsHd ps t = decide (L = M)) := Lib.hid (by rw [fitsHd_get hp0, hL, hM])
            have HFL : Hid (fitsLast ps t = decide (0 < z)) := Lib.hid (by rw [fitsLast_get (j := j) (by have := HKP.out; have := HJ.out; omega), hz])
            have HW0 : Hid (Below wr.heap.size wr (w1.alloc (.cells #[.string lb, .slice sa sn sc] 66 (0, 0)))) := Lib.hid HBW.out
            clear HLT HLY HOR hL hM hz hyr hzr hrd2 hj
            by_cases hLM : L = M
            · subst hLM
              by_cases hzp : 0 < z
              · have hz0 : decide (z ≤ 0) = false := decide_eq_false (by omega)
                have HNX : Hid (rdAll 1 100 true (xs.take (k + 1)) = some (ps ++ [(x, t)])) := Lib.hid (by
                  have := rd_fit hltx HRD.out (by rw [← HS.out]; exact HY.out) (by
                    rw [← HX.out, fits, decide_eq_true HXI.out.1, decide_eq_true HXI.out.2, HFH.out, HFL.out, decide_eq_true hzp]; simp)
                  rw [← HX.out] at this
                  exact this)
                go_wp2_with (go_at_call 60; refine (HIN.out _).mono ?_; rintro e w' ⟨rfl, rfl⟩)
                go_region_held3 (fun w' => w'.cell? ⟨w1.heap.size, 0, none⟩ = some (.string lb) ∧ w'.cell? ⟨w1.heap.size, 1, none⟩ = some (.slice sa sn sc) ∧ w'.cell? ⟨gv, 1, none⟩ = some (.string yb) ∧ w'.cell? ⟨gv, 2, none⟩ = some (.slice ya yn yc) ∧ w'.cell? ⟨gv, j * 3 + 1, none⟩ = some (.string zb) ∧ w'.cell? ⟨gv, j * 3 + 2, none⟩ = some (.slice za zn zc))
                  (first | exact ⟨x0, x1, y1, y2, z1, z2⟩ | exact ⟨p0, p1, p2, p3, p4, p5⟩ | exact ⟨q0, q1, q2, q3, q4, q5⟩ | exact ⟨r0, r1, r2, r3, r4, r5⟩)
                  (first
                  | (go_at_call 56; have hq := HC2.out; clear hq; refine (HOR2.out _ HC2.out).mono ?_; rintro e w4 ⟨rfl, hB4⟩; have r0 := keep1 hB4 q0; have r1 := keep1 hB4 q1; have r2 := keep1 hB4 q2; have r3 := keep1 hB4 q3; have r4 := keep1 hB4 q4; have r5 := keep1 hB4 q5; have HC3 := Lib.hid (below_step HC2.out hB4); clear hB4)
                  | (go_at_call 72; have hq := HC1.out; clear hq; refine (HLY2.out _ HC1.out).mono ?_; rintro e w3 ⟨rfl, hB3⟩; have q0 := keep1 hB3 p0; have q1 := keep1 hB3 p1; have q2 := keep1 hB3 p2; have q3 := keep1 hB3 p3; have q4 := keep1 hB3 p4; have q5 := keep1 hB3 p5; have HC2 := Lib.hid (below_step HC1.out hB3); clear hB3)
                  | (go_at_call 72; refine (HLT2.out _ (Below.refl _ _).drew).mono ?_; rintro e w2 ⟨rfl, hB2⟩; have hB2' : Below (w1.alloc (.cells #[.string lb, .slice sa sn sc] 66 (0, 0))).heap.size (w1.alloc (.cells #[.string lb, .slice sa sn sc] 66 (0, 0))) w2 := (Below.refl _ _).drew.trans hB2; have p0 := keep1 hB2' x0; have p1 := keep1 hB2' x1; have p2 := keep1 hB2' y1; have p3 := keep1 hB2' y2; have p4 := keep1 hB2' z1; have p5 := keep1 hB2' z2; have HC1 := Lib.hid hB2'; clear hB2 hB2'))
                all_goals
                  have HBR : Hid (Below wr.heap.size wr w4) := Lib.hid (below_step HW0.out HC3.out)
                  have e0 : w4.cell? ⟨g, k * 2, none⟩ = some (.int .i64 x) := keep1 HC3.out d0
                  have HTW : Hid (RepS w4 (fun b => (Value.slice (some ⟨gv, 0, none⟩) k vc).ownBlock ≠ some b) t (.string lb) (.slice sa sn sc)) := Lib.hid (HTQ.out.below hw HC3.out)
                  clear x0 x1 y1 y2 z1 z2 p0 p1 p2 p3 p4 p5 q0 q1 q2 q3 q4 q5 r2 r3 r4 r5 d0
                  have hsW := HBR.out.size
                  have OWN := owns_below HROW.out.own HBR.out
                  rw [← HKP.out] at OWN
                  have HOWN := Lib.hid OWN
                  have k0 : (0 : Int) ≤ k := by omega
                  clear OWN
                  go_wp2_with fail
                  go_region_law (refine step_append_lies _ (by rfl) _ _ 92 (by rfl) w.heap.size 97 i0 (.agg #[.int .i64 0, .string ⟨#[]⟩, .slice none 0 0]) 3 48 Tryz.underlying92 hi0 hzz hzs hzb rfl (by decide) (.slice (some ⟨gv, 0, none⟩) k vc) k vs (by rfl) (World.ownsRow.alloc (World.ownsRow.drew HOWN.out) (.cells #[.int .i64 x, .string lb, .slice sa sn sc] 97 (0, 0))) ⟨w4.heap.size, 0, none⟩ 1 1 [.int .i64 x, .string lb, .slice sa sn sc] (by rfl) (by rfl) (cells_three rfl _ _ _) (by simp [Value.oneCell']) (by decide) (by unfold maxLen; omega) (by omega) (by have := HB.out.size; simp; omega) (w4.heap.size + 1) (by simp) ?_; intro gg cap' w2 hown2 hg2 hf2 hlt2)
                  all_goals
                    have hs2 := hg2.size
                    have NX : Row tmS 97 w.heap.size (ps ++ [(x, t)]) (.slice (some ⟨gg, 0, none⟩) (k + 1) cap') (vs ++ [.int .i64 x, .string lb, .slice sa sn sc]) w2 := by
                      have h := HROW.out.next (a := (x, t)) (w1 := w4) (w1' := w4.drew.alloc (.cells #[.int .i64 x, .string lb, .slice sa sn sc] 97 (0, 0))) HBR.out ⟨lb, sa, sn, sc, rfl, hw, HTW.out⟩ ((Below.refl _ _).drew.alloc (Nat.le_refl _) _) (by rw [← HKP.out]; exact hown2) hg2 (by rcases hf2 with h | h; exact .inl h; exact .inr (by omega))
                      rw [← HKP.out] at h
                      exact h
                    have NXX := Lib.hid NX
                    have BB := Lib.hid ((((below_step HB.out HBR.out).drew.alloc (by have := HB.out.size; simp; omega) (.cells #[.int .i64 x, .string lb, .slice sa sn sc] 97 (0, 0))).grown hg2 (by have := HB.out.size; simp; omega) (fun q e => by have := (HOWN.out.lt q e).1; omega)))
                    clear NX hown2 hg2 hf2
                    go_wp2_with fail
                    go_roundw
                    case rel => exact ⟨ps ++ [(x, t)], k + 1, some ⟨gg, 0, none⟩, cap', _, by rw [List.length_append]; have := HKP.out; simp; omega, by omega, by simp, by go_num, rfl, HNX.out, NXX.out, BB.out⟩
                    case measure => simp [intOf]; omega
              · have hz0 : decide (z ≤ 0) = true := decide_eq_true (by omega)
                have HN : Hid (sumOf xs = none) := Lib.hid (by
                  have hF : rdAll 1 100 true xs = none := rd_no_fit hltx HRD.out (by rw [← HS.out]; exact HY.out) (by
                    rw [fits, HFL.out, decide_eq_false hzp]; simp)
                  rw [sumOf, hF]; split <;> rfl)
                go_wp2_with (go_at_call 60; refine (HIN.out _).mono ?_; rintro e w' ⟨rfl, rfl⟩)
                go_region_held3 (fun w' => w'.cell? ⟨w1.heap.size, 0, none⟩ = some (.string lb) ∧ w'.cell? ⟨w1.heap.size, 1, none⟩ = some (.slice sa sn sc) ∧ w'.cell? ⟨gv, 1, none⟩ = some (.string yb) ∧ w'.cell? ⟨gv, 2, none⟩ = some (.slice ya yn yc) ∧ w'.cell? ⟨gv, j * 3 + 1, none⟩ = some (.string zb) ∧ w'.cell? ⟨gv, j * 3 + 2, none⟩ = some (.slice za zn zc))
                  (first | exact ⟨x0, x1, y1, y2, z1, z2⟩ | exact ⟨p0, p1, p2, p3, p4, p5⟩ | exact ⟨q0, q1, q2, q3, q4, q5⟩ | exact ⟨r0, r1, r2, r3, r4, r5⟩)
                  (first
                  | (go_at_call 56; have hq := HC2.out; clear hq; refine (HOR2.out _ HC2.out).mono ?_; rintro e w4 ⟨rfl, hB4⟩; have r0 := keep1 hB4 q0; have r1 := keep1 hB4 q1; have r2 := keep1 hB4 q2; have r3 := keep1 hB4 q3; have r4 := keep1 hB4 q4; have r5 := keep1 hB4 q5; have HC3 := Lib.hid (below_step HC2.out hB4); clear hB4)
                  | (go_at_call 72; have hq := HC1.out; clear hq; refine (HLY2.out _ HC1.out).mono ?_; rintro e w3 ⟨rfl, hB3⟩; have q0 := keep1 hB3 p0; have q1 := keep1 hB3 p1; have q2 := keep1 hB3 p2; have q3 := keep1 hB3 p3; have q4 := keep1 hB3 p4; have q5 := keep1 hB3 p5; have HC2 := Lib.hid (below_step HC1.out hB3); clear hB3)
                  | (go_at_call 72; refine (HLT2.out _ (Below.refl _ _).drew).mono ?_; rintro e w2 ⟨rfl, hB2⟩; have hB2' : Below (w1.alloc (.cells #[.string lb, .slice sa sn sc] 66 (0, 0))).heap.size (w1.alloc (.cells #[.string lb, .slice sa sn sc] 66 (0, 0))) w2 := (Below.refl _ _).drew.trans hB2; have p0 := keep1 hB2' x0; have p1 := keep1 hB2' x1; have p2 := keep1 hB2' y1; have p3 := keep1 hB2' y2; have p4 := keep1 hB2' z1; have p5 := keep1 hB2' z2; have HC1 := Lib.hid hB2'; clear hB2 hB2'))
                all_goals
                  go_wp2_with fail
                  go_ret2
                  exact ⟨below_step (below_step HB.out HW0.out) HC3.out, _, _, _, false, rfl, .inl ⟨HN.out, rfl⟩⟩
            · have hLM1 : (L == M) = false := by simpa using hLM
              have hLM2 : (L != M) = true := by simpa using hLM
              have hLM3 : ((L : Int) == (M : Int)) = false := by simp; omega
              have hLM4 : ((L : Int) != (M : Int)) = true := by simp; omega
              have HN : Hid (sumOf xs = none) := Lib.hid (by
                have hF : rdAll 1 100 true xs = none := rd_no_fit hltx HRD.out (by rw [← HS.out]; exact HY.out) (by
                  rw [fits, HFH.out, decide_eq_false hLM]; simp)
                rw [sumOf, hF]; split <;> rfl)
              go_wp2_with (go_at_call 60; refine (HIN.out _).mono ?_; rintro e w' ⟨rfl, rfl⟩)
              refine wp_region_held_drew (S := (fun w' => w'.cell? ⟨w1.heap.size, 0, none⟩ = some (.string lb) ∧ w'.cell? ⟨w1.heap.size, 1, none⟩ = some (.slice sa sn sc) ∧ w'.cell? ⟨gv, 1, none⟩ = some (.string yb) ∧ w'.cell? ⟨gv, 2, none⟩ = some (.slice ya yn yc))) (by kernel_rfl) (by exact ⟨x0, x1, y1, y2⟩) (fun hHeld => ?_)
              refine wpAnyH_take (i := 0) (oi := { dst := some 36, op := Op.move (Operand.tmp 5), type := 3, pos := "l3_sums.go:44", after := #[], guard := none }) (v := ?_) rfl (by kernel_rfl) (by kernel_rfl) (by kernel_rfl) (fun _ _ _ h => h) (Or.inl ⟨by rfl, ?_⟩) (by assumption) ?_
              rotate_left
              · (intro w hSw; (try dsimp only at hSw); go_simp <;> with_reducible rfl)
              (try simp only [Act.put, List.setIfInBounds_toArray, List.set_cons_zero, List.set_cons_succ])
              refine wpAnyH_take (i := 1) (oi := { dst := some 37, op := Op.binOp BinOp.gtr 3 (Operand.tmp 36) (Operand.const (Value.int IntKind.i64 0)) 3, type := 4, pos := "l3_sums.go:44", after := #[{ on := 0, ground := Ground.data }], guard := none }) (v := ?_) rfl (by kernel_rfl) (by kernel_rfl) (by kernel_rfl) (fun _ _ _ h => h) (Or.inl ⟨by rfl, ?_⟩) (by assumption) ?_
              rotate_left
              · (intro w hSw; (try dsimp only at hSw); go_simp <;> with_reducible rfl)
              (try simp only [Act.put, List.setIfInBounds_toArray, List.set_cons_zero, List.set_cons_succ])
              refine wpAnyH_take (i := 2) (oi := { dst := some 38, op := Op.move (Operand.tmp 37), type := 4, pos := "l3_sums.go:44", after := #[{ on := 1, ground := Ground.data }], guard := none }) (v := ?_) rfl (by kernel_rfl) (by kernel_rfl) (by kernel_rfl) (fun _ _ _ h => h) (Or.inl ⟨by rfl, ?_⟩) (by assumption) ?_
              rotate_left
              · (intro w hSw; (try dsimp only at hSw); go_simp <;> with_reducible rfl)
              (try simp only [Act.put, List.setIfInBounds_toArray, List.set_cons_zero, List.set_cons_succ])
              refine wpAnyH_take (i := 3) (oi := { dst := some 39, op := Op.load 66 (Operand.tmp 6), type := 66, pos := "l3_sums.go:44", after := #[{ on := 2, ground := Ground.guard }], guard := some (2, true) }) (v := ?_) rfl (by kernel_rfl) (by kernel_rfl) (by kernel_rfl) (fun _ _ _ h => h) (Or.inl ⟨by rfl, ?_⟩) (by assumption) ?_
              rotate_left
              · (intro w hSw; (try dsimp only at hSw); go_simp <;> with_reducible rfl)
              (try simp only [Act.put, List.setIfInBounds_toArray, List.set_cons_zero, List.set_cons_succ])
              refine wpAnyH_take (i := 5) (oi := { dst := some 41, op := Op.move (Operand.tmp 4), type := 92, pos := "l3_sums.go:44", after := #[{ on := 2, ground := Ground.guard }], guard := some (2, true) }) (v := ?_) rfl (by kernel_rfl) (by kernel_rfl) (by kernel_rfl) (fun _ _ _ h => h) (Or.inl ⟨by rfl, ?_⟩) (by assumption) ?_
              rotate_left
              · (intro w hSw; (try dsimp only at hSw); go_simp <;> with_reducible rfl)
              (try simp only [Act.put, List.setIfInBounds_toArray, List.set_cons_zero, List.set_cons_succ])
              refine wpAnyH_take (i := 6) (oi := { dst := some 42, op := Op.indexAddr 92 (Operand.tmp 41) (Operand.const (Value.int IntKind.i64 0)), type := 0, pos := "l3_sums.go:44", after := #[{ on := 5, ground := Ground.data }, { on := 2, ground := Ground.guard }], guard := some (2, true) }) (v := ?_) rfl (by kernel_rfl) (by kernel_rfl) (by kernel_rfl) (fun _ _ _ h => h) (Or.inl ⟨by rfl, ?_⟩) (by assumption) ?_
              rotate_left
              · (intro w hSw; (try dsimp only at hSw); go_simp <;> with_reducible rfl)
              (try simp only [Act.put, List.setIfInBounds_toArray, List.set_cons_zero, List.set_cons_succ])
              refine wpAnyH_take (i := 7) (oi := { dst := some 43, op := Op.fieldAddr 97 (Operand.tmp 42) 1, type := 0, pos := "l3_sums.go:44", after := #[{ on := 6, ground := Ground.data }, { on := 2, ground := Ground.guard }], guard := some (2, true) }) (v := ?_) rfl (by kernel_rfl) (by kernel_rfl) (by kernel_rfl) (fun _ _ _ h => h) (Or.inl ⟨by rfl, ?_⟩) (by assumption) ?_
              rotate_left
              · (intro w hSw; (try dsimp only at hSw); go_simp <;> with_reducible rfl)
              (try simp only [Act.put, List.setIfInBounds_toArray, List.set_cons_zero, List.set_cons_succ])
              refine wpAnyH_take (i := 8) (oi := { dst := some 44, op := Op.load 66 (Operand.tmp 43), type := 66, pos := "l3_sums.go:44", after := #[{ on := 7, ground := Ground.data }, { on := 2, ground := Ground.guard }], guard := some (2, true) }) (v := ?_) rfl (by kernel_rfl) (by kernel_rfl) (by kernel_rfl) (fun _ _ _ h => h) (Or.inl ⟨by rfl, ?_⟩) (by assumption) ?_
              rotate_left
              · (intro w hSw; (try dsimp only at hSw); go_simp <;> with_reducible rfl)
              (try simp only [Act.put, List.setIfInBounds_toArray, List.set_cons_zero, List.set_cons_succ])
              refine wpAnyH_ready (rs := [4]) (by kernel_rfl) (by simp) ?_
              refine AllReadyH.cons (o := { dst := some 40, op := Op.call { callee := Callee.value (Operand.func 72), args := #[Operand.tmp 39], argTypes := #[66] }, type := 3, pos := "l3_sums.go:44", after := #[{ on := 3, ground := Ground.data }, { on := 2, ground := Ground.chain }, { on := 2, ground := Ground.guard }], guard := some (2, true) }) rfl (fun K hK => ?_) AllReadyH.nil
              go_simp
              go_wp2_with (go_at_call 72; refine (HLT2.out _ (Below.refl _ _).drew).mono ?_; rintro e w2 ⟨rfl, hB2⟩; have hB2' : Below (w1.alloc (.cells #[.string lb, .slice sa sn sc] 66 (0, 0))).heap.size (w1.alloc (.cells #[.string lb, .slice sa sn sc] 66 (0, 0))) w2 := (Below.refl _ _).drew.trans hB2; have p0 := keep1 hB2' x0; have p1 := keep1 hB2' x1; have p2 := keep1 hB2' y1; have p3 := keep1 hB2' y2; have HC1 := Lib.hid hB2'; clear hB2 hB2')
              refine hK.out _ _ ?_ (fun hHeld => ?_)
              · exact ⟨p0, p1, p2, p3⟩
              clear hK K
              (try simp only [Act.put, List.setIfInBounds_toArray, List.set_cons_zero, List.set_cons_succ])
              refine wpAnyH_ready (rs := [9]) (by kernel_rfl) (by simp) ?_
              refine AllReadyH.cons (o := { dst := some 45, op := Op.call { callee := Callee.value (Operand.func 72), args := #[Operand.tmp 44], argTypes := #[66] }, type := 3, pos := "l3_sums.go:44", after := #[{ on := 8, ground := Ground.data }, { on := 4, ground := Ground.chain }, { on := 2, ground := Ground.guard }], guard := some (2, true) }) rfl (fun K hK => ?_) AllReadyH.nil
              go_simp
              go_wp2_with (go_at_call 72; refine (HLY2.out _ HC1.out).mono ?_; rintro e w3 ⟨rfl, hB3⟩; have q0 := keep1 hB3 p0; have q1 := keep1 hB3 p1; have q2 := keep1 hB3 p2; have q3 := keep1 hB3 p3; have HC2 := Lib.hid (below_step HC1.out hB3); clear hB3)
              refine hK.out _ _ ?_ (fun hHeld => ?_)
              · exact ⟨q0, q1, q2, q3⟩
              clear hK K
              (try simp only [Act.put, List.setIfInBounds_toArray, List.set_cons_zero, List.set_cons_succ])
              refine wpAnyH_take (i := 10) (oi := { dst := some 46, op := Op.binOp BinOp.neq 3 (Operand.tmp 40) (Operand.tmp 45) 3, type := 4, pos := "l3_sums.go:44", after := #[{ on := 4, ground := Ground.data }, { on := 9, ground := Ground.data }, { on := 2, ground := Ground.guard }], guard := some (2, true) }) (v := ?_) rfl (by kernel_rfl) (by kernel_rfl) (by kernel_rfl) (fun _ _ _ h => h) (Or.inl ⟨by rfl, ?_⟩) (by assumption) ?_
              rotate_left
              · (intro w hSw; (try dsimp only at hSw); go_simp <;> with_reducible rfl)
              (try simp only [Act.put, List.setIfInBounds_toArray, List.set_cons_zero, List.set_cons_succ])
              refine wpAnyH_take (i := 11) (oi := { dst := some 47, op := Op.move (Operand.tmp 46), type := 4, pos := "l3_sums.go:44", after := #[{ on := 10, ground := Ground.data }, { on := 9, ground := Ground.chain }, { on := 2, ground := Ground.guard }], guard := some (2, true) }) (v := ?_) rfl (by kernel_rfl) (by kernel_rfl) (by kernel_rfl) (fun _ _ _ h => h) (Or.inl ⟨by rfl, ?_⟩) (by assumption) ?_
              rotate_left
              · (intro w hSw; (try dsimp only at hSw); go_simp <;> with_reducible rfl)
              (try simp only [Act.put, List.setIfInBounds_toArray, List.set_cons_zero, List.set_cons_succ])
              refine wpAnyH_take (i := 12) (oi := { dst := some 48, op := Op.move (Operand.tmp 4), type := 92, pos := "l3_sums.go:44", after := #[{ on := 11, ground := Ground.guard }], guard := some (11, false) }) (v := undef) rfl (by kernel_rfl) (by kernel_rfl) (by kernel_rfl) (fun _ _ _ h => h) (Or.inr ⟨by rfl, rfl⟩) (by assumption) ?_
              (try simp only [Act.put, List.setIfInBounds_toArray, List.set_cons_zero, List.set_cons_succ])
              refine wpAnyH_take (i := 13) (oi := { dst := some 49, op := Op.move (Operand.tmp 5), type := 3, pos := "l3_sums.go:44", after := #[{ on := 11, ground := Ground.guard }], guard := some (11, false) }) (v := undef) rfl (by kernel_rfl) (by kernel_rfl) (by kernel_rfl) (fun _ _ _ h => h) (Or.inr ⟨by rfl, rfl⟩) (by assumption) ?_
              (try simp only [Act.put, List.setIfInBounds_toArray, List.set_cons_zero, List.set_cons_succ])
              refine wpAnyH_take (i := 14) (oi := { dst := some 50, op := Op.binOp BinOp.sub 3 (Operand.tmp 49) (Operand.const (Value.int IntKind.i64 1)) 3, type := 3, pos := "l3_sums.go:44", after := #[{ on := 13, ground := Ground.data }, { on := 11, ground := Ground.guard }], guard := some (11, false) }) (v := undef) rfl (by kernel_rfl) (by kernel_rfl) (by kernel_rfl) (fun _ _ _ h => h) (Or.inr ⟨by rfl, rfl⟩) (by assumption) ?_
              (try simp only [Act.put, List.setIfInBounds_toArray, List.set_cons_zero, List.set_cons_succ])
              refine wpAnyH_take (i := 15) (oi := { dst := some 51, op := Op.indexAddr 92 (Operand.tmp 48) (Operand.tmp 50), type := 0, pos := "l3_sums.go:44", after := #[{ on := 12, ground := Ground.data }, { on := 14, ground := Ground.data }, { on := 11, ground := Ground.guard }], guard := some (11, false) }) (v := undef) rfl (by kernel_rfl) (by kernel_rfl) (by kernel_rfl) (fun _ _ _ h => h) (Or.inr ⟨by rfl, rfl⟩) (by assumption) ?_
              (try simp only [Act.put, List.setIfInBounds_toArray, List.set_cons_zero, List.set_cons_succ])
              refine wpAnyH_take (i := 16) (oi := { dst := some 52, op := Op.fieldAddr 97 (Operand.tmp 51) 1, type := 0, pos := "l3_sums.go:44", after := #[{ on := 15, ground := Ground.data }, { on := 11, ground := Ground.guard }], guard := some (11, false) }) (v := undef) rfl (by kernel_rfl) (by kernel_rfl) (by kernel_rfl) (fun _ _ _ h => h) (Or.inr ⟨by rfl, rfl⟩) (by assumption) ?_
              (try simp only [Act.put, List.setIfInBounds_toArray, List.set_cons_zero, List.set_cons_succ])
              refine wpAnyH_take (i := 17) (oi := { dst := some 53, op := Op.load 66 (Operand.tmp 52), type := 66, pos := "l3_sums.go:44", after := #[{ on := 16, ground := Ground.data }, { on := 11, ground := Ground.guard }], guard := some (11, false) }) (v := undef) rfl (by kernel_rfl) (by kernel_rfl) (by kernel_rfl) (fun _ _ _ h => h) (Or.inr ⟨by rfl, rfl⟩) (by assumption) ?_
              (try simp only [Act.put, List.setIfInBounds_toArray, List.set_cons_zero, List.set_cons_succ])
              refine wpAnyH_take (i := 18) (oi := { dst := some 54, op := Op.load 66 (Operand.tmp 6), type := 66, pos := "l3_sums.go:44", after := #[{ on := 11, ground := Ground.guard }], guard := some (11, false) }) (v := undef) rfl (by kernel_rfl) (by kernel_rfl) (by kernel_rfl) (fun _ _ _ h => h) (Or.inr ⟨by rfl, rfl⟩) (by assumption) ?_
              (try simp only [Act.put, List.setIfInBounds_toArray, List.set_cons_zero, List.set_cons_succ])
              refine wpAnyH_take (i := 19) (oi := { dst := some 55, op := Op.call { callee := Callee.value (Operand.func 56), args := #[Operand.tmp 53, Operand.tmp 54], argTypes := #[66, 66] }, type := 3, pos := "l3_sums.go:44", after := #[{ on := 17, ground := Ground.data }, { on := 18, ground := Ground.data }, { on := 11, ground := Ground.chain }, { on := 11, ground := Ground.guard }], guard := some (11, false) }) (v := undef) rfl (by kernel_rfl) (by kernel_rfl) (by kernel_rfl) (fun _ _ _ h => h) (Or.inr ⟨by rfl, rfl⟩) (by assumption) ?_
              (try simp only [Act.put, List.setIfInBounds_toArray, List.set_cons_zero, List.set_cons_succ])
              refine wpAnyH_take (i := 20) (oi := { dst := some 56, op := Op.binOp BinOp.leq 3 (Operand.tmp 55) (Operand.const (Value.int IntKind.i64 0)) 3, type := 4, pos := "l3_sums.go:44", after := #[{ on := 19, ground := Ground.data }, { on := 11, ground := Ground.guard }], guard := some (11, false) }) (v := undef) rfl (by kernel_rfl) (by kernel_rfl) (by kernel_rfl) (fun _ _ _ h => h) (Or.inr ⟨by rfl, rfl⟩) (by assumption) ?_
              (try simp only [Act.put, List.setIfInBounds_toArray, List.set_cons_zero, List.set_cons_succ])
              refine wpAnyH_take (i := 21) (oi := { dst := some 57, op := Op.pick (Operand.tmp 47) (Operand.const (Value.bool true)) (Operand.tmp 56), type := 4, pos := "l3_sums.go:44", after := #[{ on := 11, ground := Ground.data }, { on := 20, ground := Ground.data }, { on := 2, ground := Ground.guard }], guard := some (2, true) }) (v := ?_) rfl (by kernel_rfl) (by kernel_rfl) (by kernel_rfl) (fun _ _ _ h => h) (Or.inl ⟨by rfl, ?_⟩) (by assumption) ?_
              rotate_left
              · (intro w hSw; (try dsimp only at hSw); go_simp <;> with_reducible rfl)
              (try simp only [Act.put, List.setIfInBounds_toArray, List.set_cons_zero, List.set_cons_succ])
              refine wpAnyH_take (i := 22) (oi := { dst := some 58, op := Op.pick (Operand.tmp 38) (Operand.tmp 57) (Operand.const (Value.bool false)), type := 4, pos := "l3_sums.go:44", after := #[{ on := 2, ground := Ground.data }, { on := 21, ground := Ground.data }], guard := none }) (v := ?_) rfl (by kernel_rfl) (by kernel_rfl) (by kernel_rfl) (fun _ _ _ h => h) (Or.inl ⟨by rfl, ?_⟩) (by assumption) ?_
              rotate_left
              · (intro w hSw; (try dsimp only at hSw); go_simp <;> with_reducible rfl)
              (try simp only [Act.put, List.setIfInBounds_toArray, List.set_cons_zero, List.set_cons_succ])
              refine wpAnyH_done (by kernel_rfl) ?_ _
              all_goals
                go_wp2_with fail
                go_ret2
                exact ⟨below_step (below_step HB.out HW0.out) HC2.out, _, _, _, false, rfl, .inl ⟨HN.out, rfl⟩⟩
        · have HIN : Hid (∀ w, Calls Tryz.prog 60 #[.int .i64 x, .int .i64 1, .int .i64 100] w fun e w' => e = .returned (.bool false) ∧ w = w') := Lib.hid (fun w => by
            have := l6In_any x 1 100 w
            rw [decide_eq_false hin] at this
            exact this)
          have HN : Hid (sumOf xs = none) := Lib.hid (by
            have hF : rdAll 1 100 true xs = none := rd_no_fit hltx HRD.out (by rw [← HS.out]; exact HY.out) (by
              rw [← HX.out, fits]
              rcases Classical.em (1 ≤ x) with h1 | h1
              · rw [decide_eq_false (fun h2 => hin ⟨h1, h2⟩)]; simp
              · rw [decide_eq_false h1]; simp)
            rw [sumOf, hF]; split <;> rfl)
          clear hin
          go_wp2_with (go_at_call 60; refine (HIN.out _).mono ?_; rintro e w' ⟨rfl, rfl⟩)
          go_ret2
          exact ⟨HBA.out, _, _, _, false, rfl, .inl ⟨HN.out, rfl⟩⟩
    · have hkn : k = n := by omega
      by_cases h6 : n ≤ 60
      · have ht : decide ((n : Int) ≤ 60) = true := decide_eq_true (by omega)
        have HR : Hid (sumOf xs = some ps) := Lib.hid (by
          have := HRD.out
          rw [hkn, HNN.out, List.take_length] at this
          rw [sumOf, if_neg (by have := HNN.out; omega), this])
        have HRR := Lib.hid hrow.rd
        have HSH : Hid ((∃ g, va = some ⟨g, 0, none⟩) ∧ k ≤ vc ∧ vc ≤ 9223372036854775807) := Lib.hid (by
          obtain ⟨g, cap, e, h1, h2, _⟩ := owns_some hrow.own (fun e => by simp only [Value.slice.injEq] at e; exact HVA.out e.1)
          simp only [Value.slice.injEq] at e
          exact ⟨⟨g, e.1⟩, by have := HKP.out; omega, by omega⟩)
        clear hkp hrd hrow
        go_wp2_with fail
        go_ret2
        exact ⟨HB.out, _, _, _, true, rfl, .inr ⟨ps, HR.out, rfl, HKP.out, HRR.out, HSH.out⟩⟩
      · have ht : decide ((n : Int) ≤ 60) = false := decide_eq_false (by omega)
        have HR : Hid (sumOf xs = none) := Lib.hid (by
          rw [sumOf, if_pos (by have := HNN.out; omega)])
        clear hkp hrd hrow
        go_wp2_with fail
        go_ret2
        exact ⟨HB.out, _, _, _, false, rfl, .inl ⟨HR.out, rfl⟩⟩
end Go.Proofs.YtoeebipahifpcaaGreat
end
section
/- The model adds a term to a sum. -/
namespace Go.Proofs.YtoeebipahifpcaaGreat
open Go.RowKit

/-- A list of terms is handed back, new. -/
def NewTms (qs : List Tm) (w : World) (e : Ending) (w' : World) : Prop :=
  Below w.heap.size w w' ∧ ∃ g cap, e = .returned (.slice (some ⟨g, 0, none⟩) qs.length cap) ∧ qs.length ≤ cap ∧ cap ≤ 9223372036854775807 ∧ Rd tmS w' (fun _ => True) (some ⟨g, 0, none⟩) qs

theorem l3Mod_any (x : Int) (w : World) (_h1 : -1000000000000 ≤ x) (_h2 : x ≤ 1000000000000) :
    Calls Tryz.prog 35 #[.int .i64 x] w fun e w' => e = .returned (.int .i64 (x % 101)) ∧ w = w' := by
  have HV : Hid ((x.tmod 101 + 101) % 101 = x % 101) := Lib.hid (by
    have h3 := Int.tmod_add_mul_tdiv x 101
    have h4 := Int.tmod_lt_of_pos x (show (0 : Int) < 101 by omega)
    have h5 := Int.lt_tmod_of_pos x (show (0 : Int) < 101 by omega)
    omega)
  have hb1 := Int.tmod_lt_of_pos x (show (0 : Int) < 101 by omega)
  have hb2 := Int.lt_tmod_of_pos x (show (0 : Int) < 101 by omega)
  go_enter Tryz.func35, Tryz.ntmps35
  go_wp2_with fail
  go_ret
  exact ⟨by rw [← HV.out]; rfl, rfl⟩

end Go.Proofs.YtoeebipahifpcaaGreat
end
