/- The law of QuadDual. -/
import Derived.Test.YtoeebipahifpcaaGreatKQDual
import Derived.Test.YtoeebipahifpcaaGreatKLawQ
namespace Go.Proofs.YtoeebipahifpcaaGreat
open Go.RowKit

theorem tms_listsD {w : World} {P : Nat → Prop} {g : Nat} {xss : List (List (Int × ByteArray))} (h : Rd tmsE w P (some ⟨g, 0, none⟩) xss) : TermsL w g xss := fun j hj => tmsE.get h j hj

theorem marked_belowD {w w' : World} {g m len : Nat} {gb : Nat → Nat} {xs : List (Int × ByteArray)} {j : Nat} (h : (∃ c, w.cell? ⟨g, j, none⟩ = some (.slice (some ⟨gb j, 0, none⟩) xs.length c)) ∧ TermL w (gb j) (marksT m len)) (hB : Below w.heap.size w w') : (∃ c, w'.cell? ⟨g, j, none⟩ = some (.slice (some ⟨gb j, 0, none⟩) xs.length c)) ∧ TermL w' (gb j) (marksT m len) := by
  obtain ⟨⟨c, h1⟩, h2⟩ := h
  exact ⟨⟨c, keep1 hB h1⟩, h2.below hB⟩

set_option maxRecDepth 100000 in
set_option maxHeartbeats 4000000 in
theorem lawQuadDual_any (ss : List ByteArray) (a : Option Addr) (cap : Nat) (yss : List (List (Int × ByteArray))) (a' : Option Addr) (cap' : Nat) (w : World) (hl : LiesO w a ss) (hz : ∀ x ∈ ss, x.size ≤ 9223372036854775807) (hn : ss.length ≤ 9223372036854775807)
    (hl' : TermsO w a' yss) (hz' : ∀ j (h : j < yss.length), Open1 yss[j]) (hn' : yss.length ≤ 9223372036854775807) :
    Calls Tryz.prog 4 #[.slice a ss.length cap, .slice a' yss.length cap'] w (Ans (.bool true) w) := by
  have HL := Lib.hid hl
  have HL' := Lib.hid hl'
  have HS0 := Lib.hid (szStringS_le ss a cap w hn hz hl)
  have HS1 := Lib.hid (fun (l0 : Int) (h0 : 0 ≤ l0) (h1 : l0 ≤ 1048576) (W : World) (hb : Below w.heap.size w W) => szTermSS_sum yss a' cap' l0 W h0 h1 hn' hz' (hl'.below hb))
  clear hl hz hl' hz'
  go_enter Tryz.func4, Tryz.ntmps4
  go_wp2_with fail
  refine HS0.out.mono ?_
  rintro e w1 ⟨hB1, v, rfl, hv | ⟨hv, hvle, hn2, hz2⟩⟩
  · go_wp2_with fail
    go_ret
    exact ⟨rfl, hB1⟩
  have HBa := Lib.hid hB1
  have HZ2 := Lib.hid hz2
  clear hB1 hz2
  go_wp2_with fail
  refine (HS1.out v (by omega) (by omega) w1 HBa.out).mono ?_
  rintro e w2 ⟨hB2, v', rfl, hv' | ⟨hv', hv2', hn2', hz2', hsum⟩⟩
  · have HBb := Lib.hid (below_step HBa.out hB2)
    go_wp2_with fail
    go_ret
    exact ⟨rfl, HBb.out⟩
  have HB2 := Lib.hid (below_step HBa.out hB2)
  have HZT := Lib.hid hz2'
  clear hB2 hz2'
  obtain ⟨n, hnn⟩ : ∃ n, n = ss.length := ⟨_, rfl⟩
  obtain ⟨m, hmm⟩ : ∃ m, m = yss.length := ⟨_, rfl⟩
  have HNN := Lib.hid hnn
  have HMM := Lib.hid hmm
  have hnl : n ≤ 1048576 := by omega
  have hml : m ≤ 1048576 := by omega
  have hpl : (txl ss).length = n := by rw [txl_length, hnn]
  have HPL := Lib.hid hpl
  have HS : Hid (∀ (g g1 : Nat) (w : World), Lies w (some ⟨g, 0, none⟩) (txl ss) → TermsL w g1 yss → Calls Tryz.prog 18 #[.slice (some ⟨g, 0, none⟩) n n, .slice (some ⟨g1, 0, none⟩) m m] w (QDualPost ss yss w)) :=
    Lib.hid (fun g g1 w h h1 => sQuadDual_any ss yss n m hnn hmm g n g1 m w hnl hml HZ2.out HZT.out (TxG.of_lies h) h1)
  have HI : Hid (∀ (g g1 : Nat) (w : World), Lies w (some ⟨g, 0, none⟩) (txl ss) → TermsL w g1 yss → Calls Tryz.prog 19 #[.slice (some ⟨g, 0, none⟩) n n, .slice (some ⟨g1, 0, none⟩) m m] w (IDualPost ss yss w)) :=
    Lib.hid (fun g g1 w h h1 => iQuadDual_any ss yss n m hnn hmm g n g1 m w hnl (Nat.le_refl _) hml HZ2.out HZT.out (TxG.of_lies h) h1)
  have HT : Hid (∀ w, LiesO w a ss → Calls Tryz.prog 10 #[.slice a n cap] w (fun e w' => Below w.heap.size w w' ∧ ∃ g, e = .returned (.slice (some ⟨g, 0, none⟩) n n) ∧ w.heap.size ≤ g ∧ (∃ cur : Array Value, w'.heap[g]? = some (.cells cur 9 (0, 0)) ∧ n ≤ cur.size) ∧ Lies w' (some ⟨g, 0, none⟩) (txl ss))) := Lib.hid (fun w hh => by
    have := toStringT_any ss a cap w hn2 hh
    rw [← HNN.out] at this
    exact this.mono (fun e w' h => by
      obtain ⟨h1, g, h2, h3, h4, h5⟩ := h
      exact ⟨h1, g, by rw [h2, HNN.out], h3, by rw [HNN.out]; exact h4, h5⟩))
  have HT1 := Lib.hid (fun w hh => toTermSS_blk yss m hmm a' cap' w hml HZT.out hh)
  have HE : Hid (∀ (g g' : Nat) (w : World), Lies w (some ⟨g, 0, none⟩) (txl ss) → Lies w (some ⟨g', 0, none⟩) (txl ss) → Calls Tryz.prog 14 #[.slice (some ⟨g, 0, none⟩) n n, .slice (some ⟨g', 0, none⟩) n n] w (Ans (.bool true) w)) := Lib.hid (fun g g' w h1 h2 => by
    have := eqStringS_any (txl ss) (some ⟨g, 0, none⟩) (some ⟨g', 0, none⟩) n n w (by rw [HPL.out]; omega) h1 h2
    rw [HPL.out] at this
    exact this)
  have HE1 := Lib.hid (fun g g' w h1 h2 => eqTermSS_any yss m hmm g g' m m w hml HZT.out h1 h2)
  obtain ⟨LT, hLT⟩ : ∃ LT, LT = lensTo yss yss.length := ⟨_, rfl⟩
  have HLT := Lib.hid hLT
  rw [← hLT] at hsum
  have hne2 : ((1 + n : Nat) : Int) = 1 + (n : Int) := by omega
  have hnek : ¬ (((1 + n + 2 * LT : Nat) : Int) < 0) := by omega
  have hned : decide (((1 + n + 2 * LT : Nat) : Int) < 0) = false := decide_eq_false hnek
  rw [← hnn, ← hmm]
  clear hnn hmm hn2' hpl hn hn' hn2 hv2' hLT
  go_wp2_with fail
  refine (HT.out w2 (HL.out.below HB2.out)).mono ?_
  rintro e w3 ⟨hB, ga, rfl, _, _, hlx⟩
  have HB3 := Lib.hid (below_step HB2.out hB)
  have Lga_3 := Lib.hid hlx
  clear hB hlx
  go_wp2_with fail
  refine (HT1.out w3 (HL'.out.below HB3.out)).mono ?_
  rintro e w4 ⟨hB, gb, gbb, vsb, rfl, hsy⟩
  have HB4 := Lib.hid (below_step HB3.out hB)
  have Lga_4 := Lib.hid (Lga_3.out.below hB)
  have Tgb_4 := Lib.hid hsy.lists
  clear hB hsy
  go_wp2_with fail
  refine (HS.out ga gb w4 Lga_4.out Tgb_4.out).mono ?_
  rintro e w5 ⟨hB, ⟨hbad, gw, cw, rfl⟩ | ⟨zss, gw, cw, hbi, rfl, hrd⟩⟩
  · have HB5 := Lib.hid (below_step HB4.out hB)
    have A55 : Hid (Below w5.heap.size w5 w5) := Lib.hid (Below.refl _ _)
    have HBAD := Lib.hid hbad
    clear hB hbad
    go_wp2_with fail
    refine (HT.out w5 (HL.out.below HB5.out)).mono ?_
    rintro e w6 ⟨hB, gx, rfl, hgx, hcux, hlx⟩
    have HB6 := Lib.hid (below_step HB5.out hB)
    have A56 := Lib.hid (below_step A55.out hB)
    have hz6 := hB.size
    have Lgx_6 := Lib.hid hlx
    have CUX := Lib.hid hcux
    clear hlx hcux
    clear hB
    have A6_6 : Hid (Below w6.heap.size w6 w6) := Lib.hid (Below.refl _ _)
    go_wp2_with fail
    refine (HT1.out w6 (HL'.out.below HB6.out)).mono ?_
    rintro e w7 ⟨hB, gy, gby, vsy, rfl, hsy⟩
    have HB7 := Lib.hid (below_step HB6.out hB)
    have A57 := Lib.hid (below_step A56.out hB)
    have A6_7 := Lib.hid (below_step A6_6.out hB)
    have Lgx_7 := Lib.hid (Lgx_6.out.below hB)
    have hz7 := hB.size
    have SY_7 := Lib.hid hsy
    have TY_7 := Lib.hid hsy.lists
    clear hsy
    clear hB
    have A7_7 : Hid (Below w7.heap.size w7 w7) := Lib.hid (Below.refl _ _)
    have HB7S := Lib.hid HB7.out.size
    go_wp2_with fail
    refine (HI.out gx gy w7 Lgx_7.out TY_7.out).mono ?_
    rintro e w8 ⟨hB, ⟨_, rfl⟩ | ⟨zss2, gg, cg, gbg, vsg, hset2, _, rfl, hsg⟩⟩
    rotate_left
    · exact (hset2.good HBAD.out).elim
    have HB8 := Lib.hid (below_step HB7.out hB)
    have A58 := Lib.hid (below_step A57.out hB)
    have A6_8 := Lib.hid (below_step A6_7.out hB)
    have A7_8 := Lib.hid (below_step A7_7.out hB)
    have Lgx_8 := Lib.hid (Lgx_7.out.below hB)
    have TY_8 := Lib.hid (TY_7.out.below hB)
    have SY_8 := Lib.hid (SY_7.out.step hB)
    have hz8 := hB.size
    clear hB
    have A8_8 : Hid (Below w8.heap.size w8 w8) := Lib.hid (Below.refl _ _)
    go_wp2_with fail
    refine (eqTermSS_none none (some ⟨gw, 0, none⟩) 0 cw w8).mono ?_
    rintro e w9 ⟨rfl, hB⟩
    have HB9 := Lib.hid (below_step HB8.out hB)
    have A59 := Lib.hid (below_step A58.out hB)
    have A6_9 := Lib.hid (below_step A6_8.out hB)
    have A7_9 := Lib.hid (below_step A7_8.out hB)
    have A8_9 := Lib.hid (below_step A8_8.out hB)
    have Lgx_9 := Lib.hid (Lgx_8.out.below hB)
    have TY_9 := Lib.hid (TY_8.out.below hB)
    have SY_9 := Lib.hid (SY_8.out.step hB)
    have hz9 := hB.size
    clear hB
    go_wp2_with fail
    refine (HT.out w9 (HL.out.below HB9.out)).mono ?_
    rintro e w10 ⟨hB, gh, rfl, _, _, hlx⟩
    have HB10 := Lib.hid (below_step HB9.out hB)
    have A510 := Lib.hid (below_step A59.out hB)
    have A6_10 := Lib.hid (below_step A6_9.out hB)
    have A7_10 := Lib.hid (below_step A7_9.out hB)
    have A8_10 := Lib.hid (below_step A8_9.out hB)
    have Lgx_10 := Lib.hid (Lgx_9.out.below hB)
    have TY_10 := Lib.hid (TY_9.out.below hB)
    have SY_10 := Lib.hid (SY_9.out.step hB)
    have hz10 := hB.size
    have Lgh_10 := Lib.hid hlx
    clear hlx
    clear hB
    go_wp2_with fail
    refine (HE.out gx gh w10 Lgx_10.out Lgh_10.out).mono ?_
    rintro e w11 ⟨rfl, hB⟩
    have HB11 := Lib.hid (below_step HB10.out hB)
    have A511 := Lib.hid (below_step A510.out hB)
    have A6_11 := Lib.hid (below_step A6_10.out hB)
    have A7_11 := Lib.hid (below_step A7_10.out hB)
    have A8_11 := Lib.hid (below_step A8_10.out hB)
    have Lgx_11 := Lib.hid (Lgx_10.out.below hB)
    have TY_11 := Lib.hid (TY_10.out.below hB)
    have Lgh_11 := Lib.hid (Lgh_10.out.below hB)
    have SY_11 := Lib.hid (SY_10.out.step hB)
    have hz11 := hB.size
    clear hB
    go_wp2_with fail
    refine (HT1.out w11 (HL'.out.below HB11.out)).mono ?_
    rintro e w12 ⟨hB, gi, gbi, vsi, rfl, hsy⟩
    have HB12 := Lib.hid (below_step HB11.out hB)
    have A512 := Lib.hid (below_step A511.out hB)
    have A6_12 := Lib.hid (below_step A6_11.out hB)
    have A7_12 := Lib.hid (below_step A7_11.out hB)
    have A8_12 := Lib.hid (below_step A8_11.out hB)
    have Lgx_12 := Lib.hid (Lgx_11.out.below hB)
    have TY_12 := Lib.hid (TY_11.out.below hB)
    have Lgh_12 := Lib.hid (Lgh_11.out.below hB)
    have SY_12 := Lib.hid (SY_11.out.step hB)
    have hz12 := hB.size
    have TI_12 := Lib.hid hsy.lists
    clear hsy
    clear hB
    go_wp2_with fail
    refine (HE1.out gy gi w12 TY_12.out TI_12.out).mono ?_
    rintro e w13 ⟨rfl, hB⟩
    have HB13 := Lib.hid (below_step HB12.out hB)
    have A513 := Lib.hid (below_step A512.out hB)
    have A6_13 := Lib.hid (below_step A6_12.out hB)
    have A7_13 := Lib.hid (below_step A7_12.out hB)
    have A8_13 := Lib.hid (below_step A8_12.out hB)
    have Lgx_13 := Lib.hid (Lgx_12.out.below hB)
    have TY_13 := Lib.hid (TY_12.out.below hB)
    have Lgh_13 := Lib.hid (Lgh_12.out.below hB)
    have TI_13 := Lib.hid (TI_12.out.below hB)
    have SY_13 := Lib.hid (SY_12.out.step hB)
    have hz13 := hB.size
    clear hB
    obtain ⟨curx, hcu1, hcu2⟩ := CUX.out
    have hgxl : gx < w6.heap.size := (Array.getElem?_eq_some_iff.1 hcu1).1
    have HMK := Lib.hid (markStringT_any n gx n 1 curx w13 hnl (by omega) (by omega) ((A6_13.out.block gx hgxl).trans hcu1) hcu2)
    clear hcu1 hcu2
    go_wp2_with fail
    refine HMK.out.mono ?_
    rintro e w14 ⟨rfl, hgr, _⟩
    have hz14 := hgr.size
    have HB14 : Hid (Below w.heap.size w w14) := Lib.hid (HB13.out.grown hgr HB13.out.size (fun q e => by have := HB5.out.size; simp only [Option.some.injEq] at e; omega))
    have A514 : Hid (Below w5.heap.size w5 w14) := Lib.hid (A513.out.grown hgr (by omega) (fun q e => by simp only [Option.some.injEq] at e; omega))
    have R14 : Hid (∀ b, w6.heap.size ≤ b → b < w13.heap.size → w14.heap[b]? = w13.heap[b]?) := Lib.hid (fun b h1 h2 => hgr.block b h2 (fun e => by simp only [Option.some.injEq] at e; omega))
    have SY_14 := Lib.hid (SY_13.out.same R14.out)
    clear hgr
    have HMS := Lib.hid (markTermSS_any yss m HMM.out w6.heap.size gy m (1 + n) gby vsy w14 (by omega) hml (by omega) (by rw [← HLT.out]; omega) (by rw [← HLT.out]; omega) SY_14.out)
    have HGY : Hid (∀ j, j < yss.length → gby j < w7.heap.size) := Lib.hid (fun j hj => by
      obtain ⟨_, _, _, ⟨cur, h4, _⟩, _⟩ := SY_7.out.row j hj
      exact (Array.getElem?_eq_some_iff.1 h4).1)
    go_wp2_with fail
    refine HMS.out.mono ?_
    rintro e w15 ⟨rfl, hb6, hoth, _⟩
    rw [← HLT.out]
    have hb6s := hb6.size
    have HB15 : Hid (Below w.heap.size w w15) := Lib.hid (HB14.out.trans (hb6.mono (by have := HB5.out.size; omega)))
    have A515 : Hid (Below w5.heap.size w5 w15) := Lib.hid (A514.out.trans (hb6.mono (by omega)))
    clear hb6 hoth hb6s
    go_wp2_with fail
    refine (eqTermSS_none none (some ⟨gw, 0, none⟩) 0 cw w15).mono ?_
    rintro e w16 ⟨rfl, hB⟩
    have HB16 := Lib.hid (below_step HB15.out hB)
    have A516 := Lib.hid (below_step A515.out hB)
    have hz16 := hB.size
    clear hB
    go_wp2_with fail
    refine (markTermSS_none none 0 1 w16).mono ?_
    rintro e w17 ⟨rfl, hB⟩
    have HB17 := Lib.hid (below_step HB16.out hB)
    have A517 := Lib.hid (below_step A516.out hB)
    have hz17 := hB.size
    clear hB
    go_wp2_with fail
    refine (heldTermSS_none none 0 1 w17).mono ?_
    rintro e w18 ⟨rfl, hB⟩
    have HB18 := Lib.hid (below_step HB17.out hB)
    have A518 := Lib.hid (below_step A517.out hB)
    have hz18 := hB.size
    clear hB
    go_wp2_with fail
    refine (HT.out w18 (HL.out.below HB18.out)).mono ?_
    rintro e w19 ⟨hB, gj, rfl, _, _, hlx⟩
    have HB19 := Lib.hid (below_step HB18.out hB)
    have A519 := Lib.hid (below_step A518.out hB)
    have hz19 := hB.size
    have Lgj_19 := Lib.hid hlx
    clear hlx
    clear hB
    go_wp2_with fail
    refine (HT1.out w19 (HL'.out.below HB19.out)).mono ?_
    rintro e w20 ⟨hB, gk, gbk, vsk, rfl, hsy⟩
    have HB20 := Lib.hid (below_step HB19.out hB)
    have A520 := Lib.hid (below_step A519.out hB)
    have Lgj_20 := Lib.hid (Lgj_19.out.below hB)
    have hz20 := hB.size
    have TK_20 := Lib.hid hsy.lists
    clear hsy
    clear hB
    go_wp2_with fail
    refine (HI.out gj gk w20 Lgj_20.out TK_20.out).mono ?_
    rintro e w21 ⟨hB, ⟨_, rfl⟩ | ⟨zss3, gq, ch, gbh, vsh, hset3, _, rfl, hsh⟩⟩
    rotate_left
    · exact (hset3.good HBAD.out).elim
    have HB21 := Lib.hid (below_step HB20.out hB)
    have A521 := Lib.hid (below_step A520.out hB)
    have Lgj_21 := Lib.hid (Lgj_20.out.below hB)
    have TK_21 := Lib.hid (TK_20.out.below hB)
    have hz21 := hB.size
    clear hB
    go_wp2_with fail
    refine (eqTermSS_none none (some ⟨gw, 0, none⟩) 0 cw w21).mono ?_
    rintro e w22 ⟨rfl, hB⟩
    have HB22 := Lib.hid (below_step HB21.out hB)
    have A522 := Lib.hid (below_step A521.out hB)
    have Lgj_22 := Lib.hid (Lgj_21.out.below hB)
    have TK_22 := Lib.hid (TK_21.out.below hB)
    have hz22 := hB.size
    clear hB
    go_wp2_with fail
    refine (heldTermSS_none none 0 1 w22).mono ?_
    rintro e w23 ⟨rfl, hB⟩
    have HB23 := Lib.hid (below_step HB22.out hB)
    have A523 := Lib.hid (below_step A522.out hB)
    have Lgj_23 := Lib.hid (Lgj_22.out.below hB)
    have TK_23 := Lib.hid (TK_22.out.below hB)
    have hz23 := hB.size
    clear hB
    go_wp2_with fail
    go_ret
    exact ⟨rfl, HB23.out⟩
  · have HB5 := Lib.hid (below_step HB4.out hB)
    have A55 : Hid (Below w5.heap.size w5 w5) := Lib.hid (Below.refl _ _)
    have HSET := Lib.hid hbi.set
    have LW_5 := Lib.hid (tms_listsD hrd)
    clear hB hbi hrd
    obtain ⟨z, hzl⟩ : ∃ z, z = zss.length := ⟨_, rfl⟩
    have HZL := Lib.hid hzl
    have hz18 : z ≤ 18 := by rw [hzl]; exact HSET.out.small.1
    have HZS : Hid (∀ j (h : j < zss.length), Small1 zss[j]) := Lib.hid (fun j h => (HSET.out.small.2 j h).1)
    have hlz : lensTo zss zss.length ≤ 324 := by
      have := lensTo_le (fun j h => (HSET.out.small.2 j h).2) zss.length (Nat.le_refl _)
      omega
    obtain ⟨LZ, hLZ⟩ : ∃ LZ, LZ = lensTo zss zss.length := ⟨_, rfl⟩
    have HLZ := Lib.hid hLZ
    rw [← hzl]
    clear hzl hLZ
    go_wp2_with fail
    refine (HT.out w5 (HL.out.below HB5.out)).mono ?_
    rintro e w6 ⟨hB, gx, rfl, hgx, hcux, hlx⟩
    have HB6 := Lib.hid (below_step HB5.out hB)
    have A56 := Lib.hid (below_step A55.out hB)
    have LW_6 := Lib.hid (LW_5.out.below hB)
    have hz6 := hB.size
    have Lgx_6 := Lib.hid hlx
    have CUX := Lib.hid hcux
    clear hlx hcux
    clear hB
    have A6_6 : Hid (Below w6.heap.size w6 w6) := Lib.hid (Below.refl _ _)
    go_wp2_with fail
    refine (HT1.out w6 (HL'.out.below HB6.out)).mono ?_
    rintro e w7 ⟨hB, gy, gby, vsy, rfl, hsy⟩
    have HB7 := Lib.hid (below_step HB6.out hB)
    have A57 := Lib.hid (below_step A56.out hB)
    have A6_7 := Lib.hid (below_step A6_6.out hB)
    have LW_7 := Lib.hid (LW_6.out.below hB)
    have Lgx_7 := Lib.hid (Lgx_6.out.below hB)
    have hz7 := hB.size
    have SY_7 := Lib.hid hsy
    have TY_7 := Lib.hid hsy.lists
    clear hsy
    clear hB
    have A7_7 : Hid (Below w7.heap.size w7 w7) := Lib.hid (Below.refl _ _)
    have HB7S := Lib.hid HB7.out.size
    go_wp2_with fail
    refine (HI.out gx gy w7 Lgx_7.out TY_7.out).mono ?_
    rintro e w8 ⟨hB, ⟨hbad, rfl⟩ | ⟨zss2, gg, cg, gbg, vsg, hset2, _, rfl, hsg⟩⟩
    · exact (HSET.out.good hbad).elim
    have hzz := hset2.unique HSET.out
    subst hzz
    have HB8 := Lib.hid (below_step HB7.out hB)
    have A58 := Lib.hid (below_step A57.out hB)
    have A6_8 := Lib.hid (below_step A6_7.out hB)
    have A7_8 := Lib.hid (below_step A7_7.out hB)
    have LW_8 := Lib.hid (LW_7.out.below hB)
    have Lgx_8 := Lib.hid (Lgx_7.out.below hB)
    have TY_8 := Lib.hid (TY_7.out.below hB)
    have SY_8 := Lib.hid (SY_7.out.step hB)
    have hz8 := hB.size
    rw [← HZL.out]
    have SG_8 := Lib.hid hsg
    clear hB hsg hset2
    have A8_8 : Hid (Below w8.heap.size w8 w8) := Lib.hid (Below.refl _ _)
    go_wp2_with fail
    refine (eqTermSS_any zss2 z HZL.out gg gw cg cw w8 (by omega) HZS.out SG_8.out.lists LW_8.out).mono ?_
    rintro e w9 ⟨rfl, hB⟩
    have HB9 := Lib.hid (below_step HB8.out hB)
    have A59 := Lib.hid (below_step A58.out hB)
    have A6_9 := Lib.hid (below_step A6_8.out hB)
    have A7_9 := Lib.hid (below_step A7_8.out hB)
    have A8_9 := Lib.hid (below_step A8_8.out hB)
    have LW_9 := Lib.hid (LW_8.out.below hB)
    have Lgx_9 := Lib.hid (Lgx_8.out.below hB)
    have TY_9 := Lib.hid (TY_8.out.below hB)
    have SY_9 := Lib.hid (SY_8.out.step hB)
    have SG_9 := Lib.hid (SG_8.out.step hB)
    have hz9 := hB.size
    clear hB
    go_wp2_with fail
    refine (HT.out w9 (HL.out.below HB9.out)).mono ?_
    rintro e w10 ⟨hB, gh, rfl, _, _, hlx⟩
    have HB10 := Lib.hid (below_step HB9.out hB)
    have A510 := Lib.hid (below_step A59.out hB)
    have A6_10 := Lib.hid (below_step A6_9.out hB)
    have A7_10 := Lib.hid (below_step A7_9.out hB)
    have A8_10 := Lib.hid (below_step A8_9.out hB)
    have LW_10 := Lib.hid (LW_9.out.below hB)
    have Lgx_10 := Lib.hid (Lgx_9.out.below hB)
    have TY_10 := Lib.hid (TY_9.out.below hB)
    have SY_10 := Lib.hid (SY_9.out.step hB)
    have SG_10 := Lib.hid (SG_9.out.step hB)
    have hz10 := hB.size
    have Lgh_10 := Lib.hid hlx
    clear hlx
    clear hB
    go_wp2_with fail
    refine (HE.out gx gh w10 Lgx_10.out Lgh_10.out).mono ?_
    rintro e w11 ⟨rfl, hB⟩
    have HB11 := Lib.hid (below_step HB10.out hB)
    have A511 := Lib.hid (below_step A510.out hB)
    have A6_11 := Lib.hid (below_step A6_10.out hB)
    have A7_11 := Lib.hid (below_step A7_10.out hB)
    have A8_11 := Lib.hid (below_step A8_10.out hB)
    have LW_11 := Lib.hid (LW_10.out.below hB)
    have Lgx_11 := Lib.hid (Lgx_10.out.below hB)
    have TY_11 := Lib.hid (TY_10.out.below hB)
    have Lgh_11 := Lib.hid (Lgh_10.out.below hB)
    have SY_11 := Lib.hid (SY_10.out.step hB)
    have SG_11 := Lib.hid (SG_10.out.step hB)
    have hz11 := hB.size
    clear hB
    go_wp2_with fail
    refine (HT1.out w11 (HL'.out.below HB11.out)).mono ?_
    rintro e w12 ⟨hB, gi, gbi, vsi, rfl, hsy⟩
    have HB12 := Lib.hid (below_step HB11.out hB)
    have A512 := Lib.hid (below_step A511.out hB)
    have A6_12 := Lib.hid (below_step A6_11.out hB)
    have A7_12 := Lib.hid (below_step A7_11.out hB)
    have A8_12 := Lib.hid (below_step A8_11.out hB)
    have LW_12 := Lib.hid (LW_11.out.below hB)
    have Lgx_12 := Lib.hid (Lgx_11.out.below hB)
    have TY_12 := Lib.hid (TY_11.out.below hB)
    have Lgh_12 := Lib.hid (Lgh_11.out.below hB)
    have SY_12 := Lib.hid (SY_11.out.step hB)
    have SG_12 := Lib.hid (SG_11.out.step hB)
    have hz12 := hB.size
    have TI_12 := Lib.hid hsy.lists
    clear hsy
    clear hB
    go_wp2_with fail
    refine (HE1.out gy gi w12 TY_12.out TI_12.out).mono ?_
    rintro e w13 ⟨rfl, hB⟩
    have HB13 := Lib.hid (below_step HB12.out hB)
    have A513 := Lib.hid (below_step A512.out hB)
    have A6_13 := Lib.hid (below_step A6_12.out hB)
    have A7_13 := Lib.hid (below_step A7_12.out hB)
    have A8_13 := Lib.hid (below_step A8_12.out hB)
    have LW_13 := Lib.hid (LW_12.out.below hB)
    have Lgx_13 := Lib.hid (Lgx_12.out.below hB)
    have TY_13 := Lib.hid (TY_12.out.below hB)
    have Lgh_13 := Lib.hid (Lgh_12.out.below hB)
    have TI_13 := Lib.hid (TI_12.out.below hB)
    have SY_13 := Lib.hid (SY_12.out.step hB)
    have SG_13 := Lib.hid (SG_12.out.step hB)
    have hz13 := hB.size
    clear hB
    obtain ⟨curx, hcu1, hcu2⟩ := CUX.out
    have hgxl : gx < w6.heap.size := (Array.getElem?_eq_some_iff.1 hcu1).1
    have HMK := Lib.hid (markStringT_any n gx n 1 curx w13 hnl (by omega) (by omega) ((A6_13.out.block gx hgxl).trans hcu1) hcu2)
    clear hcu1 hcu2
    go_wp2_with fail
    refine HMK.out.mono ?_
    rintro e w14 ⟨rfl, hgr, _⟩
    have hz14 := hgr.size
    have HB14 : Hid (Below w.heap.size w w14) := Lib.hid (HB13.out.grown hgr HB13.out.size (fun q e => by have := HB5.out.size; simp only [Option.some.injEq] at e; omega))
    have A514 : Hid (Below w5.heap.size w5 w14) := Lib.hid (A513.out.grown hgr (by omega) (fun q e => by simp only [Option.some.injEq] at e; omega))
    have R14 : Hid (∀ b, w6.heap.size ≤ b → b < w13.heap.size → w14.heap[b]? = w13.heap[b]?) := Lib.hid (fun b h1 h2 => hgr.block b h2 (fun e => by simp only [Option.some.injEq] at e; omega))
    have SY_14 := Lib.hid (SY_13.out.same R14.out)
    have SG_14 := Lib.hid (SG_13.out.same (fun b h1 h2 => R14.out b (by omega) h2))
    clear hgr
    have HMS := Lib.hid (markTermSS_any yss m HMM.out w6.heap.size gy m (1 + n) gby vsy w14 (by omega) hml (by omega) (by rw [← HLT.out]; omega) (by rw [← HLT.out]; omega) SY_14.out)
    have HGY : Hid (∀ j, j < yss.length → gby j < w7.heap.size) := Lib.hid (fun j hj => by
      obtain ⟨_, _, _, ⟨cur, h4, _⟩, _⟩ := SY_7.out.row j hj
      exact (Array.getElem?_eq_some_iff.1 h4).1)
    go_wp2_with fail
    refine HMS.out.mono ?_
    rintro e w15 ⟨rfl, hb6, hoth, _⟩
    rw [← HLT.out]
    have hb6s := hb6.size
    have HB15 : Hid (Below w.heap.size w w15) := Lib.hid (HB14.out.trans (hb6.mono (by have := HB5.out.size; omega)))
    have A515 : Hid (Below w5.heap.size w5 w15) := Lib.hid (A514.out.trans (hb6.mono (by omega)))
    have SG_15 := Lib.hid (SG_14.out.same (fun b h1 h2 => hoth b h2 (fun j hj e => by have := HGY.out j hj; omega)))
    clear hb6 hoth hb6s
    have LW_15 := Lib.hid (LW_5.out.below A515.out)
    go_wp2_with fail
    refine (eqTermSS_any zss2 z HZL.out gg gw cg cw w15 (by omega) HZS.out SG_15.out.lists LW_15.out).mono ?_
    rintro e w16 ⟨rfl, hB⟩
    have HB16 := Lib.hid (below_step HB15.out hB)
    have A516 := Lib.hid (below_step A515.out hB)
    have LW_16 := Lib.hid (LW_15.out.below hB)
    have SG_16 := Lib.hid (SG_15.out.step hB)
    have hz16 := hB.size
    clear hB
    have HMG := Lib.hid (markTermSS_any zss2 z HZL.out w7.heap.size gg cg 1 gbg vsg w16 (by have := SG_16.out.own.lt gg rfl; omega) (by omega) (by omega) (by omega) (by omega) SG_16.out)
    go_wp2_with fail
    refine HMG.out.mono ?_
    rintro e w17 ⟨rfl, hb7, _, hmk⟩
    have HB17 : Hid (Below w.heap.size w w17) := Lib.hid (HB16.out.trans (hb7.mono HB7S.out))
    rw [← HLZ.out]
    have A517 : Hid (Below w5.heap.size w5 w17) := Lib.hid (A516.out.trans (hb7.mono (by omega)))
    have MK_17 := Lib.hid hmk
    have LW_17 := Lib.hid (LW_5.out.below A517.out)
    clear hb7 hmk
    go_wp2_with fail
    refine (heldTermSS_any zss2 z HZL.out gg cg 1 gbg w17 (by omega) (by omega) (by omega) (by omega) MK_17.out).mono ?_
    rintro e w18 ⟨rfl, hB⟩
    have HB18 := Lib.hid (below_step HB17.out hB)
    have A518 := Lib.hid (below_step A517.out hB)
    have LW_18 := Lib.hid (LW_17.out.below hB)
    have hz18 := hB.size
    have MK_18 := Lib.hid (fun j hj => marked_belowD (MK_17.out j hj) hB)
    rw [← HLZ.out]
    clear hB
    go_wp2_with fail
    refine (HT.out w18 (HL.out.below HB18.out)).mono ?_
    rintro e w19 ⟨hB, gj, rfl, _, _, hlx⟩
    have HB19 := Lib.hid (below_step HB18.out hB)
    have A519 := Lib.hid (below_step A518.out hB)
    have LW_19 := Lib.hid (LW_18.out.below hB)
    have hz19 := hB.size
    have MK_19 := Lib.hid (fun j hj => marked_belowD (MK_18.out j hj) hB)
    have Lgj_19 := Lib.hid hlx
    clear hlx
    clear hB
    go_wp2_with fail
    refine (HT1.out w19 (HL'.out.below HB19.out)).mono ?_
    rintro e w20 ⟨hB, gk, gbk, vsk, rfl, hsy⟩
    have HB20 := Lib.hid (below_step HB19.out hB)
    have A520 := Lib.hid (below_step A519.out hB)
    have LW_20 := Lib.hid (LW_19.out.below hB)
    have Lgj_20 := Lib.hid (Lgj_19.out.below hB)
    have hz20 := hB.size
    have MK_20 := Lib.hid (fun j hj => marked_belowD (MK_19.out j hj) hB)
    have TK_20 := Lib.hid hsy.lists
    clear hsy
    clear hB
    go_wp2_with fail
    refine (HI.out gj gk w20 Lgj_20.out TK_20.out).mono ?_
    rintro e w21 ⟨hB, ⟨hbad, rfl⟩ | ⟨zss3, gq, ch, gbh, vsh, hset3, _, rfl, hsh⟩⟩
    · exact (HSET.out.good hbad).elim
    have hzz3 := hset3.unique HSET.out
    subst hzz3
    have HB21 := Lib.hid (below_step HB20.out hB)
    have A521 := Lib.hid (below_step A520.out hB)
    have LW_21 := Lib.hid (LW_20.out.below hB)
    have Lgj_21 := Lib.hid (Lgj_20.out.below hB)
    have TK_21 := Lib.hid (TK_20.out.below hB)
    have hz21 := hB.size
    have MK_21 := Lib.hid (fun j hj => marked_belowD (MK_20.out j hj) hB)
    rw [← HZL.out]
    have SH_21 := Lib.hid hsh
    clear hB hsh hset3
    go_wp2_with fail
    refine (eqTermSS_any zss3 z HZL.out gq gw ch cw w21 (by omega) HZS.out SH_21.out.lists LW_21.out).mono ?_
    rintro e w22 ⟨rfl, hB⟩
    have HB22 := Lib.hid (below_step HB21.out hB)
    have A522 := Lib.hid (below_step A521.out hB)
    have LW_22 := Lib.hid (LW_21.out.below hB)
    have Lgj_22 := Lib.hid (Lgj_21.out.below hB)
    have TK_22 := Lib.hid (TK_21.out.below hB)
    have hz22 := hB.size
    have MK_22 := Lib.hid (fun j hj => marked_belowD (MK_21.out j hj) hB)
    clear hB
    go_wp2_with fail
    refine (heldTermSS_any zss3 z HZL.out gg cg 1 gbg w22 (by omega) (by omega) (by omega) (by omega) MK_22.out).mono ?_
    rintro e w23 ⟨rfl, hB⟩
    have HB23 := Lib.hid (below_step HB22.out hB)
    have A523 := Lib.hid (below_step A522.out hB)
    have LW_23 := Lib.hid (LW_22.out.below hB)
    have Lgj_23 := Lib.hid (Lgj_22.out.below hB)
    have TK_23 := Lib.hid (TK_22.out.below hB)
    have hz23 := hB.size
    have MK_23 := Lib.hid (fun j hj => marked_belowD (MK_22.out j hj) hB)
    rw [← HLZ.out]
    clear hB
    go_wp2_with fail
    go_ret
    exact ⟨rfl, HB23.out⟩
end Go.Proofs.YtoeebipahifpcaaGreat
