/- The law of QuadSame. -/
import Derived.Test.YtoeebipahifpcaaGreatQuadSameS
import Derived.Test.YtoeebipahifpcaaGreatKLawQ
import Derived.Test.YtoeebipahifpcaaGreatTermSS
namespace Go.Proofs.YtoeebipahifpcaaGreat
open Go.RowKit

set_option maxRecDepth 100000 in
set_option maxHeartbeats 2000000 in
theorem lawQuadSame_any (ss : List ByteArray) (a : Option Addr) (cap : Nat) (yss : List (List (Int × ByteArray))) (a' : Option Addr) (cap' : Nat) (zs : List (List (Int × ByteArray))) (b' : Option Addr) (cbp : Nat) (w : World) (hl : LiesO w a ss) (hz : ∀ x ∈ ss, x.size ≤ 9223372036854775807) (hn : ss.length ≤ 9223372036854775807)
    (hl' : TermsO w a' yss) (hz' : ∀ j (h : j < yss.length), Open1 yss[j]) (hn' : yss.length ≤ 9223372036854775807)
    (hl3 : TermsO w b' zs) (hz3 : ∀ j (h : j < zs.length), Open1 zs[j]) (hn3 : zs.length ≤ 9223372036854775807) :
    Calls Tryz.prog 6 #[.slice a ss.length cap, .slice a' yss.length cap', .slice b' zs.length cbp] w (Ans (.bool true) w) := by
  have HL := Lib.hid hl
  have HL' := Lib.hid hl'
  have HL3 := Lib.hid hl3
  have HS0 := Lib.hid (szStringS_le ss a cap w hn hz hl)
  have HS1 := Lib.hid (fun (l0 : Int) (h0 : 0 ≤ l0) (h1 : l0 ≤ 1048576) (W : World) (hb : Below w.heap.size w W) => szTermSS_any yss a' cap' l0 W h0 h1 hn' hz' (hl'.below hb))
  have HS2 := Lib.hid (fun (l0 : Int) (h0 : 0 ≤ l0) (h1 : l0 ≤ 1048576) (W : World) (hb : Below w.heap.size w W) => szTermSS_any zs b' cbp l0 W h0 h1 hn3 hz3 (hl3.below hb))
  clear hl hz hl' hz' hl3 hz3
  go_enter Tryz.func6, Tryz.ntmps6
  go_wp2_with fail
  refine HS0.out.mono ?_
  rintro e w1 ⟨hB1, v, rfl, hv | ⟨hv, hvle, hn2, hz2⟩⟩
  · go_wp2_with fail
    go_ret
    exact ⟨rfl, hB1⟩
  have HBa := Lib.hid hB1
  have HZ2 := Lib.hid hz2
  clear hB1 hz2
  go_wp2_with fail
  refine (HS1.out v (by omega) (by omega) w1 HBa.out).mono ?_
  rintro e w2 ⟨hB2, v', rfl, hv' | ⟨hv', hv2', hn2', hz2'⟩⟩
  · have HBb := Lib.hid (below_step HBa.out hB2)
    go_wp2_with fail
    go_ret
    exact ⟨rfl, HBb.out⟩
  have HBb := Lib.hid (below_step HBa.out hB2)
  have HZT := Lib.hid hz2'
  clear hB2 hz2'
  go_wp2_with fail
  refine (HS2.out v' (by omega) (by omega) w2 HBb.out).mono ?_
  rintro e w3 ⟨hB3, v3, rfl, hv3 | ⟨hv3, hv23, hn23, hz23⟩⟩
  · have HBc := Lib.hid (below_step HBb.out hB3)
    go_wp2_with fail
    go_ret
    exact ⟨rfl, HBc.out⟩
  have HB3 := Lib.hid (below_step HBb.out hB3)
  clear hB3
  obtain ⟨n, hnn⟩ : ∃ n, n = ss.length := ⟨_, rfl⟩
  obtain ⟨m, hmm⟩ : ∃ m, m = yss.length := ⟨_, rfl⟩
  obtain ⟨k, hkk⟩ : ∃ k, k = zs.length := ⟨_, rfl⟩
  have HNN := Lib.hid hnn
  have hnl : n ≤ 1048576 := by omega
  have hml : m ≤ 1048576 := by omega
  have hkl : k ≤ 1048576 := by omega
  have hpl : (txl ss).length = n := by rw [txl_length, hnn]
  have HPL := Lib.hid hpl
  have HZ3 := Lib.hid hz23
  have HS : Hid (∀ (g g1 g2 : Nat) (w : World), Lies w (some ⟨g, 0, none⟩) (txl ss) → TermsL w g1 yss → TermsL w g2 zs → Calls Tryz.prog 25 #[.slice (some ⟨g, 0, none⟩) n n, .slice (some ⟨g1, 0, none⟩) m m, .slice (some ⟨g2, 0, none⟩) k k] w (Ans (.bool (quadSame ss yss zs)) w)) :=
    Lib.hid (fun g g1 g2 w h h1 h2 => sQuadSame_any ss yss zs n m k hnn hmm hkk g n g1 m g2 k w hnl hml hkl HZ2.out HZT.out HZ3.out (TxG.of_lies h) h1 h2)
  have HI : Hid (∀ (g g1 g2 : Nat) (w : World), Lies w (some ⟨g, 0, none⟩) (txl ss) → TermsL w g1 yss → TermsL w g2 zs → Calls Tryz.prog 26 #[.slice (some ⟨g, 0, none⟩) n n, .slice (some ⟨g1, 0, none⟩) m m, .slice (some ⟨g2, 0, none⟩) k k] w (Ans (.bool (quadSame ss yss zs)) w)) :=
    Lib.hid (fun g g1 g2 w h h1 h2 => iQuadSame_any ss yss zs n m k hnn hmm hkk g n g1 m g2 k w hnl (Nat.le_refl _) hml hkl HZ2.out HZT.out HZ3.out (TxG.of_lies h) h1 h2)
  have HT : Hid (∀ w, LiesO w a ss → Calls Tryz.prog 10 #[.slice a n cap] w (fun e w' => Below w.heap.size w w' ∧ ∃ g, e = .returned (.slice (some ⟨g, 0, none⟩) n n) ∧ Lies w' (some ⟨g, 0, none⟩) (txl ss))) := Lib.hid (fun w hh => by
    have := toStringT_any ss a cap w hn2 hh
    rw [← HNN.out] at this
    exact this.mono (fun e w' h => by
      obtain ⟨h1, g, h2, h3, h4, h5⟩ := h
      exact ⟨h1, g, by rw [h2, HNN.out], h5⟩))
  have HT1 := Lib.hid (fun w hh => toTermSS_any yss m hmm a' cap' w hml HZT.out hh)
  have HT2 := Lib.hid (fun w hh => toTermSS_any zs k hkk b' cbp w hkl HZ3.out hh)
  have HE : Hid (∀ (g g' : Nat) (w : World), Lies w (some ⟨g, 0, none⟩) (txl ss) → Lies w (some ⟨g', 0, none⟩) (txl ss) → Calls Tryz.prog 14 #[.slice (some ⟨g, 0, none⟩) n n, .slice (some ⟨g', 0, none⟩) n n] w (Ans (.bool true) w)) := Lib.hid (fun g g' w h1 h2 => by
    have := eqStringS_any (txl ss) (some ⟨g, 0, none⟩) (some ⟨g', 0, none⟩) n n w (by rw [HPL.out]; omega) h1 h2
    rw [HPL.out] at this
    exact this)
  have HE1 := Lib.hid (fun g g' w h1 h2 => eqTermSS_any yss m hmm g g' m m w hml HZT.out h1 h2)
  have HE2 := Lib.hid (fun g g' w h1 h2 => eqTermSS_any zs k hkk g g' k k w hkl HZ3.out h1 h2)
  obtain ⟨o, ho⟩ : ∃ o, o = quadSame ss yss zs := ⟨_, rfl⟩
  rw [← ho] at HS HI
  rw [← hnn, ← hmm, ← hkk]
  clear hnn hmm hkk hn2' hn23 hz23 hpl ho hn hn' hn3 hn2 hv2' hv23
  go_wp2_with fail
  refine (HT.out w3 (HL.out.below HB3.out)).mono ?_
  rintro e w4 ⟨hB, ga, rfl, hl⟩
  have HB4 := Lib.hid (below_step HB3.out hB)
  clear hB
  have Lga_4 := Lib.hid hl
  clear hl
  go_wp2_with fail
  refine (HT1.out w4 (HL'.out.below HB4.out)).mono ?_
  rintro e w5 ⟨hB, gb, rfl, hgn, hl⟩
  have HB5 := Lib.hid (below_step HB4.out hB)
  have Lga_5 := Lib.hid (Lga_4.out.below hB)
  clear hB
  have Lgb_5 := Lib.hid hl
  clear hl
  go_wp2_with fail
  refine (HT2.out w5 (HL3.out.below HB5.out)).mono ?_
  rintro e w6 ⟨hB, gc, rfl, hgn, hl⟩
  have HB6 := Lib.hid (below_step HB5.out hB)
  have Lga_6 := Lib.hid (Lga_5.out.below hB)
  have Lgb_6 := Lib.hid (Lgb_5.out.below hB)
  clear hB
  have Lgc_6 := Lib.hid hl
  clear hl
  go_wp2_with fail
  refine (HS.out ga gb gc w6 Lga_6.out Lgb_6.out Lgc_6.out).mono ?_
  rintro e w7 ⟨rfl, hB⟩
  have HB7 := Lib.hid (below_step HB6.out hB)
  have Lga_7 := Lib.hid (Lga_6.out.below hB)
  have Lgb_7 := Lib.hid (Lgb_6.out.below hB)
  have Lgc_7 := Lib.hid (Lgc_6.out.below hB)
  clear hB
  go_wp2_with fail
  refine (HT.out w7 (HL.out.below HB7.out)).mono ?_
  rintro e w8 ⟨hB, gd, rfl, hl⟩
  have HB8 := Lib.hid (below_step HB7.out hB)
  have Lga_8 := Lib.hid (Lga_7.out.below hB)
  have Lgb_8 := Lib.hid (Lgb_7.out.below hB)
  have Lgc_8 := Lib.hid (Lgc_7.out.below hB)
  clear hB
  have Lgd_8 := Lib.hid hl
  clear hl
  go_wp2_with fail
  refine (HT1.out w8 (HL'.out.below HB8.out)).mono ?_
  rintro e w9 ⟨hB, ge, rfl, hgn, hl⟩
  have HB9 := Lib.hid (below_step HB8.out hB)
  have Lga_9 := Lib.hid (Lga_8.out.below hB)
  have Lgb_9 := Lib.hid (Lgb_8.out.below hB)
  have Lgc_9 := Lib.hid (Lgc_8.out.below hB)
  have Lgd_9 := Lib.hid (Lgd_8.out.below hB)
  clear hB
  have Lge_9 := Lib.hid hl
  clear hl
  go_wp2_with fail
  refine (HT2.out w9 (HL3.out.below HB9.out)).mono ?_
  rintro e w10 ⟨hB, gf, rfl, hgn, hl⟩
  have HB10 := Lib.hid (below_step HB9.out hB)
  have Lga_10 := Lib.hid (Lga_9.out.below hB)
  have Lgb_10 := Lib.hid (Lgb_9.out.below hB)
  have Lgc_10 := Lib.hid (Lgc_9.out.below hB)
  have Lgd_10 := Lib.hid (Lgd_9.out.below hB)
  have Lge_10 := Lib.hid (Lge_9.out.below hB)
  clear hB
  have Lgf_10 := Lib.hid hl
  clear hl
  go_wp2_with fail
  refine (HI.out gd ge gf w10 Lgd_10.out Lge_10.out Lgf_10.out).mono ?_
  rintro e w11 ⟨rfl, hB⟩
  have HB11 := Lib.hid (below_step HB10.out hB)
  have Lga_11 := Lib.hid (Lga_10.out.below hB)
  have Lgb_11 := Lib.hid (Lgb_10.out.below hB)
  have Lgc_11 := Lib.hid (Lgc_10.out.below hB)
  have Lgd_11 := Lib.hid (Lgd_10.out.below hB)
  have Lge_11 := Lib.hid (Lge_10.out.below hB)
  have Lgf_11 := Lib.hid (Lgf_10.out.below hB)
  clear hB
  cases o
  all_goals
    go_wp2_with fail
    refine (HT.out w11 (HL.out.below HB11.out)).mono ?_
    rintro e w12 ⟨hB, gg, rfl, hl⟩
    have HB12 := Lib.hid (below_step HB11.out hB)
    have Lga_12 := Lib.hid (Lga_11.out.below hB)
    have Lgb_12 := Lib.hid (Lgb_11.out.below hB)
    have Lgc_12 := Lib.hid (Lgc_11.out.below hB)
    have Lgd_12 := Lib.hid (Lgd_11.out.below hB)
    have Lge_12 := Lib.hid (Lge_11.out.below hB)
    have Lgf_12 := Lib.hid (Lgf_11.out.below hB)
    clear hB
    have Lgg_12 := Lib.hid hl
    clear hl
    go_wp2_with fail
    refine (HE.out gd gg w12 Lgd_12.out Lgg_12.out).mono ?_
    rintro e w13 ⟨rfl, hB⟩
    have HB13 := Lib.hid (below_step HB12.out hB)
    have Lga_13 := Lib.hid (Lga_12.out.below hB)
    have Lgb_13 := Lib.hid (Lgb_12.out.below hB)
    have Lgc_13 := Lib.hid (Lgc_12.out.below hB)
    have Lgd_13 := Lib.hid (Lgd_12.out.below hB)
    have Lge_13 := Lib.hid (Lge_12.out.below hB)
    have Lgf_13 := Lib.hid (Lgf_12.out.below hB)
    have Lgg_13 := Lib.hid (Lgg_12.out.below hB)
    clear hB
    go_wp2_with fail
    refine (HT1.out w13 (HL'.out.below HB13.out)).mono ?_
    rintro e w14 ⟨hB, gh, rfl, hgn, hl⟩
    have HB14 := Lib.hid (below_step HB13.out hB)
    have Lga_14 := Lib.hid (Lga_13.out.below hB)
    have Lgb_14 := Lib.hid (Lgb_13.out.below hB)
    have Lgc_14 := Lib.hid (Lgc_13.out.below hB)
    have Lgd_14 := Lib.hid (Lgd_13.out.below hB)
    have Lge_14 := Lib.hid (Lge_13.out.below hB)
    have Lgf_14 := Lib.hid (Lgf_13.out.below hB)
    have Lgg_14 := Lib.hid (Lgg_13.out.below hB)
    clear hB
    have Lgh_14 := Lib.hid hl
    clear hl
    go_wp2_with fail
    refine (HE1.out ge gh w14 Lge_14.out Lgh_14.out).mono ?_
    rintro e w15 ⟨rfl, hB⟩
    have HB15 := Lib.hid (below_step HB14.out hB)
    have Lga_15 := Lib.hid (Lga_14.out.below hB)
    have Lgb_15 := Lib.hid (Lgb_14.out.below hB)
    have Lgc_15 := Lib.hid (Lgc_14.out.below hB)
    have Lgd_15 := Lib.hid (Lgd_14.out.below hB)
    have Lge_15 := Lib.hid (Lge_14.out.below hB)
    have Lgf_15 := Lib.hid (Lgf_14.out.below hB)
    have Lgg_15 := Lib.hid (Lgg_14.out.below hB)
    have Lgh_15 := Lib.hid (Lgh_14.out.below hB)
    clear hB
    go_wp2_with fail
    refine (HT2.out w15 (HL3.out.below HB15.out)).mono ?_
    rintro e w16 ⟨hB, gi, rfl, hgn, hl⟩
    have HB16 := Lib.hid (below_step HB15.out hB)
    have Lga_16 := Lib.hid (Lga_15.out.below hB)
    have Lgb_16 := Lib.hid (Lgb_15.out.below hB)
    have Lgc_16 := Lib.hid (Lgc_15.out.below hB)
    have Lgd_16 := Lib.hid (Lgd_15.out.below hB)
    have Lge_16 := Lib.hid (Lge_15.out.below hB)
    have Lgf_16 := Lib.hid (Lgf_15.out.below hB)
    have Lgg_16 := Lib.hid (Lgg_15.out.below hB)
    have Lgh_16 := Lib.hid (Lgh_15.out.below hB)
    clear hB
    have Lgi_16 := Lib.hid hl
    clear hl
    go_wp2_with fail
    refine (HE2.out gf gi w16 Lgf_16.out Lgi_16.out).mono ?_
    rintro e w17 ⟨rfl, hB⟩
    have HB17 := Lib.hid (below_step HB16.out hB)
    have Lga_17 := Lib.hid (Lga_16.out.below hB)
    have Lgb_17 := Lib.hid (Lgb_16.out.below hB)
    have Lgc_17 := Lib.hid (Lgc_16.out.below hB)
    have Lgd_17 := Lib.hid (Lgd_16.out.below hB)
    have Lge_17 := Lib.hid (Lge_16.out.below hB)
    have Lgf_17 := Lib.hid (Lgf_16.out.below hB)
    have Lgg_17 := Lib.hid (Lgg_16.out.below hB)
    have Lgh_17 := Lib.hid (Lgh_16.out.below hB)
    have Lgi_17 := Lib.hid (Lgi_16.out.below hB)
    clear hB
    go_wp2_with fail
    go_ret
    exact ⟨rfl, HB17.out⟩
end Go.Proofs.YtoeebipahifpcaaGreat
