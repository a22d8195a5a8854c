/- The promises on series, walked. -/
import Derived.Test.YtnobpckmlhgeiaaPSerD
namespace Go.Proofs.Ytnobpckmlhgeiaa
open Go.RowKit

set_option maxRecDepth 100000 in
set_option maxHeartbeats 4000000 in
theorem pTurn_any (bs : List Nat) (a : Option Addr) (cap : Nat) (w : World) (hl : LiesB w a bs) (h8 : ∀ z ∈ bs, z ≤ 255) (hn : bs.length ≤ 9223372036854775807) (hcap : bs.length ≤ cap) :
    Calls Try.prog 11 #[.slice a bs.length cap] w (Ans (.bool true) w) := by
  obtain ⟨i0, hi0, hz0, hzs, hzb⟩ := info_parts infoNum
  by_cases h : bs.length ≤ 1048576
  case neg =>
    go_enter Try.func11, Try.ntmps11
    go_wp2_with fail
    go_ret
    exact ⟨rfl, Below.refl _ _⟩
  have HD := Lib.hid (dSeriesTurn_any bs a cap w hn hcap h8 hl)
  clear h8 hl
  go_enter Try.func11, Try.ntmps11
  go_wp2_with fail
  refine HD.out.mono ?_
  rintro e w1 ⟨hB1, m, x, c, f, rfl, hm, hr1⟩
  have HB1 := Lib.hid hB1
  have A := Lib.hid hr1
  clear hB1 hr1
  rcases hr : ansTurn m f with _ | r
  · have Hr := Lib.hid hr
    clear hr
    go_wp2_with fail
    refine ((iSeriesTurn_any m f (some ⟨x, 0, none⟩) c w1 (by omega) A.out.o).mono fun _ _ h => h.no Hr.out).mono ?_
    rintro e w2 ⟨hB2, rfl⟩
    have HB2 := Lib.hid (below_step HB1.out hB2)
    have A_2 := Lib.hid (A.out.below hB2)
    clear hB2 
    go_wp2_with fail
    refine ((sSeriesTurn_any m f (some ⟨x, 0, none⟩) c w2 (by omega) A_2.out.o).mono fun _ _ h => h.no Hr.out).mono ?_
    rintro e w3 ⟨hB3, b3, c3, rfl⟩
    have HB3 := Lib.hid (below_step HB2.out hB3)
    have A_3 := Lib.hid (A_2.out.below hB3)
    clear hB3 
    go_wp2_with fail
    refine (same0_any none b3 0 c3 w3).mono ?_
    rintro e w4 ⟨rfl, hB4⟩
    have HB4 := Lib.hid (below_step HB3.out hB4)
    have A_4 := Lib.hid (A_3.out.below hB4)
    clear hB4 
    go_wp2_with fail
    refine (same0_any none b3 0 c3 w4).mono ?_
    rintro e w5 ⟨rfl, hB5⟩
    have HB5 := Lib.hid (below_step HB4.out hB5)
    have A_5 := Lib.hid (A_4.out.below hB5)
    clear hB5 
    go_wp2_with fail
    go_ret
    exact ⟨rfl, HB5.out⟩
  · have Hr := Lib.hid hr
    clear hr
    go_wp2_with fail
    refine ((iSeriesTurn_any m f (some ⟨x, 0, none⟩) c w1 (by omega) A.out.o).mono fun _ _ h => h.yes Hr.out).mono ?_
    rintro e w2 ⟨hB2, x2, c2, rfl, hx2, hr2⟩
    have HB2 := Lib.hid (below_step HB1.out hB2)
    have A_2 := Lib.hid (A.out.below hB2)
    have R := Lib.hid hr2
    clear hB2 hr2
    go_wp2_with fail
    refine ((sSeriesTurn_any m f (some ⟨x, 0, none⟩) c w2 (by omega) A_2.out.o).mono fun _ _ h => h.yes Hr.out).mono ?_
    rintro e w3 ⟨hB3, b3, c3, rfl, hr3⟩
    have HB3 := Lib.hid (below_step HB2.out hB3)
    have A_3 := Lib.hid (A_2.out.below hB3)
    have R_3 := Lib.hid (R.out.below hB3)
    have Q := Lib.hid hr3
    clear hB3 hr3
    go_wp2_with fail
    refine (sameInts_any m r (some ⟨x2, 0, none⟩) b3 c2 c3 w3 (by omega) R_3.out.o Q.out).mono ?_
    rintro e w4 ⟨rfl, hB4⟩
    have HB4 := Lib.hid (below_step HB3.out hB4)
    have A_4 := Lib.hid (A_3.out.below hB4)
    have R_4 := Lib.hid (R_3.out.below hB4)
    have Q_4 := Lib.hid (Q.out.below hB4)
    clear hB4 
    have HE : Hid (ansTurn m r = some (serTurn r)) := Lib.hid (ansTurn_again Hr.out)
    have HF : Hid (∀ j, j < m → serTurn r j = f j) := Lib.hid (ansTurn_back Hr.out)
    go_wp2_with fail
    refine ((iSeriesTurn_any m r (some ⟨x2, 0, none⟩) c2 w4 (by omega) R_4.out.o).mono fun _ _ h => h.yes HE.out).mono ?_
    rintro e w5 ⟨hB5, x5, c5, rfl, hx5, hr5⟩
    have HB5 := Lib.hid (below_step HB4.out hB5)
    have A_5 := Lib.hid (A_4.out.below hB5)
    have R_5 := Lib.hid (R_4.out.below hB5)
    have Q_5 := Lib.hid (Q_4.out.below hB5)
    have U := Lib.hid hr5
    clear hB5 hr5
    go_wp2_with fail
    refine (sameInts_any m f (some ⟨x5, 0, none⟩) (some ⟨x, 0, none⟩) c5 c w5 (by omega) (U.out.congr HF.out).o A_5.out.o).mono ?_
    rintro e w6 ⟨rfl, hB6⟩
    have HB6 := Lib.hid (below_step HB5.out hB6)
    have A_6 := Lib.hid (A_5.out.below hB6)
    have R_6 := Lib.hid (R_5.out.below hB6)
    have Q_6 := Lib.hid (Q_5.out.below hB6)
    have U_6 := Lib.hid (U.out.below hB6)
    clear hB6 
    go_wp2_with fail
    go_ret
    exact ⟨rfl, HB6.out⟩

set_option maxRecDepth 100000 in
set_option maxHeartbeats 4000000 in
theorem pSeriesTimes_any (bs : List Nat) (a : Option Addr) (cap : Nat) (w : World) (hl : LiesB w a bs) (h8 : ∀ z ∈ bs, z ≤ 255) (hn : bs.length ≤ 9223372036854775807) (hcap : bs.length ≤ cap) :
    Calls Try.prog 9 #[.slice a bs.length cap] w (Ans (.bool true) w) := by
  obtain ⟨i0, hi0, hz0, hzs, hzb⟩ := info_parts infoNum
  by_cases h : bs.length ≤ 1048576
  case neg =>
    go_enter Try.func9, Try.ntmps9
    go_wp2_with fail
    go_ret
    exact ⟨rfl, Below.refl _ _⟩
  have HD := Lib.hid (dSeriesTimes_any bs a cap w hn hcap h8 hl)
  clear h8 hl
  go_enter Try.func9, Try.ntmps9
  go_wp2_with fail
  refine HD.out.mono ?_
  rintro e w1 ⟨hB1, m, x, c, f, m2, xg, cg, f2, rfl, hm, hr1, hm2, hr2⟩
  have HB1 := Lib.hid hB1
  have A := Lib.hid hr1
  have G := Lib.hid hr2
  clear hB1 hr1 hr2
  rcases hr : ansTimes m m2 f f2 with _ | r
  · have Hr := Lib.hid hr
    clear hr
    go_wp2_with fail
    refine ((iSeriesTimes_any m m2 f f2 (some ⟨x, 0, none⟩) (some ⟨xg, 0, none⟩) c cg w1 (by omega) (by omega) A.out.o G.out.o).mono fun _ _ h => h.no Hr.out).mono ?_
    rintro e w2 ⟨hB2, rfl⟩
    have HB2 := Lib.hid (below_step HB1.out hB2)
    have A_2 := Lib.hid (A.out.below hB2)
    have G_2 := Lib.hid (G.out.below hB2)
    clear hB2 
    go_wp2_with fail
    refine ((sSeriesTimes_any m m2 f f2 (some ⟨x, 0, none⟩) (some ⟨xg, 0, none⟩) c cg w2 (by omega) (by omega) A_2.out.o G_2.out.o).mono fun _ _ h => h.no Hr.out).mono ?_
    rintro e w3 ⟨hB3, b3, c3, rfl⟩
    have HB3 := Lib.hid (below_step HB2.out hB3)
    have A_3 := Lib.hid (A_2.out.below hB3)
    have G_3 := Lib.hid (G_2.out.below hB3)
    clear hB3 
    go_wp2_with fail
    refine (same0_any none b3 0 c3 w3).mono ?_
    rintro e w4 ⟨rfl, hB4⟩
    have HB4 := Lib.hid (below_step HB3.out hB4)
    have A_4 := Lib.hid (A_3.out.below hB4)
    have G_4 := Lib.hid (G_3.out.below hB4)
    clear hB4 
    go_wp2_with fail
    refine (same0_any none b3 0 c3 w4).mono ?_
    rintro e w5 ⟨rfl, hB5⟩
    have HB5 := Lib.hid (below_step HB4.out hB5)
    have A_5 := Lib.hid (A_4.out.below hB5)
    have G_5 := Lib.hid (G_4.out.below hB5)
    clear hB5 
    go_wp2_with fail
    go_ret
    exact ⟨rfl, HB5.out⟩
  · have Hr := Lib.hid hr
    clear hr
    go_wp2_with fail
    refine ((iSeriesTimes_any m m2 f f2 (some ⟨x, 0, none⟩) (some ⟨xg, 0, none⟩) c cg w1 (by omega) (by omega) A.out.o G.out.o).mono fun _ _ h => h.yes Hr.out).mono ?_
    rintro e w2 ⟨hB2, x2, c2, rfl, hx2, hr2⟩
    have HB2 := Lib.hid (below_step HB1.out hB2)
    have A_2 := Lib.hid (A.out.below hB2)
    have G_2 := Lib.hid (G.out.below hB2)
    have R := Lib.hid hr2
    clear hB2 hr2
    go_wp2_with fail
    refine ((sSeriesTimes_any m m2 f f2 (some ⟨x, 0, none⟩) (some ⟨xg, 0, none⟩) c cg w2 (by omega) (by omega) A_2.out.o G_2.out.o).mono fun _ _ h => h.yes Hr.out).mono ?_
    rintro e w3 ⟨hB3, b3, c3, rfl, hr3⟩
    have HB3 := Lib.hid (below_step HB2.out hB3)
    have A_3 := Lib.hid (A_2.out.below hB3)
    have G_3 := Lib.hid (G_2.out.below hB3)
    have R_3 := Lib.hid (R.out.below hB3)
    have Q := Lib.hid hr3
    clear hB3 hr3
    go_wp2_with fail
    refine (sameInts_any m r (some ⟨x2, 0, none⟩) b3 c2 c3 w3 (by omega) R_3.out.o Q.out).mono ?_
    rintro e w4 ⟨rfl, hB4⟩
    have HB4 := Lib.hid (below_step HB3.out hB4)
    have A_4 := Lib.hid (A_3.out.below hB4)
    have G_4 := Lib.hid (G_3.out.below hB4)
    have R_4 := Lib.hid (R_3.out.below hB4)
    have Q_4 := Lib.hid (Q.out.below hB4)
    clear hB4 
    have HE : Hid (ansTimes m2 m f2 f = some (serMul f2 f)) := Lib.hid (ansTimes_comm Hr.out)
    have HF : Hid (∀ j, j < m → serMul f2 f j = r j) := Lib.hid (ansTimes_eq Hr.out)
    have HM : Hid (m2 = m) := Lib.hid (ansTimes_len Hr.out)
    have hm1 : 1 ≤ m := ansTimes_pos Hr.out
    have HO : Hid (r 0 = 1) := Lib.hid (ansTimes_first Hr.out)
    go_wp2_with fail
    refine ((iSeriesTimes_any m2 m f2 f (some ⟨xg, 0, none⟩) (some ⟨x, 0, none⟩) cg c w4 (by omega) (by omega) G_4.out.o A_4.out.o).mono fun _ _ h => h.yes HE.out).mono ?_
    rintro e w5 ⟨hB5, x5, c5, rfl, hx5, hr5⟩
    have HB5 := Lib.hid (below_step HB4.out hB5)
    have A_5 := Lib.hid (A_4.out.below hB5)
    have G_5 := Lib.hid (G_4.out.below hB5)
    have R_5 := Lib.hid (R_4.out.below hB5)
    have Q_5 := Lib.hid (Q_4.out.below hB5)
    have U := Lib.hid hr5
    clear hB5 hr5
    rw [HM.out]
    go_wp2_with fail
    refine (sameInts_any m r (some ⟨x5, 0, none⟩) (some ⟨x2, 0, none⟩) c5 c2 w5 (by omega) (NumR.congr (by have := U.out; rw [HM.out] at this; exact this) HF.out).o R_5.out.o).mono ?_
    rintro e w6 ⟨rfl, hB6⟩
    have HB6 := Lib.hid (below_step HB5.out hB6)
    have A_6 := Lib.hid (A_5.out.below hB6)
    have G_6 := Lib.hid (G_5.out.below hB6)
    have R_6 := Lib.hid (R_5.out.below hB6)
    have Q_6 := Lib.hid (Q_5.out.below hB6)
    have U_6 := Lib.hid (U.out.below hB6)
    clear hB6 
    have c0 := R_6.out.cell (j := 0) (by omega)
    rw [HO.out] at c0
    go_wp2_with fail
    go_ret
    exact ⟨rfl, HB6.out⟩

set_option maxRecDepth 100000 in
set_option maxHeartbeats 4000000 in
theorem pSeriesDual_any (bs : List Nat) (a : Option Addr) (cap : Nat) (w : World) (hl : LiesB w a bs) (h8 : ∀ z ∈ bs, z ≤ 255) (hn : bs.length ≤ 9223372036854775807) (hcap : bs.length ≤ cap) :
    Calls Try.prog 10 #[.slice a bs.length cap] w (Ans (.bool true) w) := by
  obtain ⟨i0, hi0, hz0, hzs, hzb⟩ := info_parts infoNum
  by_cases h : bs.length ≤ 1048576
  case neg =>
    go_enter Try.func10, Try.ntmps10
    go_wp2_with fail
    go_ret
    exact ⟨rfl, Below.refl _ _⟩
  have HD := Lib.hid (dSeriesDual_any bs a cap w hn hcap h8 hl)
  clear h8 hl
  go_enter Try.func10, Try.ntmps10
  go_wp2_with fail
  refine HD.out.mono ?_
  rintro e w1 ⟨hB1, m, x, c, f, rfl, hm, hr1⟩
  have HB1 := Lib.hid hB1
  have A := Lib.hid hr1
  clear hB1 hr1
  rcases hr : ansDual m f with _ | r
  · have Hr := Lib.hid hr
    clear hr
    go_wp2_with fail
    refine ((iSeriesDual_any m f (some ⟨x, 0, none⟩) c w1 (by omega) A.out.o).mono fun _ _ h => h.no Hr.out).mono ?_
    rintro e w2 ⟨hB2, rfl⟩
    have HB2 := Lib.hid (below_step HB1.out hB2)
    have A_2 := Lib.hid (A.out.below hB2)
    clear hB2 
    go_wp2_with fail
    refine ((sSeriesDual_any m f (some ⟨x, 0, none⟩) c w2 (by omega) A_2.out.o).mono fun _ _ h => h.no Hr.out).mono ?_
    rintro e w3 ⟨hB3, b3, c3, rfl⟩
    have HB3 := Lib.hid (below_step HB2.out hB3)
    have A_3 := Lib.hid (A_2.out.below hB3)
    clear hB3 
    go_wp2_with fail
    refine (same0_any none b3 0 c3 w3).mono ?_
    rintro e w4 ⟨rfl, hB4⟩
    have HB4 := Lib.hid (below_step HB3.out hB4)
    have A_4 := Lib.hid (A_3.out.below hB4)
    clear hB4 
    go_wp2_with fail
    refine (same0_any none b3 0 c3 w4).mono ?_
    rintro e w5 ⟨rfl, hB5⟩
    have HB5 := Lib.hid (below_step HB4.out hB5)
    have A_5 := Lib.hid (A_4.out.below hB5)
    clear hB5 
    go_wp2_with fail
    go_ret
    exact ⟨rfl, HB5.out⟩
  · have Hr := Lib.hid hr
    clear hr
    go_wp2_with fail
    refine ((iSeriesDual_any m f (some ⟨x, 0, none⟩) c w1 (by omega) A.out.o).mono fun _ _ h => h.yes Hr.out).mono ?_
    rintro e w2 ⟨hB2, x2, c2, rfl, hx2, hr2⟩
    have HB2 := Lib.hid (below_step HB1.out hB2)
    have A_2 := Lib.hid (A.out.below hB2)
    have R := Lib.hid hr2
    clear hB2 hr2
    go_wp2_with fail
    refine ((sSeriesDual_any m f (some ⟨x, 0, none⟩) c w2 (by omega) A_2.out.o).mono fun _ _ h => h.yes Hr.out).mono ?_
    rintro e w3 ⟨hB3, b3, c3, rfl, hr3⟩
    have HB3 := Lib.hid (below_step HB2.out hB3)
    have A_3 := Lib.hid (A_2.out.below hB3)
    have R_3 := Lib.hid (R.out.below hB3)
    have Q := Lib.hid hr3
    clear hB3 hr3
    go_wp2_with fail
    refine (sameInts_any m r (some ⟨x2, 0, none⟩) b3 c2 c3 w3 (by omega) R_3.out.o Q.out).mono ?_
    rintro e w4 ⟨rfl, hB4⟩
    have HB4 := Lib.hid (below_step HB3.out hB4)
    have A_4 := Lib.hid (A_3.out.below hB4)
    have R_4 := Lib.hid (R_3.out.below hB4)
    have Q_4 := Lib.hid (Q.out.below hB4)
    clear hB4 
    rcases hv : ansDual m r with _ | v
    · have Hv := Lib.hid hv
      clear hv
      go_wp2_with fail
      refine ((iSeriesDual_any m r (some ⟨x2, 0, none⟩) c2 w4 (by omega) R_4.out.o).mono fun _ _ h => h.no Hv.out).mono ?_
      rintro e w5 ⟨hB5, rfl⟩
      have HB5 := Lib.hid (below_step HB4.out hB5)
      have A_5 := Lib.hid (A_4.out.below hB5)
      have R_5 := Lib.hid (R_4.out.below hB5)
      have Q_5 := Lib.hid (Q_4.out.below hB5)
      clear hB5 
      go_wp2_with fail
      go_ret
      exact ⟨rfl, HB5.out⟩
    · have Hv := Lib.hid hv
      clear hv
      have HF : Hid (∀ j, j < m → v j = f j) := Lib.hid (ansDual_back Hr.out Hv.out)
      go_wp2_with fail
      refine ((iSeriesDual_any m r (some ⟨x2, 0, none⟩) c2 w4 (by omega) R_4.out.o).mono fun _ _ h => h.yes Hv.out).mono ?_
      rintro e w5 ⟨hB5, x5, c5, rfl, hx5, hr5⟩
      have HB5 := Lib.hid (below_step HB4.out hB5)
      have A_5 := Lib.hid (A_4.out.below hB5)
      have R_5 := Lib.hid (R_4.out.below hB5)
      have Q_5 := Lib.hid (Q_4.out.below hB5)
      have V := Lib.hid hr5
      clear hB5 hr5
      go_wp2_with fail
      refine (sameInts_any m f (some ⟨x5, 0, none⟩) (some ⟨x, 0, none⟩) c5 c w5 (by omega) (V.out.congr HF.out).o A_5.out.o).mono ?_
      rintro e w6 ⟨rfl, hB6⟩
      have HB6 := Lib.hid (below_step HB5.out hB6)
      have A_6 := Lib.hid (A_5.out.below hB6)
      have R_6 := Lib.hid (R_5.out.below hB6)
      have Q_6 := Lib.hid (Q_5.out.below hB6)
      have V_6 := Lib.hid (V.out.below hB6)
      clear hB6 
      go_wp2_with fail
      go_ret
      exact ⟨rfl, HB6.out⟩

set_option maxRecDepth 100000 in
set_option maxHeartbeats 4000000 in
theorem pSeries_any (bs : List Nat) (a : Option Addr) (cap : Nat) (w : World) (hl : LiesB w a bs) (h8 : ∀ z ∈ bs, z ≤ 255) (hn : bs.length ≤ 9223372036854775807) (hcap : bs.length ≤ cap) :
    Calls Try.prog 12 #[.slice a bs.length cap] w (Ans (.bool true) w) := by
  obtain ⟨i0, hi0, hz0, hzs, hzb⟩ := info_parts infoNum
  by_cases h : bs.length ≤ 1048576
  case neg =>
    go_enter Try.func12, Try.ntmps12
    go_wp2_with fail
    go_ret
    exact ⟨rfl, Below.refl _ _⟩
  have HD := Lib.hid (dSeriesValid_any bs a cap w hn hcap h8 hl)
  clear h8 hl
  go_enter Try.func12, Try.ntmps12
  go_wp2_with fail
  refine HD.out.mono ?_
  rintro e w1 ⟨hB1, m, x, c, f, rfl, hm, hr1⟩
  have HB1 := Lib.hid hB1
  have A := Lib.hid hr1
  clear hB1 hr1
  rcases hB : serOk m f with _ | _
  · have HV := Lib.hid hB
    clear hB
    go_wp2_with fail
    refine ((iSeriesValid_any m f (some ⟨x, 0, none⟩) c w1 (by omega) A.out.o).mono fun _ _ h => (HV.out ▸ h : Ans (.bool false) _ _ _)).mono ?_
    rintro e w2 ⟨rfl, hB2⟩
    have HB2 := Lib.hid (below_step HB1.out hB2)
    have A_2 := Lib.hid (A.out.below hB2)
    clear hB2 
    go_wp2_with fail
    refine ((sSeriesValid_any m f (some ⟨x, 0, none⟩) c w2 (by omega) A_2.out.o).mono fun _ _ h => (HV.out ▸ h : Ans (.bool false) _ _ _)).mono ?_
    rintro e w3 ⟨rfl, hB3⟩
    have HB3 := Lib.hid (below_step HB2.out hB3)
    have A_3 := Lib.hid (A_2.out.below hB3)
    clear hB3 
    go_wp2_with fail
    go_ret
    exact ⟨rfl, HB3.out⟩
  · have HV := Lib.hid hB
    clear hB
    go_wp2_with fail
    refine ((iSeriesValid_any m f (some ⟨x, 0, none⟩) c w1 (by omega) A.out.o).mono fun _ _ h => (HV.out ▸ h : Ans (.bool true) _ _ _)).mono ?_
    rintro e w2 ⟨rfl, hB2⟩
    have HB2 := Lib.hid (below_step HB1.out hB2)
    have A_2 := Lib.hid (A.out.below hB2)
    clear hB2 
    go_wp2_with fail
    refine ((sSeriesValid_any m f (some ⟨x, 0, none⟩) c w2 (by omega) A_2.out.o).mono fun _ _ h => (HV.out ▸ h : Ans (.bool true) _ _ _)).mono ?_
    rintro e w3 ⟨rfl, hB3⟩
    have HB3 := Lib.hid (below_step HB2.out hB3)
    have A_3 := Lib.hid (A_2.out.below hB3)
    clear hB3 
    have hm1 : 1 ≤ m := (serOk_iff.1 HV.out).1
    go_wp2_with (at_make; refine wpList_make_full _ rfl _ _ 22 rfl w3.heap.size 3 i0 (.int .i64 0) 1 Try.underlying22 hi0 hz0 hzs .i64 .i64 _ _ m rfl rfl rfl rfl ?c1 ?c2 (Nat.le_refl _) ?_)
    case c1 => rw [hzb]; omega
    case c2 => unfold maxLen; omega
    intro w4 hown hgr
    have hr0 : NumR w4 w3.heap.size m (fun _ => 0) := (NumR.of_owns hown (f := fun _ => 0) (fun j hj => by simpa using madeNum_get hj)).1
    have hB0 : Below w3.heap.size w3 w4 := (Below.refl _ _).grown hgr (by omega) (fun k e => by cases e)
    have c0 := hr0.cell (j := 0) (by omega)
    have f0 := hr0.frozen 0
    have hgl4 := hr0.lt
    have hB4 : Below w3.heap.size w3 (w4.setCell ⟨w3.heap.size, 0, none⟩ (.int .i64 1)) := hB0.setCell (p := ⟨w3.heap.size, 0, none⟩) (by simp) _
    have X : Hid (NumR (w4.setCell ⟨w3.heap.size, 0, none⟩ (.int .i64 1)) w3.heap.size m serX) := Lib.hid ((hr0.put (k := 0) 1).congr (fun j hj => by unfold serX; rfl))
    have HB4 := Lib.hid (below_step HB3.out hB4)
    have A_4 := Lib.hid (A_3.out.below hB4)
    clear hown hgr hr0 hB0 hB4
    rcases hu : ansComp m m f serX with _ | u
    · have Hu := Lib.hid hu
      clear hu
      go_wp2_with fail
      refine ((iSeriesCompose_any m m f serX (some ⟨x, 0, none⟩) (some ⟨w3.heap.size, 0, none⟩) c m (w4.setCell ⟨w3.heap.size, 0, none⟩ (.int .i64 1)) (by omega) (by omega) A_4.out.o X.out.o).mono fun _ _ h => h.no Hu.out).mono ?_
      rintro e w5 ⟨hB5, rfl⟩
      have HB5 := Lib.hid (below_step HB4.out hB5)
      have A_5 := Lib.hid (A_4.out.below hB5)
      have X_5 := Lib.hid (X.out.below hB5)
      clear hB5 
      rcases hv : ansComp m m serX f with _ | v
      · have Hv := Lib.hid hv
        clear hv
        go_wp2_with fail
        refine ((iSeriesCompose_any m m serX f (some ⟨w3.heap.size, 0, none⟩) (some ⟨x, 0, none⟩) m c w5 (by omega) (by omega) X_5.out.o A_5.out.o).mono fun _ _ h => h.no Hv.out).mono ?_
        rintro e w6 ⟨hB6, rfl⟩
        have HB6 := Lib.hid (below_step HB5.out hB6)
        have A_6 := Lib.hid (A_5.out.below hB6)
        have X_6 := Lib.hid (X_5.out.below hB6)
        clear hB6 
        go_wp2_with fail
        go_ret
        exact ⟨rfl, HB6.out⟩
      · have Hv := Lib.hid hv
        clear hv
        go_wp2_with fail
        refine ((iSeriesCompose_any m m serX f (some ⟨w3.heap.size, 0, none⟩) (some ⟨x, 0, none⟩) m c w5 (by omega) (by omega) X_5.out.o A_5.out.o).mono fun _ _ h => h.yes Hv.out).mono ?_
        rintro e w6 ⟨hB6, x6, c6, rfl, hx6, hr6⟩
        have HB6 := Lib.hid (below_step HB5.out hB6)
        have A_6 := Lib.hid (A_5.out.below hB6)
        have X_6 := Lib.hid (X_5.out.below hB6)
        have V := Lib.hid hr6
        clear hB6 hr6
        go_wp2_with fail
        refine (sameInts_any m f (some ⟨x6, 0, none⟩) (some ⟨x, 0, none⟩) c6 c w6 (by omega) (V.out.congr (ansX_comp HV.out Hv.out)).o A_6.out.o).mono ?_
        rintro e w7 ⟨rfl, hB7⟩
        have HB7 := Lib.hid (below_step HB6.out hB7)
        have A_7 := Lib.hid (A_6.out.below hB7)
        have X_7 := Lib.hid (X_6.out.below hB7)
        have V_7 := Lib.hid (V.out.below hB7)
        clear hB7 
        go_wp2_with fail
        go_ret
        exact ⟨rfl, HB7.out⟩
    · have Hu := Lib.hid hu
      clear hu
      go_wp2_with fail
      refine ((iSeriesCompose_any m m f serX (some ⟨x, 0, none⟩) (some ⟨w3.heap.size, 0, none⟩) c m (w4.setCell ⟨w3.heap.size, 0, none⟩ (.int .i64 1)) (by omega) (by omega) A_4.out.o X.out.o).mono fun _ _ h => h.yes Hu.out).mono ?_
      rintro e w5 ⟨hB5, x5, c5, rfl, hx5, hr5⟩
      have HB5 := Lib.hid (below_step HB4.out hB5)
      have A_5 := Lib.hid (A_4.out.below hB5)
      have X_5 := Lib.hid (X.out.below hB5)
      have U := Lib.hid hr5
      clear hB5 hr5
      rcases hv : ansComp m m serX f with _ | v
      · have Hv := Lib.hid hv
        clear hv
        go_wp2_with fail
        refine ((iSeriesCompose_any m m serX f (some ⟨w3.heap.size, 0, none⟩) (some ⟨x, 0, none⟩) m c w5 (by omega) (by omega) X_5.out.o A_5.out.o).mono fun _ _ h => h.no Hv.out).mono ?_
        rintro e w6 ⟨hB6, rfl⟩
        have HB6 := Lib.hid (below_step HB5.out hB6)
        have A_6 := Lib.hid (A_5.out.below hB6)
        have X_6 := Lib.hid (X_5.out.below hB6)
        have U_6 := Lib.hid (U.out.below hB6)
        clear hB6 
        go_wp2_with fail
        refine (sameInts_any m f (some ⟨x5, 0, none⟩) (some ⟨x, 0, none⟩) c5 c w6 (by omega) (U_6.out.congr (ansComp_x HV.out Hu.out)).o A_6.out.o).mono ?_
        rintro e w7 ⟨rfl, hB7⟩
        have HB7 := Lib.hid (below_step HB6.out hB7)
        have A_7 := Lib.hid (A_6.out.below hB7)
        have X_7 := Lib.hid (X_6.out.below hB7)
        have U_7 := Lib.hid (U_6.out.below hB7)
        clear hB7 
        go_wp2_with fail
        go_ret
        exact ⟨rfl, HB7.out⟩
      · have Hv := Lib.hid hv
        clear hv
        go_wp2_with fail
        refine ((iSeriesCompose_any m m serX f (some ⟨w3.heap.size, 0, none⟩) (some ⟨x, 0, none⟩) m c w5 (by omega) (by omega) X_5.out.o A_5.out.o).mono fun _ _ h => h.yes Hv.out).mono ?_
        rintro e w6 ⟨hB6, x6, c6, rfl, hx6, hr6⟩
        have HB6 := Lib.hid (below_step HB5.out hB6)
        have A_6 := Lib.hid (A_5.out.below hB6)
        have X_6 := Lib.hid (X_5.out.below hB6)
        have U_6 := Lib.hid (U.out.below hB6)
        have V := Lib.hid hr6
        clear hB6 hr6
        go_wp2_with fail
        refine (sameInts_any m f (some ⟨x5, 0, none⟩) (some ⟨x, 0, none⟩) c5 c w6 (by omega) (U_6.out.congr (ansComp_x HV.out Hu.out)).o A_6.out.o).mono ?_
        rintro e w7 ⟨rfl, hB7⟩
        have HB7 := Lib.hid (below_step HB6.out hB7)
        have A_7 := Lib.hid (A_6.out.below hB7)
        have X_7 := Lib.hid (X_6.out.below hB7)
        have U_7 := Lib.hid (U_6.out.below hB7)
        have V_7 := Lib.hid (V.out.below hB7)
        clear hB7 
        go_wp2_with fail
        refine (sameInts_any m f (some ⟨x6, 0, none⟩) (some ⟨x, 0, none⟩) c6 c w7 (by omega) (V_7.out.congr (ansX_comp HV.out Hv.out)).o A_7.out.o).mono ?_
        rintro e w8 ⟨rfl, hB8⟩
        have HB8 := Lib.hid (below_step HB7.out hB8)
        have A_8 := Lib.hid (A_7.out.below hB8)
        have X_8 := Lib.hid (X_7.out.below hB8)
        have U_8 := Lib.hid (U_7.out.below hB8)
        have V_8 := Lib.hid (V_7.out.below hB8)
        clear hB8 
        go_wp2_with fail
        go_ret
        exact ⟨rfl, HB8.out⟩

set_option maxRecDepth 100000 in
set_option maxHeartbeats 4000000 in
theorem pInverse_any (bs : List Nat) (a : Option Addr) (cap : Nat) (w : World) (hl : LiesB w a bs) (h8 : ∀ z ∈ bs, z ≤ 255) (hn : bs.length ≤ 9223372036854775807) (hcap : bs.length ≤ cap) :
    Calls Try.prog 13 #[.slice a bs.length cap] w (Ans (.bool true) w) := by
  obtain ⟨i0, hi0, hz0, hzs, hzb⟩ := info_parts infoNum
  by_cases h : bs.length ≤ 1048576
  case neg =>
    go_enter Try.func13, Try.ntmps13
    go_wp2_with fail
    go_ret
    exact ⟨rfl, Below.refl _ _⟩
  have HD := Lib.hid (dSeriesInverse_any bs a cap w hn hcap h8 hl)
  clear h8 hl
  go_enter Try.func13, Try.ntmps13
  go_wp2_with fail
  refine HD.out.mono ?_
  rintro e w1 ⟨hB1, m, x, c, f, rfl, hm, hr1⟩
  have HB1 := Lib.hid hB1
  have A := Lib.hid hr1
  clear hB1 hr1
  rcases hr : ansInv m f with _ | r
  · have Hr := Lib.hid hr
    clear hr
    go_wp2_with fail
    refine ((iSeriesInverse_any m f (some ⟨x, 0, none⟩) c w1 (by omega) A.out.o).mono fun _ _ h => h.no Hr.out).mono ?_
    rintro e w2 ⟨hB2, rfl⟩
    have HB2 := Lib.hid (below_step HB1.out hB2)
    have A_2 := Lib.hid (A.out.below hB2)
    clear hB2 
    go_wp2_with fail
    refine ((sSeriesInverse_any m f (some ⟨x, 0, none⟩) c w2 (by omega) A_2.out.o).mono fun _ _ h => h.no Hr.out).mono ?_
    rintro e w3 ⟨hB3, b3, c3, rfl⟩
    have HB3 := Lib.hid (below_step HB2.out hB3)
    have A_3 := Lib.hid (A_2.out.below hB3)
    clear hB3 
    go_wp2_with fail
    refine (same0_any none b3 0 c3 w3).mono ?_
    rintro e w4 ⟨rfl, hB4⟩
    have HB4 := Lib.hid (below_step HB3.out hB4)
    have A_4 := Lib.hid (A_3.out.below hB4)
    clear hB4 
    go_wp2_with fail
    refine (same0_any none b3 0 c3 w4).mono ?_
    rintro e w5 ⟨rfl, hB5⟩
    have HB5 := Lib.hid (below_step HB4.out hB5)
    have A_5 := Lib.hid (A_4.out.below hB5)
    clear hB5 
    go_wp2_with fail
    go_ret
    exact ⟨rfl, HB5.out⟩
  · have Hr := Lib.hid hr
    clear hr
    go_wp2_with fail
    refine ((iSeriesInverse_any m f (some ⟨x, 0, none⟩) c w1 (by omega) A.out.o).mono fun _ _ h => h.yes Hr.out).mono ?_
    rintro e w2 ⟨hB2, x2, c2, rfl, hx2, hr2⟩
    have HB2 := Lib.hid (below_step HB1.out hB2)
    have A_2 := Lib.hid (A.out.below hB2)
    have R := Lib.hid hr2
    clear hB2 hr2
    go_wp2_with fail
    refine ((sSeriesInverse_any m f (some ⟨x, 0, none⟩) c w2 (by omega) A_2.out.o).mono fun _ _ h => h.yes Hr.out).mono ?_
    rintro e w3 ⟨hB3, b3, c3, rfl, hr3⟩
    have HB3 := Lib.hid (below_step HB2.out hB3)
    have A_3 := Lib.hid (A_2.out.below hB3)
    have R_3 := Lib.hid (R.out.below hB3)
    have Q := Lib.hid hr3
    clear hB3 hr3
    go_wp2_with fail
    refine (sameInts_any m r (some ⟨x2, 0, none⟩) b3 c2 c3 w3 (by omega) R_3.out.o Q.out).mono ?_
    rintro e w4 ⟨rfl, hB4⟩
    have HB4 := Lib.hid (below_step HB3.out hB4)
    have A_4 := Lib.hid (A_3.out.below hB4)
    have R_4 := Lib.hid (R_3.out.below hB4)
    have Q_4 := Lib.hid (Q.out.below hB4)
    clear hB4 
    have hm1 : 1 ≤ m := ansInv_pos Hr.out
    go_wp2_with (at_make; refine wpList_make_full _ rfl _ _ 22 rfl w4.heap.size 3 i0 (.int .i64 0) 1 Try.underlying22 hi0 hz0 hzs .i64 .i64 _ _ m rfl rfl rfl rfl ?c1 ?c2 (Nat.le_refl _) ?_)
    case c1 => rw [hzb]; omega
    case c2 => unfold maxLen; omega
    intro w5 hown hgr
    have hr0 : NumR w5 w4.heap.size m (fun _ => 0) := (NumR.of_owns hown (f := fun _ => 0) (fun j hj => by simpa using madeNum_get hj)).1
    have hB0 : Below w4.heap.size w4 w5 := (Below.refl _ _).grown hgr (by omega) (fun k e => by cases e)
    have c0 := hr0.cell (j := 0) (by omega)
    have f0 := hr0.frozen 0
    have hgl5 := hr0.lt
    have hB5 : Below w4.heap.size w4 (w5.setCell ⟨w4.heap.size, 0, none⟩ (.int .i64 1)) := hB0.setCell (p := ⟨w4.heap.size, 0, none⟩) (by simp) _
    have X : Hid (NumR (w5.setCell ⟨w4.heap.size, 0, none⟩ (.int .i64 1)) w4.heap.size m serX) := Lib.hid ((hr0.put (k := 0) 1).congr (fun j hj => by unfold serX; rfl))
    have HB5 := Lib.hid (below_step HB4.out hB5)
    have A_5 := Lib.hid (A_4.out.below hB5)
    have R_5 := Lib.hid (R_4.out.below hB5)
    have Q_5 := Lib.hid (Q_4.out.below hB5)
    clear hown hgr hr0 hB0 hB5
    rcases hu : ansComp m m f r with _ | u
    · have Hu := Lib.hid hu
      clear hu
      go_wp2_with fail
      refine ((iSeriesCompose_any m m f r (some ⟨x, 0, none⟩) (some ⟨x2, 0, none⟩) c c2 (w5.setCell ⟨w4.heap.size, 0, none⟩ (.int .i64 1)) (by omega) (by omega) A_5.out.o R_5.out.o).mono fun _ _ h => h.no Hu.out).mono ?_
      rintro e w6 ⟨hB6, rfl⟩
      have HB6 := Lib.hid (below_step HB5.out hB6)
      have A_6 := Lib.hid (A_5.out.below hB6)
      have R_6 := Lib.hid (R_5.out.below hB6)
      have Q_6 := Lib.hid (Q_5.out.below hB6)
      have X_6 := Lib.hid (X.out.below hB6)
      clear hB6 
      rcases hv : ansComp m m r f with _ | v
      · have Hv := Lib.hid hv
        clear hv
        go_wp2_with fail
        refine ((iSeriesCompose_any m m r f (some ⟨x2, 0, none⟩) (some ⟨x, 0, none⟩) c2 c w6 (by omega) (by omega) R_6.out.o A_6.out.o).mono fun _ _ h => h.no Hv.out).mono ?_
        rintro e w7 ⟨hB7, rfl⟩
        have HB7 := Lib.hid (below_step HB6.out hB7)
        have A_7 := Lib.hid (A_6.out.below hB7)
        have R_7 := Lib.hid (R_6.out.below hB7)
        have Q_7 := Lib.hid (Q_6.out.below hB7)
        have X_7 := Lib.hid (X_6.out.below hB7)
        clear hB7 
        rcases hy : ansInv m r with _ | y
        · have Hy := Lib.hid hy
          clear hy
          go_wp2_with fail
          refine ((iSeriesInverse_any m r (some ⟨x2, 0, none⟩) c2 w7 (by omega) R_7.out.o).mono fun _ _ h => h.no Hy.out).mono ?_
          rintro e w8 ⟨hB8, rfl⟩
          have HB8 := Lib.hid (below_step HB7.out hB8)
          have A_8 := Lib.hid (A_7.out.below hB8)
          have R_8 := Lib.hid (R_7.out.below hB8)
          have Q_8 := Lib.hid (Q_7.out.below hB8)
          have X_8 := Lib.hid (X_7.out.below hB8)
          clear hB8 
          go_wp2_with fail
          go_ret
          exact ⟨rfl, HB8.out⟩
        · have Hy := Lib.hid hy
          clear hy
          go_wp2_with fail
          refine ((iSeriesInverse_any m r (some ⟨x2, 0, none⟩) c2 w7 (by omega) R_7.out.o).mono fun _ _ h => h.yes Hy.out).mono ?_
          rintro e w8 ⟨hB8, x8, c8, rfl, hx8, hr8⟩
          have HB8 := Lib.hid (below_step HB7.out hB8)
          have A_8 := Lib.hid (A_7.out.below hB8)
          have R_8 := Lib.hid (R_7.out.below hB8)
          have Q_8 := Lib.hid (Q_7.out.below hB8)
          have X_8 := Lib.hid (X_7.out.below hB8)
          have Y := Lib.hid hr8
          clear hB8 hr8
          go_wp2_with fail
          refine (sameInts_any m f (some ⟨x8, 0, none⟩) (some ⟨x, 0, none⟩) c8 c w8 (by omega) (Y.out.congr (ansInv_back Hr.out Hy.out)).o A_8.out.o).mono ?_
          rintro e w9 ⟨rfl, hB9⟩
          have HB9 := Lib.hid (below_step HB8.out hB9)
          have A_9 := Lib.hid (A_8.out.below hB9)
          have R_9 := Lib.hid (R_8.out.below hB9)
          have Q_9 := Lib.hid (Q_8.out.below hB9)
          have X_9 := Lib.hid (X_8.out.below hB9)
          have Y_9 := Lib.hid (Y.out.below hB9)
          clear hB9 
          go_wp2_with fail
          go_ret
          exact ⟨rfl, HB9.out⟩
      · have Hv := Lib.hid hv
        clear hv
        go_wp2_with fail
        refine ((iSeriesCompose_any m m r f (some ⟨x2, 0, none⟩) (some ⟨x, 0, none⟩) c2 c w6 (by omega) (by omega) R_6.out.o A_6.out.o).mono fun _ _ h => h.yes Hv.out).mono ?_
        rintro e w7 ⟨hB7, x7, c7, rfl, hx7, hr7⟩
        have HB7 := Lib.hid (below_step HB6.out hB7)
        have A_7 := Lib.hid (A_6.out.below hB7)
        have R_7 := Lib.hid (R_6.out.below hB7)
        have Q_7 := Lib.hid (Q_6.out.below hB7)
        have X_7 := Lib.hid (X_6.out.below hB7)
        have V := Lib.hid hr7
        clear hB7 hr7
        rcases hy : ansInv m r with _ | y
        · have Hy := Lib.hid hy
          clear hy
          go_wp2_with fail
          refine ((iSeriesInverse_any m r (some ⟨x2, 0, none⟩) c2 w7 (by omega) R_7.out.o).mono fun _ _ h => h.no Hy.out).mono ?_
          rintro e w8 ⟨hB8, rfl⟩
          have HB8 := Lib.hid (below_step HB7.out hB8)
          have A_8 := Lib.hid (A_7.out.below hB8)
          have R_8 := Lib.hid (R_7.out.below hB8)
          have Q_8 := Lib.hid (Q_7.out.below hB8)
          have X_8 := Lib.hid (X_7.out.below hB8)
          have V_8 := Lib.hid (V.out.below hB8)
          clear hB8 
          go_wp2_with fail
          refine (sameInts_any m serX (some ⟨x7, 0, none⟩) (some ⟨w4.heap.size, 0, none⟩) c7 m w8 (by omega) (V_8.out.congr (ansInv_left Hr.out Hv.out)).o X_8.out.o).mono ?_
          rintro e w9 ⟨rfl, hB9⟩
          have HB9 := Lib.hid (below_step HB8.out hB9)
          have A_9 := Lib.hid (A_8.out.below hB9)
          have R_9 := Lib.hid (R_8.out.below hB9)
          have Q_9 := Lib.hid (Q_8.out.below hB9)
          have X_9 := Lib.hid (X_8.out.below hB9)
          have V_9 := Lib.hid (V_8.out.below hB9)
          clear hB9 
          go_wp2_with fail
          go_ret
          exact ⟨rfl, HB9.out⟩
        · have Hy := Lib.hid hy
          clear hy
          go_wp2_with fail
          refine ((iSeriesInverse_any m r (some ⟨x2, 0, none⟩) c2 w7 (by omega) R_7.out.o).mono fun _ _ h => h.yes Hy.out).mono ?_
          rintro e w8 ⟨hB8, x8, c8, rfl, hx8, hr8⟩
          have HB8 := Lib.hid (below_step HB7.out hB8)
          have A_8 := Lib.hid (A_7.out.below hB8)
          have R_8 := Lib.hid (R_7.out.below hB8)
          have Q_8 := Lib.hid (Q_7.out.below hB8)
          have X_8 := Lib.hid (X_7.out.below hB8)
          have V_8 := Lib.hid (V.out.below hB8)
          have Y := Lib.hid hr8
          clear hB8 hr8
          go_wp2_with fail
          refine (sameInts_any m serX (some ⟨x7, 0, none⟩) (some ⟨w4.heap.size, 0, none⟩) c7 m w8 (by omega) (V_8.out.congr (ansInv_left Hr.out Hv.out)).o X_8.out.o).mono ?_
          rintro e w9 ⟨rfl, hB9⟩
          have HB9 := Lib.hid (below_step HB8.out hB9)
          have A_9 := Lib.hid (A_8.out.below hB9)
          have R_9 := Lib.hid (R_8.out.below hB9)
          have Q_9 := Lib.hid (Q_8.out.below hB9)
          have X_9 := Lib.hid (X_8.out.below hB9)
          have V_9 := Lib.hid (V_8.out.below hB9)
          have Y_9 := Lib.hid (Y.out.below hB9)
          clear hB9 
          go_wp2_with fail
          refine (sameInts_any m f (some ⟨x8, 0, none⟩) (some ⟨x, 0, none⟩) c8 c w9 (by omega) (Y_9.out.congr (ansInv_back Hr.out Hy.out)).o A_9.out.o).mono ?_
          rintro e w10 ⟨rfl, hB10⟩
          have HB10 := Lib.hid (below_step HB9.out hB10)
          have A_10 := Lib.hid (A_9.out.below hB10)
          have R_10 := Lib.hid (R_9.out.below hB10)
          have Q_10 := Lib.hid (Q_9.out.below hB10)
          have X_10 := Lib.hid (X_9.out.below hB10)
          have V_10 := Lib.hid (V_9.out.below hB10)
          have Y_10 := Lib.hid (Y_9.out.below hB10)
          clear hB10 
          go_wp2_with fail
          go_ret
          exact ⟨rfl, HB10.out⟩
    · have Hu := Lib.hid hu
      clear hu
      go_wp2_with fail
      refine ((iSeriesCompose_any m m f r (some ⟨x, 0, none⟩) (some ⟨x2, 0, none⟩) c c2 (w5.setCell ⟨w4.heap.size, 0, none⟩ (.int .i64 1)) (by omega) (by omega) A_5.out.o R_5.out.o).mono fun _ _ h => h.yes Hu.out).mono ?_
      rintro e w6 ⟨hB6, x6, c6, rfl, hx6, hr6⟩
      have HB6 := Lib.hid (below_step HB5.out hB6)
      have A_6 := Lib.hid (A_5.out.below hB6)
      have R_6 := Lib.hid (R_5.out.below hB6)
      have Q_6 := Lib.hid (Q_5.out.below hB6)
      have X_6 := Lib.hid (X.out.below hB6)
      have U := Lib.hid hr6
      clear hB6 hr6
      rcases hv : ansComp m m r f with _ | v
      · have Hv := Lib.hid hv
        clear hv
        go_wp2_with fail
        refine ((iSeriesCompose_any m m r f (some ⟨x2, 0, none⟩) (some ⟨x, 0, none⟩) c2 c w6 (by omega) (by omega) R_6.out.o A_6.out.o).mono fun _ _ h => h.no Hv.out).mono ?_
        rintro e w7 ⟨hB7, rfl⟩
        have HB7 := Lib.hid (below_step HB6.out hB7)
        have A_7 := Lib.hid (A_6.out.below hB7)
        have R_7 := Lib.hid (R_6.out.below hB7)
        have Q_7 := Lib.hid (Q_6.out.below hB7)
        have X_7 := Lib.hid (X_6.out.below hB7)
        have U_7 := Lib.hid (U.out.below hB7)
        clear hB7 
        rcases hy : ansInv m r with _ | y
        · have Hy := Lib.hid hy
          clear hy
          go_wp2_with fail
          refine ((iSeriesInverse_any m r (some ⟨x2, 0, none⟩) c2 w7 (by omega) R_7.out.o).mono fun _ _ h => h.no Hy.out).mono ?_
          rintro e w8 ⟨hB8, rfl⟩
          have HB8 := Lib.hid (below_step HB7.out hB8)
          have A_8 := Lib.hid (A_7.out.below hB8)
          have R_8 := Lib.hid (R_7.out.below hB8)
          have Q_8 := Lib.hid (Q_7.out.below hB8)
          have X_8 := Lib.hid (X_7.out.below hB8)
          have U_8 := Lib.hid (U_7.out.below hB8)
          clear hB8 
          go_wp2_with fail
          refine (sameInts_any m serX (some ⟨x6, 0, none⟩) (some ⟨w4.heap.size, 0, none⟩) c6 m w8 (by omega) (U_8.out.congr (ansInv_right Hr.out Hu.out)).o X_8.out.o).mono ?_
          rintro e w9 ⟨rfl, hB9⟩
          have HB9 := Lib.hid (below_step HB8.out hB9)
          have A_9 := Lib.hid (A_8.out.below hB9)
          have R_9 := Lib.hid (R_8.out.below hB9)
          have Q_9 := Lib.hid (Q_8.out.below hB9)
          have X_9 := Lib.hid (X_8.out.below hB9)
          have U_9 := Lib.hid (U_8.out.below hB9)
          clear hB9 
          go_wp2_with fail
          go_ret
          exact ⟨rfl, HB9.out⟩
        · have Hy := Lib.hid hy
          clear hy
          go_wp2_with fail
          refine ((iSeriesInverse_any m r (some ⟨x2, 0, none⟩) c2 w7 (by omega) R_7.out.o).mono fun _ _ h => h.yes Hy.out).mono ?_
          rintro e w8 ⟨hB8, x8, c8, rfl, hx8, hr8⟩
          have HB8 := Lib.hid (below_step HB7.out hB8)
          have A_8 := Lib.hid (A_7.out.below hB8)
          have R_8 := Lib.hid (R_7.out.below hB8)
          have Q_8 := Lib.hid (Q_7.out.below hB8)
          have X_8 := Lib.hid (X_7.out.below hB8)
          have U_8 := Lib.hid (U_7.out.below hB8)
          have Y := Lib.hid hr8
          clear hB8 hr8
          go_wp2_with fail
          refine (sameInts_any m serX (some ⟨x6, 0, none⟩) (some ⟨w4.heap.size, 0, none⟩) c6 m w8 (by omega) (U_8.out.congr (ansInv_right Hr.out Hu.out)).o X_8.out.o).mono ?_
          rintro e w9 ⟨rfl, hB9⟩
          have HB9 := Lib.hid (below_step HB8.out hB9)
          have A_9 := Lib.hid (A_8.out.below hB9)
          have R_9 := Lib.hid (R_8.out.below hB9)
          have Q_9 := Lib.hid (Q_8.out.below hB9)
          have X_9 := Lib.hid (X_8.out.below hB9)
          have U_9 := Lib.hid (U_8.out.below hB9)
          have Y_9 := Lib.hid (Y.out.below hB9)
          clear hB9 
          go_wp2_with fail
          refine (sameInts_any m f (some ⟨x8, 0, none⟩) (some ⟨x, 0, none⟩) c8 c w9 (by omega) (Y_9.out.congr (ansInv_back Hr.out Hy.out)).o A_9.out.o).mono ?_
          rintro e w10 ⟨rfl, hB10⟩
          have HB10 := Lib.hid (below_step HB9.out hB10)
          have A_10 := Lib.hid (A_9.out.below hB10)
          have R_10 := Lib.hid (R_9.out.below hB10)
          have Q_10 := Lib.hid (Q_9.out.below hB10)
          have X_10 := Lib.hid (X_9.out.below hB10)
          have U_10 := Lib.hid (U_9.out.below hB10)
          have Y_10 := Lib.hid (Y_9.out.below hB10)
          clear hB10 
          go_wp2_with fail
          go_ret
          exact ⟨rfl, HB10.out⟩
      · have Hv := Lib.hid hv
        clear hv
        go_wp2_with fail
        refine ((iSeriesCompose_any m m r f (some ⟨x2, 0, none⟩) (some ⟨x, 0, none⟩) c2 c w6 (by omega) (by omega) R_6.out.o A_6.out.o).mono fun _ _ h => h.yes Hv.out).mono ?_
        rintro e w7 ⟨hB7, x7, c7, rfl, hx7, hr7⟩
        have HB7 := Lib.hid (below_step HB6.out hB7)
        have A_7 := Lib.hid (A_6.out.below hB7)
        have R_7 := Lib.hid (R_6.out.below hB7)
        have Q_7 := Lib.hid (Q_6.out.below hB7)
        have X_7 := Lib.hid (X_6.out.below hB7)
        have U_7 := Lib.hid (U.out.below hB7)
        have V := Lib.hid hr7
        clear hB7 hr7
        rcases hy : ansInv m r with _ | y
        · have Hy := Lib.hid hy
          clear hy
          go_wp2_with fail
          refine ((iSeriesInverse_any m r (some ⟨x2, 0, none⟩) c2 w7 (by omega) R_7.out.o).mono fun _ _ h => h.no Hy.out).mono ?_
          rintro e w8 ⟨hB8, rfl⟩
          have HB8 := Lib.hid (below_step HB7.out hB8)
          have A_8 := Lib.hid (A_7.out.below hB8)
          have R_8 := Lib.hid (R_7.out.below hB8)
          have Q_8 := Lib.hid (Q_7.out.below hB8)
          have X_8 := Lib.hid (X_7.out.below hB8)
          have U_8 := Lib.hid (U_7.out.below hB8)
          have V_8 := Lib.hid (V.out.below hB8)
          clear hB8 
          go_wp2_with fail
          refine (sameInts_any m serX (some ⟨x6, 0, none⟩) (some ⟨w4.heap.size, 0, none⟩) c6 m w8 (by omega) (U_8.out.congr (ansInv_right Hr.out Hu.out)).o X_8.out.o).mono ?_
          rintro e w9 ⟨rfl, hB9⟩
          have HB9 := Lib.hid (below_step HB8.out hB9)
          have A_9 := Lib.hid (A_8.out.below hB9)
          have R_9 := Lib.hid (R_8.out.below hB9)
          have Q_9 := Lib.hid (Q_8.out.below hB9)
          have X_9 := Lib.hid (X_8.out.below hB9)
          have U_9 := Lib.hid (U_8.out.below hB9)
          have V_9 := Lib.hid (V_8.out.below hB9)
          clear hB9 
          go_wp2_with fail
          refine (sameInts_any m serX (some ⟨x7, 0, none⟩) (some ⟨w4.heap.size, 0, none⟩) c7 m w9 (by omega) (V_9.out.congr (ansInv_left Hr.out Hv.out)).o X_9.out.o).mono ?_
          rintro e w10 ⟨rfl, hB10⟩
          have HB10 := Lib.hid (below_step HB9.out hB10)
          have A_10 := Lib.hid (A_9.out.below hB10)
          have R_10 := Lib.hid (R_9.out.below hB10)
          have Q_10 := Lib.hid (Q_9.out.below hB10)
          have X_10 := Lib.hid (X_9.out.below hB10)
          have U_10 := Lib.hid (U_9.out.below hB10)
          have V_10 := Lib.hid (V_9.out.below hB10)
          clear hB10 
          go_wp2_with fail
          go_ret
          exact ⟨rfl, HB10.out⟩
        · have Hy := Lib.hid hy
          clear hy
          go_wp2_with fail
          refine ((iSeriesInverse_any m r (some ⟨x2, 0, none⟩) c2 w7 (by omega) R_7.out.o).mono fun _ _ h => h.yes Hy.out).mono ?_
          rintro e w8 ⟨hB8, x8, c8, rfl, hx8, hr8⟩
          have HB8 := Lib.hid (below_step HB7.out hB8)
          have A_8 := Lib.hid (A_7.out.below hB8)
          have R_8 := Lib.hid (R_7.out.below hB8)
          have Q_8 := Lib.hid (Q_7.out.below hB8)
          have X_8 := Lib.hid (X_7.out.below hB8)
          have U_8 := Lib.hid (U_7.out.below hB8)
          have V_8 := Lib.hid (V.out.below hB8)
          have Y := Lib.hid hr8
          clear hB8 hr8
          go_wp2_with fail
          refine (sameInts_any m serX (some ⟨x6, 0, none⟩) (some ⟨w4.heap.size, 0, none⟩) c6 m w8 (by omega) (U_8.out.congr (ansInv_right Hr.out Hu.out)).o X_8.out.o).mono ?_
          rintro e w9 ⟨rfl, hB9⟩
          have HB9 := Lib.hid (below_step HB8.out hB9)
          have A_9 := Lib.hid (A_8.out.below hB9)
          have R_9 := Lib.hid (R_8.out.below hB9)
          have Q_9 := Lib.hid (Q_8.out.below hB9)
          have X_9 := Lib.hid (X_8.out.below hB9)
          have U_9 := Lib.hid (U_8.out.below hB9)
          have V_9 := Lib.hid (V_8.out.below hB9)
          have Y_9 := Lib.hid (Y.out.below hB9)
          clear hB9 
          go_wp2_with fail
          refine (sameInts_any m serX (some ⟨x7, 0, none⟩) (some ⟨w4.heap.size, 0, none⟩) c7 m w9 (by omega) (V_9.out.congr (ansInv_left Hr.out Hv.out)).o X_9.out.o).mono ?_
          rintro e w10 ⟨rfl, hB10⟩
          have HB10 := Lib.hid (below_step HB9.out hB10)
          have A_10 := Lib.hid (A_9.out.below hB10)
          have R_10 := Lib.hid (R_9.out.below hB10)
          have Q_10 := Lib.hid (Q_9.out.below hB10)
          have X_10 := Lib.hid (X_9.out.below hB10)
          have U_10 := Lib.hid (U_9.out.below hB10)
          have V_10 := Lib.hid (V_9.out.below hB10)
          have Y_10 := Lib.hid (Y_9.out.below hB10)
          clear hB10 
          go_wp2_with fail
          refine (sameInts_any m f (some ⟨x8, 0, none⟩) (some ⟨x, 0, none⟩) c8 c w10 (by omega) (Y_10.out.congr (ansInv_back Hr.out Hy.out)).o A_10.out.o).mono ?_
          rintro e w11 ⟨rfl, hB11⟩
          have HB11 := Lib.hid (below_step HB10.out hB11)
          have A_11 := Lib.hid (A_10.out.below hB11)
          have R_11 := Lib.hid (R_10.out.below hB11)
          have Q_11 := Lib.hid (Q_10.out.below hB11)
          have X_11 := Lib.hid (X_10.out.below hB11)
          have U_11 := Lib.hid (U_10.out.below hB11)
          have V_11 := Lib.hid (V_10.out.below hB11)
          have Y_11 := Lib.hid (Y_10.out.below hB11)
          clear hB11 
          go_wp2_with fail
          go_ret
          exact ⟨rfl, HB11.out⟩

set_option maxRecDepth 100000 in
set_option maxHeartbeats 4000000 in
theorem pCompose_any (bs : List Nat) (a : Option Addr) (cap : Nat) (w : World) (hl : LiesB w a bs) (h8 : ∀ z ∈ bs, z ≤ 255) (hn : bs.length ≤ 9223372036854775807) (hcap : bs.length ≤ cap) :
    Calls Try.prog 14 #[.slice a bs.length cap] w (Ans (.bool true) w) := by
  obtain ⟨i0, hi0, hz0, hzs, hzb⟩ := info_parts infoNum
  by_cases h : bs.length ≤ 1048576
  case neg =>
    go_enter Try.func14, Try.ntmps14
    go_wp2_with fail
    go_ret
    exact ⟨rfl, Below.refl _ _⟩
  have HD := Lib.hid (dSeriesCompose_any bs a cap w hn hcap h8 hl)
  clear h8 hl
  go_enter Try.func14, Try.ntmps14
  go_wp2_with fail
  refine HD.out.mono ?_
  rintro e w1 ⟨hB1, m, x, c, f, m2, xg, cg, f2, rfl, hm, hr1, hm2, hr2⟩
  have HB1 := Lib.hid hB1
  have A := Lib.hid hr1
  have G := Lib.hid hr2
  clear hB1 hr1 hr2
  rcases hr : ansComp m m2 f f2 with _ | r
  · have Hr := Lib.hid hr
    clear hr
    go_wp2_with fail
    refine ((iSeriesCompose_any m m2 f f2 (some ⟨x, 0, none⟩) (some ⟨xg, 0, none⟩) c cg w1 (by omega) (by omega) A.out.o G.out.o).mono fun _ _ h => h.no Hr.out).mono ?_
    rintro e w2 ⟨hB2, rfl⟩
    have HB2 := Lib.hid (below_step HB1.out hB2)
    have A_2 := Lib.hid (A.out.below hB2)
    have G_2 := Lib.hid (G.out.below hB2)
    clear hB2 
    go_wp2_with fail
    refine ((sSeriesCompose_any m m2 f f2 (some ⟨x, 0, none⟩) (some ⟨xg, 0, none⟩) c cg w2 (by omega) (by omega) A_2.out.o G_2.out.o).mono fun _ _ h => h.no Hr.out).mono ?_
    rintro e w3 ⟨hB3, b3, c3, rfl⟩
    have HB3 := Lib.hid (below_step HB2.out hB3)
    have A_3 := Lib.hid (A_2.out.below hB3)
    have G_3 := Lib.hid (G_2.out.below hB3)
    clear hB3 
    go_wp2_with fail
    refine (same0_any none b3 0 c3 w3).mono ?_
    rintro e w4 ⟨rfl, hB4⟩
    have HB4 := Lib.hid (below_step HB3.out hB4)
    have A_4 := Lib.hid (A_3.out.below hB4)
    have G_4 := Lib.hid (G_3.out.below hB4)
    clear hB4 
    go_wp2_with fail
    refine (same0_any none b3 0 c3 w4).mono ?_
    rintro e w5 ⟨rfl, hB5⟩
    have HB5 := Lib.hid (below_step HB4.out hB5)
    have A_5 := Lib.hid (A_4.out.below hB5)
    have G_5 := Lib.hid (G_4.out.below hB5)
    clear hB5 
    go_wp2_with fail
    go_ret
    exact ⟨rfl, HB5.out⟩
  · have Hr := Lib.hid hr
    clear hr
    go_wp2_with fail
    refine ((iSeriesCompose_any m m2 f f2 (some ⟨x, 0, none⟩) (some ⟨xg, 0, none⟩) c cg w1 (by omega) (by omega) A.out.o G.out.o).mono fun _ _ h => h.yes Hr.out).mono ?_
    rintro e w2 ⟨hB2, x2, c2, rfl, hx2, hr2⟩
    have HB2 := Lib.hid (below_step HB1.out hB2)
    have A_2 := Lib.hid (A.out.below hB2)
    have G_2 := Lib.hid (G.out.below hB2)
    have R := Lib.hid hr2
    clear hB2 hr2
    go_wp2_with fail
    refine ((sSeriesCompose_any m m2 f f2 (some ⟨x, 0, none⟩) (some ⟨xg, 0, none⟩) c cg w2 (by omega) (by omega) A_2.out.o G_2.out.o).mono fun _ _ h => h.yes Hr.out).mono ?_
    rintro e w3 ⟨hB3, b3, c3, rfl, hr3⟩
    have HB3 := Lib.hid (below_step HB2.out hB3)
    have A_3 := Lib.hid (A_2.out.below hB3)
    have G_3 := Lib.hid (G_2.out.below hB3)
    have R_3 := Lib.hid (R.out.below hB3)
    have Q := Lib.hid hr3
    clear hB3 hr3
    go_wp2_with fail
    refine (sameInts_any m r (some ⟨x2, 0, none⟩) b3 c2 c3 w3 (by omega) R_3.out.o Q.out).mono ?_
    rintro e w4 ⟨rfl, hB4⟩
    have HB4 := Lib.hid (below_step HB3.out hB4)
    have A_4 := Lib.hid (A_3.out.below hB4)
    have G_4 := Lib.hid (G_3.out.below hB4)
    have R_4 := Lib.hid (R_3.out.below hB4)
    have Q_4 := Lib.hid (Q.out.below hB4)
    clear hB4 
    have HM : Hid (m2 = m) := Lib.hid (ansComp_len Hr.out)
    rcases hu : ansComp m m2 r f2 with _ | u
    · have Hu := Lib.hid hu
      clear hu
      go_wp2_with fail
      refine ((iSeriesCompose_any m m2 r f2 (some ⟨x2, 0, none⟩) (some ⟨xg, 0, none⟩) c2 cg w4 (by omega) (by omega) R_4.out.o G_4.out.o).mono fun _ _ h => h.no Hu.out).mono ?_
      rintro e w5 ⟨hB5, rfl⟩
      have HB5 := Lib.hid (below_step HB4.out hB5)
      have A_5 := Lib.hid (A_4.out.below hB5)
      have G_5 := Lib.hid (G_4.out.below hB5)
      have R_5 := Lib.hid (R_4.out.below hB5)
      have Q_5 := Lib.hid (Q_4.out.below hB5)
      clear hB5 
      rcases hv : ansComp m2 m2 f2 f2 with _ | v
      · have Hv := Lib.hid hv
        clear hv
        go_wp2_with fail
        refine ((iSeriesCompose_any m2 m2 f2 f2 (some ⟨xg, 0, none⟩) (some ⟨xg, 0, none⟩) cg cg w5 (by omega) (by omega) G_5.out.o G_5.out.o).mono fun _ _ h => h.no Hv.out).mono ?_
        rintro e w6 ⟨hB6, rfl⟩
        have HB6 := Lib.hid (below_step HB5.out hB6)
        have A_6 := Lib.hid (A_5.out.below hB6)
        have G_6 := Lib.hid (G_5.out.below hB6)
        have R_6 := Lib.hid (R_5.out.below hB6)
        have Q_6 := Lib.hid (Q_5.out.below hB6)
        clear hB6 
        have hz : ansComp m 0 f (fun _ => 0) = none := ansComp_zero m f
        have HZ := Lib.hid hz
        clear hz
        go_wp2_with fail
        refine ((iSeriesCompose_any m 0 f (fun _ => 0) (some ⟨x, 0, none⟩) none c 0 w6 (by omega) (by omega) A_6.out.o (fun j hj => by omega)).mono fun _ _ h => h.no HZ.out).mono ?_
        rintro e w7 ⟨hB7, rfl⟩
        have HB7 := Lib.hid (below_step HB6.out hB7)
        have A_7 := Lib.hid (A_6.out.below hB7)
        have G_7 := Lib.hid (G_6.out.below hB7)
        have R_7 := Lib.hid (R_6.out.below hB7)
        have Q_7 := Lib.hid (Q_6.out.below hB7)
        clear hB7 
        go_wp2_with fail
        go_ret
        exact ⟨rfl, HB7.out⟩
      · have Hv := Lib.hid hv
        clear hv
        go_wp2_with fail
        refine ((iSeriesCompose_any m2 m2 f2 f2 (some ⟨xg, 0, none⟩) (some ⟨xg, 0, none⟩) cg cg w5 (by omega) (by omega) G_5.out.o G_5.out.o).mono fun _ _ h => h.yes Hv.out).mono ?_
        rintro e w6 ⟨hB6, x6, c6, rfl, hx6, hr6⟩
        have HB6 := Lib.hid (below_step HB5.out hB6)
        have A_6 := Lib.hid (A_5.out.below hB6)
        have G_6 := Lib.hid (G_5.out.below hB6)
        have R_6 := Lib.hid (R_5.out.below hB6)
        have Q_6 := Lib.hid (Q_5.out.below hB6)
        have V := Lib.hid hr6
        clear hB6 hr6
        rcases hy : ansComp m m2 f v with _ | y
        · have Hy := Lib.hid hy
          clear hy
          go_wp2_with fail
          refine ((iSeriesCompose_any m m2 f v (some ⟨x, 0, none⟩) (some ⟨x6, 0, none⟩) c c6 w6 (by omega) (by omega) A_6.out.o V.out.o).mono fun _ _ h => h.no Hy.out).mono ?_
          rintro e w7 ⟨hB7, rfl⟩
          have HB7 := Lib.hid (below_step HB6.out hB7)
          have A_7 := Lib.hid (A_6.out.below hB7)
          have G_7 := Lib.hid (G_6.out.below hB7)
          have R_7 := Lib.hid (R_6.out.below hB7)
          have Q_7 := Lib.hid (Q_6.out.below hB7)
          have V_7 := Lib.hid (V.out.below hB7)
          clear hB7 
          go_wp2_with fail
          go_ret
          exact ⟨rfl, HB7.out⟩
        · have Hy := Lib.hid hy
          clear hy
          go_wp2_with fail
          refine ((iSeriesCompose_any m m2 f v (some ⟨x, 0, none⟩) (some ⟨x6, 0, none⟩) c c6 w6 (by omega) (by omega) A_6.out.o V.out.o).mono fun _ _ h => h.yes Hy.out).mono ?_
          rintro e w7 ⟨hB7, x7, c7, rfl, hx7, hr7⟩
          have HB7 := Lib.hid (below_step HB6.out hB7)
          have A_7 := Lib.hid (A_6.out.below hB7)
          have G_7 := Lib.hid (G_6.out.below hB7)
          have R_7 := Lib.hid (R_6.out.below hB7)
          have Q_7 := Lib.hid (Q_6.out.below hB7)
          have V_7 := Lib.hid (V.out.below hB7)
          have Y := Lib.hid hr7
          clear hB7 hr7
          go_wp2_with fail
          go_ret
          exact ⟨rfl, HB7.out⟩
    · have Hu := Lib.hid hu
      clear hu
      go_wp2_with fail
      refine ((iSeriesCompose_any m m2 r f2 (some ⟨x2, 0, none⟩) (some ⟨xg, 0, none⟩) c2 cg w4 (by omega) (by omega) R_4.out.o G_4.out.o).mono fun _ _ h => h.yes Hu.out).mono ?_
      rintro e w5 ⟨hB5, x5, c5, rfl, hx5, hr5⟩
      have HB5 := Lib.hid (below_step HB4.out hB5)
      have A_5 := Lib.hid (A_4.out.below hB5)
      have G_5 := Lib.hid (G_4.out.below hB5)
      have R_5 := Lib.hid (R_4.out.below hB5)
      have Q_5 := Lib.hid (Q_4.out.below hB5)
      have U := Lib.hid hr5
      clear hB5 hr5
      rcases hv : ansComp m2 m2 f2 f2 with _ | v
      · have Hv := Lib.hid hv
        clear hv
        go_wp2_with fail
        refine ((iSeriesCompose_any m2 m2 f2 f2 (some ⟨xg, 0, none⟩) (some ⟨xg, 0, none⟩) cg cg w5 (by omega) (by omega) G_5.out.o G_5.out.o).mono fun _ _ h => h.no Hv.out).mono ?_
        rintro e w6 ⟨hB6, rfl⟩
        have HB6 := Lib.hid (below_step HB5.out hB6)
        have A_6 := Lib.hid (A_5.out.below hB6)
        have G_6 := Lib.hid (G_5.out.below hB6)
        have R_6 := Lib.hid (R_5.out.below hB6)
        have Q_6 := Lib.hid (Q_5.out.below hB6)
        have U_6 := Lib.hid (U.out.below hB6)
        clear hB6 
        have hz : ansComp m 0 f (fun _ => 0) = none := ansComp_zero m f
        have HZ := Lib.hid hz
        clear hz
        go_wp2_with fail
        refine ((iSeriesCompose_any m 0 f (fun _ => 0) (some ⟨x, 0, none⟩) none c 0 w6 (by omega) (by omega) A_6.out.o (fun j hj => by omega)).mono fun _ _ h => h.no HZ.out).mono ?_
        rintro e w7 ⟨hB7, rfl⟩
        have HB7 := Lib.hid (below_step HB6.out hB7)
        have A_7 := Lib.hid (A_6.out.below hB7)
        have G_7 := Lib.hid (G_6.out.below hB7)
        have R_7 := Lib.hid (R_6.out.below hB7)
        have Q_7 := Lib.hid (Q_6.out.below hB7)
        have U_7 := Lib.hid (U_6.out.below hB7)
        clear hB7 
        go_wp2_with fail
        go_ret
        exact ⟨rfl, HB7.out⟩
      · have Hv := Lib.hid hv
        clear hv
        go_wp2_with fail
        refine ((iSeriesCompose_any m2 m2 f2 f2 (some ⟨xg, 0, none⟩) (some ⟨xg, 0, none⟩) cg cg w5 (by omega) (by omega) G_5.out.o G_5.out.o).mono fun _ _ h => h.yes Hv.out).mono ?_
        rintro e w6 ⟨hB6, x6, c6, rfl, hx6, hr6⟩
        have HB6 := Lib.hid (below_step HB5.out hB6)
        have A_6 := Lib.hid (A_5.out.below hB6)
        have G_6 := Lib.hid (G_5.out.below hB6)
        have R_6 := Lib.hid (R_5.out.below hB6)
        have Q_6 := Lib.hid (Q_5.out.below hB6)
        have U_6 := Lib.hid (U.out.below hB6)
        have V := Lib.hid hr6
        clear hB6 hr6
        rcases hy : ansComp m m2 f v with _ | y
        · have Hy := Lib.hid hy
          clear hy
          go_wp2_with fail
          refine ((iSeriesCompose_any m m2 f v (some ⟨x, 0, none⟩) (some ⟨x6, 0, none⟩) c c6 w6 (by omega) (by omega) A_6.out.o V.out.o).mono fun _ _ h => h.no Hy.out).mono ?_
          rintro e w7 ⟨hB7, rfl⟩
          have HB7 := Lib.hid (below_step HB6.out hB7)
          have A_7 := Lib.hid (A_6.out.below hB7)
          have G_7 := Lib.hid (G_6.out.below hB7)
          have R_7 := Lib.hid (R_6.out.below hB7)
          have Q_7 := Lib.hid (Q_6.out.below hB7)
          have U_7 := Lib.hid (U_6.out.below hB7)
          have V_7 := Lib.hid (V.out.below hB7)
          clear hB7 
          go_wp2_with fail
          go_ret
          exact ⟨rfl, HB7.out⟩
        · have Hy := Lib.hid hy
          clear hy
          go_wp2_with fail
          refine ((iSeriesCompose_any m m2 f v (some ⟨x, 0, none⟩) (some ⟨x6, 0, none⟩) c c6 w6 (by omega) (by omega) A_6.out.o V.out.o).mono fun _ _ h => h.yes Hy.out).mono ?_
          rintro e w7 ⟨hB7, x7, c7, rfl, hx7, hr7⟩
          have HB7 := Lib.hid (below_step HB6.out hB7)
          have A_7 := Lib.hid (A_6.out.below hB7)
          have G_7 := Lib.hid (G_6.out.below hB7)
          have R_7 := Lib.hid (R_6.out.below hB7)
          have Q_7 := Lib.hid (Q_6.out.below hB7)
          have U_7 := Lib.hid (U_6.out.below hB7)
          have V_7 := Lib.hid (V.out.below hB7)
          have Y := Lib.hid hr7
          clear hB7 hr7
          go_wp2_with fail
          refine (sameInts_any m u (some ⟨x5, 0, none⟩) (some ⟨x7, 0, none⟩) c5 c7 w7 (by omega) U_7.out.o (Y.out.congr (ansComp_assoc Hr.out Hu.out Hv.out Hy.out)).o).mono ?_
          rintro e w8 ⟨rfl, hB8⟩
          have HB8 := Lib.hid (below_step HB7.out hB8)
          have A_8 := Lib.hid (A_7.out.below hB8)
          have G_8 := Lib.hid (G_7.out.below hB8)
          have R_8 := Lib.hid (R_7.out.below hB8)
          have Q_8 := Lib.hid (Q_7.out.below hB8)
          have U_8 := Lib.hid (U_7.out.below hB8)
          have V_8 := Lib.hid (V_7.out.below hB8)
          have Y_8 := Lib.hid (Y.out.below hB8)
          clear hB8 
          go_wp2_with fail
          go_ret
          exact ⟨rfl, HB8.out⟩

end Go.Proofs.Ytnobpckmlhgeiaa
