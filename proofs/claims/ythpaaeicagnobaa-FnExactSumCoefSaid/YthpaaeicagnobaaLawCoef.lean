/- The law of SumCoef. -/
import Derived.Test.YthpaaeicagnobaaCoefS
namespace Go.Proofs.Ythpaaeicagnobaa
open Go.RowKit

set_option maxRecDepth 100000 in
set_option maxHeartbeats 1000000 in
theorem lawSumCoef_any (ys : List (Int × ByteArray)) (a : Option Addr) (cap : Nat) (s : ByteArray) (w : World) (hl : TermO w a ys) (hz : ∀ j (h : j < ys.length), (ys[j]).2.size ≤ 9223372036854775807) (_har : Coefs ys) (hn : ys.length ≤ 9223372036854775807) (hs : s.size ≤ maxLen) :
    Calls Try.prog 7 #[.slice a ys.length cap, .string s] w (Ans (.bool true) w) := by
  unfold maxLen at hs
  have HL := Lib.hid hl
  have HS0 := Lib.hid (szTermS_any ys a cap 1048576 w (by omega) (by omega) hn hz hl)
  clear hl hz
  by_cases h : (s.size : Int) ≤ 1048576
  · go_enter Try.func7, Try.ntmps7
    go_wp2_with fail
    refine HS0.out.mono ?_
    rintro e w1 ⟨hB1, v, rfl, hv | ⟨hv, _, hn2, hz2⟩⟩
    · go_wp2_with fail
      go_ret
      exact ⟨rfl, hB1⟩
    · have HB1 := Lib.hid hB1
      obtain ⟨n, hnn⟩ : ∃ n, n = ys.length := ⟨_, rfl⟩
      have hn3 : n ≤ 1048576 := by omega
      have HT := Lib.hid (fun w hh => toTm_n (cap := cap) hnn hn2 w (a := a) hh)
      have HS := Lib.hid (fun g w hh => sSumCoef_any ys n hnn g n s w hn3 hz2 (by omega) hh)
      have HI := Lib.hid (fun g w hh => iSumCoef_any ys n hnn g n s w hn3 hz2 (by omega) hh)
      have HE := Lib.hid (fun g g' w h1 h2 => eqTermS_any ys n hnn g g' n n w hn3 h1 h2)
      obtain ⟨cv, hcv⟩ : ∃ cv, cv = coefV ys s := ⟨_, rfl⟩
      rw [← hcv] at HS HI
      rw [← hnn]
      clear hB1 hz2 hnn hn hn2 hcv
      go_wp2_with fail
      refine (HT.out w1 (HL.out.below HB1.out)).mono ?_
      rintro e w2 ⟨hB2, g, rfl, hg, hl2⟩
      have HB2 := Lib.hid (below_step HB1.out hB2)
      have HL2 := Lib.hid hl2
      clear hB2 hl2
      go_wp2_with fail
      refine (HS.out g w2 HL2.out).mono ?_
      rintro e w3 ⟨rfl, hB3⟩
      have HB3 := Lib.hid (below_step HB2.out hB3)
      clear hB3
      go_wp2_with fail
      refine (HT.out _ (HL.out.below HB3.out)).mono ?_
      rintro e w4 ⟨hB4, g2, rfl, hg2, hl4⟩
      have HB4 := Lib.hid (below_step HB3.out hB4)
      have HL4 := Lib.hid hl4
      clear hB4 hl4
      go_wp2_with fail
      refine (HI.out g2 w4 HL4.out).mono ?_
      rintro e w5 ⟨rfl, hB5⟩
      have HB5 := Lib.hid (below_step HB4.out hB5)
      have HL5 := Lib.hid (HL4.out.below hB5)
      clear hB5
      go_wp2_with fail
      refine (HT.out _ (HL.out.below HB5.out)).mono ?_
      rintro e w6 ⟨hB6, g3, rfl, hg3, hl6⟩
      have HB6 := Lib.hid (below_step HB5.out hB6)
      have HL6 := Lib.hid hl6
      have HL7 := Lib.hid (HL5.out.below hB6)
      clear hB6 hl6
      go_wp2_with fail
      refine (HE.out g2 g3 w6 HL7.out HL6.out).mono ?_
      rintro e w7 ⟨rfl, hB7⟩
      have HB7 := Lib.hid (below_step HB6.out hB7)
      clear hB7
      go_wp2_with fail
      go_ret
      exact ⟨rfl, HB7.out⟩
  · go_enter Try.func7, Try.ntmps7
    go_wp2_with fail
    go_ret
    exact ⟨rfl, Below.refl _ _⟩
end Go.Proofs.Ythpaaeicagnobaa
