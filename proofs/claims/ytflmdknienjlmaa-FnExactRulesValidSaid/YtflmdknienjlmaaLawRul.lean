/- The law of RulesValid. -/
import Derived.Test.YtflmdknienjlmaaRulI
import Derived.Test.YtflmdknienjlmaaRulS
namespace Go.Proofs.Ytflmdknienjlmaa
open Go.RowKit

set_option maxRecDepth 100000 in
theorem sRulesValid_any (xss : List (List (Int × ByteArray))) (n : Nat) (hnx : n = xss.length) (g cap : Nat) (w : World) (hn : n ≤ 1048576) (hz : ∀ j (h : j < xss.length), Small1 xss[j]) (hl : TermsL w g xss) :
    Calls Try.prog 26 #[.slice (some ⟨g, 0, none⟩) n cap] w (Ans (.bool (rulesOf xss).isSome) w) := by
  have HR := Lib.hid (l5Rules_any xss n hnx g cap w hn hz hl)
  obtain ⟨b, hb⟩ : ∃ b, b = (rulesOf xss).isSome := ⟨_, rfl⟩
  have HBB := Lib.hid hb
  rw [← hb]
  clear hnx hz hl hb
  go_enter Try.func26, Try.ntmps26
  go_wp2_with fail
  refine HR.out.mono ?_
  rintro e w1 ⟨hB1, a1, n1, c1, rfl⟩
  rw [← HBB.out]
  go_wp2_with fail
  go_ret
  exact ⟨rfl, hB1⟩

set_option maxRecDepth 100000 in
set_option maxHeartbeats 1000000 in
theorem lawRulesValid_any (yss : List (List (Int × ByteArray))) (a : Option Addr) (cap : Nat) (w : World) (hl : TermsO w a yss) (hz : ∀ j (h : j < yss.length), Open1 yss[j]) (hn : yss.length ≤ 9223372036854775807) :
    Calls Try.prog 6 #[.slice a yss.length cap] w (Ans (.bool true) w) := by
  have HL := Lib.hid hl
  have HS0 := Lib.hid (szTermSS_any yss a cap 1048576 w (by omega) (by omega) hn hz hl)
  clear hl hz
  go_enter Try.func6, Try.ntmps6
  go_wp2_with fail
  refine HS0.out.mono ?_
  rintro e w1 ⟨hB1, v, rfl, hv | ⟨hv, _, hn2, hz2⟩⟩
  · go_wp2_with fail
    go_ret
    exact ⟨rfl, hB1⟩
  · have HB1 := Lib.hid hB1
    obtain ⟨n, hnn⟩ : ∃ n, n = yss.length := ⟨_, rfl⟩
    have hn3 : n ≤ 1048576 := by omega
    have HT := Lib.hid (fun w hh => toTermSS_any yss n hnn a cap w hn3 hz2 hh)
    obtain ⟨b, hb⟩ : ∃ b, b = (rulesOf yss).isSome := ⟨_, rfl⟩
    have hS := fun g w hh => sRulesValid_any yss n hnn g n w hn3 hz2 hh
    have hI := fun g w hh => iRulesValid_any yss n hnn g n w hn3 hz2 hh
    rw [← hb] at hS hI
    have HS := Lib.hid hS
    have HI := Lib.hid hI
    have HE := Lib.hid (fun g g' w h1 h2 => eqTermSS_any yss n hnn g g' n n w hn3 hz2 h1 h2)
    rw [← hnn]
    clear hB1 hz2 hnn hn hn2 hS hI hb
    go_wp2_with fail
    refine (HT.out w1 (HL.out.below HB1.out)).mono ?_
    rintro e w2 ⟨hB2, g, rfl, hg, hl2⟩
    have HB2 := Lib.hid (below_step HB1.out hB2)
    have HL2 := Lib.hid hl2
    clear hB2 hl2
    go_wp2_with fail
    refine (HS.out g w2 HL2.out).mono ?_
    rintro e w3 ⟨rfl, hB3⟩
    have HB3 := Lib.hid (below_step HB2.out hB3)
    clear hB3
    go_wp2_with fail
    refine (HT.out w3 (HL.out.below HB3.out)).mono ?_
    rintro e w4 ⟨hB4, g2, rfl, hg2, hl4⟩
    have HB4 := Lib.hid (below_step HB3.out hB4)
    have HL4 := Lib.hid hl4
    clear hB4 hl4
    go_wp2_with fail
    refine (HI.out g2 w4 HL4.out).mono ?_
    rintro e w5 ⟨rfl, hB5⟩
    have HB5 := Lib.hid (below_step HB4.out hB5)
    have HL5 := Lib.hid (HL4.out.below hB5)
    clear hB5
    cases b
    all_goals
      go_wp2_with fail
      refine (HT.out w5 (HL.out.below HB5.out)).mono ?_
      rintro e w6 ⟨hB6, g3, rfl, hg3, hl6⟩
      have HB6 := Lib.hid (below_step HB5.out hB6)
      have HL6 := Lib.hid hl6
      have HL7 := Lib.hid (HL5.out.below hB6)
      clear hB6 hl6
      go_wp2_with fail
      refine (HE.out g2 g3 w6 HL7.out HL6.out).mono ?_
      rintro e w7 ⟨rfl, hB7⟩
      go_wp2_with fail
      go_ret
      exact ⟨rfl, below_step HB6.out hB7⟩
end Go.Proofs.Ytflmdknienjlmaa
