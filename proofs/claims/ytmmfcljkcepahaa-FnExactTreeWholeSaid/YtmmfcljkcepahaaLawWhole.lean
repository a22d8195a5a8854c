/- TreeWhole: the law. -/
import Derived.Test.YtmmfcljkcepahaaWholeS
import Derived.Test.YtmmfcljkcepahaaWholeI
import Derived.Test.YtmmfcljkcepahaaStrArg
namespace Go.Proofs.Ytmmfcljkcepahaa
open Go.RowKit

set_option maxRecDepth 100000 in
set_option maxHeartbeats 1000000 in
theorem lawWhole_any (s : ByteArray) (ss : List ByteArray) (a : Option Addr) (cap : Nat) (w : World) (hs : s.size ≤ maxLen) (hl : LiesO w a ss) (hz : ∀ x ∈ ss, x.size ≤ 9223372036854775807) (hn : ss.length ≤ 9223372036854775807) :
    Calls Try.prog 17 #[.string s, .slice a ss.length cap] w (Ans (.bool true) w) := by
  unfold maxLen at hs
  have HL := Lib.hid hl
  have HZ0 := Lib.hid hz
  have HS0 := Lib.hid (szStringS_any ss a cap w hn hz hl)
  clear hl hz
  by_cases h : (s.size : Int) ≤ 1048576
  · go_enter Try.func17, Try.ntmps17
    go_wp2_with fail
    refine HS0.out.mono ?_
    rintro e w1 ⟨hB1, v, rfl, hv | ⟨hv, hn2, hz2⟩⟩
    · go_wp2_with fail
      go_ret
      exact ⟨rfl, hB1⟩
    · have HB1 := Lib.hid hB1
      have HZ2 := Lib.hid hz2
      obtain ⟨n, hnn⟩ : ∃ n, n = ss.length := ⟨_, rfl⟩
      have HNN := Lib.hid hnn
      have hpl : (txl ss).length = n := by rw [txl_length, hnn]
      have HPL := Lib.hid hpl
      have HZP : Hid (∀ j (h : j < (txl ss).length), ((txl ss)[j]).length ≤ 1048576) := Lib.hid (fun j h => by
        have h' := h
        rw [txl_length] at h'
        have e : ((txl ss)[j]).length = (ss[j]).size := by simp only [txl, List.getElem_map]; rw [Array.length_toList]; rfl
        rw [e]; exact HZ2.out j h')
      have HS : Hid (∀ (g : Nat) (w : World), Lies w (some ⟨g, 0, none⟩) (txl ss) → Calls Try.prog 64 #[.string s, .slice (some ⟨g, 0, none⟩) n n] w (Ans (graftV (wholeOf s.data.toList (txl ss))) w)) := Lib.hid (fun g w hh => by
        have := sWhole_any s (txl ss) (some ⟨g, 0, none⟩) n w (by omega) (by rw [HPL.out]; omega) HZP.out hh
        rw [HPL.out] at this
        exact this)
      have HI : Hid (∀ (g : Nat) (w : World), Lies w (some ⟨g, 0, none⟩) (txl ss) → Calls Try.prog 66 #[.string s, .slice (some ⟨g, 0, none⟩) n n] w (Ans (graftV (wholeOf s.data.toList (txl ss))) w)) := Lib.hid (fun g w hh => by
        have := iWhole_any s (txl ss) (some ⟨g, 0, none⟩) n w (by omega) (by rw [HPL.out]; omega) HZP.out hh
        rw [HPL.out] at this
        exact this)
      have HT : Hid (∀ w, LiesO w a ss → Calls Try.prog 65 #[.slice a n cap] w (fun e w' => Below w.heap.size w w' ∧ ∃ g, e = .returned (.slice (some ⟨g, 0, none⟩) n n) ∧ w.heap.size ≤ g ∧ Lies w' (some ⟨g, 0, none⟩) (txl ss))) := Lib.hid (fun w hh => by
        have := toStringS_any ss a cap w hn2 hh
        rw [← HNN.out] at this
        exact this.mono (fun e w' h => by
          obtain ⟨h1, g, h2, h3, h4⟩ := h
          exact ⟨h1, g, by rw [h2, HNN.out], h3, h4⟩))
      have HE : Hid (∀ (g g' : Nat) (w : World), Lies w (some ⟨g, 0, none⟩) (txl ss) → Lies w (some ⟨g', 0, none⟩) (txl ss) → Calls Try.prog 49 #[.slice (some ⟨g, 0, none⟩) n n, .slice (some ⟨g', 0, none⟩) n n] w (Ans (.bool true) w)) := Lib.hid (fun g g' w h1 h2 => by
        have := eqStringS_any (txl ss) (some ⟨g, 0, none⟩) (some ⟨g', 0, none⟩) n n w (by rw [HPL.out]; omega) h1 h2
        rw [HPL.out] at this
        exact this)
      obtain ⟨x, b, hx⟩ : ∃ x b, graftV (wholeOf s.data.toList (txl ss)) = .tuple #[.string x, .bool b] := by
        cases wholeOf s.data.toList (txl ss) with
        | none => exact ⟨_, _, rfl⟩
        | some t => exact doneV_shape t
      rw [hx] at HS HI
      rw [← hnn]
      clear hB1 hz2 hnn hpl hx hn hn2
      cases b
      all_goals
        go_wp2_with fail
        refine (HT.out w1 (HL.out.below HB1.out)).mono ?_
        rintro e w2 ⟨hB2, g, rfl, hg, hl2⟩
        have HB2 := Lib.hid (below_step HB1.out hB2)
        have HL2 := Lib.hid hl2
        clear hB2 hl2
        go_wp2_with fail
        refine (HS.out g w2 HL2.out).mono ?_
        rintro e w3 ⟨rfl, hB3⟩
        have HB3 := Lib.hid (below_step HB2.out hB3)
        clear hB3
        go_wp2_with fail
        refine (HT.out w3 (HL.out.below HB3.out)).mono ?_
        rintro e w4 ⟨hB4, g2, rfl, hg2, hl4⟩
        have HB4 := Lib.hid (below_step HB3.out hB4)
        have HL4 := Lib.hid hl4
        clear hB4 hl4
        go_wp2_with fail
        refine (HI.out g2 w4 HL4.out).mono ?_
        rintro e w5 ⟨rfl, hB5⟩
        have HB5 := Lib.hid (below_step HB4.out hB5)
        have HL5 := Lib.hid (HL4.out.below hB5)
        clear hB5
        go_wp2_with fail
        refine (HT.out w5 (HL.out.below HB5.out)).mono ?_
        rintro e w6 ⟨hB6, g3, rfl, hg3, hl6⟩
        have HB6 := Lib.hid (below_step HB5.out hB6)
        have HL6 := Lib.hid hl6
        have HL7 := Lib.hid (HL5.out.below hB6)
        clear hB6 hl6
        go_wp2_with fail
        refine (HE.out g2 g3 w6 HL7.out HL6.out).mono ?_
        rintro e w7 ⟨rfl, hB7⟩
        go_wp2_with fail
        go_ret
        exact ⟨rfl, below_step HB6.out hB7⟩
  · go_enter Try.func17, Try.ntmps17
    go_wp2_with fail
    go_ret
    exact ⟨rfl, Below.refl _ _⟩
end Go.Proofs.Ytmmfcljkcepahaa
