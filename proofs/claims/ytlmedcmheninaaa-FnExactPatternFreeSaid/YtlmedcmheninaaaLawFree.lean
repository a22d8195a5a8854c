/- The law of PatternFree. -/
import Derived.Test.YtlmedcmheninaaaFreeS
import Derived.Test.YtlmedcmheninaaaKWholeI
namespace Go.Proofs.Ytlmedcmheninaaa
open Go.RowKit

theorem TxL.of_lies {w : World} {g : Nat} {ss : List ByteArray} (h : Lies w (some ⟨g, 0, none⟩) (txl ss)) : TxL w g ss := fun j hj => by
  obtain ⟨g', e, hc⟩ := h j (by rw [txl_length]; exact hj)
  cases e
  rw [hc]
  simp only [txl, List.getElem_map, Array.toArray_toList]

set_option maxRecDepth 100000 in
set_option maxHeartbeats 1000000 in
theorem lawPatternFree_any (ss : List ByteArray) (a : Option Addr) (cap : Nat) (s : ByteArray) (w : World) (hl : LiesO w a ss) (hz : ∀ x ∈ ss, x.size ≤ 9223372036854775807) (hn : ss.length ≤ 9223372036854775807) (hs : s.size ≤ maxLen) :
    Calls Try.prog 11 #[.slice a ss.length cap, .string s] w (Ans (.bool true) w) := by
  unfold maxLen at hs
  have HL := Lib.hid hl
  have HS0 := Lib.hid (szStringS_any ss a cap w hn hz hl)
  clear hl hz
  by_cases h : (s.size : Int) ≤ 1048576
  · go_enter Try.func11, Try.ntmps11
    go_wp2_with fail
    refine HS0.out.mono ?_
    rintro e w1 ⟨hB1, v, rfl, hv | ⟨hv, hn2, hz2⟩⟩
    · go_wp2_with fail
      go_ret
      exact ⟨rfl, hB1⟩
    · have HB1 := Lib.hid hB1
      have HZ2 := Lib.hid hz2
      obtain ⟨n, hnn⟩ : ∃ n, n = ss.length := ⟨_, rfl⟩
      have HNN := Lib.hid hnn
      have hpl : (txl ss).length = n := by rw [txl_length, hnn]
      have HPL := Lib.hid hpl
      obtain ⟨b, hb⟩ : ∃ b, b = freeV ss s := ⟨_, rfl⟩
      have HS : Hid (∀ (g : Nat) (w : World), Lies w (some ⟨g, 0, none⟩) (txl ss) → Calls Try.prog 39 #[.slice (some ⟨g, 0, none⟩) n n, .string s] w (Ans (.bool b) w)) := Lib.hid (fun g w hh => by
        have := sFree_any ss n hnn g n s w (by omega) HZ2.out (by omega) (TxL.of_lies hh)
        rw [← hb] at this
        exact this)
      have HI : Hid (∀ (g : Nat) (w : World), Lies w (some ⟨g, 0, none⟩) (txl ss) → Calls Try.prog 41 #[.slice (some ⟨g, 0, none⟩) n n, .string s] w (Ans (.bool b) w)) := Lib.hid (fun g w hh => by
        have := iFree_any ss n hnn g n s w (by omega) HZ2.out (by omega) (TxL.of_lies hh)
        rw [← hb] at this
        exact this)
      have HT : Hid (∀ w, LiesO w a ss → Calls Try.prog 40 #[.slice a n cap] w (fun e w' => Below w.heap.size w w' ∧ ∃ g, e = .returned (.slice (some ⟨g, 0, none⟩) n n) ∧ w.heap.size ≤ g ∧ Lies w' (some ⟨g, 0, none⟩) (txl ss))) := Lib.hid (fun w hh => by
        have := toStringS_any ss a cap w hn2 hh
        rw [← HNN.out] at this
        exact this.mono (fun e w' h => by
          obtain ⟨h1, g, h2, h3, h4⟩ := h
          exact ⟨h1, g, by rw [h2, HNN.out], h3, h4⟩))
      have HE : Hid (∀ (g g' : Nat) (w : World), Lies w (some ⟨g, 0, none⟩) (txl ss) → Lies w (some ⟨g', 0, none⟩) (txl ss) → Calls Try.prog 42 #[.slice (some ⟨g, 0, none⟩) n n, .slice (some ⟨g', 0, none⟩) n n] w (Ans (.bool true) w)) := Lib.hid (fun g g' w h1 h2 => by
        have := eqStringS_any (txl ss) (some ⟨g, 0, none⟩) (some ⟨g', 0, none⟩) n n w (by rw [HPL.out]; omega) h1 h2
        rw [HPL.out] at this
        exact this)
      rw [← hnn]
      clear hB1 hz2 hnn hpl hn hn2 hb
      cases b
      all_goals
        go_wp2_with fail
        refine (HT.out w1 (HL.out.below HB1.out)).mono ?_
        rintro e w2 ⟨hB2, g, rfl, hg, hl2⟩
        have HB2 := Lib.hid (below_step HB1.out hB2)
        have HL2 := Lib.hid hl2
        clear hB2 hl2
        go_wp2_with fail
        refine (HS.out g w2 HL2.out).mono ?_
        rintro e w3 ⟨rfl, hB3⟩
        have HB3 := Lib.hid (below_step HB2.out hB3)
        clear hB3
        go_wp2_with fail
        refine (HT.out w3 (HL.out.below HB3.out)).mono ?_
        rintro e w4 ⟨hB4, g2, rfl, hg2, hl4⟩
        have HB4 := Lib.hid (below_step HB3.out hB4)
        have HL4 := Lib.hid hl4
        clear hB4 hl4
        go_wp2_with fail
        refine (HI.out g2 w4 HL4.out).mono ?_
        rintro e w5 ⟨rfl, hB5⟩
        have HB5 := Lib.hid (below_step HB4.out hB5)
        have HL5 := Lib.hid (HL4.out.below hB5)
        clear hB5
        go_wp2_with fail
        refine (HT.out w5 (HL.out.below HB5.out)).mono ?_
        rintro e w6 ⟨hB6, g3, rfl, hg3, hl6⟩
        have HB6 := Lib.hid (below_step HB5.out hB6)
        have HL6 := Lib.hid hl6
        have HL7 := Lib.hid (HL5.out.below hB6)
        clear hB6 hl6
        go_wp2_with fail
        refine (HE.out g2 g3 w6 HL7.out HL6.out).mono ?_
        rintro e w7 ⟨rfl, hB7⟩
        go_wp2_with fail
        go_ret
        exact ⟨rfl, below_step HB6.out hB7⟩
  · go_enter Try.func11, Try.ntmps11
    go_wp2_with fail
    go_ret
    exact ⟨rfl, Below.refl _ _⟩
end Go.Proofs.Ytlmedcmheninaaa
