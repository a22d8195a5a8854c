/- The law of PatternAll. -/
import Derived.Test.YtflmdknienjlmaaAllS
namespace Go.Proofs.Ytflmdknienjlmaa
open Go.RowKit

set_option maxRecDepth 100000 in
set_option maxHeartbeats 1000000 in
theorem lawPatternAll_any (p q : ByteArray) (w : World) (hs : p.size ≤ maxLen) (hs2 : q.size ≤ maxLen) :
    Calls Try.prog 5 #[.string p, .string q] w (Ans (.bool true) w) := by
  unfold maxLen at hs hs2
  by_cases h : (p.size : Int) ≤ 1048576
  · by_cases h2 : (q.size : Int) ≤ 1048576
    · have hpl := allTx_len p q
      have hS0 := fun w => sAll_any p q w (by omega) (by omega)
      have hI0 := fun w => iAll_any p q w (by omega) (by omega)
      obtain ⟨ps, hps⟩ : ∃ ps, allTx p q = ps := ⟨_, rfl⟩
      obtain ⟨b, hb⟩ : ∃ b, (allV p q).isSome = b := ⟨_, rfl⟩
      rw [hps] at hpl hS0 hI0
      rw [hb] at hS0 hI0
      have HS := Lib.hid hS0
      have HI := Lib.hid hI0
      clear hS0 hI0 hps hb
      have hne1 : ((1 + ps.length : Nat) : Int) = 1 + (ps.length : Int) := by omega
      cases b
      all_goals
        go_enter Try.func5, Try.ntmps5
        go_wp2_with fail
        refine (HS.out w).mono ?_
        rintro e w1 ⟨hB1, a1, c1, rfl, hl1⟩
        have L1 := Lib.hid hl1
        clear hl1
        go_wp2_with fail
        refine (HI.out w1).mono ?_
        rintro e w2 ⟨hB2, a2, c2, rfl, hl2, hrow⟩
        have L2 := Lib.hid hl2
        have R2 := Lib.hid hrow
        clear hl2 hrow
        go_wp2_with fail
        refine (eqStringS_any ps a2 a1 c2 c1 w2 (by omega) L2.out (L1.out.below hB2)).mono ?_
        rintro e w3 ⟨rfl, hB3⟩
        have hz2 := hB2.size
        have hz3 := hB3.size
        have R3 : Hid (ps = [] ∨ ∃ g cur, a2 = some ⟨g, 0, none⟩ ∧ w3.heap[g]? = some (.cells cur 9 (0, 0)) ∧ ps.length ≤ cur.size ∧ w1.heap.size ≤ g) := Lib.hid (by
          rcases R2.out with h | ⟨g, cur, h1, h2, h3, h4⟩
          · exact .inl h
          · exact .inr ⟨g, cur, h1, (hB3.block g ((Array.getElem?_eq_some_iff.1 h2).1)).trans h2, h3, h4⟩)
        go_wp2_with fail
        refine (mark_any ps a2 c2 w1 w3 (by omega) R3.out (by omega)).mono ?_
        rintro e w4 ⟨rfl, hB4, hl4⟩
        have L4 := Lib.hid hl4
        have hz4 := hB4.size
        clear hl4
        go_wp2_with fail
        refine (heldStringS_any ps.length a2 c2 1 w4 (by omega) (by omega) (by omega) L4.out).mono ?_
        rintro e w5 ⟨rfl, hB5⟩
        have hz5 := hB5.size
        go_wp2_with fail
        refine (HI.out w5).mono ?_
        rintro e w6 ⟨hB6, a3, c3, rfl, hl6, _⟩
        have L6 := Lib.hid hl6
        have L1' : Hid (Lies w6 a1 ps) := Lib.hid ((((((L1.out.below hB2).below hB3).belowB hB4 (fun g e hp => L1.out.lt g e hp)).below hB5).below hB6))
        have L4' : Hid (Lies w6 a2 ((List.range ps.length).map fun j => mark (1 + j))) := Lib.hid ((L4.out.below hB5).below hB6)
        have hz6 := hB6.size
        clear hl6
        go_wp2_with fail
        refine (eqStringS_any ps a3 a1 c3 c1 w6 (by omega) L6.out L1'.out).mono ?_
        rintro e w7 ⟨rfl, hB7⟩
        go_wp2_with fail
        refine (heldStringS_any ps.length a2 c2 1 w7 (by omega) (by omega) (by omega) (L4'.out.below hB7)).mono ?_
        rintro e w8 ⟨rfl, hB8⟩
        go_wp2_with fail
        go_ret
        exact ⟨rfl, below_step (below_step (below_step (below_step ((below_step (below_step hB1 hB2) hB3).trans (hB4.mono hB1.size)) hB5) hB6) hB7) hB8⟩
    · go_enter Try.func5, Try.ntmps5
      go_wp2_with fail
      go_ret
      exact ⟨rfl, Below.refl _ _⟩
  · go_enter Try.func5, Try.ntmps5
    go_wp2_with fail
    go_ret
    exact ⟨rfl, Below.refl _ _⟩
end Go.Proofs.Ytflmdknienjlmaa
