/- The law of PatternPut. -/
import Derived.Test.YtlmedcmheninaaaPutS
namespace Go.Proofs.Ytlmedcmheninaaa
open Go.RowKit

theorem putV_shape (pat s y : ByteArray) (v : Int) : ∃ x b, putV pat s v y = .tuple #[.string x, .bool b] := by
  unfold putV
  split
  · split
    · unfold putW
      split
      · exact ⟨_, _, rfl⟩
      · next u _ => exact doneV_shape u
    · exact ⟨_, _, rfl⟩
  · exact ⟨_, _, rfl⟩

set_option maxRecDepth 100000 in
set_option maxHeartbeats 1000000 in
theorem lawPatternPut_any (p q : ByteArray) (v : Int) (y : ByteArray) (w : World) (hp : p.size ≤ maxLen) (hq : q.size ≤ maxLen) (hv : (Lit.int .i64 v).wf = true) (hy : y.size ≤ maxLen) :
    Calls Try.prog 10 #[.string p, .string q, .int .i64 v, .string y] w (Ans (.bool true) w) := by
  unfold maxLen at hp hq hy
  have hv2 : v ≤ 9223372036854775807 := by
    simp only [Lit.wf, Bool.and_eq_true, decide_eq_true_eq] at hv
    exact hv.2
  clear hv
  by_cases h : (p.size : Int) ≤ 1048576
  · by_cases h2 : (q.size : Int) ≤ 1048576
    · by_cases h3 : (y.size : Int) ≤ 1048576
      · have hS := fun w => sPut_any p q y v w (by omega) (by omega) (by omega) hv2
        have hI := fun w => iPut_any p q y v w (by omega) (by omega) (by omega) hv2
        obtain ⟨x, b, hx⟩ := putV_shape p q y v
        rw [hx] at hS hI
        have HS := Lib.hid hS
        have HI := Lib.hid hI
        clear hS hI hx
        cases b
        all_goals
          go_enter Try.func10, Try.ntmps10
          go_wp2_with fail
          refine (HS.out w).mono ?_
          rintro e w1 ⟨rfl, hB1⟩
          go_wp2_with fail
          refine (HI.out w1).mono ?_
          rintro e w2 ⟨rfl, hB2⟩
          go_wp2_with fail
          go_ret
          exact ⟨rfl, hB1.trans (hB2.mono hB1.size)⟩
      · go_enter Try.func10, Try.ntmps10
        go_wp2_with fail
        go_ret
        exact ⟨rfl, Below.refl _ _⟩
    · go_enter Try.func10, Try.ntmps10
      go_wp2_with fail
      go_ret
      exact ⟨rfl, Below.refl _ _⟩
  · go_enter Try.func10, Try.ntmps10
    go_wp2_with fail
    go_ret
    exact ⟨rfl, Below.refl _ _⟩
end Go.Proofs.Ytlmedcmheninaaa
