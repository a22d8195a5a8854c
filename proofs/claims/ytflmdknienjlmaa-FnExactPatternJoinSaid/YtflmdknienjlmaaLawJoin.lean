/- The law of PatternJoin. -/
import Derived.Test.YtflmdknienjlmaaJoinS
import Derived.Test.YtflmdknienjlmaaJoinI
namespace Go.Proofs.Ytflmdknienjlmaa
open Go.RowKit

set_option maxRecDepth 100000 in
set_option maxHeartbeats 1000000 in
theorem lawPatternJoin_any (p q : ByteArray) (v : Int) (w : World) (hp : p.size ≤ maxLen) (hq : q.size ≤ maxLen) (hv : (Lit.int .i64 v).wf = true) :
    Calls Try.prog 4 #[.string p, .string q, .int .i64 v] w (Ans (.bool true) w) := by
  unfold maxLen at hp hq
  have hv2 : v ≤ 9223372036854775807 := by
    simp only [Lit.wf, Bool.and_eq_true, decide_eq_true_eq] at hv
    exact hv.2
  clear hv
  by_cases h : (p.size : Int) ≤ 1048576
  · by_cases h2 : (q.size : Int) ≤ 1048576
    · have hS := fun w => sJoin_any p q v w (by omega) (by omega)
      have hI := fun w => iJoin_any p q v w (by omega) (by omega) hv2
      obtain ⟨o, ho⟩ : ∃ o, joinV p q v = o := ⟨_, rfl⟩
      rw [ho] at hS hI
      have HS := Lib.hid hS
      have HI := Lib.hid hI
      clear hS hI ho
      rcases o with _ | t
      all_goals
        rw [textV] at HS HI
        go_enter Try.func4, Try.ntmps4
        go_wp2_with fail
        refine (HS.out w).mono ?_
        rintro e w1 ⟨rfl, hB1⟩
        go_wp2_with fail
        refine (HI.out w1).mono ?_
        rintro e w2 ⟨rfl, hB2⟩
        go_wp2_with fail
        go_ret
        exact ⟨rfl, hB1.trans (hB2.mono hB1.size)⟩
    · go_enter Try.func4, Try.ntmps4
      go_wp2_with fail
      go_ret
      exact ⟨rfl, Below.refl _ _⟩
  · go_enter Try.func4, Try.ntmps4
    go_wp2_with fail
    go_ret
    exact ⟨rfl, Below.refl _ _⟩
end Go.Proofs.Ytflmdknienjlmaa
