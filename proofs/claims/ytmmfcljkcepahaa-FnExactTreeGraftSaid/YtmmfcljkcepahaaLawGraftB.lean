/- TreeGraft by the model, and its law. (what the exact laws want besides) -/
import Derived.Test.YtmmfcljkcepahaaLawGraftBC
import Derived.Test.YtmmfcljkcepahaaLawGraft
namespace Go.Proofs.Ytmmfcljkcepahaa
open Go.RowKit

theorem lawGraft_any (s : ByteArray) (k : Int) (s2 : ByteArray) (w : World) (hs : s.size ≤ maxLen) (_hk : (Lit.int .i64 k).wf = true) (hs2 : s2.size ≤ maxLen) :
    Calls Try.prog 16 #[.string s, .int .i64 k, .string s2] w (Ans (.bool true) w) := by
  unfold maxLen at hs hs2
  clear _hk
  by_cases h : (s.size : Int) ≤ 1048576
  · by_cases h2 : (s2.size : Int) ≤ 1048576
    · have hS := fun w => sGraft_any s k s2 w (by omega) (by omega)
      have hI := fun w => iGraft_any s k s2 w (by omega) (by omega)
      obtain ⟨x, b, hv⟩ : ∃ x b, graftV (graftOf s.data.toList k s2.data.toList) = .tuple #[.string x, .bool b] := by
        cases graftOf s.data.toList k s2.data.toList with
        | none => exact ⟨_, _, rfl⟩
        | some t => exact doneV_shape t
      rw [hv] at hS hI
      have HS := Lib.hid hS
      have HI := Lib.hid hI
      clear hS hI hv
      cases b
      all_goals
        go_enter Try.func16, Try.ntmps16
        go_wp2_with fail
        refine (HS.out w).mono ?_
        rintro e w1 ⟨rfl, hB1⟩
        go_wp2_with fail
        refine (HI.out w1).mono ?_
        rintro e w2 ⟨rfl, hB2⟩
        go_wp2_with fail
        go_ret
        exact ⟨rfl, hB1.trans (hB2.mono hB1.size)⟩
    · go_enter Try.func16, Try.ntmps16
      go_wp2_with fail
      go_ret
      exact ⟨rfl, Below.refl _ _⟩
  · go_enter Try.func16, Try.ntmps16
    go_wp2_with fail
    go_ret
    exact ⟨rfl, Below.refl _ _⟩

end Go.Proofs.Ytmmfcljkcepahaa
