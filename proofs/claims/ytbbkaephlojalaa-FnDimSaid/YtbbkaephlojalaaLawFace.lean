/- The laws of FaceValid and FaceDim. -/
import Derived.Test.YtbbkaephlojalaaFaceD
import Derived.Test.YtbbkaephlojalaaFaceS
namespace Go.Proofs.Ytbbkaephlojalaa
open Go.RowKit

theorem lawFaceValid_any (s : ByteArray) (w : World) (hs : s.size ≤ maxLen) :
    Calls Try.prog 5 #[.string s] w (Ans (.bool true) w) := by
  unfold maxLen at hs
  by_cases h : (s.size : Int) ≤ 1048576
  · obtain ⟨b, hb⟩ : ∃ b, (faceOf s.data.toList).isSome = b := ⟨_, rfl⟩
    have hS : ∀ w, Calls Try.prog 10 #[.string s] w (Ans (.bool b) w) := fun w => by rw [← hb]; exact sFaceValid_any s w (by omega)
    have hI : ∀ w, Calls Try.prog 9 #[.string s] w (Ans (.bool b) w) := fun w => by rw [← hb]; exact iFaceValid_any s w (by omega)
    have HS := Lib.hid hS
    have HI := Lib.hid hI
    clear hS hI hb
    cases b
    all_goals
      go_enter Try.func5, Try.ntmps5
      go_wp2_with fail
      refine (HS.out w).mono ?_
      rintro e w1 ⟨rfl, hB1⟩
      go_wp2_with fail
      refine (HI.out w1).mono ?_
      rintro e w2 ⟨rfl, hB2⟩
      go_wp2_with fail
      go_ret
      exact ⟨rfl, hB1.trans (hB2.mono hB1.size)⟩
  · go_enter Try.func5, Try.ntmps5
    go_wp2_with fail
    go_ret
    exact ⟨rfl, Below.refl _ _⟩

theorem lawFaceDim_any (s : ByteArray) (w : World) (hs : s.size ≤ maxLen) :
    Calls Try.prog 6 #[.string s] w (Ans (.bool true) w) := by
  unfold maxLen at hs
  by_cases h : (s.size : Int) ≤ 1048576
  · obtain ⟨b, hb⟩ : ∃ b : Int, (faceDimOf (faceOf s.data.toList)) = b := ⟨_, rfl⟩
    have hS : ∀ w, Calls Try.prog 15 #[.string s] w (Ans (.int .i64 b) w) := fun w => by rw [← hb]; exact sFaceDim_any s w (by omega)
    have hI : ∀ w, Calls Try.prog 12 #[.string s] w (Ans (.int .i64 b) w) := fun w => by rw [← hb]; exact iFaceDim_any s w (by omega)
    have HS := Lib.hid hS
    have HI := Lib.hid hI
    clear hS hI hb
    go_enter Try.func6, Try.ntmps6
    go_wp2_with fail
    refine (HS.out w).mono ?_
    rintro e w1 ⟨rfl, hB1⟩
    go_wp2_with fail
    refine (HI.out w1).mono ?_
    rintro e w2 ⟨rfl, hB2⟩
    go_wp2_with fail
    go_ret
    exact ⟨rfl, hB1.trans (hB2.mono hB1.size)⟩
  · go_enter Try.func6, Try.ntmps6
    go_wp2_with fail
    go_ret
    exact ⟨rfl, Below.refl _ _⟩


end Go.Proofs.Ytbbkaephlojalaa
