/- 'FnExactQuadDual' returns true at every input, and its arguments read as before: no condition. -/
import Derived.Test.YtoeebipahifpcaaGreatLawQuadDual
import Derived.Test.YtoeebipahifpcaaGreatFacts
import Derived.ProofKit
namespace Go.Proofs.YtoeebipahifpcaaGreat
open Go.ChangeShapes Go.WideShapes Go.ChangeAt Go.RowKit

set_option maxRecDepth 100000 in
theorem fnExactQuadDual_lifted (os : Os) (started : os.Started) (H : Type) (enc : TypeId × Value → H) :
    ReturnsInHanded {} Tryz.checked os 4 .any (Rows.fnExactQuadDualSpec.pre6 enc Tryz.prog Tryz.f4 Rows.fnExactQuadDualRow.domain false) (Rows.fnExactQuadDualSpec.post enc Tryz.prog Tryz.f4 false true false false) := by
  refine returnsInHanded_of_change (C := Tryz.checked) own started (by kernel_rfl) Tryz.func4
    (ChangeSpec.witness6 (enc := enc) (C := Tryz.checked) false ⟨#[], #[.slice none 0 0, .slice none 0 0], []⟩ 8 (by kernel_rfl) (by kernel_rfl) (by kernel_rfl) (by kernel_rfl)) ?_
  intro W base args ds gs before hval0 hW _ _
  have hval : ∀ (j : Nat) t v, Tryz.f4.params[j]? = some t → args[j]? = some v → Value.okWide Tryz.prog W .any base t v := hval0
  have hW' := hW
  obtain ⟨p, q, hA0, hV, rfl, _, _⟩ := hW
  have hA : DataW.TrodAll enc Tryz.prog W 0 (fun _ => true) true Tryz.f4.params.toList args.toList ds p := hA0
  rw [Tryz.params4] at hA hval
  obtain ⟨v0, v1, d0, d1, p0, p1, rfl, rfl, rfl, h0, h1⟩ := trodAll_two hA
  obtain ⟨rfl, rfl⟩ := trodVars_none hV
  have hk0 := h0
  obtain ⟨a0, c0, x0, rfl, wa0, wb0, wc0⟩ := open_txts (hval 0 _ v0 rfl rfl) h0
  have hk1 := h1
  obtain ⟨a1, c1, x1, rfl, wa1, wb1, wc1⟩ := open_termss (hval 1 _ v1 rfl rfl) h1
  clear hA0 hval0
  refine (lawQuadDual_any x0 a0 c0 x1 a1 c1 W wa0 wb0 wc0 wa1 wb1 wc1).mono fun e W' ⟨he, hB⟩ => ?_
  subst he
  refine ⟨_, rfl, _, _, _, [], p0 ++ p1, [], hW', ?_, ?_, rfl, hB.frame _, fun h => by cases h⟩
  · exact trodAll_mk1 (shut_bool Tryz.underlying4 true)
  · exact trodAll_mk2 (Below.trod laidOut (by kernel_rfl) (of_decide_eq_true (by kernel_rfl)) hk0 hB (fun x hx => by have := hW'.lt x (by simp [hx]); simpa using this)) (Below.trod laidOut (by kernel_rfl) (of_decide_eq_true (by kernel_rfl)) hk1 hB (fun x hx => by have := hW'.lt x (by simp [hx]); simpa using this))

theorem fnExactQuadDual_holds : Rows.FnExactQuadDualSaid :=
  OpenClaim.holds_of_wide 4 Tryz.f4 rfl rfl rfl rfl rfl rfl rfl ⟨rfl, rfl, rfl, rfl, rfl⟩ rfl rfl rfl rfl rfl (by kernel_rfl) Tryz.func4 (by
      show joinedFacts Tryz.prog 4 Tryz.f4 Rows.fnExactQuadDualSpec Rows.fnExactQuadDualRow = true
      simp only [joinedFacts, factMay, factLifts, factMake]
      kernel_rfl)
    (of_decide_eq_true (by kernel_rfl)) (by unfold Func.isWrapper; first | (rw [if_pos (by decide +kernel)]; kernel_rfl) | (rw [if_neg (by decide +kernel)]; exact ⟨rfl, rfl⟩))
    (fun os started H enc _ => fnExactQuadDual_lifted os started H enc)
end Go.Proofs.YtoeebipahifpcaaGreat
