/- 'FnExactPatternFree' returns true at every input, and its arguments read as before: no condition. -/
import Derived.Test.YtlmedcmheninaaaLawFree
import Derived.Test.YtlmedcmheninaaaFacts
import Derived.ProofKit
namespace Go.Proofs.Ytlmedcmheninaaa
open Go.ChangeShapes Go.WideShapes Go.ChangeAt Go.RowKit

set_option maxRecDepth 100000 in
theorem fnExactPatternFree_lifted (os : Os) (started : os.Started) (H : Type) (enc : TypeId × Value → H) :
    ReturnsInHanded {} Try.checked os 11 .any (Rows.fnExactPatternFreeSpec.pre6 enc Try.prog Try.f11 Rows.fnExactPatternFreeRow.domain false) (Rows.fnExactPatternFreeSpec.post enc Try.prog Try.f11 false true false false) := by
  refine returnsInHanded_of_change (C := Try.checked) own started (by kernel_rfl) Try.func11
    (ChangeSpec.witness6 (enc := enc) (C := Try.checked) false ⟨#[], #[.slice none 0 0, .string ⟨#[]⟩], []⟩ 8 (by kernel_rfl) (by kernel_rfl) (by kernel_rfl) (by kernel_rfl)) ?_
  intro W base args ds gs before hval0 hW _ _
  have hval : ∀ (j : Nat) t v, Try.f11.params[j]? = some t → args[j]? = some v → Value.okWide Try.prog W .any base t v := hval0
  have hW' := hW
  obtain ⟨p, q, hA0, hV, rfl, _, _⟩ := hW
  have hA : DataW.TrodAll enc Try.prog W 0 (fun _ => true) true Try.f11.params.toList args.toList ds p := hA0
  rw [Try.params11] at hA hval
  obtain ⟨v0, v1, d0, d1, p0, p1, rfl, rfl, rfl, h0, h1⟩ := trodAll_two hA
  obtain ⟨rfl, rfl⟩ := trodVars_none hV
  obtain ⟨x1, rfl, rfl, rfl, w1⟩ := Go.ChangeMaps.open_string Try.underlying9 (hval 1 _ v1 rfl rfl) h1
  have hk0 := h0
  obtain ⟨a0, c0, x0, rfl, wa0, wb0, wc0⟩ := open_txts (hval 0 _ v0 rfl rfl) h0
  clear hA0 hval0
  refine (lawPatternFree_any x0 a0 c0 x1 W wa0 wb0 wc0 w1).mono fun e W' ⟨he, hB⟩ => ?_
  subst he
  refine ⟨_, rfl, _, _, _, [], p0 ++ [], [], hW', ?_, ?_, rfl, hB.frame _, fun h => by cases h⟩
  · exact trodAll_mk1 (shut_bool Try.underlying4 true)
  · exact trodAll_mk2 (Below.trod laidOut (by kernel_rfl) (of_decide_eq_true (by kernel_rfl)) hk0 hB (fun x hx => by have := hW'.lt x (by simp [hx]); simpa using this)) (Go.ChangeMaps.shut_string Try.underlying9 w1)

theorem fnExactPatternFree_holds : Rows.FnExactPatternFreeSaid :=
  OpenClaim.holds_of_wide 11 Try.f11 rfl rfl rfl rfl rfl rfl rfl ⟨rfl, rfl, rfl, rfl, rfl⟩ rfl rfl rfl rfl rfl (by kernel_rfl) Try.func11 (by
      show joinedFacts Try.prog 11 Try.f11 Rows.fnExactPatternFreeSpec Rows.fnExactPatternFreeRow = true
      simp only [joinedFacts, factMay, factLifts, factMake]
      kernel_rfl)
    (of_decide_eq_true (by kernel_rfl)) (by unfold Func.isWrapper; first | (rw [if_pos (by decide +kernel)]; kernel_rfl) | (rw [if_neg (by decide +kernel)]; exact ⟨rfl, rfl⟩))
    (fun os started H enc _ => fnExactPatternFree_lifted os started H enc)
end Go.Proofs.Ytlmedcmheninaaa
