/- 'FnExactTreeWhole' returns true at every input, and its arguments read as before: no condition. -/
import Derived.Test.YtmmfcljkcepahaaLawWhole
import Derived.Test.YtmmfcljkcepahaaFacts
import Derived.ProofKit
namespace Go.Proofs.Ytmmfcljkcepahaa
open Go.ChangeShapes Go.WideShapes Go.ChangeAt Go.RowKit

set_option maxRecDepth 100000 in
theorem fnExactTreeWhole_lifted (os : Os) (started : os.Started) (H : Type) (enc : TypeId × Value → H) :
    ReturnsInHanded {} Try.checked os 17 .any (Rows.fnExactTreeWholeSpec.pre6 enc Try.prog Try.f17 Rows.fnExactTreeWholeRow.domain false) (Rows.fnExactTreeWholeSpec.post enc Try.prog Try.f17 false true false false) := by
  refine returnsInHanded_of_change (C := Try.checked) own started (by kernel_rfl) Try.func17
    (ChangeSpec.witness6 (enc := enc) (C := Try.checked) false ⟨#[], #[.string ⟨#[]⟩, .slice none 0 0], []⟩ 8 (by kernel_rfl) (by kernel_rfl) (by kernel_rfl) (by kernel_rfl)) ?_
  intro W base args ds gs before hval0 hW _ _
  have hval : ∀ (j : Nat) t v, Try.f17.params[j]? = some t → args[j]? = some v → Value.okWide Try.prog W .any base t v := hval0
  have hW' := hW
  obtain ⟨p, q, hA0, hV, rfl, _, _⟩ := hW
  have hA : DataW.TrodAll enc Try.prog W 0 (fun _ => true) true Try.f17.params.toList args.toList ds p := hA0
  rw [Try.params17] at hA hval
  obtain ⟨v0, v1, d0, d1, p0, p1, rfl, rfl, rfl, h0, h1⟩ := trodAll_two hA
  obtain ⟨rfl, rfl⟩ := trodVars_none hV
  obtain ⟨x0, rfl, rfl, rfl, w0⟩ := Go.ChangeMaps.open_string Try.underlying9 (hval 0 _ v0 rfl rfl) h0
  have hk1 := h1
  obtain ⟨a1, c1, x1, rfl, wa1, wb1, wc1⟩ := open_txts (hval 1 _ v1 rfl rfl) h1
  clear hA0 hval0
  refine (lawWhole_any x0 x1 a1 c1 W w0 wa1 wb1 wc1).mono fun e W' ⟨he, hB⟩ => ?_
  subst he
  refine ⟨_, rfl, _, _, _, [], [] ++ p1, [], hW', ?_, ?_, rfl, hB.frame _, fun h => by cases h⟩
  · exact trodAll_mk1 (shut_bool Try.underlying4 true)
  · exact trodAll_mk2 (Go.ChangeMaps.shut_string Try.underlying9 w0) (Below.trod laidOut (by kernel_rfl) (of_decide_eq_true (by kernel_rfl)) hk1 hB (fun x hx => by have := hW'.lt x (by simp [hx]); simpa using this))

theorem fnExactTreeWhole_holds : Rows.FnExactTreeWholeSaid :=
  OpenClaim.holds_of_wide 17 Try.f17 rfl rfl rfl rfl rfl rfl rfl ⟨rfl, rfl, rfl, rfl, rfl⟩ rfl rfl rfl rfl rfl (by kernel_rfl) Try.func17 (by
      show joinedFacts Try.prog 17 Try.f17 Rows.fnExactTreeWholeSpec Rows.fnExactTreeWholeRow = true
      simp only [joinedFacts, factMay, factLifts, factMake]
      kernel_rfl)
    (of_decide_eq_true (by kernel_rfl)) (by unfold Func.isWrapper; first | (rw [if_pos (by decide +kernel)]; kernel_rfl) | (rw [if_neg (by decide +kernel)]; exact ⟨rfl, rfl⟩))
    (fun os started H enc _ => fnExactTreeWhole_lifted os started H enc)
end Go.Proofs.Ytmmfcljkcepahaa
