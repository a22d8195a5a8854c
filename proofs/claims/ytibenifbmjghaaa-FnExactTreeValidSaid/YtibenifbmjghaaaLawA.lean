/- Contracts of the functions that only ask of one text: valid, leaves, nodes; on both sides. -/
import Derived.Test.YtibenifbmjghaaaSpecA
import Derived.Test.YtibenifbmjghaaaReadIC
import Derived.ProofKit
namespace Go.Proofs.Ytibenifbmjghaaa
open Go.RowKit

theorem own : ownKnob Try.prog.godebug = none := by kernel_rfl
theorem laidOut : laidOutB Try.prog = true := by kernel_rfl

/-- What a call answers that only makes memory. -/
def Ans (v : Value) (w : World) (e : Ending) (w' : World) : Prop := e = .returned v ∧ Below w.heap.size w w'

theorem sValid_any (s : ByteArray) (w : World) (hs : s.size ≤ 140737488351232) :
    Calls Try.prog 13 #[.string s] w (Ans (.bool (parse s.data.toList).isSome) w) := by
  go_enter Try.func13, Try.ntmps13
  go_wp2_with fail
  refine (l1Parse_any s w hs).mono ?_
  rintro e w1 ⟨hB, lb, sa, sn, sc, b, rfl, hres⟩
  have hb : b = (parse s.data.toList).isSome := by
    rcases hres with ⟨h, rfl⟩ | ⟨t, h, rfl, _⟩
    · rw [h]; rfl
    · rw [h]; rfl
  have HB := Lib.hid hb
  clear hb hres
  go_wp2_with fail
  go_ret
  exact ⟨by rw [← HB.out]; rfl, hB.alloc hB.size _⟩

theorem iValid_any (s : ByteArray) (w : World) (hs : s.size ≤ 140737488351232) :
    Calls Try.prog 14 #[.string s] w (Ans (.bool (parse s.data.toList).isSome) w) := by
  go_enter Try.func14, Try.ntmps14
  go_wp2_with fail
  refine (readTree_any s w hs).mono ?_
  rintro e w1 ⟨hB, ⟨hno, rfl⟩ | ⟨t, ty, a, hyes, rfl, hrep⟩⟩
  · have HN := Lib.hid hno
    clear hno
    go_wp2_with fail
    go_ret
    exact ⟨by rw [HN.out]; rfl, hB⟩
  · have HN := Lib.hid hyes
    clear hyes
    go_wp2_with fail
    go_ret
    exact ⟨by rw [HN.out]; rfl, hB⟩

theorem lawValid_any (s : ByteArray) (w : World) (hs : s.size ≤ maxLen) :
    Calls Try.prog 3 #[.string s] w (Ans (.bool true) w) := by
  unfold maxLen at hs
  by_cases h : (s.size : Int) ≤ 1048576
  · obtain ⟨b, hb⟩ : ∃ b, (parse s.data.toList).isSome = b := ⟨_, rfl⟩
    have hS : ∀ w, Calls Try.prog 13 #[.string s] w (Ans (.bool b) w) := fun w => by rw [← hb]; exact sValid_any s w (by omega)
    have hI : ∀ w, Calls Try.prog 14 #[.string s] w (Ans (.bool b) w) := fun w => by rw [← hb]; exact iValid_any s w (by omega)
    have HS := Lib.hid hS
    have HI := Lib.hid hI
    clear hS hI hb
    cases b
    all_goals
      go_enter Try.func3, Try.ntmps3
      go_wp2_with fail
      refine (HS.out w).mono ?_
      rintro e w1 ⟨rfl, hB1⟩
      go_wp2_with fail
      refine (HI.out w1).mono ?_
      rintro e w2 ⟨rfl, hB2⟩
      go_wp2_with fail
      go_ret
      exact ⟨rfl, hB1.trans (hB2.mono hB1.size)⟩
  · go_enter Try.func3, Try.ntmps3
    go_wp2_with fail
    go_ret
    exact ⟨rfl, Below.refl _ _⟩

open Go.ChangeShapes Go.WideShapes Go.ChangeAt in
set_option maxRecDepth 100000 in
theorem exactTreeValid_lifted (os : Os) (started : os.Started) (H : Type) (enc : TypeId × Value → H) :
    ReturnsInHanded {} Try.checked os 3 .any (Rows.fnExactTreeValidSpec.pre6 enc Try.prog Try.f3 Rows.fnExactTreeValidRow.domain false) (Rows.fnExactTreeValidSpec.post enc Try.prog Try.f3 false true false false) := by
  refine returnsInHanded_of_change (C := Try.checked) own started (by kernel_rfl) Try.func3
    (ChangeSpec.witness6 (enc := enc) (C := Try.checked) false ⟨#[], #[.string ⟨#[]⟩], []⟩ 8 (by kernel_rfl) (by kernel_rfl) (by kernel_rfl) (by kernel_rfl)) ?_
  intro W base args ds gs before hval0 hW hcnd _
  have hval : ∀ (j : Nat) t v, Try.f3.params[j]? = some t → args[j]? = some v → Value.okWide Try.prog W .any base t v := hval0
  have hW' := hW
  obtain ⟨p, q, hA0, hV, rfl, _, _⟩ := hW
  have hA : DataW.TrodAll enc Try.prog W 0 (fun _ => true) true Try.f3.params.toList args.toList ds p := hA0
  rw [Try.params3] at hA hval
  obtain ⟨v0, d0, rfl, rfl, h0⟩ := trodAll_one hA
  obtain ⟨rfl, rfl⟩ := trodVars_none hV
  obtain ⟨s, rfl, rfl, rfl, ws⟩ := Go.ChangeMaps.open_string Try.underlying9 (hval 0 _ v0 rfl rfl) h0
  clear hA0 hval0
  refine (lawValid_any s W ws).mono fun e W' ⟨he, hB⟩ => ?_
  subst he
  refine ⟨_, rfl, _, _, _, [], [] ++ [], [], hW', ?_, ?_, rfl, hB.frame _, fun h => by cases h⟩
  · exact trodAll_mk1 (shut_bool Try.underlying4 true)
  · exact trodAll_mk1 (Go.ChangeMaps.shut_string Try.underlying9 ws)

theorem exactTreeValid_holds : Rows.FnExactTreeValidSaid :=
  OpenClaim.holds_of_wide 3 Try.f3 rfl rfl rfl rfl rfl rfl rfl ⟨rfl, rfl, rfl, rfl, rfl⟩ rfl rfl rfl rfl rfl (by kernel_rfl) Try.func3 (by kernel_rfl)
    (of_decide_eq_true (by kernel_rfl)) (by unfold Func.isWrapper; first | (rw [if_pos (by decide +kernel)]; kernel_rfl) | (rw [if_neg (by decide +kernel)]; exact ⟨rfl, rfl⟩))
    (fun os started H enc _ => exactTreeValid_lifted os started H enc)
end Go.Proofs.Ytibenifbmjghaaa
