/- SignOver by the model, and the law. -/
import Derived.Test.YtbmlknbldhcihaaOverS
import Derived.Test.YtbmlknbldhcihaaLawSign
namespace Go.Proofs.Ytbmlknbldhcihaa
open Go.RowKit

/-- What both answer. -/
def OverPost (ys : List (ByteArray × Int)) (s : ByteArray) (w : World) (e : Ending) (w' : World) : Prop :=
  Below w.heap.size w w' ∧ ∃ b, e = .returned (.bool b) ∧ (b = true ↔ SignOk ys ∧ ∃ t, parse s.data.toList = some t ∧ overD (signD ys) t)

set_option maxRecDepth 100000 in
set_option maxHeartbeats 1000000 in
theorem sSignOver_any (ys : List (ByteArray × Int)) (n : Nat) (hny : n = ys.length) (g cap : Nat) (s : ByteArray) (w : World) (hs : s.size ≤ 140737488351232) (hn : n ≤ 1048576) (hz : ∀ j (h : j < ys.length), (ys[j]).1.size ≤ 1048576) (har : Arities ys) (hl : SymL w g ys) :
    Calls Try.prog 47 #[.slice (some ⟨g, 0, none⟩) n cap, .string s] w (OverPost ys s w) := by
  have HSL := Lib.hid hl
  have HV0 := Lib.hid (fun w hh => sSignValid_any ys n hny g cap w hn hz hh)
  have HO0 := Lib.hid (fun t l s w P ht hr hh => l2Over_any ys n hny g cap hn har _ t l s w P (Nat.le_refl _) ht hr hh)
  clear hl hz har hny
  go_enter Try.func47, Try.ntmps47
  go_wp2_with fail
  refine (l1Parse_any s w hs).mono ?_
  rintro e w1 ⟨hB, lb, sa, sn, sc, b, rfl, hres⟩
  have HB := Lib.hid hB
  have HA1 : Hid (Below w1.heap.size w1 (w1.alloc (.cells #[.string lb, .slice sa sn sc] 61 (0, 0)))) := Lib.hid ((Below.refl _ _).alloc (Nat.le_refl _) _)
  have HBA := Lib.hid (below_step HB.out HA1.out)
  have HX := Lib.hid (heap_alloc_new w1 (.cells #[.string lb, .slice sa sn sc] 61 (0, 0)))
  clear hB
  rcases hres with ⟨hno, rfl⟩ | ⟨t, hyes, rfl, hrep⟩
  · have HN := Lib.hid hno
    clear hno
    go_wp2_with fail
    go_ret
    refine ⟨HBA.out, false, rfl, ?_⟩
    simp only [Bool.false_eq_true, false_iff]
    rintro ⟨_, t, ht, _⟩
    rw [HN.out] at ht; cases ht
  · have hw := (parse_some hyes).1
    have HYT := Lib.hid hyes
    have HW := Lib.hid hw
    have HRT := Lib.hid (hrep.below hw HA1.out)
    have HV := Lib.hid (HV0.out _ (HSL.out.below HBA.out))
    clear hyes hrep hw
    go_wp2_with fail
    refine HV.out.mono ?_
    rintro e w2 ⟨hB2, bv, rfl, hbv⟩
    have HBV := Lib.hid hbv
    have HB2 := Lib.hid (below_step HBA.out hB2)
    cases bv
    · clear hB2 hbv
      go_wp2_with fail
      go_ret
      refine ⟨HB2.out, false, rfl, ?_⟩
      simp only [Bool.false_eq_true, false_iff]
      rintro ⟨h, _⟩
      have := HBV.out.2 h
      cases this
    · have hx := (hB2.block w1.heap.size (by simp)).trans HX.out
      obtain ⟨x0, x1, _, _⟩ := two_cells hx
      have HC := Lib.hid (HO0.out t _ _ w2 _ HW.out (HRT.out.below HW.out hB2) (HSL.out.below HB2.out))
      clear hB2 hbv hx
      go_wp2_with fail
      refine HC.out.mono ?_
      rintro e w3 ⟨hB3, bo, rfl, hbo⟩
      have HB3 := Lib.hid (below_step HB2.out hB3)
      have HBO := Lib.hid hbo
      clear hB3 hbo
      go_wp2_with fail
      go_ret
      have hsig : SignOk ys := by simpa using HBV.out
      refine ⟨HB3.out, bo, rfl, HBO.out.trans ?_⟩
      constructor
      · exact fun h => ⟨hsig, t, HYT.out, (over_iff hsig HW.out).2 h⟩
      · rintro ⟨_, u, hu, h⟩
        rw [HYT.out] at hu
        cases hu
        exact (over_iff hsig HW.out).1 h

set_option maxRecDepth 100000 in
set_option maxHeartbeats 1000000 in
theorem lawSignOver_any (ys : List (ByteArray × Int)) (a : Option Addr) (cap : Nat) (s : ByteArray) (w : World) (hl : SymO w a ys) (hz : ∀ j (h : j < ys.length), (ys[j]).1.size ≤ 9223372036854775807) (har : Arities ys) (hn : ys.length ≤ 9223372036854775807) (hs : s.size ≤ maxLen) :
    Calls Try.prog 14 #[.slice a ys.length cap, .string s] w (Ans (.bool true) w) := by
  unfold maxLen at hs
  have HL := Lib.hid hl
  have HAR := Lib.hid har
  have HS0 := Lib.hid (szSymbolS_any ys a cap w hn hz hl)
  clear hl hz har
  by_cases h : (s.size : Int) ≤ 1048576
  · go_enter Try.func14, Try.ntmps14
    go_wp2_with fail
    refine HS0.out.mono ?_
    rintro e w1 ⟨hB1, v, rfl, hv | ⟨hv, hn2, hz2⟩⟩
    · go_wp2_with fail
      go_ret
      exact ⟨rfl, hB1⟩
    · have HB1 := Lib.hid hB1
      obtain ⟨n, hnn⟩ : ∃ n, n = ys.length := ⟨_, rfl⟩
      have hn3 : n ≤ 1048576 := by omega
      have hs3 : s.size ≤ 140737488351232 := by omega
      have HT := Lib.hid (fun w hh => toSym_n (cap := cap) hnn hn2 w (a := a) hh)
      have HS := Lib.hid (fun g w hh => sSignOver_any ys n hnn g n s w hs3 hn3 hz2 HAR.out hh)
      have HI := Lib.hid (fun g w hh => iSignOver_any ys n hnn g n s w hs3 hn3 hz2 HAR.out hh)
      have HE := Lib.hid (fun g g' w h1 h2 => eqSymbolS_any ys n hnn g g' n n w hn3 h1 h2)
      rw [← hnn]
      clear hB1 hz2 hnn hn hn2
      go_wp2_with fail
      refine (HT.out w1 (HL.out.below HB1.out)).mono ?_
      rintro e w2 ⟨hB2, g, rfl, hg, hl2⟩
      have HB2 := Lib.hid (below_step HB1.out hB2)
      have HL2 := Lib.hid hl2
      clear hB2 hl2
      go_wp2_with fail
      refine (HS.out g w2 HL2.out).mono ?_
      rintro e w3 ⟨hB3, b1, rfl, hb1⟩
      have HB3 := Lib.hid (below_step HB2.out hB3)
      have HV1 := Lib.hid hb1
      clear hB3 hb1
      go_wp2_with fail
      refine (HT.out w3 (HL.out.below HB3.out)).mono ?_
      rintro e w4 ⟨hB4, g2, rfl, hg2, hl4⟩
      have HB4 := Lib.hid (below_step HB3.out hB4)
      have HL4 := Lib.hid hl4
      clear hB4 hl4
      go_wp2_with fail
      refine (HI.out g2 w4 HL4.out).mono ?_
      rintro e w5 ⟨hB5, b2, rfl, hb2⟩
      have HB5 := Lib.hid (below_step HB4.out hB5)
      have HL5 := Lib.hid (HL4.out.below hB5)
      have hbb : b1 = b2 := by
        have h1 := HV1.out.trans hb2.symm
        cases b1 <;> cases b2 <;> simp_all
      subst hbb
      clear hB5 hb2
      cases b1
      all_goals
        go_wp2_with fail
        refine (HT.out w5 (HL.out.below HB5.out)).mono ?_
        rintro e w6 ⟨hB6, g3, rfl, hg3, hl6⟩
        have HB6 := Lib.hid (below_step HB5.out hB6)
        have HL6 := Lib.hid hl6
        have HL7 := Lib.hid (HL5.out.below hB6)
        clear hB6 hl6
        go_wp2_with fail
        refine (HE.out g2 g3 w6 HL7.out HL6.out).mono ?_
        rintro e w7 ⟨rfl, hB7⟩
        go_wp2_with fail
        go_ret
        exact ⟨rfl, below_step HB6.out hB7⟩
  · go_enter Try.func14, Try.ntmps14
    go_wp2_with fail
    go_ret
    exact ⟨rfl, Below.refl _ _⟩
end Go.Proofs.Ytbmlknbldhcihaa
