/- SumLead by the program and by the model, and its law. -/
import Derived.Test.YtmmfcljkcepahaaLawSumV
namespace Go.Proofs.Ytmmfcljkcepahaa
open Go.RowKit

/-- The first term of a sum that is not 0. -/
def leadOf (xs : List (Int × ByteArray)) : Option (Int × ByteArray) := if (sumOf xs).isSome then xs.head? else none

theorem leadOf_no {xs : List (Int × ByteArray)} (h : (sumOf xs).isSome = false) : leadOf xs = none := by rw [leadOf, h]; rfl
theorem leadOf_yes {xs : List (Int × ByteArray)} (h0 : 0 < xs.length) (h : (sumOf xs).isSome = true) : leadOf xs = some (xs[0]) := by
  rw [leadOf, h]
  cases xs with
  | nil => simp at h0
  | cons x xs => rfl

def leadV : Option (Int × ByteArray) → Value
  | none => .tuple #[.agg #[.int .i64 0, .string ⟨#[]⟩], .bool false]
  | some y => .tuple #[.agg #[.int .i64 y.1, .string y.2], .bool true]

def LeadPost (xs : List (Int × ByteArray)) (w : World) (e : Ending) (w' : World) : Prop := Below w.heap.size w w' ∧ e = .returned (leadV (leadOf xs))

theorem leadV_shape (o : Option (Int × ByteArray)) : ∃ x s b, leadV o = .tuple #[.agg #[.int .i64 x, .string s], .bool b] := by
  cases o with
  | none => exact ⟨_, _, _, rfl⟩
  | some y => exact ⟨_, _, _, rfl⟩

set_option maxRecDepth 100000 in
set_option maxHeartbeats 1000000 in
theorem iSumLead_any (xs : List (Int × ByteArray)) (n : Nat) (hnx : n = xs.length) (g cap : Nat) (w : World) (hn : n ≤ 1048576) (hz : ∀ j (h : j < xs.length), (xs[j]).2.size ≤ 1048576) (hl : TermL w g xs) :
    Calls Try.prog 36 #[.slice (some ⟨g, 0, none⟩) n cap] w (LeadPost xs w) := by
  have hb1 : Below w.heap.size w (w.alloc (.cells #[.int .i64 0, .string ⟨#[]⟩] 41 (0, 0))) := (Below.refl _ _).alloc (Nat.le_refl _) _
  obtain ⟨b, hb⟩ : ∃ b, b = (sumOf xs).isSome := ⟨_, rfl⟩
  have hS := iSumValid_any xs n hnx g cap (w.alloc (.cells #[.int .i64 0, .string ⟨#[]⟩] 41 (0, 0))) hn hz (hl.below hb1)
  rw [← hb] at hS
  have HS := Lib.hid hS
  have HBV := Lib.hid hb
  have HL := Lib.hid (hl.below hb1)
  have HB1 := Lib.hid hb1
  have HNX := Lib.hid hnx
  have HX0 : Hid ((w.alloc (.cells #[.int .i64 0, .string ⟨#[]⟩] 41 (0, 0))).heap[w.heap.size]? = some (.cells #[.int .i64 0, .string ⟨#[]⟩] 41 (0, 0))) := Lib.hid (heap_alloc_new w _)
  clear hb1 hS hb hnx hz hl
  by_cases h0 : n = 0
  · have h0a : ((n : Int) == 0) = true := by simp [h0]
    have h0b : (n == 0) = true := by simp [h0]
    have hx : xs = [] := List.length_eq_zero_iff.1 (by have := HNX.out; omega)
    have HV : Hid (leadOf xs = none) := Lib.hid (by rw [hx]; rfl)
    have HB := Lib.hid (show (sumOf xs).isSome = true by rw [hx]; rfl)
    clear h0
    cases b
    · exact absurd HB.out (by rw [← HBV.out]; simp)
    · obtain ⟨r0, r1, f0, f1⟩ := two_cells HX0.out
      go_enter Try.func36, Try.ntmps36
      go_wp2_with fail
      refine bodyPost_ret (v := .tuple #[.agg #[.int .i64 0, .string ⟨#[]⟩], .bool false]) (by simp [results, Try.results36, go_sem, r0, r1]) rfl ?_
      exact ⟨HB1.out, by rw [HV.out]; rfl⟩
  · have h0a : ((n : Int) == 0) = false := by simp [h0]
    have h0b : (n == 0) = false := by simp [h0]
    have hx1 : 0 < xs.length := by have := HNX.out; omega
    have hn0 : 0 < n := by omega
    have hn0' : (0 : Int) < (n : Int) := by omega
    clear h0
    cases b
    · have HV : Hid (leadOf xs = none) := Lib.hid (leadOf_no HBV.out.symm)
      go_enter Try.func36, Try.ntmps36
      go_wp2_with fail
      refine HS.out.mono ?_
      rintro e w1 ⟨rfl, hB⟩
      obtain ⟨r0, r1, f0, f1⟩ := two_cells ((hB.block _ (by simp)).trans HX0.out)
      have HB2 := Lib.hid (below_step HB1.out hB)
      clear hB
      go_wp2_with fail
      refine bodyPost_ret (v := .tuple #[.agg #[.int .i64 0, .string ⟨#[]⟩], .bool false]) (by simp [results, Try.results36, go_sem, r0, r1]) rfl ?_
      exact ⟨(HB2.out.setCell (by simp) _).setCell (by simp) _, by rw [HV.out]; rfl⟩
    · have HV : Hid (leadOf xs = some (xs[0])) := Lib.hid (leadOf_yes hx1 HBV.out.symm)
      obtain ⟨c0, c1⟩ := HL.out 0 hx1
      rw [Nat.zero_mul] at c0 c1
      obtain ⟨x, hx⟩ : ∃ x, x = (xs[0]).1 := ⟨_, rfl⟩
      obtain ⟨s, hs⟩ : ∃ s, s = (xs[0]).2 := ⟨_, rfl⟩
      rw [← hx] at c0
      rw [← hs] at c1
      have HVV : Hid (leadOf xs = some (x, s)) := Lib.hid (by rw [HV.out, hx, hs])
      clear hx hs
      go_enter Try.func36, Try.ntmps36
      go_wp2_with fail
      refine HS.out.mono ?_
      rintro e w1 ⟨rfl, hB⟩
      obtain ⟨r0, r1, f0, f1⟩ := two_cells ((hB.block _ (by simp)).trans HX0.out)
      have d0 := keep1 hB c0
      have d1 := keep1 hB c1
      have HB2 := Lib.hid (below_step HB1.out hB)
      clear hB c0 c1
      go_wp2_with fail
      refine bodyPost_ret (v := .tuple #[.agg #[.int .i64 x, .string s], .bool true]) (by simp [results, Try.results36, go_sem, r0, r1]) rfl ?_
      exact ⟨(HB2.out.setCell (by simp) _).setCell (by simp) _, by rw [HVV.out]; rfl⟩

set_option maxRecDepth 100000 in
set_option maxHeartbeats 1000000 in
theorem sSumLead_any (xs : List (Int × ByteArray)) (n : Nat) (hnx : n = xs.length) (g cap : Nat) (w : World) (hn : n ≤ 1048576) (hz : ∀ j (h : j < xs.length), (xs[j]).2.size ≤ 1048576) (hl : TermL w g xs) :
    Calls Try.prog 35 #[.slice (some ⟨g, 0, none⟩) n cap] w (LeadPost xs w) := by
  have hb1 : Below w.heap.size w (w.alloc (.cells #[.int .i64 0, .string ⟨#[]⟩] 41 (0, 0))) := (Below.refl _ _).alloc (Nat.le_refl _) _
  obtain ⟨b, hb⟩ : ∃ b, b = (sumOf xs).isSome := ⟨_, rfl⟩
  have hS := sSumValid_any xs n hnx g cap (w.alloc (.cells #[.int .i64 0, .string ⟨#[]⟩] 41 (0, 0))) hn hz (hl.below hb1)
  rw [← hb] at hS
  have HS := Lib.hid hS
  have HBV := Lib.hid hb
  have HL := Lib.hid (hl.below hb1)
  have HB1 := Lib.hid hb1
  have HNX := Lib.hid hnx
  have HX0 : Hid ((w.alloc (.cells #[.int .i64 0, .string ⟨#[]⟩] 41 (0, 0))).heap[w.heap.size]? = some (.cells #[.int .i64 0, .string ⟨#[]⟩] 41 (0, 0))) := Lib.hid (heap_alloc_new w _)
  clear hb1 hS hb hnx hz hl
  by_cases h0 : n = 0
  · have h0a : ((n : Int) == 0) = true := by simp [h0]
    have h0b : (n == 0) = true := by simp [h0]
    have hx : xs = [] := List.length_eq_zero_iff.1 (by have := HNX.out; omega)
    have HV : Hid (leadOf xs = none) := Lib.hid (by rw [hx]; rfl)
    have HB := Lib.hid (show (sumOf xs).isSome = true by rw [hx]; rfl)
    clear h0
    cases b
    · exact absurd HB.out (by rw [← HBV.out]; simp)
    · obtain ⟨r0, r1, f0, f1⟩ := two_cells HX0.out
      clear r0 r1 f0 f1
      go_enter Try.func35, Try.ntmps35
      go_wp2_with fail
      refine HS.out.mono ?_
      rintro e w1 ⟨rfl, hB⟩
      obtain ⟨r0, r1, f0, f1⟩ := two_cells ((hB.block _ (by simp)).trans HX0.out)
      have HB2 := Lib.hid (below_step HB1.out hB)
      clear hB
      go_wp2_with fail
      refine bodyPost_ret (v := .tuple #[.agg #[.int .i64 0, .string ⟨#[]⟩], .bool false]) (by simp [results, Try.results35, go_sem, r0, r1]) rfl ?_
      exact ⟨(HB2.out.setCell (by simp) _).setCell (by simp) _, by rw [HV.out]; rfl⟩
  · have h0a : ((n : Int) == 0) = false := by simp [h0]
    have h0b : (n == 0) = false := by simp [h0]
    have hx1 : 0 < xs.length := by have := HNX.out; omega
    have hn0 : 0 < n := by omega
    have hn0' : (0 : Int) < (n : Int) := by omega
    clear h0
    cases b
    · have HV : Hid (leadOf xs = none) := Lib.hid (leadOf_no HBV.out.symm)
      go_enter Try.func35, Try.ntmps35
      go_wp2_with fail
      refine HS.out.mono ?_
      rintro e w1 ⟨rfl, hB⟩
      obtain ⟨r0, r1, f0, f1⟩ := two_cells ((hB.block _ (by simp)).trans HX0.out)
      have HB2 := Lib.hid (below_step HB1.out hB)
      clear hB
      go_wp2_with fail
      refine bodyPost_ret (v := .tuple #[.agg #[.int .i64 0, .string ⟨#[]⟩], .bool false]) (by simp [results, Try.results35, go_sem, r0, r1]) rfl ?_
      exact ⟨(HB2.out.setCell (by simp) _).setCell (by simp) _, by rw [HV.out]; rfl⟩
    · have HV : Hid (leadOf xs = some (xs[0])) := Lib.hid (leadOf_yes hx1 HBV.out.symm)
      obtain ⟨c0, c1⟩ := HL.out 0 hx1
      rw [Nat.zero_mul] at c0 c1
      obtain ⟨x, hx⟩ : ∃ x, x = (xs[0]).1 := ⟨_, rfl⟩
      obtain ⟨s, hs⟩ : ∃ s, s = (xs[0]).2 := ⟨_, rfl⟩
      rw [← hx] at c0
      rw [← hs] at c1
      have HVV : Hid (leadOf xs = some (x, s)) := Lib.hid (by rw [HV.out, hx, hs])
      clear hx hs
      go_enter Try.func35, Try.ntmps35
      go_wp2_with fail
      refine HS.out.mono ?_
      rintro e w1 ⟨rfl, hB⟩
      obtain ⟨r0, r1, f0, f1⟩ := two_cells ((hB.block _ (by simp)).trans HX0.out)
      have d0 := keep1 hB c0
      have d1 := keep1 hB c1
      have HB2 := Lib.hid (below_step HB1.out hB)
      clear hB c0 c1
      go_wp2_with fail
      refine bodyPost_ret (v := .tuple #[.agg #[.int .i64 x, .string s], .bool true]) (by simp [results, Try.results35, go_sem, r0, r1]) rfl ?_
      exact ⟨(HB2.out.setCell (by simp) _).setCell (by simp) _, by rw [HVV.out]; rfl⟩

set_option maxRecDepth 100000 in
set_option maxHeartbeats 1000000 in
theorem lawSumLead_any (ys : List (Int × ByteArray)) (a : Option Addr) (cap : Nat) (w : World) (hl : TermO w a ys) (hz : ∀ j (h : j < ys.length), (ys[j]).2.size ≤ 9223372036854775807) (_har : Coefs ys) (hn : ys.length ≤ 9223372036854775807) :
    Calls Try.prog 9 #[.slice a ys.length cap] w (Ans (.bool true) w) := by
  have HL := Lib.hid hl
  have HS0 := Lib.hid (szTermS_any ys a cap 1048576 w (by omega) (by omega) hn hz hl)
  clear hl hz
  go_enter Try.func9, Try.ntmps9
  go_wp2_with fail
  refine HS0.out.mono ?_
  rintro e w1 ⟨hB1, v, rfl, hv | ⟨hv, _, hn2, hz2⟩⟩
  · go_wp2_with fail
    go_ret
    exact ⟨rfl, hB1⟩
  · have HB1 := Lib.hid hB1
    obtain ⟨n, hnn⟩ : ∃ n, n = ys.length := ⟨_, rfl⟩
    have hn3 : n ≤ 1048576 := by omega
    have HT := Lib.hid (fun w hh => toTm_n (cap := cap) hnn hn2 w (a := a) hh)
    obtain ⟨x, s, b, hv3⟩ := leadV_shape (leadOf ys)
    have HS := Lib.hid (fun g w hh => (sSumLead_any ys n hnn g n w hn3 hz2 hh).mono (R' := fun e w' => e = .returned (.tuple #[.agg #[.int .i64 x, .string s], .bool b]) ∧ Below w.heap.size w w') (fun e w' h => ⟨by rw [h.2, hv3], h.1⟩))
    have HI := Lib.hid (fun g w hh => (iSumLead_any ys n hnn g n w hn3 hz2 hh).mono (R' := fun e w' => e = .returned (.tuple #[.agg #[.int .i64 x, .string s], .bool b]) ∧ Below w.heap.size w w') (fun e w' h => ⟨by rw [h.2, hv3], h.1⟩))
    have HE := Lib.hid (fun g g' w h1 h2 => eqTermS_any ys n hnn g g' n n w hn3 h1 h2)
    have HE1 := Lib.hid (fun w => eqTerm_any (x, s) w)
    rw [← hnn]
    clear hB1 hz2 hnn hn hn2 hv3
    go_wp2_with fail
    refine (HT.out w1 (HL.out.below HB1.out)).mono ?_
    rintro e w2 ⟨hB2, g, rfl, hg, hl2⟩
    have HB2 := Lib.hid (below_step HB1.out hB2)
    have HL2 := Lib.hid hl2
    clear hB2 hl2
    go_wp2_with fail
    refine (HS.out g w2 HL2.out).mono ?_
    rintro e w3 ⟨rfl, hB3⟩
    have HB3 := Lib.hid (below_step HB2.out hB3)
    clear hB3
    go_wp2_with fail
    refine (HT.out _ (HL.out.below (HB3.out.alloc HB3.out.size _))).mono ?_
    rintro e w4 ⟨hB4, g2, rfl, hg2, hl4⟩
    have HX3 := Lib.hid ((hB4.block w3.heap.size (by simp)).trans (heap_alloc_new w3 (.cells #[.int .i64 x, .string s] 41 (0, 0))))
    have HB4 := Lib.hid (below_step (HB3.out.alloc HB3.out.size _) hB4)
    have hw34 : w3.heap.size < w4.heap.size := by have := hB4.size; simp at this; omega
    have HL4 := Lib.hid hl4
    clear hB4 hl4
    go_wp2_with fail
    refine (HI.out g2 w4 HL4.out).mono ?_
    rintro e w5 ⟨rfl, hB5⟩
    have HX5 := Lib.hid ((hB5.block w3.heap.size hw34).trans HX3.out)
    have hw35 : w3.heap.size < w5.heap.size := by have := hB5.size; omega
    have HB5 := Lib.hid (below_step HB4.out hB5)
    have HL5 := Lib.hid (HL4.out.below hB5)
    have HY : Hid ((w5.alloc (.cells #[.int .i64 x, .string s] 41 (0, 0))).heap[w3.heap.size]? = some (.cells #[.int .i64 x, .string s] 41 (0, 0))) := Lib.hid (by rw [Below.heap_alloc _ _ _ hw35]; exact HX5.out)
    obtain ⟨y0, y1, _, _⟩ := two_cells HY.out
    clear hB5
    cases b
    all_goals
      go_wp2_with fail
      refine (HE1.out _).mono ?_
      rintro e w6 ⟨rfl, hB6⟩
      have HB6 := Lib.hid (below_step (HB5.out.alloc HB5.out.size _) hB6)
      have HL6 := Lib.hid ((HL5.out.below ((Below.refl _ _).alloc (Nat.le_refl _) _)).below hB6)
      clear hB6
      go_wp2_with fail
      refine (HT.out w6 (HL.out.below HB6.out)).mono ?_
      rintro e w7 ⟨hB7, g3, rfl, hg3, hl7⟩
      have HB7 := Lib.hid (below_step HB6.out hB7)
      have HL7 := Lib.hid hl7
      have HL8 := Lib.hid (HL6.out.below hB7)
      clear hB7 hl7
      go_wp2_with fail
      refine (HE.out g2 g3 w7 HL8.out HL7.out).mono ?_
      rintro e w8 ⟨rfl, hB8⟩
      go_wp2_with fail
      go_ret
      exact ⟨rfl, below_step HB7.out hB8⟩
end Go.Proofs.Ytmmfcljkcepahaa
