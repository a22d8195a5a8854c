/- The promise on dimensions of faces. -/
import Derived.Test.YtbbkaephlojalaaLawFace
import Derived.Test.YtbbkaephlojalaaFaceDr
namespace Go.Proofs.Ytbbkaephlojalaa
open Go.RowKit

set_option maxRecDepth 100000 in
set_option maxHeartbeats 2000000 in
theorem pDim_any (bs : List Nat) (a : Option Addr) (cap : Nat) (w : World) (hl : LiesB w a bs) (h8 : ∀ z ∈ bs, z ≤ 255) (hn : bs.length ≤ 9223372036854775807) (hcap : bs.length ≤ cap) :
    Calls Try.prog 4 #[.slice a bs.length cap] w (Ans (.bool true) w) := by
  by_cases h : bs.length ≤ 1048576
  · have HD := Lib.hid (dFaceDim_any bs a cap w hn hcap h8 hl)
    clear h8 hl
    go_enter Try.func4, Try.ntmps4
    go_wp2_with fail
    refine HD.out.mono ?_
    rintro e w1 ⟨hB1, s, rfl, hs⟩
    have HB1 := Lib.hid hB1
    clear hB1
    cases hp : faceOf s.data.toList with
    | none =>
      have HI : Hid (∀ w, Calls Try.prog 12 #[.string s] w (Ans (.int .i64 (-1)) w)) := Lib.hid (fun w => by have := iFaceDim_any s w (by omega); rw [hp] at this; exact this)
      have HS : Hid (∀ w, Calls Try.prog 15 #[.string s] w (Ans (.int .i64 (-1)) w)) := Lib.hid (fun w => by have := sFaceDim_any s w (by omega); rw [hp] at this; exact this)
      clear hp
      go_wp2_with fail
      refine (HI.out w1).mono ?_
      rintro e w2 ⟨rfl, hB2⟩
      have HB2 := Lib.hid (below_step HB1.out hB2)
      clear hB2
      go_wp2_with fail
      refine (HS.out w2).mono ?_
      rintro e w3 ⟨rfl, hB3⟩
      have HB3 := Lib.hid (below_step HB2.out hB3)
      clear hB3
      go_wp2_with fail
      go_ret
      exact ⟨rfl, HB3.out⟩
    | some t =>
      have hf := faceOf_some.1 hp
      have hq := hf.1
      obtain ⟨hw, _, hlv, hnd⟩ := parse_some hq
      have hd0 := fc_dim t hf.2.1
      have hdn := dim_nodes t
      obtain ⟨d, hd⟩ : ∃ d : Int, d = t.dim := ⟨_, rfl⟩
      obtain ⟨n, hn1⟩ : ∃ n : Nat, n = t.nodes := ⟨_, rfl⟩
      obtain ⟨L, hL1⟩ : ∃ L : Nat, L = t.leaves := ⟨_, rfl⟩
      have HI : Hid (∀ w, Calls Try.prog 12 #[.string s] w (Ans (.int .i64 d) w)) := Lib.hid (fun w => by have := iFaceDim_any s w (by omega); rw [hp] at this; rw [hd]; exact this)
      have HS : Hid (∀ w, Calls Try.prog 15 #[.string s] w (Ans (.int .i64 d) w)) := Lib.hid (fun w => by have := sFaceDim_any s w (by omega); rw [hp] at this; rw [hd]; exact this)
      have HN : Hid (∀ w, Calls Try.prog 16 #[.string s] w (Ans (.int .i64 (n : Int)) w)) := Lib.hid (fun w => by have := iNodes_any s w (by omega); rw [hq] at this; rw [hn1]; exact this)
      have HL : Hid (∀ w, Calls Try.prog 17 #[.string s] w (Ans (.int .i64 (L : Int)) w)) := Lib.hid (fun w => by have := iLeaves_any s w (by omega); rw [hq] at this; rw [hL1]; exact this)
      rw [← hd, ← hn1, ← hL1] at hdn
      rw [← hd] at hd0
      rw [← hn1] at hnd
      rw [← hL1] at hlv
      have hd20 : d ≤ 20 := by omega
      have g1 : decide (d < 0) = false := decide_eq_false (by omega)
      have g2 : (d + (n : Int) == (L : Int) - 1) = true := by simpa using hdn
      clear hp hf hq hw hd hn1 hL1 hdn
      go_wp2_with fail
      refine (HI.out w1).mono ?_
      rintro e w2 ⟨rfl, hB2⟩
      have HB2 := Lib.hid (below_step HB1.out hB2)
      clear hB2
      go_wp2_with fail
      refine (HS.out w2).mono ?_
      rintro e w3 ⟨rfl, hB3⟩
      have HB3 := Lib.hid (below_step HB2.out hB3)
      clear hB3
      go_wp2_with fail
      refine (HN.out w3).mono ?_
      rintro e w4 ⟨rfl, hB4⟩
      have HB4 := Lib.hid (below_step HB3.out hB4)
      clear hB4
      go_wp2_with fail
      refine (HL.out w4).mono ?_
      rintro e w5 ⟨rfl, hB5⟩
      have HB5 := Lib.hid (below_step HB4.out hB5)
      clear hB5
      go_wp2_with fail
      go_ret
      exact ⟨rfl, HB5.out⟩
  · go_enter Try.func4, Try.ntmps4
    go_wp2_with fail
    go_ret
    exact ⟨rfl, Below.refl _ _⟩

end Go.Proofs.Ytbbkaephlojalaa
