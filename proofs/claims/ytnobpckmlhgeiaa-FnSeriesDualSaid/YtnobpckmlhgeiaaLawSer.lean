/- The laws on series. -/
import Derived.Test.YtnobpckmlhgeiaaSerW
namespace Go.Proofs.Ytnobpckmlhgeiaa
open Go.RowKit

/-- A result that may be marked: nothing, or a row of the call's own. -/
def ResR (w : World) (B0 : Nat) (a : Option Addr) (N : Nat) (F : Nat → Int) : Prop := N = 0 ∨ ∃ x, a = some ⟨x, 0, none⟩ ∧ B0 ≤ x ∧ NumR w x N F

theorem ResR.o {w : World} {B0 N : Nat} {a : Option Addr} {F : Nat → Int} (h : ResR w B0 a N F) : NumO w a N F := by
  rcases h with rfl | ⟨x, rfl, _, h⟩
  · exact fun j hj => by omega
  · exact h.o

theorem ResR.below {w w' : World} {B0 N : Nat} {a : Option Addr} {F : Nat → Int} (h : ResR w B0 a N F) (hb : Below w.heap.size w w') : ResR w' B0 a N F := by
  rcases h with h | ⟨x, e, h1, h2⟩
  · exact .inl h
  · exact .inr ⟨x, e, h1, h2.below hb⟩

theorem ResR.kept {w w' : World} {B0 N g : Nat} {a : Option Addr} {F : Nat → Int} (h : ResR w B0 a N F) (hg : w.grownBy w' (some g)) (hlt : g < B0) : ResR w' B0 a N F := by
  rcases h with h | ⟨x, e, h1, h2⟩
  · exact .inl h
  · exact .inr ⟨x, e, h1, h2.block (hg.block x h2.lt (fun e => by simp only [Option.some.injEq] at e; omega))⟩

/-- The answers in one form. -/
def resN (n : Nat) (r : Option (Nat → Int)) : Nat := if r.isSome then n else 0
def resF (r : Option (Nat → Int)) : Nat → Int := r.getD (fun _ => 0)

def SRes (N : Nat) (F : Nat → Int) (B : Bool) (w : World) (e : Ending) (w' : World) : Prop :=
  Below w.heap.size w w' ∧ ∃ a c, e = .returned (.tuple #[.slice a N c, .bool B]) ∧ NumO w' a N F
def IRes (N : Nat) (F : Nat → Int) (B : Bool) (w : World) (e : Ending) (w' : World) : Prop :=
  Below w.heap.size w w' ∧ ∃ a c, e = .returned (.tuple #[.slice a N c, .bool B]) ∧ ResR w' w.heap.size a N F

theorem SerPostS.res {n : Nat} {r : Option (Nat → Int)} {w w' : World} {e : Ending} (h : SerPostS n r w e w') : SRes (resN n r) (resF r) r.isSome w e w' := by
  obtain ⟨hB, ⟨rfl, a, c, rfl⟩ | ⟨f, a, c, rfl, rfl, hf⟩⟩ := h
  · exact ⟨hB, a, c, rfl, fun j hj => absurd hj (by simp [resN])⟩
  · exact ⟨hB, a, c, rfl, hf⟩

theorem SerPost.res {n : Nat} {r : Option (Nat → Int)} {w w' : World} {e : Ending} (h : SerPost n r w e w') : IRes (resN n r) (resF r) r.isSome w e w' := by
  obtain ⟨hB, ⟨rfl, rfl⟩ | ⟨f, x, c, rfl, rfl, hx, _, hf⟩⟩ := h
  · exact ⟨hB, none, 0, rfl, .inl rfl⟩
  · exact ⟨hB, _, c, rfl, .inr ⟨x, rfl, hx, hf⟩⟩

theorem resN_le {n : Nat} {r : Option (Nat → Int)} (h : n ≤ 1048576) : resN n r ≤ 1048576 := by unfold resN; split <;> omega

theorem markNum_any (n : Nat) (f : Nat → Int) (g cap m : Nat) (z : Int) (w : World) (hz : z = (m : Int)) (hn : n ≤ 1048576) (hm2 : m ≤ 10000000) (hcur : NumR w g n f) :
    Calls Try.prog 21 #[.slice (some ⟨g, 0, none⟩) n cap, .int .i64 z] w fun e w' => e = .returned (.int .i64 (z + n)) ∧ w.grownBy w' (some g) := by
  subst hz
  refine (markIntS_any n f g cap m w hn hm2 hcur).mono ?_
  rintro e w' ⟨rfl, h, _⟩
  exact ⟨by rw [Int.natCast_add], h⟩

set_option maxRecDepth 100000 in
theorem markNone_any (a : Option Addr) (cap : Nat) (z : Int) (w : World) :
    Calls Try.prog 21 #[.slice a 0 cap, .int .i64 z] w fun e w' => e = .returned (.int .i64 z) ∧ w = w' := by
  go_enter Try.func21, Try.ntmps21
  go_wp2_with fail
  go_loopw [1, 5] (fun mv i wr => i = .int .i64 0 ∧ mv = .int .i64 z ∧ w = wr) (fun _ _ _ => 0)
  case atStart => exact ⟨rfl, rfl, rfl⟩
  case round =>
    obtain ⟨rfl, rfl, rfl⟩ := hrel
    go_wp2_with fail
    go_ret
    exact ⟨rfl, rfl⟩

theorem markRes_any (N : Nat) (F : Nat → Int) (a : Option Addr) (cap B0 : Nat) (w : World) (hn : N ≤ 1048576) (hB : B0 ≤ w.heap.size) (h : ResR w B0 a N F) :
    Calls Try.prog 21 #[.slice a N cap, .int .i64 1] w fun e w' => e = .returned (.int .i64 (1 + N)) ∧ Below B0 w w' ∧ w.heap.size ≤ w'.heap.size ∧ NumO w' a N (fun j => ((1 + j : Nat) : Int)) := by
  rcases h with rfl | ⟨x, rfl, hx, hr⟩
  · refine (markNone_any a cap 1 w).mono ?_
    rintro e w' ⟨rfl, rfl⟩
    exact ⟨rfl, Below.refl _ _, Nat.le_refl _, fun j hj => by omega⟩
  · refine (markIntS_any N F x cap 1 w hn (by omega) hr).mono ?_
    rintro e w' ⟨rfl, hg, hr'⟩
    exact ⟨by rw [Int.natCast_add]; rfl, (Below.refl _ _).grown hg hB (fun q e => by simp only [Option.some.injEq] at e; omega), hg.size, hr'.o⟩

theorem heldNum_any (n : Nat) (a : Option Addr) (cap : Nat) (w : World) (hn : n ≤ 1048576) (hl : NumO w a n (fun j => ((1 + j : Nat) : Int))) :
    Calls Try.prog 22 #[.slice a n cap, .int .i64 1] w (Ans (.int .i64 (1 + n)) w) := by
  refine (heldIntS_any n a cap 1 w hn (by omega) hl).mono ?_
  rintro e w' ⟨rfl, h⟩
  exact ⟨by rw [Int.natCast_add]; rfl, h⟩

set_option maxRecDepth 100000 in
set_option maxHeartbeats 1000000 in
theorem lawSeriesValid_any (n : Nat) (f : Nat → Int) (a : Option Addr) (c : Nat) (w : World) (hl : NumO w a n f) (_hb : NumB n f) (hn : n ≤ 9223372036854775807) :
    Calls Try.prog 3 #[.slice a n c] w (Ans (.bool true) w) := by
  have HL := Lib.hid hl
  clear hl
  by_cases hs : n ≤ 1048576
  case neg =>
    go_enter Try.func3, Try.ntmps3
    go_wp2_with fail
    go_ret
    exact ⟨rfl, Below.refl _ _⟩
  obtain ⟨B, hBB⟩ : ∃ B, serOk n f = B := ⟨_, rfl⟩
  have HS : Hid (∀ g d w, NumR w g n f → Calls Try.prog 15 #[.slice (some ⟨g, 0, none⟩) n d] w (Ans (.bool B) w)) := Lib.hid (fun g d w h => by
    have := sSeriesValid_any n f (some ⟨g, 0, none⟩) d w hs h.o
    rw [hBB] at this; exact this)
  have HI : Hid (∀ g d w, NumR w g n f → Calls Try.prog 17 #[.slice (some ⟨g, 0, none⟩) n d] w (Ans (.bool B) w)) := Lib.hid (fun g d w h => by
    have := iSeriesValid_any n f (some ⟨g, 0, none⟩) d w hn h.o
    rw [hBB] at this; exact this)
  clear hBB
  go_enter Try.func3, Try.ntmps3
  cases B
  all_goals
    go_wp2_with fail
    refine (toIntS_any n f a c w hs HL.out).mono ?_
    rintro e w1 ⟨hB1, x1, y1, rfl, _, _, hr1⟩
    have HB1 := Lib.hid hB1
    have K1 := Lib.hid hr1
    clear hB1 hr1
    go_wp2_with fail
    refine (HS.out x1 y1 w1 K1.out).mono ?_
    rintro e w2 ⟨rfl, hB2⟩
    have HB2 := Lib.hid (below_step HB1.out hB2)
    clear hB2
    go_wp2_with fail
    refine (toIntS_any n f a c w2 hs (HL.out.below HB2.out)).mono ?_
    rintro e w3 ⟨hB3, x3, y3, rfl, _, _, hr3⟩
    have HB3 := Lib.hid (below_step HB2.out hB3)
    have K3 := Lib.hid hr3
    clear hB3 hr3
    go_wp2_with fail
    refine (HI.out x3 y3 w3 K3.out).mono ?_
    rintro e w4 ⟨rfl, hB4⟩
    have HB4 := Lib.hid (below_step HB3.out hB4)
    have K4 := Lib.hid (K3.out.below hB4)
    clear hB4
    go_wp2_with fail
    refine (toIntS_any n f a c w4 hs (HL.out.below HB4.out)).mono ?_
    rintro e w5 ⟨hB5, x5, y5, rfl, _, _, hr5⟩
    have HB5 := Lib.hid (below_step HB4.out hB5)
    have K5 := Lib.hid (K4.out.below hB5)
    have J5 := Lib.hid hr5
    clear hB5 hr5
    go_wp2_with fail
    refine (eqIntS_any n f (some ⟨x3, 0, none⟩) (some ⟨x5, 0, none⟩) y3 y5 w5 hs K5.out.o J5.out.o).mono ?_
    rintro e w6 ⟨rfl, hB6⟩
    have HB6 := Lib.hid (below_step HB5.out hB6)
    clear hB6
    go_wp2_with fail
    go_ret
    exact ⟨rfl, HB6.out⟩

set_option maxRecDepth 100000 in
set_option maxHeartbeats 4000000 in
theorem lawSeriesTurn_any (n0 : Nat) (f0 : Nat → Int) (a0 : Option Addr) (c0 : Nat) (w : World) (hl0 : NumO w a0 n0 f0) (_hb0 : NumB n0 f0) (hn0 : n0 ≤ 9223372036854775807) :
    Calls Try.prog 5 #[.slice a0 n0 c0] w (Ans (.bool true) w) := by
  have HL0 := Lib.hid hl0
  clear hl0
  by_cases hs0 : n0 ≤ 1048576
  case neg =>
    go_enter Try.func5, Try.ntmps5
    go_wp2_with fail
    go_ret
    exact ⟨rfl, Below.refl _ _⟩
  have hN : resN n0 (ansTurn n0 f0) ≤ 1048576 := resN_le hs0
  obtain ⟨N, hNN⟩ : ∃ N, resN n0 (ansTurn n0 f0) = N := ⟨_, rfl⟩
  obtain ⟨F, hFF⟩ : ∃ F, resF (ansTurn n0 f0) = F := ⟨_, rfl⟩
  obtain ⟨B, hBB⟩ : ∃ B, (ansTurn n0 f0).isSome = B := ⟨_, rfl⟩
  have HS : Hid (∀ (g0 d0 : Nat) (w : World), NumR w g0 n0 f0 → Calls Try.prog 23 #[.slice (some ⟨g0, 0, none⟩) n0 d0] w (SRes N F B w)) := Lib.hid (fun g0 d0 w hh0 => by
    refine (sSeriesTurn_any n0 f0 (some ⟨g0, 0, none⟩) d0 w hs0 hh0.o).mono (fun e w' h => ?_)
    have h := h.res
    rw [hNN, hFF, hBB] at h
    exact h)
  have HI : Hid (∀ (g0 d0 : Nat) (w : World), NumR w g0 n0 f0 → Calls Try.prog 24 #[.slice (some ⟨g0, 0, none⟩) n0 d0] w (IRes N F B w)) := Lib.hid (fun g0 d0 w hh0 => by
    refine (iSeriesTurn_any n0 f0 (some ⟨g0, 0, none⟩) d0 w hn0 hh0.o).mono (fun e w' h => ?_)
    have h := h.res
    rw [hNN, hFF, hBB] at h
    exact h)
  rw [hNN] at hN
  clear hNN hFF hBB
  go_enter Try.func5, Try.ntmps5
  cases B
  all_goals
    go_wp2_with fail
    refine (toIntS_any n0 f0 a0 c0 w hs0 HL0.out).mono ?_
    rintro e w1 ⟨hB1, x1, y1, rfl, hx1, hy1, hr1⟩
    have hz1 := hB1.size
    have HB1 := Lib.hid hB1
    have K1 := Lib.hid hr1
    clear hB1 hr1
    go_wp2_with fail
    refine (HS.out x1 y1 w1 K1.out).mono ?_
    rintro e w2 ⟨hB2, b2, k2, rfl, hr2⟩
    have hz2 := hB2.size
    have HB2 := Lib.hid (below_step HB1.out hB2)
    have C1_2 := Lib.hid (K1.out.below hB2)
    have Q2 := Lib.hid hr2
    clear hB2 hr2
    have A2 : Hid (Below w2.heap.size w2 w2) := Lib.hid (Below.refl _ _)
    go_wp2_with fail
    refine (toIntS_any n0 f0 a0 c0 w2 hs0 (HL0.out.below HB2.out)).mono ?_
    rintro e w3 ⟨hB3, x3, y3, rfl, hx3, hy3, hr3⟩
    have hz3 := hB3.size
    have HB3 := Lib.hid (below_step HB2.out hB3)
    have A3 := Lib.hid (below_step A2.out hB3)
    have K3 := Lib.hid hr3
    clear hB3 hr3
    go_wp2_with fail
    refine (HI.out x3 y3 w3 K3.out).mono ?_
    rintro e w4 ⟨hB4, b4, k4, rfl, hr4⟩
    have hz4 := hB4.size
    have HB4 := Lib.hid (below_step HB3.out hB4)
    have A4 := Lib.hid (below_step A3.out hB4)
    have C3_4 := Lib.hid (K3.out.below hB4)
    have Q4 := Lib.hid hr4
    clear hB4 hr4
    go_wp2_with fail
    refine (eqIntS_any N F b4 b2 k4 k2 w4 hN Q4.out.o (Q2.out.below A4.out)).mono ?_
    rintro e w5 ⟨rfl, hB5⟩
    have hz5 := hB5.size
    have HB5 := Lib.hid (below_step HB4.out hB5)
    have A5 := Lib.hid (below_step A4.out hB5)
    have C3_5 := Lib.hid (C3_4.out.below hB5)
    have R5 := Lib.hid (Q4.out.below hB5)
    clear hB5
    go_wp2_with fail
    refine (toIntS_any n0 f0 a0 c0 w5 hs0 (HL0.out.below HB5.out)).mono ?_
    rintro e w6 ⟨hB6, x6, y6, rfl, hx6, hy6, hr6⟩
    have hz6 := hB6.size
    have HB6 := Lib.hid (below_step HB5.out hB6)
    have A6 := Lib.hid (below_step A5.out hB6)
    have C3_6 := Lib.hid (C3_5.out.below hB6)
    have R6 := Lib.hid (R5.out.below hB6)
    have K6 := Lib.hid hr6
    clear hB6 hr6
    go_wp2_with fail
    refine (eqIntS_any n0 f0 (some ⟨x3, 0, none⟩) (some ⟨x6, 0, none⟩) y3 y6 w6 hs0 C3_6.out.o K6.out.o).mono ?_
    rintro e w7 ⟨rfl, hB7⟩
    have hz7 := hB7.size
    have HB7 := Lib.hid (below_step HB6.out hB7)
    have A7 := Lib.hid (below_step A6.out hB7)
    have C3_7 := Lib.hid (C3_6.out.below hB7)
    have R7 := Lib.hid (R6.out.below hB7)
    clear hB7
    have hxl8 : x3 < w3.heap.size := K3.out.lt
    go_wp2_with fail
    refine (markNum_any n0 f0 x3 y3 (1) (1) w7 (by simp) hs0 (by omega) C3_7.out).mono ?_
    rintro e w8 ⟨rfl, hg8⟩
    have hz8 := hg8.size
    have HB8 : Hid (Below w.heap.size w w8) := Lib.hid (HB7.out.grown hg8 HB7.out.size (fun q e => by simp only [Option.some.injEq] at e; have := HB2.out.size; omega))
    have A8 : Hid (Below w2.heap.size w2 w8) := Lib.hid (A7.out.grown hg8 A7.out.size (fun q e => by simp only [Option.some.injEq] at e; omega))
    have R8 := Lib.hid (R7.out.kept hg8 hxl8)
    clear hg8
    go_wp2_with fail
    refine (eqIntS_any N F b4 b2 k4 k2 w8 hN R8.out.o (Q2.out.below A8.out)).mono ?_
    rintro e w9 ⟨rfl, hB9⟩
    have hz9 := hB9.size
    have HB9 := Lib.hid (below_step HB8.out hB9)
    have A9 := Lib.hid (below_step A8.out hB9)
    have R9 := Lib.hid (R8.out.below hB9)
    clear hB9
    go_wp2_with fail
    refine (markRes_any N F b4 k4 w3.heap.size w9 hN (by omega) R9.out).mono ?_
    rintro e w10 ⟨rfl, hB10, hz10, hm10⟩
    have HB10 : Hid (Below w.heap.size w w10) := Lib.hid (HB9.out.trans (hB10.mono (by have := HB2.out.size; omega)))
    have A10 : Hid (Below w2.heap.size w2 w10) := Lib.hid (A9.out.trans (hB10.mono (by omega)))
    have M10 := Lib.hid hm10
    clear hB10 hm10
    go_wp2_with fail
    refine (heldNum_any N b4 k4 w10 hN M10.out).mono ?_
    rintro e w11 ⟨rfl, hB11⟩
    have hz11 := hB11.size
    have HB11 := Lib.hid (below_step HB10.out hB11)
    have A11 := Lib.hid (below_step A10.out hB11)
    have M11 := Lib.hid (M10.out.below hB11)
    clear hB11
    go_wp2_with fail
    refine (toIntS_any n0 f0 a0 c0 w11 hs0 (HL0.out.below HB11.out)).mono ?_
    rintro e w12 ⟨hB12, x12, y12, rfl, hx12, hy12, hr12⟩
    have hz12 := hB12.size
    have HB12 := Lib.hid (below_step HB11.out hB12)
    have A12 := Lib.hid (below_step A11.out hB12)
    have M12 := Lib.hid (M11.out.below hB12)
    have K12 := Lib.hid hr12
    clear hB12 hr12
    go_wp2_with fail
    refine (HI.out x12 y12 w12 K12.out).mono ?_
    rintro e w13 ⟨hB13, b13, k13, rfl, hr13⟩
    have hz13 := hB13.size
    have HB13 := Lib.hid (below_step HB12.out hB13)
    have A13 := Lib.hid (below_step A12.out hB13)
    have C12_13 := Lib.hid (K12.out.below hB13)
    have M13 := Lib.hid (M12.out.below hB13)
    have Q13 := Lib.hid hr13
    clear hB13 hr13
    go_wp2_with fail
    refine (eqIntS_any N F b13 b2 k13 k2 w13 hN Q13.out.o (Q2.out.below A13.out)).mono ?_
    rintro e w14 ⟨rfl, hB14⟩
    have hz14 := hB14.size
    have HB14 := Lib.hid (below_step HB13.out hB14)
    have A14 := Lib.hid (below_step A13.out hB14)
    have M14 := Lib.hid (M13.out.below hB14)
    clear hB14
    go_wp2_with fail
    refine (heldNum_any N b4 k4 w14 hN M14.out).mono ?_
    rintro e w15 ⟨rfl, hB15⟩
    have hz15 := hB15.size
    have HB15 := Lib.hid (below_step HB14.out hB15)
    have A15 := Lib.hid (below_step A14.out hB15)
    have M15 := Lib.hid (M14.out.below hB15)
    clear hB15
    go_wp2_with fail
    go_ret
    exact ⟨rfl, HB15.out⟩

set_option maxRecDepth 100000 in
set_option maxHeartbeats 4000000 in
theorem lawSeriesInverse_any (n0 : Nat) (f0 : Nat → Int) (a0 : Option Addr) (c0 : Nat) (w : World) (hl0 : NumO w a0 n0 f0) (_hb0 : NumB n0 f0) (hn0 : n0 ≤ 9223372036854775807) :
    Calls Try.prog 7 #[.slice a0 n0 c0] w (Ans (.bool true) w) := by
  have HL0 := Lib.hid hl0
  clear hl0
  by_cases hs0 : n0 ≤ 1048576
  case neg =>
    go_enter Try.func7, Try.ntmps7
    go_wp2_with fail
    go_ret
    exact ⟨rfl, Below.refl _ _⟩
  have hN : resN n0 (ansInv n0 f0) ≤ 1048576 := resN_le hs0
  obtain ⟨N, hNN⟩ : ∃ N, resN n0 (ansInv n0 f0) = N := ⟨_, rfl⟩
  obtain ⟨F, hFF⟩ : ∃ F, resF (ansInv n0 f0) = F := ⟨_, rfl⟩
  obtain ⟨B, hBB⟩ : ∃ B, (ansInv n0 f0).isSome = B := ⟨_, rfl⟩
  have HS : Hid (∀ (g0 d0 : Nat) (w : World), NumR w g0 n0 f0 → Calls Try.prog 27 #[.slice (some ⟨g0, 0, none⟩) n0 d0] w (SRes N F B w)) := Lib.hid (fun g0 d0 w hh0 => by
    refine (sSeriesInverse_any n0 f0 (some ⟨g0, 0, none⟩) d0 w hs0 hh0.o).mono (fun e w' h => ?_)
    have h := h.res
    rw [hNN, hFF, hBB] at h
    exact h)
  have HI : Hid (∀ (g0 d0 : Nat) (w : World), NumR w g0 n0 f0 → Calls Try.prog 28 #[.slice (some ⟨g0, 0, none⟩) n0 d0] w (IRes N F B w)) := Lib.hid (fun g0 d0 w hh0 => by
    refine (iSeriesInverse_any n0 f0 (some ⟨g0, 0, none⟩) d0 w hn0 hh0.o).mono (fun e w' h => ?_)
    have h := h.res
    rw [hNN, hFF, hBB] at h
    exact h)
  rw [hNN] at hN
  clear hNN hFF hBB
  go_enter Try.func7, Try.ntmps7
  cases B
  all_goals
    go_wp2_with fail
    refine (toIntS_any n0 f0 a0 c0 w hs0 HL0.out).mono ?_
    rintro e w1 ⟨hB1, x1, y1, rfl, hx1, hy1, hr1⟩
    have hz1 := hB1.size
    have HB1 := Lib.hid hB1
    have K1 := Lib.hid hr1
    clear hB1 hr1
    go_wp2_with fail
    refine (HS.out x1 y1 w1 K1.out).mono ?_
    rintro e w2 ⟨hB2, b2, k2, rfl, hr2⟩
    have hz2 := hB2.size
    have HB2 := Lib.hid (below_step HB1.out hB2)
    have C1_2 := Lib.hid (K1.out.below hB2)
    have Q2 := Lib.hid hr2
    clear hB2 hr2
    have A2 : Hid (Below w2.heap.size w2 w2) := Lib.hid (Below.refl _ _)
    go_wp2_with fail
    refine (toIntS_any n0 f0 a0 c0 w2 hs0 (HL0.out.below HB2.out)).mono ?_
    rintro e w3 ⟨hB3, x3, y3, rfl, hx3, hy3, hr3⟩
    have hz3 := hB3.size
    have HB3 := Lib.hid (below_step HB2.out hB3)
    have A3 := Lib.hid (below_step A2.out hB3)
    have K3 := Lib.hid hr3
    clear hB3 hr3
    go_wp2_with fail
    refine (HI.out x3 y3 w3 K3.out).mono ?_
    rintro e w4 ⟨hB4, b4, k4, rfl, hr4⟩
    have hz4 := hB4.size
    have HB4 := Lib.hid (below_step HB3.out hB4)
    have A4 := Lib.hid (below_step A3.out hB4)
    have C3_4 := Lib.hid (K3.out.below hB4)
    have Q4 := Lib.hid hr4
    clear hB4 hr4
    go_wp2_with fail
    refine (eqIntS_any N F b4 b2 k4 k2 w4 hN Q4.out.o (Q2.out.below A4.out)).mono ?_
    rintro e w5 ⟨rfl, hB5⟩
    have hz5 := hB5.size
    have HB5 := Lib.hid (below_step HB4.out hB5)
    have A5 := Lib.hid (below_step A4.out hB5)
    have C3_5 := Lib.hid (C3_4.out.below hB5)
    have R5 := Lib.hid (Q4.out.below hB5)
    clear hB5
    go_wp2_with fail
    refine (toIntS_any n0 f0 a0 c0 w5 hs0 (HL0.out.below HB5.out)).mono ?_
    rintro e w6 ⟨hB6, x6, y6, rfl, hx6, hy6, hr6⟩
    have hz6 := hB6.size
    have HB6 := Lib.hid (below_step HB5.out hB6)
    have A6 := Lib.hid (below_step A5.out hB6)
    have C3_6 := Lib.hid (C3_5.out.below hB6)
    have R6 := Lib.hid (R5.out.below hB6)
    have K6 := Lib.hid hr6
    clear hB6 hr6
    go_wp2_with fail
    refine (eqIntS_any n0 f0 (some ⟨x3, 0, none⟩) (some ⟨x6, 0, none⟩) y3 y6 w6 hs0 C3_6.out.o K6.out.o).mono ?_
    rintro e w7 ⟨rfl, hB7⟩
    have hz7 := hB7.size
    have HB7 := Lib.hid (below_step HB6.out hB7)
    have A7 := Lib.hid (below_step A6.out hB7)
    have C3_7 := Lib.hid (C3_6.out.below hB7)
    have R7 := Lib.hid (R6.out.below hB7)
    clear hB7
    have hxl8 : x3 < w3.heap.size := K3.out.lt
    go_wp2_with fail
    refine (markNum_any n0 f0 x3 y3 (1) (1) w7 (by simp) hs0 (by omega) C3_7.out).mono ?_
    rintro e w8 ⟨rfl, hg8⟩
    have hz8 := hg8.size
    have HB8 : Hid (Below w.heap.size w w8) := Lib.hid (HB7.out.grown hg8 HB7.out.size (fun q e => by simp only [Option.some.injEq] at e; have := HB2.out.size; omega))
    have A8 : Hid (Below w2.heap.size w2 w8) := Lib.hid (A7.out.grown hg8 A7.out.size (fun q e => by simp only [Option.some.injEq] at e; omega))
    have R8 := Lib.hid (R7.out.kept hg8 hxl8)
    clear hg8
    go_wp2_with fail
    refine (eqIntS_any N F b4 b2 k4 k2 w8 hN R8.out.o (Q2.out.below A8.out)).mono ?_
    rintro e w9 ⟨rfl, hB9⟩
    have hz9 := hB9.size
    have HB9 := Lib.hid (below_step HB8.out hB9)
    have A9 := Lib.hid (below_step A8.out hB9)
    have R9 := Lib.hid (R8.out.below hB9)
    clear hB9
    go_wp2_with fail
    refine (markRes_any N F b4 k4 w3.heap.size w9 hN (by omega) R9.out).mono ?_
    rintro e w10 ⟨rfl, hB10, hz10, hm10⟩
    have HB10 : Hid (Below w.heap.size w w10) := Lib.hid (HB9.out.trans (hB10.mono (by have := HB2.out.size; omega)))
    have A10 : Hid (Below w2.heap.size w2 w10) := Lib.hid (A9.out.trans (hB10.mono (by omega)))
    have M10 := Lib.hid hm10
    clear hB10 hm10
    go_wp2_with fail
    refine (heldNum_any N b4 k4 w10 hN M10.out).mono ?_
    rintro e w11 ⟨rfl, hB11⟩
    have hz11 := hB11.size
    have HB11 := Lib.hid (below_step HB10.out hB11)
    have A11 := Lib.hid (below_step A10.out hB11)
    have M11 := Lib.hid (M10.out.below hB11)
    clear hB11
    go_wp2_with fail
    refine (toIntS_any n0 f0 a0 c0 w11 hs0 (HL0.out.below HB11.out)).mono ?_
    rintro e w12 ⟨hB12, x12, y12, rfl, hx12, hy12, hr12⟩
    have hz12 := hB12.size
    have HB12 := Lib.hid (below_step HB11.out hB12)
    have A12 := Lib.hid (below_step A11.out hB12)
    have M12 := Lib.hid (M11.out.below hB12)
    have K12 := Lib.hid hr12
    clear hB12 hr12
    go_wp2_with fail
    refine (HI.out x12 y12 w12 K12.out).mono ?_
    rintro e w13 ⟨hB13, b13, k13, rfl, hr13⟩
    have hz13 := hB13.size
    have HB13 := Lib.hid (below_step HB12.out hB13)
    have A13 := Lib.hid (below_step A12.out hB13)
    have C12_13 := Lib.hid (K12.out.below hB13)
    have M13 := Lib.hid (M12.out.below hB13)
    have Q13 := Lib.hid hr13
    clear hB13 hr13
    go_wp2_with fail
    refine (eqIntS_any N F b13 b2 k13 k2 w13 hN Q13.out.o (Q2.out.below A13.out)).mono ?_
    rintro e w14 ⟨rfl, hB14⟩
    have hz14 := hB14.size
    have HB14 := Lib.hid (below_step HB13.out hB14)
    have A14 := Lib.hid (below_step A13.out hB14)
    have M14 := Lib.hid (M13.out.below hB14)
    clear hB14
    go_wp2_with fail
    refine (heldNum_any N b4 k4 w14 hN M14.out).mono ?_
    rintro e w15 ⟨rfl, hB15⟩
    have hz15 := hB15.size
    have HB15 := Lib.hid (below_step HB14.out hB15)
    have A15 := Lib.hid (below_step A14.out hB15)
    have M15 := Lib.hid (M14.out.below hB15)
    clear hB15
    go_wp2_with fail
    go_ret
    exact ⟨rfl, HB15.out⟩

set_option maxRecDepth 100000 in
set_option maxHeartbeats 4000000 in
theorem lawSeriesDual_any (n0 : Nat) (f0 : Nat → Int) (a0 : Option Addr) (c0 : Nat) (w : World) (hl0 : NumO w a0 n0 f0) (_hb0 : NumB n0 f0) (hn0 : n0 ≤ 9223372036854775807) :
    Calls Try.prog 8 #[.slice a0 n0 c0] w (Ans (.bool true) w) := by
  have HL0 := Lib.hid hl0
  clear hl0
  by_cases hs0 : n0 ≤ 1048576
  case neg =>
    go_enter Try.func8, Try.ntmps8
    go_wp2_with fail
    go_ret
    exact ⟨rfl, Below.refl _ _⟩
  have hN : resN n0 (ansDual n0 f0) ≤ 1048576 := resN_le hs0
  obtain ⟨N, hNN⟩ : ∃ N, resN n0 (ansDual n0 f0) = N := ⟨_, rfl⟩
  obtain ⟨F, hFF⟩ : ∃ F, resF (ansDual n0 f0) = F := ⟨_, rfl⟩
  obtain ⟨B, hBB⟩ : ∃ B, (ansDual n0 f0).isSome = B := ⟨_, rfl⟩
  have HS : Hid (∀ (g0 d0 : Nat) (w : World), NumR w g0 n0 f0 → Calls Try.prog 29 #[.slice (some ⟨g0, 0, none⟩) n0 d0] w (SRes N F B w)) := Lib.hid (fun g0 d0 w hh0 => by
    refine (sSeriesDual_any n0 f0 (some ⟨g0, 0, none⟩) d0 w hs0 hh0.o).mono (fun e w' h => ?_)
    have h := h.res
    rw [hNN, hFF, hBB] at h
    exact h)
  have HI : Hid (∀ (g0 d0 : Nat) (w : World), NumR w g0 n0 f0 → Calls Try.prog 30 #[.slice (some ⟨g0, 0, none⟩) n0 d0] w (IRes N F B w)) := Lib.hid (fun g0 d0 w hh0 => by
    refine (iSeriesDual_any n0 f0 (some ⟨g0, 0, none⟩) d0 w hn0 hh0.o).mono (fun e w' h => ?_)
    have h := h.res
    rw [hNN, hFF, hBB] at h
    exact h)
  rw [hNN] at hN
  clear hNN hFF hBB
  go_enter Try.func8, Try.ntmps8
  cases B
  all_goals
    go_wp2_with fail
    refine (toIntS_any n0 f0 a0 c0 w hs0 HL0.out).mono ?_
    rintro e w1 ⟨hB1, x1, y1, rfl, hx1, hy1, hr1⟩
    have hz1 := hB1.size
    have HB1 := Lib.hid hB1
    have K1 := Lib.hid hr1
    clear hB1 hr1
    go_wp2_with fail
    refine (HS.out x1 y1 w1 K1.out).mono ?_
    rintro e w2 ⟨hB2, b2, k2, rfl, hr2⟩
    have hz2 := hB2.size
    have HB2 := Lib.hid (below_step HB1.out hB2)
    have C1_2 := Lib.hid (K1.out.below hB2)
    have Q2 := Lib.hid hr2
    clear hB2 hr2
    have A2 : Hid (Below w2.heap.size w2 w2) := Lib.hid (Below.refl _ _)
    go_wp2_with fail
    refine (toIntS_any n0 f0 a0 c0 w2 hs0 (HL0.out.below HB2.out)).mono ?_
    rintro e w3 ⟨hB3, x3, y3, rfl, hx3, hy3, hr3⟩
    have hz3 := hB3.size
    have HB3 := Lib.hid (below_step HB2.out hB3)
    have A3 := Lib.hid (below_step A2.out hB3)
    have K3 := Lib.hid hr3
    clear hB3 hr3
    go_wp2_with fail
    refine (HI.out x3 y3 w3 K3.out).mono ?_
    rintro e w4 ⟨hB4, b4, k4, rfl, hr4⟩
    have hz4 := hB4.size
    have HB4 := Lib.hid (below_step HB3.out hB4)
    have A4 := Lib.hid (below_step A3.out hB4)
    have C3_4 := Lib.hid (K3.out.below hB4)
    have Q4 := Lib.hid hr4
    clear hB4 hr4
    go_wp2_with fail
    refine (eqIntS_any N F b4 b2 k4 k2 w4 hN Q4.out.o (Q2.out.below A4.out)).mono ?_
    rintro e w5 ⟨rfl, hB5⟩
    have hz5 := hB5.size
    have HB5 := Lib.hid (below_step HB4.out hB5)
    have A5 := Lib.hid (below_step A4.out hB5)
    have C3_5 := Lib.hid (C3_4.out.below hB5)
    have R5 := Lib.hid (Q4.out.below hB5)
    clear hB5
    go_wp2_with fail
    refine (toIntS_any n0 f0 a0 c0 w5 hs0 (HL0.out.below HB5.out)).mono ?_
    rintro e w6 ⟨hB6, x6, y6, rfl, hx6, hy6, hr6⟩
    have hz6 := hB6.size
    have HB6 := Lib.hid (below_step HB5.out hB6)
    have A6 := Lib.hid (below_step A5.out hB6)
    have C3_6 := Lib.hid (C3_5.out.below hB6)
    have R6 := Lib.hid (R5.out.below hB6)
    have K6 := Lib.hid hr6
    clear hB6 hr6
    go_wp2_with fail
    refine (eqIntS_any n0 f0 (some ⟨x3, 0, none⟩) (some ⟨x6, 0, none⟩) y3 y6 w6 hs0 C3_6.out.o K6.out.o).mono ?_
    rintro e w7 ⟨rfl, hB7⟩
    have hz7 := hB7.size
    have HB7 := Lib.hid (below_step HB6.out hB7)
    have A7 := Lib.hid (below_step A6.out hB7)
    have C3_7 := Lib.hid (C3_6.out.below hB7)
    have R7 := Lib.hid (R6.out.below hB7)
    clear hB7
    have hxl8 : x3 < w3.heap.size := K3.out.lt
    go_wp2_with fail
    refine (markNum_any n0 f0 x3 y3 (1) (1) w7 (by simp) hs0 (by omega) C3_7.out).mono ?_
    rintro e w8 ⟨rfl, hg8⟩
    have hz8 := hg8.size
    have HB8 : Hid (Below w.heap.size w w8) := Lib.hid (HB7.out.grown hg8 HB7.out.size (fun q e => by simp only [Option.some.injEq] at e; have := HB2.out.size; omega))
    have A8 : Hid (Below w2.heap.size w2 w8) := Lib.hid (A7.out.grown hg8 A7.out.size (fun q e => by simp only [Option.some.injEq] at e; omega))
    have R8 := Lib.hid (R7.out.kept hg8 hxl8)
    clear hg8
    go_wp2_with fail
    refine (eqIntS_any N F b4 b2 k4 k2 w8 hN R8.out.o (Q2.out.below A8.out)).mono ?_
    rintro e w9 ⟨rfl, hB9⟩
    have hz9 := hB9.size
    have HB9 := Lib.hid (below_step HB8.out hB9)
    have A9 := Lib.hid (below_step A8.out hB9)
    have R9 := Lib.hid (R8.out.below hB9)
    clear hB9
    go_wp2_with fail
    refine (markRes_any N F b4 k4 w3.heap.size w9 hN (by omega) R9.out).mono ?_
    rintro e w10 ⟨rfl, hB10, hz10, hm10⟩
    have HB10 : Hid (Below w.heap.size w w10) := Lib.hid (HB9.out.trans (hB10.mono (by have := HB2.out.size; omega)))
    have A10 : Hid (Below w2.heap.size w2 w10) := Lib.hid (A9.out.trans (hB10.mono (by omega)))
    have M10 := Lib.hid hm10
    clear hB10 hm10
    go_wp2_with fail
    refine (heldNum_any N b4 k4 w10 hN M10.out).mono ?_
    rintro e w11 ⟨rfl, hB11⟩
    have hz11 := hB11.size
    have HB11 := Lib.hid (below_step HB10.out hB11)
    have A11 := Lib.hid (below_step A10.out hB11)
    have M11 := Lib.hid (M10.out.below hB11)
    clear hB11
    go_wp2_with fail
    refine (toIntS_any n0 f0 a0 c0 w11 hs0 (HL0.out.below HB11.out)).mono ?_
    rintro e w12 ⟨hB12, x12, y12, rfl, hx12, hy12, hr12⟩
    have hz12 := hB12.size
    have HB12 := Lib.hid (below_step HB11.out hB12)
    have A12 := Lib.hid (below_step A11.out hB12)
    have M12 := Lib.hid (M11.out.below hB12)
    have K12 := Lib.hid hr12
    clear hB12 hr12
    go_wp2_with fail
    refine (HI.out x12 y12 w12 K12.out).mono ?_
    rintro e w13 ⟨hB13, b13, k13, rfl, hr13⟩
    have hz13 := hB13.size
    have HB13 := Lib.hid (below_step HB12.out hB13)
    have A13 := Lib.hid (below_step A12.out hB13)
    have C12_13 := Lib.hid (K12.out.below hB13)
    have M13 := Lib.hid (M12.out.below hB13)
    have Q13 := Lib.hid hr13
    clear hB13 hr13
    go_wp2_with fail
    refine (eqIntS_any N F b13 b2 k13 k2 w13 hN Q13.out.o (Q2.out.below A13.out)).mono ?_
    rintro e w14 ⟨rfl, hB14⟩
    have hz14 := hB14.size
    have HB14 := Lib.hid (below_step HB13.out hB14)
    have A14 := Lib.hid (below_step A13.out hB14)
    have M14 := Lib.hid (M13.out.below hB14)
    clear hB14
    go_wp2_with fail
    refine (heldNum_any N b4 k4 w14 hN M14.out).mono ?_
    rintro e w15 ⟨rfl, hB15⟩
    have hz15 := hB15.size
    have HB15 := Lib.hid (below_step HB14.out hB15)
    have A15 := Lib.hid (below_step A14.out hB15)
    have M15 := Lib.hid (M14.out.below hB15)
    clear hB15
    go_wp2_with fail
    go_ret
    exact ⟨rfl, HB15.out⟩

set_option maxRecDepth 100000 in
set_option maxHeartbeats 4000000 in
theorem lawSeriesTimes_any (n0 : Nat) (f0 : Nat → Int) (a0 : Option Addr) (c0 : Nat) (n1 : Nat) (f1 : Nat → Int) (a1 : Option Addr) (c1 : Nat) (w : World) (hl0 : NumO w a0 n0 f0) (_hb0 : NumB n0 f0) (hn0 : n0 ≤ 9223372036854775807) (hl1 : NumO w a1 n1 f1) (_hb1 : NumB n1 f1) (hn1 : n1 ≤ 9223372036854775807) :
    Calls Try.prog 4 #[.slice a0 n0 c0, .slice a1 n1 c1] w (Ans (.bool true) w) := by
  have HL0 := Lib.hid hl0
  have HL1 := Lib.hid hl1
  clear hl0 hl1
  by_cases hs0 : n0 ≤ 1048576
  case neg =>
    go_enter Try.func4, Try.ntmps4
    go_wp2_with fail
    go_ret
    exact ⟨rfl, Below.refl _ _⟩
  by_cases hs1 : n1 ≤ 1048576
  case neg =>
    go_enter Try.func4, Try.ntmps4
    go_wp2_with fail
    go_ret
    exact ⟨rfl, Below.refl _ _⟩
  have hN : resN n0 (ansTimes n0 n1 f0 f1) ≤ 1048576 := resN_le hs0
  obtain ⟨N, hNN⟩ : ∃ N, resN n0 (ansTimes n0 n1 f0 f1) = N := ⟨_, rfl⟩
  obtain ⟨F, hFF⟩ : ∃ F, resF (ansTimes n0 n1 f0 f1) = F := ⟨_, rfl⟩
  obtain ⟨B, hBB⟩ : ∃ B, (ansTimes n0 n1 f0 f1).isSome = B := ⟨_, rfl⟩
  have HS : Hid (∀ (g0 d0 g1 d1 : Nat) (w : World), NumR w g0 n0 f0 → NumR w g1 n1 f1 → Calls Try.prog 19 #[.slice (some ⟨g0, 0, none⟩) n0 d0, .slice (some ⟨g1, 0, none⟩) n1 d1] w (SRes N F B w)) := Lib.hid (fun g0 d0 g1 d1 w hh0 hh1 => by
    refine (sSeriesTimes_any n0 n1 f0 f1 (some ⟨g0, 0, none⟩) (some ⟨g1, 0, none⟩) d0 d1 w hs0 hs1 hh0.o hh1.o).mono (fun e w' h => ?_)
    have h := h.res
    rw [hNN, hFF, hBB] at h
    exact h)
  have HI : Hid (∀ (g0 d0 g1 d1 : Nat) (w : World), NumR w g0 n0 f0 → NumR w g1 n1 f1 → Calls Try.prog 20 #[.slice (some ⟨g0, 0, none⟩) n0 d0, .slice (some ⟨g1, 0, none⟩) n1 d1] w (IRes N F B w)) := Lib.hid (fun g0 d0 g1 d1 w hh0 hh1 => by
    refine (iSeriesTimes_any n0 n1 f0 f1 (some ⟨g0, 0, none⟩) (some ⟨g1, 0, none⟩) d0 d1 w hn0 hn1 hh0.o hh1.o).mono (fun e w' h => ?_)
    have h := h.res
    rw [hNN, hFF, hBB] at h
    exact h)
  rw [hNN] at hN
  clear hNN hFF hBB
  go_enter Try.func4, Try.ntmps4
  cases B
  all_goals
    go_wp2_with fail
    refine (toIntS_any n0 f0 a0 c0 w hs0 HL0.out).mono ?_
    rintro e w1 ⟨hB1, x1, y1, rfl, hx1, hy1, hr1⟩
    have hz1 := hB1.size
    have HB1 := Lib.hid hB1
    have K1 := Lib.hid hr1
    clear hB1 hr1
    go_wp2_with fail
    refine (toIntS_any n1 f1 a1 c1 w1 hs1 (HL1.out.below HB1.out)).mono ?_
    rintro e w2 ⟨hB2, x2, y2, rfl, hx2, hy2, hr2⟩
    have hz2 := hB2.size
    have HB2 := Lib.hid (below_step HB1.out hB2)
    have C1_2 := Lib.hid (K1.out.below hB2)
    have K2 := Lib.hid hr2
    clear hB2 hr2
    go_wp2_with fail
    refine (HS.out x1 y1 x2 y2 w2 C1_2.out K2.out).mono ?_
    rintro e w3 ⟨hB3, b3, k3, rfl, hr3⟩
    have hz3 := hB3.size
    have HB3 := Lib.hid (below_step HB2.out hB3)
    have C1_3 := Lib.hid (C1_2.out.below hB3)
    have C2_3 := Lib.hid (K2.out.below hB3)
    have Q3 := Lib.hid hr3
    clear hB3 hr3
    have A3 : Hid (Below w3.heap.size w3 w3) := Lib.hid (Below.refl _ _)
    go_wp2_with fail
    refine (toIntS_any n0 f0 a0 c0 w3 hs0 (HL0.out.below HB3.out)).mono ?_
    rintro e w4 ⟨hB4, x4, y4, rfl, hx4, hy4, hr4⟩
    have hz4 := hB4.size
    have HB4 := Lib.hid (below_step HB3.out hB4)
    have A4 := Lib.hid (below_step A3.out hB4)
    have K4 := Lib.hid hr4
    clear hB4 hr4
    go_wp2_with fail
    refine (toIntS_any n1 f1 a1 c1 w4 hs1 (HL1.out.below HB4.out)).mono ?_
    rintro e w5 ⟨hB5, x5, y5, rfl, hx5, hy5, hr5⟩
    have hz5 := hB5.size
    have HB5 := Lib.hid (below_step HB4.out hB5)
    have A5 := Lib.hid (below_step A4.out hB5)
    have C4_5 := Lib.hid (K4.out.below hB5)
    have K5 := Lib.hid hr5
    clear hB5 hr5
    go_wp2_with fail
    refine (HI.out x4 y4 x5 y5 w5 C4_5.out K5.out).mono ?_
    rintro e w6 ⟨hB6, b6, k6, rfl, hr6⟩
    have hz6 := hB6.size
    have HB6 := Lib.hid (below_step HB5.out hB6)
    have A6 := Lib.hid (below_step A5.out hB6)
    have C4_6 := Lib.hid (C4_5.out.below hB6)
    have C5_6 := Lib.hid (K5.out.below hB6)
    have Q6 := Lib.hid hr6
    clear hB6 hr6
    go_wp2_with fail
    refine (eqIntS_any N F b6 b3 k6 k3 w6 hN Q6.out.o (Q3.out.below A6.out)).mono ?_
    rintro e w7 ⟨rfl, hB7⟩
    have hz7 := hB7.size
    have HB7 := Lib.hid (below_step HB6.out hB7)
    have A7 := Lib.hid (below_step A6.out hB7)
    have C4_7 := Lib.hid (C4_6.out.below hB7)
    have C5_7 := Lib.hid (C5_6.out.below hB7)
    have R7 := Lib.hid (Q6.out.below hB7)
    clear hB7
    go_wp2_with fail
    refine (toIntS_any n0 f0 a0 c0 w7 hs0 (HL0.out.below HB7.out)).mono ?_
    rintro e w8 ⟨hB8, x8, y8, rfl, hx8, hy8, hr8⟩
    have hz8 := hB8.size
    have HB8 := Lib.hid (below_step HB7.out hB8)
    have A8 := Lib.hid (below_step A7.out hB8)
    have C4_8 := Lib.hid (C4_7.out.below hB8)
    have C5_8 := Lib.hid (C5_7.out.below hB8)
    have R8 := Lib.hid (R7.out.below hB8)
    have K8 := Lib.hid hr8
    clear hB8 hr8
    go_wp2_with fail
    refine (eqIntS_any n0 f0 (some ⟨x4, 0, none⟩) (some ⟨x8, 0, none⟩) y4 y8 w8 hs0 C4_8.out.o K8.out.o).mono ?_
    rintro e w9 ⟨rfl, hB9⟩
    have hz9 := hB9.size
    have HB9 := Lib.hid (below_step HB8.out hB9)
    have A9 := Lib.hid (below_step A8.out hB9)
    have C4_9 := Lib.hid (C4_8.out.below hB9)
    have C5_9 := Lib.hid (C5_8.out.below hB9)
    have R9 := Lib.hid (R8.out.below hB9)
    clear hB9
    go_wp2_with fail
    refine (toIntS_any n1 f1 a1 c1 w9 hs1 (HL1.out.below HB9.out)).mono ?_
    rintro e w10 ⟨hB10, x10, y10, rfl, hx10, hy10, hr10⟩
    have hz10 := hB10.size
    have HB10 := Lib.hid (below_step HB9.out hB10)
    have A10 := Lib.hid (below_step A9.out hB10)
    have C4_10 := Lib.hid (C4_9.out.below hB10)
    have C5_10 := Lib.hid (C5_9.out.below hB10)
    have R10 := Lib.hid (R9.out.below hB10)
    have K10 := Lib.hid hr10
    clear hB10 hr10
    go_wp2_with fail
    refine (eqIntS_any n1 f1 (some ⟨x5, 0, none⟩) (some ⟨x10, 0, none⟩) y5 y10 w10 hs1 C5_10.out.o K10.out.o).mono ?_
    rintro e w11 ⟨rfl, hB11⟩
    have hz11 := hB11.size
    have HB11 := Lib.hid (below_step HB10.out hB11)
    have A11 := Lib.hid (below_step A10.out hB11)
    have C4_11 := Lib.hid (C4_10.out.below hB11)
    have C5_11 := Lib.hid (C5_10.out.below hB11)
    have R11 := Lib.hid (R10.out.below hB11)
    clear hB11
    have hxl12 : x4 < w5.heap.size := C4_5.out.lt
    go_wp2_with fail
    refine (markNum_any n0 f0 x4 y4 (1) (1) w11 (by simp) hs0 (by omega) C4_11.out).mono ?_
    rintro e w12 ⟨rfl, hg12⟩
    have hz12 := hg12.size
    have HB12 : Hid (Below w.heap.size w w12) := Lib.hid (HB11.out.grown hg12 HB11.out.size (fun q e => by simp only [Option.some.injEq] at e; have := HB3.out.size; omega))
    have A12 : Hid (Below w3.heap.size w3 w12) := Lib.hid (A11.out.grown hg12 A11.out.size (fun q e => by simp only [Option.some.injEq] at e; omega))
    have R12 := Lib.hid (R11.out.kept hg12 hxl12)
    have C5_12 := Lib.hid (C5_11.out.kept hg12 (by have := K4.out.lt; omega))
    clear hg12
    have hxl13 : x5 < w5.heap.size := K5.out.lt
    go_wp2_with fail
    refine (markNum_any n1 f1 x5 y5 (1 + n0) (1 + (n0 : Int)) w12 (by simp) hs1 (by omega) C5_12.out).mono ?_
    rintro e w13 ⟨rfl, hg13⟩
    have hz13 := hg13.size
    have HB13 : Hid (Below w.heap.size w w13) := Lib.hid (HB12.out.grown hg13 HB12.out.size (fun q e => by simp only [Option.some.injEq] at e; have := HB3.out.size; omega))
    have A13 : Hid (Below w3.heap.size w3 w13) := Lib.hid (A12.out.grown hg13 A12.out.size (fun q e => by simp only [Option.some.injEq] at e; omega))
    have R13 := Lib.hid (R12.out.kept hg13 hxl13)
    clear hg13
    go_wp2_with fail
    refine (eqIntS_any N F b6 b3 k6 k3 w13 hN R13.out.o (Q3.out.below A13.out)).mono ?_
    rintro e w14 ⟨rfl, hB14⟩
    have hz14 := hB14.size
    have HB14 := Lib.hid (below_step HB13.out hB14)
    have A14 := Lib.hid (below_step A13.out hB14)
    have R14 := Lib.hid (R13.out.below hB14)
    clear hB14
    go_wp2_with fail
    refine (markRes_any N F b6 k6 w5.heap.size w14 hN (by omega) R14.out).mono ?_
    rintro e w15 ⟨rfl, hB15, hz15, hm15⟩
    have HB15 : Hid (Below w.heap.size w w15) := Lib.hid (HB14.out.trans (hB15.mono (by have := HB3.out.size; omega)))
    have A15 : Hid (Below w3.heap.size w3 w15) := Lib.hid (A14.out.trans (hB15.mono (by omega)))
    have M15 := Lib.hid hm15
    clear hB15 hm15
    go_wp2_with fail
    refine (heldNum_any N b6 k6 w15 hN M15.out).mono ?_
    rintro e w16 ⟨rfl, hB16⟩
    have hz16 := hB16.size
    have HB16 := Lib.hid (below_step HB15.out hB16)
    have A16 := Lib.hid (below_step A15.out hB16)
    have M16 := Lib.hid (M15.out.below hB16)
    clear hB16
    go_wp2_with fail
    refine (toIntS_any n0 f0 a0 c0 w16 hs0 (HL0.out.below HB16.out)).mono ?_
    rintro e w17 ⟨hB17, x17, y17, rfl, hx17, hy17, hr17⟩
    have hz17 := hB17.size
    have HB17 := Lib.hid (below_step HB16.out hB17)
    have A17 := Lib.hid (below_step A16.out hB17)
    have M17 := Lib.hid (M16.out.below hB17)
    have K17 := Lib.hid hr17
    clear hB17 hr17
    go_wp2_with fail
    refine (toIntS_any n1 f1 a1 c1 w17 hs1 (HL1.out.below HB17.out)).mono ?_
    rintro e w18 ⟨hB18, x18, y18, rfl, hx18, hy18, hr18⟩
    have hz18 := hB18.size
    have HB18 := Lib.hid (below_step HB17.out hB18)
    have A18 := Lib.hid (below_step A17.out hB18)
    have C17_18 := Lib.hid (K17.out.below hB18)
    have M18 := Lib.hid (M17.out.below hB18)
    have K18 := Lib.hid hr18
    clear hB18 hr18
    go_wp2_with fail
    refine (HI.out x17 y17 x18 y18 w18 C17_18.out K18.out).mono ?_
    rintro e w19 ⟨hB19, b19, k19, rfl, hr19⟩
    have hz19 := hB19.size
    have HB19 := Lib.hid (below_step HB18.out hB19)
    have A19 := Lib.hid (below_step A18.out hB19)
    have C17_19 := Lib.hid (C17_18.out.below hB19)
    have C18_19 := Lib.hid (K18.out.below hB19)
    have M19 := Lib.hid (M18.out.below hB19)
    have Q19 := Lib.hid hr19
    clear hB19 hr19
    go_wp2_with fail
    refine (eqIntS_any N F b19 b3 k19 k3 w19 hN Q19.out.o (Q3.out.below A19.out)).mono ?_
    rintro e w20 ⟨rfl, hB20⟩
    have hz20 := hB20.size
    have HB20 := Lib.hid (below_step HB19.out hB20)
    have A20 := Lib.hid (below_step A19.out hB20)
    have M20 := Lib.hid (M19.out.below hB20)
    clear hB20
    go_wp2_with fail
    refine (heldNum_any N b6 k6 w20 hN M20.out).mono ?_
    rintro e w21 ⟨rfl, hB21⟩
    have hz21 := hB21.size
    have HB21 := Lib.hid (below_step HB20.out hB21)
    have A21 := Lib.hid (below_step A20.out hB21)
    have M21 := Lib.hid (M20.out.below hB21)
    clear hB21
    go_wp2_with fail
    go_ret
    exact ⟨rfl, HB21.out⟩

set_option maxRecDepth 100000 in
set_option maxHeartbeats 4000000 in
theorem lawSeriesCompose_any (n0 : Nat) (f0 : Nat → Int) (a0 : Option Addr) (c0 : Nat) (n1 : Nat) (f1 : Nat → Int) (a1 : Option Addr) (c1 : Nat) (w : World) (hl0 : NumO w a0 n0 f0) (_hb0 : NumB n0 f0) (hn0 : n0 ≤ 9223372036854775807) (hl1 : NumO w a1 n1 f1) (_hb1 : NumB n1 f1) (hn1 : n1 ≤ 9223372036854775807) :
    Calls Try.prog 6 #[.slice a0 n0 c0, .slice a1 n1 c1] w (Ans (.bool true) w) := by
  have HL0 := Lib.hid hl0
  have HL1 := Lib.hid hl1
  clear hl0 hl1
  by_cases hs0 : n0 ≤ 1048576
  case neg =>
    go_enter Try.func6, Try.ntmps6
    go_wp2_with fail
    go_ret
    exact ⟨rfl, Below.refl _ _⟩
  by_cases hs1 : n1 ≤ 1048576
  case neg =>
    go_enter Try.func6, Try.ntmps6
    go_wp2_with fail
    go_ret
    exact ⟨rfl, Below.refl _ _⟩
  have hN : resN n0 (ansComp n0 n1 f0 f1) ≤ 1048576 := resN_le hs0
  obtain ⟨N, hNN⟩ : ∃ N, resN n0 (ansComp n0 n1 f0 f1) = N := ⟨_, rfl⟩
  obtain ⟨F, hFF⟩ : ∃ F, resF (ansComp n0 n1 f0 f1) = F := ⟨_, rfl⟩
  obtain ⟨B, hBB⟩ : ∃ B, (ansComp n0 n1 f0 f1).isSome = B := ⟨_, rfl⟩
  have HS : Hid (∀ (g0 d0 g1 d1 : Nat) (w : World), NumR w g0 n0 f0 → NumR w g1 n1 f1 → Calls Try.prog 25 #[.slice (some ⟨g0, 0, none⟩) n0 d0, .slice (some ⟨g1, 0, none⟩) n1 d1] w (SRes N F B w)) := Lib.hid (fun g0 d0 g1 d1 w hh0 hh1 => by
    refine (sSeriesCompose_any n0 n1 f0 f1 (some ⟨g0, 0, none⟩) (some ⟨g1, 0, none⟩) d0 d1 w hs0 hs1 hh0.o hh1.o).mono (fun e w' h => ?_)
    have h := h.res
    rw [hNN, hFF, hBB] at h
    exact h)
  have HI : Hid (∀ (g0 d0 g1 d1 : Nat) (w : World), NumR w g0 n0 f0 → NumR w g1 n1 f1 → Calls Try.prog 26 #[.slice (some ⟨g0, 0, none⟩) n0 d0, .slice (some ⟨g1, 0, none⟩) n1 d1] w (IRes N F B w)) := Lib.hid (fun g0 d0 g1 d1 w hh0 hh1 => by
    refine (iSeriesCompose_any n0 n1 f0 f1 (some ⟨g0, 0, none⟩) (some ⟨g1, 0, none⟩) d0 d1 w hn0 hn1 hh0.o hh1.o).mono (fun e w' h => ?_)
    have h := h.res
    rw [hNN, hFF, hBB] at h
    exact h)
  rw [hNN] at hN
  clear hNN hFF hBB
  go_enter Try.func6, Try.ntmps6
  cases B
  all_goals
    go_wp2_with fail
    refine (toIntS_any n0 f0 a0 c0 w hs0 HL0.out).mono ?_
    rintro e w1 ⟨hB1, x1, y1, rfl, hx1, hy1, hr1⟩
    have hz1 := hB1.size
    have HB1 := Lib.hid hB1
    have K1 := Lib.hid hr1
    clear hB1 hr1
    go_wp2_with fail
    refine (toIntS_any n1 f1 a1 c1 w1 hs1 (HL1.out.below HB1.out)).mono ?_
    rintro e w2 ⟨hB2, x2, y2, rfl, hx2, hy2, hr2⟩
    have hz2 := hB2.size
    have HB2 := Lib.hid (below_step HB1.out hB2)
    have C1_2 := Lib.hid (K1.out.below hB2)
    have K2 := Lib.hid hr2
    clear hB2 hr2
    go_wp2_with fail
    refine (HS.out x1 y1 x2 y2 w2 C1_2.out K2.out).mono ?_
    rintro e w3 ⟨hB3, b3, k3, rfl, hr3⟩
    have hz3 := hB3.size
    have HB3 := Lib.hid (below_step HB2.out hB3)
    have C1_3 := Lib.hid (C1_2.out.below hB3)
    have C2_3 := Lib.hid (K2.out.below hB3)
    have Q3 := Lib.hid hr3
    clear hB3 hr3
    have A3 : Hid (Below w3.heap.size w3 w3) := Lib.hid (Below.refl _ _)
    go_wp2_with fail
    refine (toIntS_any n0 f0 a0 c0 w3 hs0 (HL0.out.below HB3.out)).mono ?_
    rintro e w4 ⟨hB4, x4, y4, rfl, hx4, hy4, hr4⟩
    have hz4 := hB4.size
    have HB4 := Lib.hid (below_step HB3.out hB4)
    have A4 := Lib.hid (below_step A3.out hB4)
    have K4 := Lib.hid hr4
    clear hB4 hr4
    go_wp2_with fail
    refine (toIntS_any n1 f1 a1 c1 w4 hs1 (HL1.out.below HB4.out)).mono ?_
    rintro e w5 ⟨hB5, x5, y5, rfl, hx5, hy5, hr5⟩
    have hz5 := hB5.size
    have HB5 := Lib.hid (below_step HB4.out hB5)
    have A5 := Lib.hid (below_step A4.out hB5)
    have C4_5 := Lib.hid (K4.out.below hB5)
    have K5 := Lib.hid hr5
    clear hB5 hr5
    go_wp2_with fail
    refine (HI.out x4 y4 x5 y5 w5 C4_5.out K5.out).mono ?_
    rintro e w6 ⟨hB6, b6, k6, rfl, hr6⟩
    have hz6 := hB6.size
    have HB6 := Lib.hid (below_step HB5.out hB6)
    have A6 := Lib.hid (below_step A5.out hB6)
    have C4_6 := Lib.hid (C4_5.out.below hB6)
    have C5_6 := Lib.hid (K5.out.below hB6)
    have Q6 := Lib.hid hr6
    clear hB6 hr6
    go_wp2_with fail
    refine (eqIntS_any N F b6 b3 k6 k3 w6 hN Q6.out.o (Q3.out.below A6.out)).mono ?_
    rintro e w7 ⟨rfl, hB7⟩
    have hz7 := hB7.size
    have HB7 := Lib.hid (below_step HB6.out hB7)
    have A7 := Lib.hid (below_step A6.out hB7)
    have C4_7 := Lib.hid (C4_6.out.below hB7)
    have C5_7 := Lib.hid (C5_6.out.below hB7)
    have R7 := Lib.hid (Q6.out.below hB7)
    clear hB7
    go_wp2_with fail
    refine (toIntS_any n0 f0 a0 c0 w7 hs0 (HL0.out.below HB7.out)).mono ?_
    rintro e w8 ⟨hB8, x8, y8, rfl, hx8, hy8, hr8⟩
    have hz8 := hB8.size
    have HB8 := Lib.hid (below_step HB7.out hB8)
    have A8 := Lib.hid (below_step A7.out hB8)
    have C4_8 := Lib.hid (C4_7.out.below hB8)
    have C5_8 := Lib.hid (C5_7.out.below hB8)
    have R8 := Lib.hid (R7.out.below hB8)
    have K8 := Lib.hid hr8
    clear hB8 hr8
    go_wp2_with fail
    refine (eqIntS_any n0 f0 (some ⟨x4, 0, none⟩) (some ⟨x8, 0, none⟩) y4 y8 w8 hs0 C4_8.out.o K8.out.o).mono ?_
    rintro e w9 ⟨rfl, hB9⟩
    have hz9 := hB9.size
    have HB9 := Lib.hid (below_step HB8.out hB9)
    have A9 := Lib.hid (below_step A8.out hB9)
    have C4_9 := Lib.hid (C4_8.out.below hB9)
    have C5_9 := Lib.hid (C5_8.out.below hB9)
    have R9 := Lib.hid (R8.out.below hB9)
    clear hB9
    go_wp2_with fail
    refine (toIntS_any n1 f1 a1 c1 w9 hs1 (HL1.out.below HB9.out)).mono ?_
    rintro e w10 ⟨hB10, x10, y10, rfl, hx10, hy10, hr10⟩
    have hz10 := hB10.size
    have HB10 := Lib.hid (below_step HB9.out hB10)
    have A10 := Lib.hid (below_step A9.out hB10)
    have C4_10 := Lib.hid (C4_9.out.below hB10)
    have C5_10 := Lib.hid (C5_9.out.below hB10)
    have R10 := Lib.hid (R9.out.below hB10)
    have K10 := Lib.hid hr10
    clear hB10 hr10
    go_wp2_with fail
    refine (eqIntS_any n1 f1 (some ⟨x5, 0, none⟩) (some ⟨x10, 0, none⟩) y5 y10 w10 hs1 C5_10.out.o K10.out.o).mono ?_
    rintro e w11 ⟨rfl, hB11⟩
    have hz11 := hB11.size
    have HB11 := Lib.hid (below_step HB10.out hB11)
    have A11 := Lib.hid (below_step A10.out hB11)
    have C4_11 := Lib.hid (C4_10.out.below hB11)
    have C5_11 := Lib.hid (C5_10.out.below hB11)
    have R11 := Lib.hid (R10.out.below hB11)
    clear hB11
    have hxl12 : x4 < w5.heap.size := C4_5.out.lt
    go_wp2_with fail
    refine (markNum_any n0 f0 x4 y4 (1) (1) w11 (by simp) hs0 (by omega) C4_11.out).mono ?_
    rintro e w12 ⟨rfl, hg12⟩
    have hz12 := hg12.size
    have HB12 : Hid (Below w.heap.size w w12) := Lib.hid (HB11.out.grown hg12 HB11.out.size (fun q e => by simp only [Option.some.injEq] at e; have := HB3.out.size; omega))
    have A12 : Hid (Below w3.heap.size w3 w12) := Lib.hid (A11.out.grown hg12 A11.out.size (fun q e => by simp only [Option.some.injEq] at e; omega))
    have R12 := Lib.hid (R11.out.kept hg12 hxl12)
    have C5_12 := Lib.hid (C5_11.out.kept hg12 (by have := K4.out.lt; omega))
    clear hg12
    have hxl13 : x5 < w5.heap.size := K5.out.lt
    go_wp2_with fail
    refine (markNum_any n1 f1 x5 y5 (1 + n0) (1 + (n0 : Int)) w12 (by simp) hs1 (by omega) C5_12.out).mono ?_
    rintro e w13 ⟨rfl, hg13⟩
    have hz13 := hg13.size
    have HB13 : Hid (Below w.heap.size w w13) := Lib.hid (HB12.out.grown hg13 HB12.out.size (fun q e => by simp only [Option.some.injEq] at e; have := HB3.out.size; omega))
    have A13 : Hid (Below w3.heap.size w3 w13) := Lib.hid (A12.out.grown hg13 A12.out.size (fun q e => by simp only [Option.some.injEq] at e; omega))
    have R13 := Lib.hid (R12.out.kept hg13 hxl13)
    clear hg13
    go_wp2_with fail
    refine (eqIntS_any N F b6 b3 k6 k3 w13 hN R13.out.o (Q3.out.below A13.out)).mono ?_
    rintro e w14 ⟨rfl, hB14⟩
    have hz14 := hB14.size
    have HB14 := Lib.hid (below_step HB13.out hB14)
    have A14 := Lib.hid (below_step A13.out hB14)
    have R14 := Lib.hid (R13.out.below hB14)
    clear hB14
    go_wp2_with fail
    refine (markRes_any N F b6 k6 w5.heap.size w14 hN (by omega) R14.out).mono ?_
    rintro e w15 ⟨rfl, hB15, hz15, hm15⟩
    have HB15 : Hid (Below w.heap.size w w15) := Lib.hid (HB14.out.trans (hB15.mono (by have := HB3.out.size; omega)))
    have A15 : Hid (Below w3.heap.size w3 w15) := Lib.hid (A14.out.trans (hB15.mono (by omega)))
    have M15 := Lib.hid hm15
    clear hB15 hm15
    go_wp2_with fail
    refine (heldNum_any N b6 k6 w15 hN M15.out).mono ?_
    rintro e w16 ⟨rfl, hB16⟩
    have hz16 := hB16.size
    have HB16 := Lib.hid (below_step HB15.out hB16)
    have A16 := Lib.hid (below_step A15.out hB16)
    have M16 := Lib.hid (M15.out.below hB16)
    clear hB16
    go_wp2_with fail
    refine (toIntS_any n0 f0 a0 c0 w16 hs0 (HL0.out.below HB16.out)).mono ?_
    rintro e w17 ⟨hB17, x17, y17, rfl, hx17, hy17, hr17⟩
    have hz17 := hB17.size
    have HB17 := Lib.hid (below_step HB16.out hB17)
    have A17 := Lib.hid (below_step A16.out hB17)
    have M17 := Lib.hid (M16.out.below hB17)
    have K17 := Lib.hid hr17
    clear hB17 hr17
    go_wp2_with fail
    refine (toIntS_any n1 f1 a1 c1 w17 hs1 (HL1.out.below HB17.out)).mono ?_
    rintro e w18 ⟨hB18, x18, y18, rfl, hx18, hy18, hr18⟩
    have hz18 := hB18.size
    have HB18 := Lib.hid (below_step HB17.out hB18)
    have A18 := Lib.hid (below_step A17.out hB18)
    have C17_18 := Lib.hid (K17.out.below hB18)
    have M18 := Lib.hid (M17.out.below hB18)
    have K18 := Lib.hid hr18
    clear hB18 hr18
    go_wp2_with fail
    refine (HI.out x17 y17 x18 y18 w18 C17_18.out K18.out).mono ?_
    rintro e w19 ⟨hB19, b19, k19, rfl, hr19⟩
    have hz19 := hB19.size
    have HB19 := Lib.hid (below_step HB18.out hB19)
    have A19 := Lib.hid (below_step A18.out hB19)
    have C17_19 := Lib.hid (C17_18.out.below hB19)
    have C18_19 := Lib.hid (K18.out.below hB19)
    have M19 := Lib.hid (M18.out.below hB19)
    have Q19 := Lib.hid hr19
    clear hB19 hr19
    go_wp2_with fail
    refine (eqIntS_any N F b19 b3 k19 k3 w19 hN Q19.out.o (Q3.out.below A19.out)).mono ?_
    rintro e w20 ⟨rfl, hB20⟩
    have hz20 := hB20.size
    have HB20 := Lib.hid (below_step HB19.out hB20)
    have A20 := Lib.hid (below_step A19.out hB20)
    have M20 := Lib.hid (M19.out.below hB20)
    clear hB20
    go_wp2_with fail
    refine (heldNum_any N b6 k6 w20 hN M20.out).mono ?_
    rintro e w21 ⟨rfl, hB21⟩
    have hz21 := hB21.size
    have HB21 := Lib.hid (below_step HB20.out hB21)
    have A21 := Lib.hid (below_step A20.out hB21)
    have M21 := Lib.hid (M20.out.below hB21)
    clear hB21
    go_wp2_with fail
    go_ret
    exact ⟨rfl, HB21.out⟩

end Go.Proofs.Ytnobpckmlhgeiaa
