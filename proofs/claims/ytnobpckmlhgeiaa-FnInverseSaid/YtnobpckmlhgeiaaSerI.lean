/- Series by the program: valid, product, plus, turned. -/
import Derived.Test.YtnobpckmlhgeiaaSerM
import Derived.Test.YtnobpckmlhgeiaaInts
namespace Go.Proofs.Ytnobpckmlhgeiaa
open Go.RowKit

set_option maxRecDepth 100000 in
set_option maxHeartbeats 1000000 in
theorem isWithin_any (n : Nat) (f : Nat → Int) (a : Option Addr) (cap : Nat) (m : Int) (w : World) (hn : n ≤ 9223372036854775807) (hm : 0 ≤ m) (hm2 : m ≤ 1000000000000) (hl : NumO w a n f) :
    Calls Try.prog 58 #[.slice a n cap, .int .i64 m] w (Ans (.bool (serIn n m f)) w) := by
  have HL := Lib.hid hl
  clear hl
  go_enter Try.func58, Try.ntmps58
  go_wp2_with fail
  go_loopw [9] (fun i wr => ∃ k : Nat, k ≤ n ∧ i = .int .i64 k ∧ (∀ j, j < k → -m ≤ f j ∧ f j ≤ m) ∧ w = wr) (fun i _ => n - (intOf i).toNat)
  case atStart => exact ⟨0, Nat.zero_le _, rfl, fun j h => by omega, rfl⟩
  case round =>
    obtain ⟨k, hk, rfl, hj, rfl⟩ := hrel
    have HJ := Lib.hid hj
    clear hj
    by_cases hlt : k < n
    · obtain ⟨g, o, ea, c1⟩ := HL.out k hlt
      subst ea
      obtain ⟨x, hx⟩ : ∃ x, x = f k := ⟨_, rfl⟩
      rw [← hx] at c1
      have HX := Lib.hid hx
      clear hx
      by_cases h1 : x < -m
      · have HF : Hid (serIn n m f = false) := Lib.hid (serIn_false hlt (by rw [← HX.out]; omega))
        go_wp2_with fail
        go_ret
        exact ⟨by rw [HF.out]; rfl, Below.refl _ _⟩
      · by_cases h2 : m < x
        · have HF : Hid (serIn n m f = false) := Lib.hid (serIn_false hlt (by rw [← HX.out]; omega))
          go_wp2_with fail
          go_ret
          exact ⟨by rw [HF.out]; rfl, Below.refl _ _⟩
        · go_wp2_with fail
          exact ⟨⟨k + 1, by omega, by go_num, fun j hjk => by
            by_cases e : j = k
            · subst e; rw [← HX.out]; omega
            · exact HJ.out j (by omega), trivial⟩, by simp [intOf]; omega⟩
    · have HT : Hid (serIn n m f = true) := Lib.hid (serIn_iff.2 (fun j hj => HJ.out j (by omega)))
      go_wp2_with fail
      go_ret
      exact ⟨by rw [HT.out]; rfl, Below.refl _ _⟩

theorem serOk_len {n : Nat} {f : Nat → Int} (h : ¬ (1 ≤ n ∧ n ≤ 8)) : serOk n f = false := by
  cases e : serOk n f with
  | false => rfl
  | true => exact absurd ⟨(serOk_iff.1 e).1, (serOk_iff.1 e).2.1⟩ h

theorem serOk_first {n : Nat} {f : Nat → Int} (h : f 0 ≠ 1) : serOk n f = false := by
  cases e : serOk n f with
  | false => rfl
  | true => exact absurd (serOk_iff.1 e).2.2.1 h

theorem serOk_in {n : Nat} {f : Nat → Int} (h1 : 1 ≤ n) (h2 : n ≤ 8) (h3 : f 0 = 1) : serOk n f = serIn n 1000000 f := by
  simp [serOk, h1, h2, h3]

set_option maxRecDepth 100000 in
set_option maxHeartbeats 1000000 in
theorem isValid_any (n : Nat) (f : Nat → Int) (a : Option Addr) (cap : Nat) (w : World) (hn : n ≤ 9223372036854775807) (hl : NumO w a n f) :
    Calls Try.prog 47 #[.slice a n cap] w (Ans (.bool (serOk n f)) w) := by
  have HL := Lib.hid hl
  by_cases h1 : 1 ≤ n
  · obtain ⟨g, o, ea, c1⟩ := hl 0 (by omega)
    subst ea
    rw [Nat.add_zero] at c1
    clear hl
    by_cases h2 : n ≤ 8
    · obtain ⟨x, hx⟩ : ∃ x, x = f 0 := ⟨_, rfl⟩
      rw [← hx] at c1
      have HX := Lib.hid hx
      clear hx
      by_cases h3 : x = 1
      · have HI := Lib.hid (isWithin_any n f (some ⟨g, o, none⟩) cap 1000000 w hn (by omega) (by omega) HL.out)
        have HE : Hid (serOk n f = serIn n 1000000 f) := Lib.hid (serOk_in h1 h2 (by rw [← HX.out]; exact h3))
        subst h3
        go_enter Try.func47, Try.ntmps47
        go_wp2_with fail
        refine HI.out.mono ?_
        rintro e w1 ⟨rfl, hB⟩
        go_wp2_with fail
        go_ret
        exact ⟨by rw [HE.out]; rfl, hB⟩
      · have HE : Hid (serOk n f = false) := Lib.hid (serOk_first (by rw [← HX.out]; exact h3))
        have h3' : (x == 1) = false := by simpa using h3
        go_enter Try.func47, Try.ntmps47
        go_wp2_with fail
        go_ret
        exact ⟨by rw [HE.out]; rfl, Below.refl _ _⟩
    · have HE : Hid (serOk n f = false) := Lib.hid (serOk_len (by omega))
      go_enter Try.func47, Try.ntmps47
      go_wp2_with fail
      go_ret
      exact ⟨by rw [HE.out]; rfl, Below.refl _ _⟩
  · have HE : Hid (serOk n f = false) := Lib.hid (serOk_len (by omega))
    clear hl
    go_enter Try.func47, Try.ntmps47
    go_wp2_with fail
    go_ret
    exact ⟨by rw [HE.out]; rfl, Below.refl _ _⟩

set_option maxRecDepth 100000 in
set_option maxHeartbeats 1000000 in
theorem readSeries_any (n : Nat) (f : Nat → Int) (a : Option Addr) (cap : Nat) (w : World) (hn : n ≤ 9223372036854775807) (hl : NumO w a n f) :
    Calls Try.prog 39 #[.slice a n cap] w (Ans (.tuple #[.slice a n cap, .bool (serOk n f)]) w) := by
  have HV := Lib.hid (isValid_any n f a cap w hn hl)
  clear hl
  go_enter Try.func39, Try.ntmps39
  go_wp2_with fail
  refine HV.out.mono ?_
  rintro e w1 ⟨rfl, hB⟩
  go_wp2_with fail
  go_ret2
  exact ⟨rfl, hB⟩

set_option maxRecDepth 100000 in
set_option maxHeartbeats 1000000 in
theorem iSeriesValid_any (n : Nat) (f : Nat → Int) (a : Option Addr) (cap : Nat) (w : World) (hn : n ≤ 9223372036854775807) (hl : NumO w a n f) :
    Calls Try.prog 17 #[.slice a n cap] w (Ans (.bool (serOk n f)) w) := by
  have HV := Lib.hid (readSeries_any n f a cap w hn hl)
  clear hl
  go_enter Try.func17, Try.ntmps17
  go_wp2_with fail
  refine HV.out.mono ?_
  rintro e w1 ⟨rfl, hB⟩
  go_wp2_with fail
  go_ret
  exact ⟨rfl, hB⟩

/-- What 'readTwoSeries' answers. -/
def TwoSer (a b : Option Addr) (n m ca cb : Nat) (ok : Bool) (w : World) (e : Ending) (w' : World) : Prop :=
  Below w.heap.size w w' ∧ ((ok = true ∧ n = m ∧ e = .returned (.tuple #[.slice a n ca, .slice b n cb, .bool true])) ∨ (ok = false ∧ ∃ v u, e = .returned (.tuple #[v, u, .bool false])))

set_option maxRecDepth 100000 in
set_option maxHeartbeats 1000000 in
theorem readTwoSeries_any (n m : Nat) (f g : Nat → Int) (a b : Option Addr) (ca cb : Nat) (w : World) (hn : n ≤ 9223372036854775807) (hm : m ≤ 9223372036854775807) (hl : NumO w a n f) (hk : NumO w b m g) :
    Calls Try.prog 41 #[.slice a n ca, .slice b m cb] w (TwoSer a b n m ca cb (serOk n f && serOk m g && decide (n = m)) w) := by
  have HV := Lib.hid (readSeries_any n f a ca w hn hl)
  have HK := Lib.hid hk
  obtain ⟨p, hp⟩ : ∃ p, serOk n f = p := ⟨_, rfl⟩
  obtain ⟨q, hq⟩ : ∃ q, serOk m g = q := ⟨_, rfl⟩
  rw [hp] at HV
  rw [hp, hq]
  have HQ := Lib.hid hq
  clear hl hk hp hq
  go_enter Try.func41, Try.ntmps41
  cases p
  · go_wp2_with fail
    refine HV.out.mono ?_
    rintro e w1 ⟨rfl, hB⟩
    go_wp2_with fail
    go_ret3
    exact ⟨hB, .inr ⟨by simp, _, _, rfl⟩⟩
  · go_wp2_with fail
    refine HV.out.mono ?_
    rintro e w1 ⟨rfl, hB⟩
    have HB := Lib.hid hB
    have HW := Lib.hid (readSeries_any m g b cb w1 hm (HK.out.below hB))
    rw [HQ.out] at HW
    clear hB
    go_wp2_with fail
    refine HW.out.mono ?_
    rintro e w2 ⟨rfl, hB2⟩
    have HB2 := Lib.hid (below_step HB.out hB2)
    clear hB2
    cases q
    · go_wp2_with fail
      go_ret3
      exact ⟨HB2.out, .inr ⟨by simp, _, _, rfl⟩⟩
    · by_cases hnm : n = m
      · subst hnm
        go_wp2_with fail
        go_ret3
        exact ⟨HB2.out, .inl ⟨by simp, rfl, by simp⟩⟩
      · have hd : ((n : Int) == (m : Int)) = false := by simpa using (show (n : Int) ≠ m by omega)
        have hd2 : decide (n = m) = false := by simpa using hnm
        have HD := Lib.hid hd2
        clear hd2
        go_wp2_with fail
        go_ret3
        exact ⟨HB2.out, .inr ⟨by rw [HD.out]; rfl, _, _, rfl⟩⟩

end Go.Proofs.Ytnobpckmlhgeiaa
