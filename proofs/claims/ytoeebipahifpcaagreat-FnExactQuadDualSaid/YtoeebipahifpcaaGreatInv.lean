/- What times a number is 1 modulo 101, by the program. -/
import Derived.Test.YtoeebipahifpcaaGreatRulM
import Derived.Test.YtoeebipahifpcaaGreatKComb
namespace Go.Proofs.YtoeebipahifpcaaGreat
open Go.RowKit

set_option maxRecDepth 100000 in
set_option maxHeartbeats 1000000 in
theorem inverse_any (c : Nat) (w : World) (_h0 : 1 ≤ c) (h1 : c ≤ 100) :
    Calls Tryz.prog 69 #[.int .i64 c] w fun e w' => e = .returned (.int .i64 (inv101 c)) ∧ w = w' := by
  go_enter Tryz.func69, Tryz.ntmps69
  go_wp2_with fail
  go_loopw [3, 4] (fun x i wr => ∃ k : Nat, k ≤ 99 ∧ i = .int .i64 k ∧ x = .int .i64 ((c ^ k % 101 : Nat) : Int) ∧ w = wr) (fun _ i _ => 99 - (intOf i).toNat)
  case atStart => exact ⟨0, by omega, rfl, rfl, rfl⟩
  case round =>
    obtain ⟨k, hk, rfl, rfl, rfl⟩ := hrel
    obtain ⟨y, hy⟩ : ∃ y, y = c ^ k % 101 := ⟨_, rfl⟩
    have hy1 : y < 101 := by rw [hy]; exact Nat.mod_lt _ (by decide)
    rw [← hy]
    have HY := Lib.hid hy
    by_cases hlt : k < 99
    · have hm : y * c ≤ 100 * 100 := Nat.mul_le_mul (by omega) h1
      obtain ⟨z, hz⟩ : ∃ z, z = y * c := ⟨_, rfl⟩
      have ez : (y : Int) * (c : Int) = (z : Int) := by rw [hz]; simp
      have hw : IntKind.i64.wrap (z : Int) = (z : Int) := by rw [IntKind.wrap_i64]; omega
      have HE : Hid ((z : Int) % 101 = ((c ^ (k + 1) % 101 : Nat) : Int)) := Lib.hid (by
        have h5 : y * c % 101 = c ^ (k + 1) % 101 := by rw [hy, Nat.pow_succ, Nat.mod_mul_mod]
        rw [hz, ← h5]; omega)
      have HM := Lib.hid (fun W => modPrime_any (z : Int) W (by omega) (by omega))
      have e0 : decide ((k : Int) < 99) = true := decide_eq_true (by omega)
      clear hy hm hz
      go_wp2_with fail
      refine (HM.out _).mono ?_
      rintro e w1 ⟨rfl, rfl⟩
      go_wp2_with fail
      go_roundw
      case rel => exact ⟨k + 1, by omega, by go_num, by rw [HE.out], trivial⟩
      case measure => simp [intOf]; omega
    · have hkk : k = 99 := by omega
      have HI : Hid (y = inv101 c) := Lib.hid (by rw [HY.out, hkk]; rfl)
      clear hy
      go_wp2_with fail
      go_ret
      exact ⟨by first | rfl | (rw [HI.out]; rfl), rfl⟩

end Go.Proofs.YtoeebipahifpcaaGreat
