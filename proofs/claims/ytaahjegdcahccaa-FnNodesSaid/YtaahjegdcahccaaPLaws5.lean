/- The promise on nodes. -/
import Derived.Test.YtaahjegdcahccaaPLaws2
import Derived.Test.YtaahjegdcahccaaPCut
namespace Go.Proofs.Ytaahjegdcahccaa
open Go.RowKit

set_option maxRecDepth 100000 in
set_option maxHeartbeats 2000000 in
theorem pNodes_any (bs : List Nat) (a : Option Addr) (cap : Nat) (w : World) (hl : LiesB w a bs) (h8 : ∀ z ∈ bs, z ≤ 255) (hn : bs.length ≤ 9223372036854775807) (hcap : bs.length ≤ cap) :
    Calls Try.prog 19 #[.slice a bs.length cap] w (Ans (.bool true) w) := by
  by_cases h : bs.length ≤ 1048576
  · have HD := Lib.hid (dNodes_any bs a cap w hn hcap h8 hl)
    clear h8 hl
    go_enter Try.func19, Try.ntmps19
    go_wp2_with fail
    refine HD.out.mono ?_
    rintro e w1 ⟨hB1, s, rfl, hs⟩
    have HB1 := Lib.hid hB1
    clear hB1
    cases hp : parse s.data.toList with
    | none =>
      have HI : Hid (∀ w, Calls Try.prog 34 #[.string s] w (Ans (.int .i64 (-1)) w)) := Lib.hid (fun w => by have := iNodes_any s w (by omega); rw [hp] at this; exact this)
      have HS : Hid (∀ w, Calls Try.prog 33 #[.string s] w (Ans (.int .i64 (-1)) w)) := Lib.hid (fun w => by have := sNodes_any s w (by omega); rw [hp] at this; exact this)
      clear hp
      go_wp2_with fail
      refine (HI.out w1).mono ?_
      rintro e w2 ⟨rfl, hB2⟩
      have HB2 := Lib.hid (below_step HB1.out hB2)
      clear hB2
      go_wp2_with fail
      refine (HS.out w2).mono ?_
      rintro e w3 ⟨rfl, hB3⟩
      have HB3 := Lib.hid (below_step HB2.out hB3)
      clear hB3
      go_wp2_with fail
      go_ret
      exact ⟨rfl, HB3.out⟩
    | some t =>
      obtain ⟨hw, _, hlv, hnd⟩ := parse_some hp
      obtain ⟨n, hn'⟩ : ∃ n, n = t.nodes := ⟨_, rfl⟩
      have HI : Hid (∀ w, Calls Try.prog 34 #[.string s] w (Ans (.int .i64 (n : Int)) w)) := Lib.hid (fun w => by have := iNodes_any s w (by omega); rw [hp] at this; rw [hn']; exact this)
      have HS : Hid (∀ w, Calls Try.prog 33 #[.string s] w (Ans (.int .i64 (n : Int)) w)) := Lib.hid (fun w => by have := sNodes_any s w (by omega); rw [hp] at this; rw [hn']; exact this)
      have HP : Hid (∀ k : Nat, k < n → ∀ w, Calls Try.prog 47 #[.string s, .int .i64 (k : Int)] w (fun e w' => Below w.heap.size w w' ∧ ∃ o, e = .returned (.tuple #[.string o, .bool true]))) := Lib.hid (fun k hk w => by
        have := iPart_any s k w (by omega) (by omega)
        obtain ⟨r, p, j, e⟩ := cutAt_some t k (by omega)
        rw [cutOf_nat hp, e] at this
        refine this.mono ?_
        rintro e w' ⟨rfl, hb⟩
        exact ⟨hb, _, rfl⟩)
      have HE : Hid (∀ w, Calls Try.prog 47 #[.string s, .int .i64 (n : Int)] w (Ans (.tuple #[.string ⟨#[]⟩, .bool false]) w)) := Lib.hid (fun w => by
        have := iPart_any s n w (by omega) (by omega)
        rw [cutOf_out hp (by omega)] at this
        exact this)
      rw [← hn'] at hnd
      have g1 : decide ((n : Int) < 0) = false := decide_eq_false (by omega)
      have g3 : decide ((n : Int) ≤ 16) = true := decide_eq_true (by omega)
      clear hp hn' hw hlv
      go_wp2_with fail
      refine (HI.out w1).mono ?_
      rintro e w2 ⟨rfl, hB2⟩
      have HB2 := Lib.hid (below_step HB1.out hB2)
      clear hB2
      go_wp2_with fail
      refine (HS.out w2).mono ?_
      rintro e w3 ⟨rfl, hB3⟩
      have HB3 := Lib.hid (below_step HB2.out hB3)
      clear hB3
      go_wp2_with fail
      go_loopw [6, 7, 8] (fun i x y wr => ∃ k : Nat, k ≤ n ∧ i = .int .i64 k ∧ Below w3.heap.size w3 wr) (fun i _ _ _ => n - (intOf i).toNat)
      case atStart => exact ⟨0, Nat.zero_le _, rfl, Below.refl _ _⟩
      case round =>
        obtain ⟨k, hk, rfl, hB⟩ := hrel
        by_cases hlt : k < n
        · go_wp2_with fail
          refine (HP.out k hlt wr).mono ?_
          rintro e w4 ⟨hB4, o, rfl⟩
          have HB4 := Lib.hid (below_step hB hB4)
          clear hB4
          go_wp2_with fail
          exact ⟨⟨k + 1, by omega, by go_num, HB4.out⟩, by simp [intOf]; omega⟩
        · obtain rfl : k = n := by omega
          have HB4 := Lib.hid (below_step HB3.out hB)
          go_wp2_with fail
          refine (HE.out wr).mono ?_
          rintro e w5 ⟨rfl, hB5⟩
          have HB5 := Lib.hid (below_step HB4.out hB5)
          clear hB5
          go_wp2_with fail
          go_ret
          exact ⟨rfl, HB5.out⟩
  · go_enter Try.func19, Try.ntmps19
    go_wp2_with fail
    go_ret
    exact ⟨rfl, Below.refl _ _⟩
end Go.Proofs.Ytaahjegdcahccaa
