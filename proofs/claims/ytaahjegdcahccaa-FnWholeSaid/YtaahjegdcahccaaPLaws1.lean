/- The promises on one drawn tree. -/
import Derived.Test.YtaahjegdcahccaaPMath
import Derived.Test.YtaahjegdcahccaaDrawX
namespace Go.Proofs.Ytaahjegdcahccaa
open Go.RowKit

theorem text_of {s : ByteArray} {t : T} (h : parse s.data.toList = some t) : s = ⟨t.text.toArray⟩ := by
  have := (parse_some h).2.1
  apply ByteArray.ext; apply Array.toList_inj.1; rw [this]

set_option maxRecDepth 100000 in
set_option maxHeartbeats 2000000 in
theorem pTree_any (bs : List Nat) (a : Option Addr) (cap : Nat) (w : World) (hl : LiesB w a bs) (h8 : ∀ z ∈ bs, z ≤ 255) (hn : bs.length ≤ 9223372036854775807) (hcap : bs.length ≤ cap) :
    Calls Try.prog 17 #[.slice a bs.length cap] w (Ans (.bool true) w) := by
  by_cases h : bs.length ≤ 1048576
  · have HD := Lib.hid (dTree_any bs a cap w hn hcap h8 hl)
    clear h8 hl
    go_enter Try.func17, Try.ntmps17
    go_wp2_with fail
    refine HD.out.mono ?_
    rintro e w1 ⟨hB1, s, rfl, hs⟩
    have HB1 := Lib.hid hB1
    obtain ⟨v, hv⟩ : ∃ v, v = (parse s.data.toList).isSome := ⟨_, rfl⟩
    have HI : Hid (∀ w, Calls Try.prog 30 #[.string s] w (Ans (.bool v) w)) := Lib.hid (fun w => by rw [hv]; exact iValid_any s w (by omega))
    have HS : Hid (∀ w, Calls Try.prog 29 #[.string s] w (Ans (.bool v) w)) := Lib.hid (fun w => by rw [hv]; exact sValid_any s w (by omega))
    have HV := Lib.hid hv
    clear hB1 hv
    cases v
    · go_wp2_with fail
      refine (HI.out w1).mono ?_
      rintro e w2 ⟨rfl, hB2⟩
      have HB2 := Lib.hid (below_step HB1.out hB2)
      clear hB2
      go_wp2_with fail
      refine (HS.out w2).mono ?_
      rintro e w3 ⟨rfl, hB3⟩
      have HB3 := Lib.hid (below_step HB2.out hB3)
      clear hB3
      go_wp2_with fail
      go_ret
      exact ⟨rfl, HB3.out⟩
    · have HG : Hid ((∀ w, Calls Try.prog 36 #[.string ⟨#[42]⟩, .int .i64 0, .string s] w (Ans (.tuple #[.string s, .bool true]) w)) ∧ (∀ w, Calls Try.prog 36 #[.string s, .int .i64 0, .string ⟨#[42]⟩] w (Ans (.tuple #[.string s, .bool true]) w))) := Lib.hid (by
        have hsome := HV.out
        cases hp : parse s.data.toList with
        | none => rw [hp] at hsome; cases hsome
        | some t =>
          obtain ⟨hw, _, hlv, hnd⟩ := parse_some hp
          have e1 : graftV (graftOf (⟨#[42]⟩ : ByteArray).data.toList 0 s.data.toList) = .tuple #[.string s, .bool true] := by
            rw [show (⟨#[42]⟩ : ByteArray).data.toList = [42] from rfl, graft_star_left hp, graftV, done_small hlv hnd, ← text_of hp]
          have e2 : graftV (graftOf s.data.toList 0 (⟨#[42]⟩ : ByteArray).data.toList) = .tuple #[.string s, .bool true] := by
            rw [show (⟨#[42]⟩ : ByteArray).data.toList = [42] from rfl, graft_star_right hp, graftV, done_small hlv hnd, ← text_of hp]
          refine ⟨fun w => ?_, fun w => ?_⟩
          · have := iGraft_any ⟨#[42]⟩ 0 s w (by change 1 ≤ _; omega) (by omega)
            rw [e1] at this
            exact this
          · have := iGraft_any s 0 ⟨#[42]⟩ w (by omega) (by change 1 ≤ _; omega)
            rw [e2] at this
            exact this)
      go_wp2_with fail
      refine (HI.out w1).mono ?_
      rintro e w2 ⟨rfl, hB2⟩
      have HB2 := Lib.hid (below_step HB1.out hB2)
      clear hB2
      go_wp2_with fail
      refine (HS.out w2).mono ?_
      rintro e w3 ⟨rfl, hB3⟩
      have HB3 := Lib.hid (below_step HB2.out hB3)
      clear hB3
      go_wp2_with fail
      refine (HG.out.1 w3).mono ?_
      rintro e w4 ⟨rfl, hB4⟩
      have HB4 := Lib.hid (below_step HB3.out hB4)
      clear hB4
      go_wp2_with fail
      refine (HG.out.2 w4).mono ?_
      rintro e w5 ⟨rfl, hB5⟩
      have HB5 := Lib.hid (below_step HB4.out hB5)
      clear hB5
      go_wp2_with fail
      go_ret
      exact ⟨rfl, HB5.out⟩
  · go_enter Try.func17, Try.ntmps17
    go_wp2_with fail
    go_ret
    exact ⟨rfl, Below.refl _ _⟩
end Go.Proofs.Ytaahjegdcahccaa
