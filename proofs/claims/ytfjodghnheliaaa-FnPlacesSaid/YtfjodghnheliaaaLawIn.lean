/- The law of PatternIn. -/
import Derived.Test.YtfjodghnheliaaaKPlS
namespace Go.Proofs.Ytfjodghnheliaaa
open Go.RowKit

set_option maxRecDepth 100000 in
set_option maxHeartbeats 1000000 in
theorem sIn_any (p q : ByteArray) (w : World) (hp : p.size ≤ 1048576) (hq : q.size ≤ 1048576) :
    Calls Try.prog 10 #[.string p, .string q] w (Ans (.bool (inV p q)) w) := by
  have HP := Lib.hid (sPlaces_any p q w hp hq)
  obtain ⟨b, hb⟩ : ∃ b, b = (plV p q).isSome := ⟨_, rfl⟩
  have HV : Hid (inV p q = (b && decide (0 < (plTxs p q).length))) := Lib.hid (by rw [inV_pl, hb])
  rw [← hb] at HP
  clear hb
  go_enter Try.func10, Try.ntmps10
  go_wp2_with fail
  refine HP.out.mono ?_
  rintro e w1 ⟨hB1, va, n, c, rfl, hn, _⟩
  rw [← hn] at HV
  have e1 : decide (0 < (n : Int)) = decide (0 < n) := by
    by_cases h : 0 < n
    · rw [decide_eq_true h, decide_eq_true (by omega)]
    · rw [decide_eq_false h, decide_eq_false (by omega)]
  obtain ⟨d, hd⟩ : ∃ d, d = decide (0 < n) := ⟨_, rfl⟩
  rw [← hd] at HV e1
  have HD := Lib.hid hd
  clear hn hd
  cases b
  all_goals
    go_wp2_with fail
    go_ret
    exact ⟨by rw [HV.out]; first | rfl | (rw [HD.out]; simp), hB1⟩

end Go.Proofs.Ytfjodghnheliaaa
