/- The law of QuadPair. -/
import Derived.Test.YtapobhnhnldlkaaKQuadD
import Derived.Test.YtapobhnhnldlkaaLawQT
import Derived.Test.YtapobhnhnldlkaaKSumRJ
namespace Go.Proofs.Ytapobhnhnldlkaa
open Go.RowKit

set_option maxRecDepth 100000 in
set_option maxHeartbeats 1000000 in
theorem szStringS_le (ss : List ByteArray) (a : Option Addr) (cap : Nat) (w : World) (hn : ss.length ≤ 9223372036854775807) (hz : ∀ s ∈ ss, s.size ≤ 9223372036854775807) (hl : LiesO w a ss) :
    Calls Try.prog 4 #[.slice a ss.length cap, .int .i64 1048576] w (fun e w' => Below w.heap.size w w' ∧ ∃ v : Int, e = .returned (.int .i64 v) ∧ (v < 0 ∨ (0 ≤ v ∧ v ≤ 1048576 ∧ ss.length ≤ 1048576 ∧ ∀ j (h : j < ss.length), (ss[j]).size ≤ 1048576))) := by
  have HL := Lib.hid hl
  have HZ := Lib.hid hz
  clear hl hz
  by_cases hlen : ss.length ≤ 1048576
  · go_enter Try.func4, Try.ntmps4
    go_wp2_with fail
    go_loopw [1, 5] (fun lv iv wr => ∃ (k : Nat) (l : Int), k ≤ ss.length ∧ iv = .int .i64 k ∧ lv = .int .i64 l ∧ 0 ≤ l ∧ l ≤ 1048576 ∧ (∀ j (h : j < ss.length), j < k → (ss[j]).size ≤ 1048576) ∧ Below w.heap.size w wr) (fun _ iv _ => ss.length - (intOf iv).toNat)
    case atStart => exact ⟨0, 1048576 - (ss.length : Int), Nat.zero_le _, rfl, by first | rfl | go_num, by omega, by omega, fun j _ h => by omega, Below.refl _ _⟩
    case round =>
      obtain ⟨k, l, hk, rfl, rfl, hl0, hl1, hj, hB⟩ := hrel
      have HJ := Lib.hid hj
      clear hj
      by_cases hlt : k < ss.length
      · obtain ⟨b, off, rfl, hc⟩ := (HL.out.below hB) k hlt
        have hsz : (ss[k]).size ≤ 9223372036854775807 := HZ.out _ (List.getElem_mem hlt)
        obtain ⟨sz, hsz'⟩ : ∃ sz, sz = (ss[k]).size := ⟨_, rfl⟩
        have HS := Lib.hid hsz'
        by_cases h0 : (sz : Int) ≤ l
        · have h0' : ((ss[k]).size : Int) ≤ l := by omega
          clear hsz'
          go_wp2_with fail
          go_roundw
          case rel => exact ⟨k + 1, l - ((ss[k]).size : Int), by omega, by go_num, by first | rfl | go_num, by omega, by omega, fun j h hjk => by
              by_cases e : j = k
              · subst e; omega
              · exact HJ.out j h (by omega), hB⟩
          case measure => simp [intOf]; omega
        · have h0' : l < ((ss[k]).size : Int) := by omega
          clear hsz'
          go_wp2_with fail
          go_ret
          exact ⟨hB, -1, rfl, .inl (by omega)⟩
      · have hkk : k = ss.length := by omega
        go_wp2_with fail
        go_ret
        exact ⟨hB, l, rfl, .inr ⟨hl0, hl1, hlen, fun j h => HJ.out j h (by omega)⟩⟩
  · go_enter Try.func4, Try.ntmps4
    go_wp2_with fail
    go_ret
    exact ⟨Below.refl _ _, -1, rfl, .inl (by omega)⟩

end Go.Proofs.Ytapobhnhnldlkaa
