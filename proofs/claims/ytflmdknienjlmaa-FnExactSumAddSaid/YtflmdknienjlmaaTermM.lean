/- The laws' own helpers on lists of terms: marked, held. -/
import Derived.Test.YtflmdknienjlmaaKTerm
import Derived.Test.YtflmdknienjlmaaKStrs
namespace Go.Proofs.Ytflmdknienjlmaa
open Go.RowKit

/-- What the marked row holds from m on. -/
def marksT (m n : Nat) : List (Int × ByteArray) := (List.range n).map fun j => (((m + 2 * j : Nat) : Int), ⟨(mark (m + 2 * j + 1)).toArray⟩)

theorem marksT_length (m n : Nat) : (marksT m n).length = n := by simp [marksT]
theorem marksT_get {m n j : Nat} (h : j < (marksT m n).length) : (marksT m n)[j] = (((m + 2 * j : Nat) : Int), ⟨(mark (m + 2 * j + 1)).toArray⟩) := by simp [marksT]

set_option maxRecDepth 100000 in
set_option maxHeartbeats 1000000 in
theorem markTermS_any (n : Nat) (g cap m : Nat) (cur : Array Value) (w : World) (hn : n ≤ 1048576) (hm : 0 < m) (hm2 : m ≤ 10000000) (hcur : w.heap[g]? = some (.cells cur 81 (0, 0))) (hcs : n * 2 ≤ cur.size) :
    Calls Try.prog 16 #[.slice (some ⟨g, 0, none⟩) n cap, .int .i64 m] w fun e w' => e = .returned (.int .i64 (m + 2 * n : Nat)) ∧ w.grownBy w' (some g) ∧ TermL w' g (marksT m n) := by
  have HC := Lib.hid hcur
  clear hcur
  go_enter Try.func16, Try.ntmps16
  go_wp2_with fail
  go_loopw [1, 5] (fun mv i wr => ∃ (k : Nat) (cr : Array Value), k ≤ n ∧ i = .int .i64 k ∧ mv = .int .i64 (m + 2 * k : Nat) ∧ wr.heap[g]? = some (.cells cr 81 (0, 0)) ∧ n * 2 ≤ cr.size ∧ (∀ j, j < k → cr[j * 2]? = some (.int .i64 (m + 2 * j : Nat)) ∧ cr[j * 2 + 1]? = some (.string ⟨(mark (m + 2 * j + 1)).toArray⟩)) ∧ w.grownBy wr (some g)) (fun _ i _ => n - (intOf i).toNat)
  case atStart => exact ⟨0, cur, Nat.zero_le _, rfl, by simp, HC.out, hcs, fun j h => by omega, grownBy_refl _ _⟩
  case round =>
    obtain ⟨k, cr, hk, rfl, rfl, hc, hcs2, hj, hg⟩ := hrel
    have H1 := Lib.hid hc
    have H2 := Lib.hid hj
    have HG := Lib.hid hg
    have hgl := (Array.getElem?_eq_some_iff.1 hc).1
    by_cases hlt : k < n
    · have hcc : wr.cell? ⟨g, k * 2, none⟩ = some (cr[k * 2]'(by omega)) := by rw [Lib.cell_of_heap hc]; simp
      have hff : wr.frozen? ⟨g, k * 2, none⟩ = false := Lib.frozen_of_heap hc _
      have hh1 := heap_setCell_same (k := k * 2) hc (.int .i64 ((m + 2 * k : Nat) : Int))
      have HH1 := Lib.hid hh1
      have HM := Lib.hid (fun w => markText_any (m + 2 * k + 1) w (by omega) (by omega))
      have hnum : (((m + 2 * k : Nat) : Int)) + 1 = ((m + 2 * k + 1 : Nat) : Int) := by omega
      clear hc hj hg hh1
      go_wp2_with fail
      refine (HM.out _).mono ?_
      rintro e w1 ⟨rfl, hb1⟩
      have hc1 : w1.heap[g]? = some (.cells (cr.setIfInBounds (k * 2) (.int .i64 ((m + 2 * k : Nat) : Int))) 81 (0, 0)) := (hb1.block g (by simpa using hgl)).trans HH1.out
      have hcc1 : w1.cell? ⟨g, k * 2 + 1, none⟩ = some ((cr.setIfInBounds (k * 2) (.int .i64 ((m + 2 * k : Nat) : Int)))[k * 2 + 1]'(by simp; omega)) := by rw [Lib.cell_of_heap hc1, Array.getElem?_eq_getElem]
      have hff1 : w1.frozen? ⟨g, k * 2 + 1, none⟩ = false := Lib.frozen_of_heap hc1 _
      have H3 := Lib.hid (heap_setCell_same (k := k * 2 + 1) hc1 (.string ⟨(mark (m + 2 * k + 1)).toArray⟩))
      have H4 := Lib.hid (grownBy_setCell (k := k * 2 + 1) (grownBy_below (grownBy_setCell (k := k * 2) HG.out (.int .i64 ((m + 2 * k : Nat) : Int))) hb1) (.string ⟨(mark (m + 2 * k + 1)).toArray⟩))
      clear hc1
      go_wp2_with fail
      refine ⟨⟨k + 1, _, by omega, by go_num, by go_num, H3.out, by simpa using hcs2, ?_, H4.out⟩, by simp [intOf]; omega⟩
      intro j hjk
      by_cases hjk2 : j = k
      · subst hjk2
        constructor
        · rw [Array.getElem?_setIfInBounds, if_neg (by omega), Array.getElem?_setIfInBounds, if_pos rfl, if_pos (by omega)]
        · rw [Array.getElem?_setIfInBounds, if_pos rfl, if_pos (by simp; omega)]
      · obtain ⟨q1, q2⟩ := H2.out j (by omega)
        constructor
        · rw [Array.getElem?_setIfInBounds, if_neg (by omega), Array.getElem?_setIfInBounds, if_neg (by omega)]; exact q1
        · rw [Array.getElem?_setIfInBounds, if_neg (by omega), Array.getElem?_setIfInBounds, if_neg (by omega)]; exact q2
    · obtain rfl : k = n := by omega
      clear hc hj hg
      go_wp2_with fail
      go_ret
      refine ⟨rfl, HG.out, fun j hj => ?_⟩
      rw [marksT_length] at hj
      rw [marksT_get]
      obtain ⟨q1, q2⟩ := H2.out j hj
      exact ⟨by rw [Lib.cell_of_heap H1.out, q1], by rw [Lib.cell_of_heap H1.out, q2]⟩

set_option maxRecDepth 100000 in
set_option maxHeartbeats 1000000 in
theorem heldTermS_any (n : Nat) (g cap m : Nat) (w : World) (hn : n ≤ 1048576) (hm : 0 < m) (hm2 : m ≤ 10000000) (hl : TermL w g (marksT m n)) :
    Calls Try.prog 17 #[.slice (some ⟨g, 0, none⟩) n cap, .int .i64 m] w (Ans (.int .i64 (m + 2 * n : Nat)) w) := by
  have HL := Lib.hid hl
  clear hl
  go_enter Try.func17, Try.ntmps17
  go_wp2_with fail
  go_loopw [1, 5] (fun mv i wr => ∃ (k : Nat), k ≤ n ∧ i = .int .i64 k ∧ mv = .int .i64 (m + 2 * k : Nat) ∧ Below w.heap.size w wr) (fun _ i _ => n - (intOf i).toNat)
  case atStart => exact ⟨0, Nat.zero_le _, rfl, by simp, Below.refl _ _⟩
  case round =>
    obtain ⟨k, hk, rfl, rfl, hB⟩ := hrel
    by_cases hlt : k < n
    · obtain ⟨c1, c2⟩ := (HL.out.below hB) k (by rw [marksT_length]; exact hlt)
      rw [marksT_get] at c1 c2
      simp only at c1 c2
      have k0 : (0 : Int) ≤ k := by omega
      have HM : Hid (∀ w, Calls Try.prog 56 #[.int .i64 ((m : Int) + 2 * (k : Int) + 1)] w (Ans (.string ⟨(mark (m + 2 * k + 1)).toArray⟩) w)) := Lib.hid (fun w => by
        rw [show (m : Int) + 2 * (k : Int) + 1 = ((m + 2 * k + 1 : Nat) : Int) by omega]
        exact markText_any (m + 2 * k + 1) w (by omega) (by omega))
      have c2' : wr.drew.cell? ⟨g, k * 2 + 1, none⟩ = some (.string ⟨(mark (m + 2 * k + 1)).toArray⟩) := c2
      go_wp2_with fail
      go_region_with ((go_at_call 56; refine (HM.out _).mono ?_; rintro e w1 ⟨rfl, hb1⟩; have x1 := keep1 (w := wr.drew) hb1 c2'))
      all_goals
        go_wp2_with fail
        exact ⟨⟨k + 1, by omega, by go_num, by go_num, hB.trans ((Below.refl _ _).drew.trans (hb1.mono hB.size))⟩, by simp [intOf]; omega⟩
    · obtain rfl : k = n := by omega
      go_wp2_with fail
      go_ret
      exact ⟨rfl, hB⟩

end Go.Proofs.Ytflmdknienjlmaa
