/- The laws' own helpers on lists of texts: equal, marked, held. (what the exact laws want besides) -/
import Derived.Test.YtmmfcljkcepahaaStrsC
import Derived.Test.YtmmfcljkcepahaaPathsS
import Derived.Test.YtmmfcljkcepahaaLawA
import Derived.Deep.QuietTactic
import Derived.BigQuiet
namespace Go.Proofs.Ytmmfcljkcepahaa
open Go.RowKit

set_option maxRecDepth 100000 in
set_option maxHeartbeats 1000000 in
theorem markText_any (k : Nat) (w : World) (hk : 0 < k) (hk2 : k ≤ 100000000) :
    Calls Try.prog 80 #[.int .i64 k] w (Ans (.string ⟨(mark k).toArray⟩) w) := by
  go_enter Try.func80, Try.ntmps80
  go_wp2_with fail
  go_loopw [0, 3] (fun kv ov wr => ∃ (j f : Nat) (out : List UInt8), kv = .int .i64 j ∧ ov = .string ⟨out.toArray⟩ ∧ digits 20 k = digits f j ++ out ∧ j ≤ 100000000 ∧ out.length + f ≤ 20 ∧ j < 10 ^ f ∧ Below w.heap.size w wr) (fun kv _ _ => (intOf kv).toNat)
  case atStart => exact ⟨k, 20, [], rfl, rfl, by simp, hk2, by simp, by omega, Below.refl _ _⟩
  case round =>
    obtain ⟨j, f, out, rfl, rfl, hd, hj, hf, hp, hB⟩ := hrel
    have HD := Lib.hid hd
    have HP := Lib.hid hp
    have hol : (⟨out.toArray⟩ : ByteArray).size = out.length := by simp [ByteArray.size]
    have hol2 : out.length ≤ 20 := by omega
    clear hd hp
    by_cases h0 : 0 < j
    · have hcv := digit_conv j wr
      go_wp2_with fail
      exact ⟨⟨j / 10, f - 1, dg j :: out, by first | rfl | go_num, by
          rw [show dg j :: out = [dg j] ++ out from rfl, ← bytes_append], by
          obtain ⟨f', rfl⟩ : ∃ f', f = f' + 1 := ⟨f - 1, by have := HP.out; rcases f with _ | f; (simp at this; omega); omega⟩
          rw [HD.out, digits, if_neg (by omega)]; simp, by omega, by simp; have := HP.out; rcases f with _ | f; (simp at this; omega); omega, by
          obtain ⟨f', rfl⟩ : ∃ f', f = f' + 1 := ⟨f - 1, by have := HP.out; rcases f with _ | f; (simp at this; omega); omega⟩
          have := HP.out
          rw [Nat.pow_succ] at this
          simp only [Nat.add_sub_cancel]
          omega, hB.alloc hB.size _⟩, by simp [intOf]; omega⟩
    · obtain rfl : j = 0 := by omega
      have hd0 : digits 20 k = out := by
        rw [HD.out]; cases f <;> simp [digits]
      have HD0 := Lib.hid hd0
      clear hd0
      go_wp2_with fail
      go_ret
      refine ⟨?_, hB⟩
      rw [mark, HD0.out, show (109 :: out : List UInt8) = [109] ++ out from rfl, ← bytes_append]
      rfl

set_option maxRecDepth 100000 in
set_option maxHeartbeats 1000000 in
theorem eqStringS_any (ps : List (List UInt8)) (a b : Option Addr) (ca cb : Nat) (w : World) (hn : ps.length ≤ 1048576) (ha : Lies w a ps) (hb : Lies w b ps) :
    Calls Try.prog 49 #[.slice a ps.length ca, .slice b ps.length cb] w (Ans (.bool true) w) := by
  have HA := Lib.hid ha
  have HB := Lib.hid hb
  clear ha hb
  go_enter Try.func49, Try.ntmps49
  go_wp2_with fail
  go_loopw [5] (fun i wr => ∃ k : Nat, k ≤ ps.length ∧ i = .int .i64 k ∧ Below w.heap.size w wr) (fun i _ => ps.length - (intOf i).toNat)
  case atStart => exact ⟨0, Nat.zero_le _, rfl, Below.refl _ _⟩
  case round =>
    obtain ⟨k, hk, rfl, hB⟩ := hrel
    by_cases hlt : k < ps.length
    · obtain ⟨g, ea, c1⟩ := (HA.out.below hB) k hlt
      obtain ⟨g', eb, c2⟩ := (HB.out.below hB) k hlt
      subst ea eb
      have k0 : (0 : Int) ≤ k := by omega
      go_wp2_with fail
      go_quiet (fail)
      go_wp2_with fail
      exact ⟨⟨k + 1, by omega, by go_num, below_drewN hB nq⟩, by simp [intOf]; omega⟩
    · go_wp2_with fail
      go_ret
      exact ⟨rfl, hB⟩

set_option maxRecDepth 100000 in
set_option maxHeartbeats 1000000 in
theorem markStringS_any (n : Nat) (g cap m : Nat) (cur : Array Value) (w : World) (hn : n ≤ 1000000) (hm : 0 < m) (hm2 : m ≤ 1000000) (hcur : w.heap[g]? = some (.cells cur 9 (0, 0))) (hcs : n ≤ cur.size) :
    Calls Try.prog 50 #[.slice (some ⟨g, 0, none⟩) n cap, .int .i64 m] w fun e w' => e = .returned (.int .i64 (m + n : Nat)) ∧ w.grownBy w' (some g) ∧ Lies w' (some ⟨g, 0, none⟩) ((List.range n).map fun j => mark (m + j)) := by
  have HC := Lib.hid hcur
  clear hcur
  go_enter Try.func50, Try.ntmps50
  go_wp2_with fail
  go_loopw [1, 5] (fun mv i wr => ∃ (k : Nat) (cr : Array Value), k ≤ n ∧ i = .int .i64 k ∧ mv = .int .i64 (m + k : Nat) ∧ wr.heap[g]? = some (.cells cr 9 (0, 0)) ∧ n ≤ cr.size ∧ (∀ j, j < k → cr[j]? = some (.string ⟨(mark (m + j)).toArray⟩)) ∧ w.grownBy wr (some g)) (fun _ i _ => n - (intOf i).toNat)
  case atStart => exact ⟨0, cur, Nat.zero_le _, rfl, by simp, HC.out, hcs, fun j h => by omega, grownBy_refl _ _⟩
  case round =>
    obtain ⟨k, cr, hk, rfl, rfl, hc, hcs2, hj, hg⟩ := hrel
    have H1 := Lib.hid hc
    have H2 := Lib.hid hj
    have hgl := (Array.getElem?_eq_some_iff.1 hc).1
    clear hc hj
    by_cases hlt : k < n
    · have HM := Lib.hid (markText_any (m + k) wr (by omega) (by omega))
      go_wp2_with fail
      refine HM.out.mono ?_
      rintro e w1 ⟨rfl, hb1⟩
      have hc1 : w1.heap[g]? = some (.cells cr 9 (0, 0)) := (hb1.block g hgl).trans H1.out
      have hcc : w1.cell? ⟨g, k, none⟩ = some (cr[k]'(by omega)) := by rw [Lib.cell_of_heap hc1]; simp
      have hff : w1.frozen? ⟨g, k, none⟩ = false := Lib.frozen_of_heap hc1 k
      have H3 := Lib.hid (heap_setCell_same (k := k) hc1 (.string ⟨(mark (m + k)).toArray⟩))
      have H4 := Lib.hid (grownBy_setCell (k := k) (grownBy_below hg hb1) (.string ⟨(mark (m + k)).toArray⟩))
      clear hc1
      go_wp2_with fail
      refine ⟨⟨k + 1, _, by omega, by go_num, by go_num, H3.out, by simpa using hcs2, ?_, H4.out⟩, by simp [intOf]; omega⟩
      intro j hjk
      by_cases hjk2 : j = k
      · subst hjk2
        rw [Array.getElem?_setIfInBounds, if_pos rfl, if_pos (by omega)]
      · rw [Array.getElem?_setIfInBounds, if_neg (by omega)]
        exact H2.out j (by omega)
    · obtain rfl : k = n := by omega
      go_wp2_with fail
      go_ret
      refine ⟨rfl, hg, fun j hj => ⟨g, rfl, ?_⟩⟩
      simp at hj
      rw [Lib.cell_of_heap H1.out, H2.out j hj]
      simp

set_option maxRecDepth 100000 in
set_option maxHeartbeats 1000000 in
theorem heldStringS_any (n : Nat) (a : Option Addr) (cap m : Nat) (w : World) (hn : n ≤ 1000000) (hm : 0 < m) (hm2 : m ≤ 1000000) (hl : Lies w a ((List.range n).map fun j => mark (m + j))) :
    Calls Try.prog 51 #[.slice a n cap, .int .i64 m] w (Ans (.int .i64 (m + n : Nat)) w) := by
  have HL := Lib.hid hl
  clear hl
  go_enter Try.func51, Try.ntmps51
  go_wp2_with fail
  go_loopw [1, 5] (fun mv i wr => ∃ (k : Nat), k ≤ n ∧ i = .int .i64 k ∧ mv = .int .i64 (m + k : Nat) ∧ Below w.heap.size w wr) (fun _ i _ => n - (intOf i).toNat)
  case atStart => exact ⟨0, Nat.zero_le _, rfl, by simp, Below.refl _ _⟩
  case round =>
    obtain ⟨k, hk, rfl, rfl, hB⟩ := hrel
    by_cases hlt : k < n
    · obtain ⟨g, ea, c1⟩ := (HL.out.below hB) k (by simpa using hlt)
      subst ea
      have hmk : ((List.range n).map fun j => mark (m + j))[k]'(by simpa using hlt) = mark (m + k) := by simp
      rw [hmk] at c1
      have k0 : (0 : Int) ≤ k := by omega
      have c1' : wr.drew.cell? ⟨g, k, none⟩ = some (.string ⟨(mark (m + k)).toArray⟩) := c1
      have HM := Lib.hid (fun w => markText_any (m + k) w (by omega) (by omega))
      clear hmk
      go_wp2_with fail
      go_region_with ((go_at_call 80; refine (HM.out _).mono ?_; rintro e w1 ⟨rfl, hb1⟩; have x1 := keep1 (w := wr.drew) hb1 c1'))
      all_goals
        go_wp2_with fail
        exact ⟨⟨k + 1, by omega, by go_num, by go_num, hB.trans ((Below.refl _ _).drew.trans (hb1.mono hB.size))⟩, by simp [intOf]; omega⟩
    · obtain rfl : k = n := by omega
      go_wp2_with fail
      go_ret
      exact ⟨rfl, hB⟩

end Go.Proofs.Ytmmfcljkcepahaa
