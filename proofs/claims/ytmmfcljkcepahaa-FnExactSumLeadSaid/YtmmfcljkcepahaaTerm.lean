/- A list of terms that comes in: its size told, its copy made, two copies compared. (what the exact laws want besides) -/
import Derived.Test.YtmmfcljkcepahaaTermC
import Derived.Test.YtmmfcljkcepahaaStrArg
import Derived.Deep.SlicePairs
import Derived.OpenShut
namespace Go.Proofs.Ytmmfcljkcepahaa
open Go.RowKit

theorem szTerm_any (y : Int × ByteArray) (l : Int) (w : World) (h0 : 0 ≤ l) (h1 : l ≤ 1048576) (hy : (y.2.size : Int) ≤ 9223372036854775807) :
    Calls Try.prog 67 #[.agg #[.int .i64 y.1, .string y.2], .int .i64 l] w fun e w' => Below w.heap.size w w' ∧ e = .returned (.int .i64 (if (y.2.size : Int) ≤ l then l - y.2.size else -1)) := by
  obtain ⟨x, s⟩ := y
  simp only at hy ⊢
  by_cases h : (s.size : Int) ≤ l
  · have HE : Hid ((if (s.size : Int) ≤ l then l - s.size else -1) = l - s.size) := Lib.hid (if_pos h)
    go_enter Try.func67, Try.ntmps67
    go_wp2_with fail
    go_ret
    exact ⟨(Below.refl _ _).alloc (Nat.le_refl _) _, by first | rfl | (rw [HE.out]; rfl)⟩
  · have HE : Hid ((if (s.size : Int) ≤ l then l - s.size else -1) = -1) := Lib.hid (if_neg h)
    go_enter Try.func67, Try.ntmps67
    go_wp2_with fail
    go_ret
    exact ⟨(Below.refl _ _).alloc (Nat.le_refl _) _, by first | rfl | (rw [HE.out]; rfl)⟩

set_option maxRecDepth 100000 in
set_option maxHeartbeats 1000000 in
theorem szTermS_any (ys : List (Int × ByteArray)) (a : Option Addr) (cap : Nat) (l0 : Int) (w : World) (hl0 : 0 ≤ l0) (hl1 : l0 ≤ 1048576) (hn : ys.length ≤ 9223372036854775807) (hz : ∀ j (h : j < ys.length), (ys[j]).2.size ≤ 9223372036854775807) (hl : TermO w a ys) :
    Calls Try.prog 18 #[.slice a ys.length cap, .int .i64 l0] w (SzTerm ys w) := by
  have HL := Lib.hid hl
  have HZ := Lib.hid hz
  clear hl hz
  by_cases hlen : (ys.length : Int) ≤ l0
  · go_enter Try.func18, Try.ntmps18
    go_wp2_with fail
    go_loopw [1, 5] (fun lv iv wr => ∃ (k : Nat) (l : Int), k ≤ ys.length ∧ iv = .int .i64 k ∧ lv = .int .i64 l ∧ 0 ≤ l ∧ l ≤ 1048576 ∧ (∀ j (h : j < ys.length), j < k → (ys[j]).2.size ≤ 1048576) ∧ Below w.heap.size w wr) (fun _ iv _ => ys.length - (intOf iv).toNat)
    case atStart => exact ⟨0, l0 - (ys.length : Int), Nat.zero_le _, rfl, by first | rfl | go_num, by omega, by omega, fun j _ h => by omega, Below.refl _ _⟩
    case round =>
      obtain ⟨k, l, hk, rfl, rfl, hb0, hb1, hj, hB⟩ := hrel
      have HJ := Lib.hid hj
      clear hj
      by_cases hlt : k < ys.length
      · obtain ⟨b, off, rfl, hc, hd⟩ := (HL.out.below hB) k hlt
        have hsz : (ys[k]).2.size ≤ 9223372036854775807 := HZ.out k hlt
        have HSZ := szTerm_any (ys[k]) l wr hb0 hb1 (by omega)
        have HB := Lib.hid hB
        clear hsz hB
        by_cases h0 : ((ys[k]).2.size : Int) ≤ l
        · rw [if_pos h0] at HSZ
          obtain ⟨l', hl'⟩ : ∃ l', l' = l - ((ys[k]).2.size : Int) := ⟨_, rfl⟩
          have HE := Lib.hid hl'
          rw [← hl'] at HSZ
          have HS := Lib.hid HSZ
          have hb3 : 0 ≤ l' := by omega
          have hb2 : l' ≤ 1048576 := by omega
          have HK : Hid ((ys[k]).2.size ≤ 1048576) := Lib.hid (by omega)
          clear h0 hl' HSZ
          go_wp2_with fail
          refine HS.out.mono ?_
          rintro e w1 ⟨hB1, rfl⟩
          have HB1 := Lib.hid (below_step HB.out hB1)
          clear hB1
          go_wp2_with fail
          go_roundw
          case rel => exact ⟨k + 1, l', by omega, by go_num, rfl, hb3, hb2, fun j h hjk => by
              by_cases e : j = k
              · subst e; exact HK.out
              · exact HJ.out j h (by omega), HB1.out⟩
          case measure => simp [intOf]; omega
        · rw [if_neg h0] at HSZ
          have HS := Lib.hid HSZ
          clear h0 HSZ
          go_wp2_with fail
          refine HS.out.mono ?_
          rintro e w1 ⟨hB1, rfl⟩
          have HB1 := Lib.hid (below_step HB.out hB1)
          clear hB1
          go_wp2_with fail
          go_ret
          exact ⟨HB1.out, -1, rfl, .inl (by omega)⟩
      · have hkk : k = ys.length := by omega
        go_wp2_with fail
        go_ret
        exact ⟨hB, l, rfl, .inr ⟨hb0, hb1, by omega, fun j h => HJ.out j h (by omega)⟩⟩
  · go_enter Try.func18, Try.ntmps18
    go_wp2_with fail
    go_ret
    exact ⟨Below.refl _ _, -1, rfl, .inl (by omega)⟩

set_option maxRecDepth 100000 in
theorem toTerm_any (y : Int × ByteArray) (w : World) :
    Calls Try.prog 69 #[.agg #[.int .i64 y.1, .string y.2]] w fun e w' => Below w.heap.size w w' ∧ e = .returned (.agg #[.int .i64 y.1, .string y.2]) := by
  obtain ⟨x, s⟩ := y
  simp only
  go_enter Try.func69, Try.ntmps69
  go_wp2_with fail
  refine bodyPost_ret (v := .agg #[.int .i64 x, .string s]) (by simp [results, Try.results69, go_sem]) rfl ?_
  exact ⟨(((Below.refl _ _).alloc (Nat.le_refl _) _).alloc (by simp) _).alloc (by simp; omega) _, rfl⟩

set_option maxRecDepth 100000 in
set_option maxHeartbeats 1000000 in
theorem toTermS_any (ys : List (Int × ByteArray)) (a : Option Addr) (cap : Nat) (w : World) (hn : ys.length ≤ 1048576) (hl : TermO w a ys) :
    Calls Try.prog 20 #[.slice a ys.length cap] w (CopyTerm ys ys.length w) := by
  obtain ⟨i0, hi0, hz, hzs, hzb⟩ := info_parts infoTerm
  have HL := Lib.hid hl
  obtain ⟨nn, hnn⟩ : ∃ nn, nn = ys.length := ⟨_, rfl⟩
  rw [← hnn]
  have HNN := Lib.hid hnn
  rw [← hnn] at hn
  clear hl hnn
  go_enter Try.func20, Try.ntmps20
  go_wp2_with (at_make; refine wpList_make_full _ rfl _ _ 25 rfl w.heap.size 41 i0 (.agg #[.int .i64 0, .string ⟨#[]⟩]) 2 Try.underlying25 hi0 hz hzs .i64 .i64 _ _ nn rfl rfl rfl rfl ?c1 ?c2 (Nat.le_refl _) ?_)
  case c1 => rw [hzb]; omega
  case c2 => unfold maxLen; omega
  intro w1 hown hg
  have hcur : ∃ cur : Array Value, w1.heap[w.heap.size]? = some (.cells cur 41 (0, 0)) ∧ cur.size = nn * 2 := by
    rcases hown.2 with ⟨e, _⟩ | ⟨G, cap', cur, e, _, hG, hnc, hcm, hcs, htake⟩
    · simp at e
    · simp only [Value.slice.injEq, Option.some.injEq, Addr.mk.injEq] at e
      obtain ⟨⟨rfl, _⟩, _, rfl⟩ := e
      exact ⟨cur, hG, by omega⟩
  have hB1 : Below w.heap.size w w1 := (Below.refl _ _).grown hg (by omega) (fun k e => by cases e)
  have HC := Lib.hid hcur
  have HB1 := Lib.hid hB1
  clear hcur hown hg hB1
  go_wp2_with fail
  go_loopw [4] (fun iv wr => ∃ (k : Nat) (cr : Array Value), k ≤ nn ∧ iv = .int .i64 k ∧ wr.heap[w.heap.size]? = some (.cells cr 41 (0, 0)) ∧ cr.size = nn * 2 ∧ (∀ j (h : j < ys.length), j < k → cr[j * 2]? = some (.int .i64 (ys[j]).1) ∧ cr[j * 2 + 1]? = some (.string (ys[j]).2)) ∧ Below w.heap.size w wr) (fun iv _ => nn - (intOf iv).toNat)
  case atStart =>
    obtain ⟨cur, h1, h2⟩ := HC.out
    exact ⟨0, cur, Nat.zero_le _, rfl, h1, h2, fun j _ h => by omega, HB1.out⟩
  case round =>
    obtain ⟨k, cr, hk, rfl, hc, hcs, hj, hB⟩ := hrel
    have HJ := Lib.hid hj
    have HCR := Lib.hid hc
    have HCS := Lib.hid hcs
    have HB := Lib.hid hB
    clear hj
    by_cases hlt : k < nn
    · have hlt' : k < ys.length := by rw [← HNN.out]; exact hlt
      obtain ⟨b, off, rfl, hcc, hcd⟩ := (HL.out.below hB) k hlt'
      have HS := Lib.hid (toTerm_any (ys[k]) wr)
      have hlw : w.heap.size < wr.heap.size := (Array.getElem?_eq_some_iff.1 hc).1
      clear hc hcs hB
      go_wp2_with fail
      refine HS.out.mono ?_
      rintro e w2 ⟨hB2, rfl⟩
      have hc2 : w2.heap[w.heap.size]? = some (.cells cr 41 (0, 0)) := (hB2.block _ hlw).trans HCR.out
      have hck : w2.cell? ⟨w.heap.size, k * 2, none⟩ = some (cr[k * 2]'(by rw [HCS.out]; omega)) := by rw [Lib.cell_of_heap hc2]; simp
      have hck1 : w2.cell? ⟨w.heap.size, k * 2 + 1, none⟩ = some (cr[k * 2 + 1]'(by rw [HCS.out]; omega)) := by rw [Lib.cell_of_heap hc2]; simp
      have hff : w2.frozen? ⟨w.heap.size, k * 2, none⟩ = false := Lib.frozen_of_heap hc2 _
      have hff1 : w2.frozen? ⟨w.heap.size, k * 2 + 1, none⟩ = false := Lib.frozen_of_heap hc2 _
      have H3 := Lib.hid (heap_setCell_same (k := k * 2 + 1) (heap_setCell_same (k := k * 2) hc2 (.int .i64 (ys[k]).1)) (.string (ys[k]).2))
      have H4 := Lib.hid (((below_step HB.out hB2).setCell (p := ⟨w.heap.size, k * 2, none⟩) (by simp) (.int .i64 (ys[k]).1)).setCell (p := ⟨w.heap.size, k * 2 + 1, none⟩) (by simp) (.string (ys[k]).2))
      clear hc2 hB2
      go_wp2_with fail
      go_roundw
      case rel => exact ⟨k + 1, _, by omega, by go_num, H3.out, by rw [Array.size_setIfInBounds, Array.size_setIfInBounds]; exact HCS.out, fun j h hjk => by
          have := HCS.out
          by_cases e : j = k
          · subst e
            constructor
            · rw [Array.getElem?_setIfInBounds, if_neg (by omega), Array.getElem?_setIfInBounds, if_pos rfl, if_pos (by omega)]
            · rw [Array.getElem?_setIfInBounds, if_pos rfl, if_pos (by simp; omega)]
          · obtain ⟨q1, q2⟩ := HJ.out j h (by omega)
            constructor
            · rw [Array.getElem?_setIfInBounds, if_neg (by omega), Array.getElem?_setIfInBounds, if_neg (by omega)]; exact q1
            · rw [Array.getElem?_setIfInBounds, if_neg (by omega), Array.getElem?_setIfInBounds, if_neg (by omega)]; exact q2, H4.out⟩
      case measure => simp [intOf]; omega
    · have hkk : k = nn := by omega
      clear hc hcs hB
      go_wp2_with fail
      go_ret
      refine ⟨HB.out, w.heap.size, rfl, Nat.le_refl _, fun j hj => ?_⟩
      obtain ⟨q1, q2⟩ := HJ.out j hj (by have := HNN.out; omega)
      exact ⟨by rw [Lib.cell_of_heap HCR.out, q1], by rw [Lib.cell_of_heap HCR.out, q2]⟩

set_option maxRecDepth 100000 in
theorem eqTerm_any (y : Int × ByteArray) (w : World) :
    Calls Try.prog 37 #[.agg #[.int .i64 y.1, .string y.2], .agg #[.int .i64 y.1, .string y.2]] w (Ans (.bool true) w) := by
  obtain ⟨x, s⟩ := y
  simp only
  go_enter Try.func37, Try.ntmps37
  go_wp2_with fail
  go_ret
  exact ⟨rfl, ((Below.refl _ _).alloc (Nat.le_refl _) _).alloc (by simp) _⟩

set_option maxRecDepth 100000 in
set_option maxHeartbeats 1000000 in
theorem eqTermS_any (ys : List (Int × ByteArray)) (n : Nat) (hny : n = ys.length) (g g' ca cb : Nat) (w : World) (hn : n ≤ 1048576) (ha : TermL w g ys) (hb : TermL w g' ys) :
    Calls Try.prog 22 #[.slice (some ⟨g, 0, none⟩) n ca, .slice (some ⟨g', 0, none⟩) n cb] w (Ans (.bool true) w) := by
  have HA := Lib.hid ha
  have HB := Lib.hid hb
  have HNN := Lib.hid hny
  clear ha hb hny
  go_enter Try.func22, Try.ntmps22
  go_wp2_with fail
  go_loopw [5] (fun i wr => ∃ k : Nat, k ≤ n ∧ i = .int .i64 k ∧ Below w.heap.size w wr) (fun i _ => n - (intOf i).toNat)
  case atStart => exact ⟨0, Nat.zero_le _, rfl, Below.refl _ _⟩
  case round =>
    obtain ⟨k, hk, rfl, hB⟩ := hrel
    by_cases hlt : k < n
    · have hlt' : k < ys.length := by rw [← HNN.out]; exact hlt
      obtain ⟨c1, c2⟩ := (HA.out.below hB) k hlt'
      obtain ⟨c3, c4⟩ := (HB.out.below hB) k hlt'
      have k0 : (0 : Int) ≤ k := by omega
      have HQ := Lib.hid (fun w => eqTerm_any (ys[k]) w)
      go_wp2_with fail
      go_region_with ((go_at_call 37; refine (HQ.out _).mono ?_; rintro e w1 ⟨rfl, hb1⟩))
      all_goals
        go_wp2_with fail
        exact ⟨⟨k + 1, by omega, by go_num, hB.trans ((Below.refl _ _).drew.trans (hb1.mono hB.size))⟩, by simp [intOf]; omega⟩
    · go_wp2_with fail
      go_ret
      exact ⟨rfl, hB⟩

end Go.Proofs.Ytmmfcljkcepahaa
