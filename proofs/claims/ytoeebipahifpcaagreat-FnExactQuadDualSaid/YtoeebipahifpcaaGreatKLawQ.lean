/- Merged out of: XKLawPaths, XLawQT, XLawQP. -/
import Derived.Test.YtoeebipahifpcaaGreatKGraftD
import Derived.Test.YtoeebipahifpcaaGreatKPathsJ
import Derived.Test.YtoeebipahifpcaaGreatKReadA
import Derived.Test.YtoeebipahifpcaaGreatKStrT
import Derived.Test.YtoeebipahifpcaaGreatKQuadN
import Derived.Test.YtoeebipahifpcaaGreatKQuadD
import Derived.Test.YtoeebipahifpcaaGreatKSumRJ
section
/- Merged out of: XDepth, XLawPaths. -/
section
/- Depths on both sides. (what the exact laws want besides) -/
namespace Go.Proofs.YtoeebipahifpcaaGreat
open Go.RowKit

end Go.Proofs.YtoeebipahifpcaaGreat
end
section
/- TreePaths on both sides, and its law. (what the exact laws want besides) -/
namespace Go.Proofs.YtoeebipahifpcaaGreat
open Go.RowKit

/-- No text to mark. -/
theorem markStringS_none (a : Option Addr) (cap m : Nat) (w : World) :
    Calls Tryz.prog 15 #[.slice a 0 cap, .int .i64 m] w (Ans (.int .i64 m) w) := by
  go_enter Tryz.func15, Tryz.ntmps15
  go_wp2_with fail
  go_rounds 1
  go_ret
  exact ⟨rfl, Below.refl _ _⟩

/-- The marks are laid, and nothing else that was there turns. -/
theorem mark_any (ps : List (List UInt8)) (a : Option Addr) (cap : Nat) (w0 w : World) (hn : ps.length ≤ 1000000)
    (h : ps = [] ∨ ∃ g cur, a = some ⟨g, 0, none⟩ ∧ w.heap[g]? = some (.cells cur 9 (0, 0)) ∧ ps.length ≤ cur.size ∧ w0.heap.size ≤ g) (hs : w0.heap.size ≤ w.heap.size) :
    Calls Tryz.prog 15 #[.slice a ps.length cap, .int .i64 1] w fun e w' => e = .returned (.int .i64 (1 + ps.length : Nat)) ∧ Below w0.heap.size w w' ∧ Lies w' a ((List.range ps.length).map fun j => mark (1 + j)) := by
  rcases h with rfl | ⟨g, cur, rfl, h1, h2, h3⟩
  · exact (markStringS_none a cap 1 w).mono fun e w' ⟨he, hb⟩ => ⟨he, hb.mono hs, Lies.nil _ _⟩
  · exact (markStringS_any ps.length g cap 1 cur w hn (by omega) (by omega) h1 h2).mono fun e w' ⟨he, hg, hl⟩ => ⟨he, ⟨hg.os, hg.tape, hg.output, hg.size, fun k hk => hg.block k (by omega) (by simp; omega)⟩, hl⟩

end Go.Proofs.YtoeebipahifpcaaGreat
end
end
section
/- The law of QuadTrees. -/
namespace Go.Proofs.YtoeebipahifpcaaGreat
open Go.RowKit

/-- A copy in new memory, its block known. -/
def CopyPost2 (ss : List ByteArray) (w : World) (e : Ending) (w' : World) : Prop :=
  Below w.heap.size w w' ∧ ∃ g, e = .returned (.slice (some ⟨g, 0, none⟩) ss.length ss.length) ∧ w.heap.size ≤ g ∧ (∃ cur : Array Value, w'.heap[g]? = some (.cells cur 9 (0, 0)) ∧ ss.length ≤ cur.size) ∧ Lies w' (some ⟨g, 0, none⟩) (txl ss)

set_option maxRecDepth 100000 in
set_option maxHeartbeats 1000000 in
theorem toStringT_any (ss : List ByteArray) (a : Option Addr) (cap : Nat) (w : World) (hn : ss.length ≤ 1048576) (hl : LiesO w a ss) :
    Calls Tryz.prog 10 #[.slice a ss.length cap] w (CopyPost2 ss w) := by
  obtain ⟨i0, hi0, hz, hzs, hzb⟩ := info_parts info9
  have HL := Lib.hid hl
  obtain ⟨nn, hnn⟩ : ∃ nn, nn = ss.length := ⟨_, rfl⟩
  rw [← hnn]
  have HNN := Lib.hid hnn
  rw [← hnn] at hn
  clear hl hnn
  go_enter Tryz.func10, Tryz.ntmps10
  go_wp2_with (at_make; refine wpList_make_full _ rfl _ _ 22 rfl w.heap.size 9 i0 (.string ⟨#[]⟩) 1 Tryz.underlying22 hi0 hz hzs .i64 .i64 _ _ nn rfl rfl rfl rfl ?c1 ?c2 (Nat.le_refl _) ?_)
  case c1 => rw [hzb]; omega
  case c2 => unfold maxLen; omega
  intro w1 hown hg
  have hcur : ∃ cur : Array Value, w1.heap[w.heap.size]? = some (.cells cur 9 (0, 0)) ∧ cur.size = nn := by
    rcases hown.2 with ⟨e, _⟩ | ⟨G, cap', cur, e, _, hG, hnc, hcm, hcs, htake⟩
    · simp at e
    · simp only [Value.slice.injEq, Option.some.injEq, Addr.mk.injEq] at e
      obtain ⟨⟨rfl, _⟩, _, rfl⟩ := e
      exact ⟨cur, hG, by omega⟩
  have hB1 : Below w.heap.size w w1 := (Below.refl _ _).grown hg (by omega) (fun k e => by cases e)
  have HC := Lib.hid hcur
  have HB1 := Lib.hid hB1
  clear hcur hown hg hB1
  go_wp2_with fail
  go_loopw [4] (fun iv wr => ∃ (k : Nat) (cr : Array Value), k ≤ nn ∧ iv = .int .i64 k ∧ wr.heap[w.heap.size]? = some (.cells cr 9 (0, 0)) ∧ cr.size = nn ∧ (∀ j (h : j < ss.length), j < k → cr[j]? = some (.string ss[j])) ∧ Below w.heap.size w wr) (fun iv _ => nn - (intOf iv).toNat)
  case atStart =>
    obtain ⟨cur, h1, h2⟩ := HC.out
    exact ⟨0, cur, Nat.zero_le _, rfl, h1, h2, fun j _ h => by omega, HB1.out⟩
  case round =>
    obtain ⟨k, cr, hk, rfl, hc, hcs, hj, hB⟩ := hrel
    have HJ := Lib.hid hj
    have HCR := Lib.hid hc
    have HCS := Lib.hid hcs
    clear hj
    by_cases hlt : k < nn
    · have hlt' : k < ss.length := by rw [← HNN.out]; exact hlt
      obtain ⟨b, off, rfl, hcc⟩ := (HL.out.below hB) k hlt'
      have hck : wr.cell? ⟨w.heap.size, k, none⟩ = some (cr[k]'(by rw [HCS.out]; exact hlt)) := by rw [Lib.cell_of_heap hc]; simp
      have hff : wr.frozen? ⟨w.heap.size, k, none⟩ = false := Lib.frozen_of_heap hc k
      have H3 := Lib.hid (heap_setCell_same (k := k) hc (.string ss[k]))
      have H4 := Lib.hid (hB.setCell (p := ⟨w.heap.size, k, none⟩) (by simp) (.string ss[k]))
      clear hc hcs
      go_wp2_with fail
      go_roundw
      case rel => exact ⟨k + 1, _, by omega, by go_num, H3.out, by rw [Array.size_setIfInBounds]; exact HCS.out, fun j h hjk => by
          by_cases e : j = k
          · subst e
            rw [Array.getElem?_setIfInBounds, if_pos rfl, if_pos (by rw [HCS.out]; omega)]
          · rw [Array.getElem?_setIfInBounds, if_neg (by omega)]
            exact HJ.out j h (by omega), H4.out⟩
      case measure => simp [intOf]; omega
    · have hkk : k = nn := by omega
      clear hc hcs
      go_wp2_with fail
      go_ret
      refine ⟨hB, w.heap.size, by rw [HNN.out]; rfl, Nat.le_refl _, ⟨cr, HCR.out, by rw [HCS.out, HNN.out]; exact Nat.le_refl _⟩, fun j hj => ⟨_, rfl, ?_⟩⟩
      have hj' := hj
      rw [txl_length] at hj'
      rw [Lib.cell_of_heap HCR.out, HJ.out j hj' (by have := HNN.out; omega), txl_get hj]

set_option maxRecDepth 100000 in
set_option maxHeartbeats 1000000 in
theorem markStringT_any (n : Nat) (g cap m : Nat) (cur : Array Value) (w : World) (hn : n ≤ 1048576) (hm : 0 < m) (hm2 : m ≤ 1000000) (hcur : w.heap[g]? = some (.cells cur 9 (0, 0))) (hcs : n ≤ cur.size) :
    Calls Tryz.prog 15 #[.slice (some ⟨g, 0, none⟩) n cap, .int .i64 m] w fun e w' => e = .returned (.int .i64 (m + n : Nat)) ∧ w.grownBy w' (some g) ∧ Lies w' (some ⟨g, 0, none⟩) ((List.range n).map fun j => mark (m + j)) := by
  have HC := Lib.hid hcur
  clear hcur
  go_enter Tryz.func15, Tryz.ntmps15
  go_wp2_with fail
  go_loopw [1, 5] (fun mv i wr => ∃ (k : Nat) (cr : Array Value), k ≤ n ∧ i = .int .i64 k ∧ mv = .int .i64 (m + k : Nat) ∧ wr.heap[g]? = some (.cells cr 9 (0, 0)) ∧ n ≤ cr.size ∧ (∀ j, j < k → cr[j]? = some (.string ⟨(mark (m + j)).toArray⟩)) ∧ w.grownBy wr (some g)) (fun _ i _ => n - (intOf i).toNat)
  case atStart => exact ⟨0, cur, Nat.zero_le _, rfl, by simp, HC.out, hcs, fun j h => by omega, grownBy_refl _ _⟩
  case round =>
    obtain ⟨k, cr, hk, rfl, rfl, hc, hcs2, hj, hg⟩ := hrel
    have H1 := Lib.hid hc
    have H2 := Lib.hid hj
    have hgl := (Array.getElem?_eq_some_iff.1 hc).1
    clear hc hj
    by_cases hlt : k < n
    · have HM := Lib.hid (markText_any (m + k) wr (by omega) (by omega))
      go_wp2_with fail
      refine HM.out.mono ?_
      rintro e w1 ⟨rfl, hb1⟩
      have hc1 : w1.heap[g]? = some (.cells cr 9 (0, 0)) := (hb1.block g hgl).trans H1.out
      have hcc : w1.cell? ⟨g, k, none⟩ = some (cr[k]'(by omega)) := by rw [Lib.cell_of_heap hc1]; simp
      have hff : w1.frozen? ⟨g, k, none⟩ = false := Lib.frozen_of_heap hc1 k
      have H3 := Lib.hid (heap_setCell_same (k := k) hc1 (.string ⟨(mark (m + k)).toArray⟩))
      have H4 := Lib.hid (grownBy_setCell (k := k) (grownBy_below hg hb1) (.string ⟨(mark (m + k)).toArray⟩))
      clear hc1
      go_wp2_with fail
      refine ⟨⟨k + 1, _, by omega, by go_num, by go_num, H3.out, by simpa using hcs2, ?_, H4.out⟩, by simp [intOf]; omega⟩
      intro j hjk
      by_cases hjk2 : j = k
      · subst hjk2
        rw [Array.getElem?_setIfInBounds, if_pos rfl, if_pos (by omega)]
      · rw [Array.getElem?_setIfInBounds, if_neg (by omega)]
        exact H2.out j (by omega)
    · obtain rfl : k = n := by omega
      go_wp2_with fail
      go_ret
      refine ⟨rfl, hg, fun j hj => ⟨g, rfl, ?_⟩⟩
      simp at hj
      rw [Lib.cell_of_heap H1.out, H2.out j hj]
      simp

theorem quadTx_len (ss : List ByteArray) : (quadTx ss).length ≤ 18 := by
  unfold quadTx
  cases h : quadsOf ss with
  | none => simp
  | some ts => simpa using (quadsOf_ok h).1

end Go.Proofs.YtoeebipahifpcaaGreat
end
section
/- The law of QuadPair. -/
namespace Go.Proofs.YtoeebipahifpcaaGreat
open Go.RowKit

set_option maxRecDepth 100000 in
set_option maxHeartbeats 1000000 in
theorem szStringS_le (ss : List ByteArray) (a : Option Addr) (cap : Nat) (w : World) (hn : ss.length ≤ 9223372036854775807) (hz : ∀ s ∈ ss, s.size ≤ 9223372036854775807) (hl : LiesO w a ss) :
    Calls Tryz.prog 7 #[.slice a ss.length cap, .int .i64 1048576] w (fun e w' => Below w.heap.size w w' ∧ ∃ v : Int, e = .returned (.int .i64 v) ∧ (v < 0 ∨ (0 ≤ v ∧ v ≤ 1048576 ∧ ss.length ≤ 1048576 ∧ ∀ j (h : j < ss.length), (ss[j]).size ≤ 1048576))) := by
  have HL := Lib.hid hl
  have HZ := Lib.hid hz
  clear hl hz
  by_cases hlen : ss.length ≤ 1048576
  · go_enter Tryz.func7, Tryz.ntmps7
    go_wp2_with fail
    go_loopw [1, 5] (fun lv iv wr => ∃ (k : Nat) (l : Int), k ≤ ss.length ∧ iv = .int .i64 k ∧ lv = .int .i64 l ∧ 0 ≤ l ∧ l ≤ 1048576 ∧ (∀ j (h : j < ss.length), j < k → (ss[j]).size ≤ 1048576) ∧ Below w.heap.size w wr) (fun _ iv _ => ss.length - (intOf iv).toNat)
    case atStart => exact ⟨0, 1048576 - (ss.length : Int), Nat.zero_le _, rfl, by first | rfl | go_num, by omega, by omega, fun j _ h => by omega, Below.refl _ _⟩
    case round =>
      obtain ⟨k, l, hk, rfl, rfl, hl0, hl1, hj, hB⟩ := hrel
      have HJ := Lib.hid hj
      clear hj
      by_cases hlt : k < ss.length
      · obtain ⟨b, off, rfl, hc⟩ := (HL.out.below hB) k hlt
        have hsz : (ss[k]).size ≤ 9223372036854775807 := HZ.out _ (List.getElem_mem hlt)
        obtain ⟨sz, hsz'⟩ : ∃ sz, sz = (ss[k]).size := ⟨_, rfl⟩
        have HS := Lib.hid hsz'
        by_cases h0 : (sz : Int) ≤ l
        · have h0' : ((ss[k]).size : Int) ≤ l := by omega
          clear hsz'
          go_wp2_with fail
          go_roundw
          case rel => exact ⟨k + 1, l - ((ss[k]).size : Int), by omega, by go_num, by first | rfl | go_num, by omega, by omega, fun j h hjk => by
              by_cases e : j = k
              · subst e; omega
              · exact HJ.out j h (by omega), hB⟩
          case measure => simp [intOf]; omega
        · have h0' : l < ((ss[k]).size : Int) := by omega
          clear hsz'
          go_wp2_with fail
          go_ret
          exact ⟨hB, -1, rfl, .inl (by omega)⟩
      · have hkk : k = ss.length := by omega
        go_wp2_with fail
        go_ret
        exact ⟨hB, l, rfl, .inr ⟨hl0, hl1, hlen, fun j h => HJ.out j h (by omega)⟩⟩
  · go_enter Tryz.func7, Tryz.ntmps7
    go_wp2_with fail
    go_ret
    exact ⟨Below.refl _ _, -1, rfl, .inl (by omega)⟩

end Go.Proofs.YtoeebipahifpcaaGreat
end
