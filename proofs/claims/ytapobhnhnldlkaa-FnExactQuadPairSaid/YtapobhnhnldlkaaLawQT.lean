/- The law of QuadTrees. -/
import Derived.Test.YtapobhnhnldlkaaQuadI
import Derived.Test.YtapobhnhnldlkaaKLawPaths
namespace Go.Proofs.Ytapobhnhnldlkaa
open Go.RowKit

/-- A copy in new memory, its block known. -/
def CopyPost2 (ss : List ByteArray) (w : World) (e : Ending) (w' : World) : Prop :=
  Below w.heap.size w w' ∧ ∃ g, e = .returned (.slice (some ⟨g, 0, none⟩) ss.length ss.length) ∧ w.heap.size ≤ g ∧ (∃ cur : Array Value, w'.heap[g]? = some (.cells cur 9 (0, 0)) ∧ ss.length ≤ cur.size) ∧ Lies w' (some ⟨g, 0, none⟩) (txl ss)

set_option maxRecDepth 100000 in
set_option maxHeartbeats 1000000 in
theorem toStringT_any (ss : List ByteArray) (a : Option Addr) (cap : Nat) (w : World) (hn : ss.length ≤ 1048576) (hl : LiesO w a ss) :
    Calls Try.prog 7 #[.slice a ss.length cap] w (CopyPost2 ss w) := by
  obtain ⟨i0, hi0, hz, hzs, hzb⟩ := info_parts info9
  have HL := Lib.hid hl
  obtain ⟨nn, hnn⟩ : ∃ nn, nn = ss.length := ⟨_, rfl⟩
  rw [← hnn]
  have HNN := Lib.hid hnn
  rw [← hnn] at hn
  clear hl hnn
  go_enter Try.func7, Try.ntmps7
  go_wp2_with (at_make; refine wpList_make_full _ rfl _ _ 22 rfl w.heap.size 9 i0 (.string ⟨#[]⟩) 1 Try.underlying22 hi0 hz hzs .i64 .i64 _ _ nn rfl rfl rfl rfl ?c1 ?c2 (Nat.le_refl _) ?_)
  case c1 => rw [hzb]; omega
  case c2 => unfold maxLen; omega
  intro w1 hown hg
  have hcur : ∃ cur : Array Value, w1.heap[w.heap.size]? = some (.cells cur 9 (0, 0)) ∧ cur.size = nn := by
    rcases hown.2 with ⟨e, _⟩ | ⟨G, cap', cur, e, _, hG, hnc, hcm, hcs, htake⟩
    · simp at e
    · simp only [Value.slice.injEq, Option.some.injEq, Addr.mk.injEq] at e
      obtain ⟨⟨rfl, _⟩, _, rfl⟩ := e
      exact ⟨cur, hG, by omega⟩
  have hB1 : Below w.heap.size w w1 := (Below.refl _ _).grown hg (by omega) (fun k e => by cases e)
  have HC := Lib.hid hcur
  have HB1 := Lib.hid hB1
  clear hcur hown hg hB1
  go_wp2_with fail
  go_loopw [4] (fun iv wr => ∃ (k : Nat) (cr : Array Value), k ≤ nn ∧ iv = .int .i64 k ∧ wr.heap[w.heap.size]? = some (.cells cr 9 (0, 0)) ∧ cr.size = nn ∧ (∀ j (h : j < ss.length), j < k → cr[j]? = some (.string ss[j])) ∧ Below w.heap.size w wr) (fun iv _ => nn - (intOf iv).toNat)
  case atStart =>
    obtain ⟨cur, h1, h2⟩ := HC.out
    exact ⟨0, cur, Nat.zero_le _, rfl, h1, h2, fun j _ h => by omega, HB1.out⟩
  case round =>
    obtain ⟨k, cr, hk, rfl, hc, hcs, hj, hB⟩ := hrel
    have HJ := Lib.hid hj
    have HCR := Lib.hid hc
    have HCS := Lib.hid hcs
    clear hj
    by_cases hlt : k < nn
    · have hlt' : k < ss.length := by rw [← HNN.out]; exact hlt
      obtain ⟨b, off, rfl, hcc⟩ := (HL.out.below hB) k hlt'
      have hck : wr.cell? ⟨w.heap.size, k, none⟩ = some (cr[k]'(by rw [HCS.out]; exact hlt)) := by rw [Lib.cell_of_heap hc]; simp
      have hff : wr.frozen? ⟨w.heap.size, k, none⟩ = false := Lib.frozen_of_heap hc k
      have H3 := Lib.hid (heap_setCell_same (k := k) hc (.string ss[k]))
      have H4 := Lib.hid (hB.setCell (p := ⟨w.heap.size, k, none⟩) (by simp) (.string ss[k]))
      clear hc hcs
      go_wp2_with fail
      go_roundw
      case rel => exact ⟨k + 1, _, by omega, by go_num, H3.out, by rw [Array.size_setIfInBounds]; exact HCS.out, fun j h hjk => by
          by_cases e : j = k
          · subst e
            rw [Array.getElem?_setIfInBounds, if_pos rfl, if_pos (by rw [HCS.out]; omega)]
          · rw [Array.getElem?_setIfInBounds, if_neg (by omega)]
            exact HJ.out j h (by omega), H4.out⟩
      case measure => simp [intOf]; omega
    · have hkk : k = nn := by omega
      clear hc hcs
      go_wp2_with fail
      go_ret
      refine ⟨hB, w.heap.size, by rw [HNN.out]; rfl, Nat.le_refl _, ⟨cr, HCR.out, by rw [HCS.out, HNN.out]; exact Nat.le_refl _⟩, fun j hj => ⟨_, rfl, ?_⟩⟩
      have hj' := hj
      rw [txl_length] at hj'
      rw [Lib.cell_of_heap HCR.out, HJ.out j hj' (by have := HNN.out; omega), txl_get hj]

theorem quadTx_len (ss : List ByteArray) : (quadTx ss).length ≤ 18 := by
  unfold quadTx
  cases h : quadsOf ss with
  | none => simp
  | some ts => simpa using (quadsOf_ok h).1

end Go.Proofs.Ytapobhnhnldlkaa
