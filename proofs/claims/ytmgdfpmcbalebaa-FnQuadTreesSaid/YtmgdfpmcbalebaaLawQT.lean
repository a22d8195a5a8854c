/- The law of QuadTrees. -/
import Derived.Test.YtmgdfpmcbalebaaQuadI
import Derived.Test.YtmgdfpmcbalebaaKLawPaths
namespace Go.Proofs.Ytmgdfpmcbalebaa
open Go.RowKit

set_option maxRecDepth 100000 in
set_option maxHeartbeats 1000000 in
theorem iQuadTrees_any (ss : List ByteArray) (n : Nat) (hns : n = ss.length) (ga cap : Nat) (w : World) (hn : n ≤ 1048576) (hcap : n ≤ cap) (hz : ∀ j (h : j < ss.length), (ss[j]).size ≤ 1048576) (hl : TxG w ga ss) :
    Calls Try.prog 13 #[.slice (some ⟨ga, 0, none⟩) n cap] w (IList (quadTx ss) (quadsOf ss).isSome w) := by
  have HQ := Lib.hid (readQuadratics_any ss n hns ga cap w hn hcap hz hl)
  clear hns hz hl
  go_enter Try.func13, Try.ntmps13
  go_wp2_with fail
  refine HQ.out.mono ?_
  rintro e w1 ⟨hB1, ⟨hno, cs, rfl, hcs⟩ | ⟨ts, a1, c1, cs, hyes, rfl, hcs, hlies, hrow⟩⟩
  · have HNO := Lib.hid hno
    have HB1 := Lib.hid hB1
    have HCS := Lib.hid hcs
    have hc0 := cellAt (heap_alloc_new w1 (.cells cs 69 (0, 0))) hcs.2.1
    have hcs0 := hcs.2.1
    clear hno hB1 hcs
    go_wp2_with (refine wpList_store_row rfl 69 (.tmp 4) (.tmp 9) rfl w1.heap.size cs rfl rfl 69 _ (heap_alloc_new _ _) (by rw [HCS.out.1]; exact infoQ) (by rw [HCS.out.1]; rfl) (HCS.out.one rfl) ?_; rw [World.setRow_alloc_new])
    go_ret2
    refine ⟨HB1.out.alloc HB1.out.size _, none, 0, by rw [quadTx, HNO.out]; rfl, by rw [quadTx, HNO.out]; exact Lies.nil _ _, .inl (by rw [quadTx, HNO.out]; rfl)⟩
  · have HY := Lib.hid hyes
    have HB1 := Lib.hid hB1
    have HCS := Lib.hid hcs
    have HLI := Lib.hid hlies
    have HRW := Lib.hid hrow
    obtain ⟨L, hL⟩ : ∃ L, L = ts.length := ⟨_, rfl⟩
    rw [← hL] at hcs
    have hc0 := cellAt (heap_alloc_new w1 (.cells cs 69 (0, 0))) hcs.2.1
    have hcs0 := hcs.2.1
    have HLL := Lib.hid hL
    have hlt0 : 0 < cs.size := by rw [HCS.out.1]; omega
    clear hyes hB1 hcs hlies hrow hL
    go_wp2_with (refine wpList_store_row rfl 69 (.tmp 4) (.tmp 9) rfl w1.heap.size cs rfl rfl 69 _ (heap_alloc_new _ _) (by rw [HCS.out.1]; exact infoQ) (by rw [HCS.out.1]; rfl) (HCS.out.one rfl) ?_; rw [World.setRow_alloc_new])
    go_ret2
    have e : quadTx ss = ts.map T.text := by rw [quadTx, HY.out]; rfl
    refine ⟨HB1.out.alloc HB1.out.size _, a1, c1, by rw [e, List.length_map, HY.out, ← HLL.out]; rfl, by rw [e]; exact HLI.out.below ((Below.refl _ _).alloc (Nat.le_refl _) _), ?_⟩
    rw [e]
    rcases HRW.out with h | ⟨g, cur, h1, h2, h3, h4⟩
    · exact .inl (by rw [h]; rfl)
    · exact .inr ⟨g, cur, h1, by rw [Below.heap_alloc _ _ _ (Array.getElem?_eq_some_iff.1 h2).1]; exact h2, by rw [List.length_map]; exact h3, h4⟩

/-- A copy in new memory, its block known. -/
def CopyPost2 (ss : List ByteArray) (w : World) (e : Ending) (w' : World) : Prop :=
  Below w.heap.size w w' ∧ ∃ g, e = .returned (.slice (some ⟨g, 0, none⟩) ss.length ss.length) ∧ w.heap.size ≤ g ∧ (∃ cur : Array Value, w'.heap[g]? = some (.cells cur 9 (0, 0)) ∧ ss.length ≤ cur.size) ∧ Lies w' (some ⟨g, 0, none⟩) (txl ss)

set_option maxRecDepth 100000 in
set_option maxHeartbeats 1000000 in
theorem toStringT_any (ss : List ByteArray) (a : Option Addr) (cap : Nat) (w : World) (hn : ss.length ≤ 1048576) (hl : LiesO w a ss) :
    Calls Try.prog 12 #[.slice a ss.length cap] w (CopyPost2 ss w) := by
  obtain ⟨i0, hi0, hz, hzs, hzb⟩ := info_parts info9
  have HL := Lib.hid hl
  obtain ⟨nn, hnn⟩ : ∃ nn, nn = ss.length := ⟨_, rfl⟩
  rw [← hnn]
  have HNN := Lib.hid hnn
  rw [← hnn] at hn
  clear hl hnn
  go_enter Try.func12, Try.ntmps12
  go_wp2_with (at_make; refine wpList_make_full _ rfl _ _ 22 rfl w.heap.size 9 i0 (.string ⟨#[]⟩) 1 Try.underlying22 hi0 hz hzs .i64 .i64 _ _ nn rfl rfl rfl rfl ?c1 ?c2 (Nat.le_refl _) ?_)
  case c1 => rw [hzb]; omega
  case c2 => unfold maxLen; omega
  intro w1 hown hg
  have hcur : ∃ cur : Array Value, w1.heap[w.heap.size]? = some (.cells cur 9 (0, 0)) ∧ cur.size = nn := by
    rcases hown.2 with ⟨e, _⟩ | ⟨G, cap', cur, e, _, hG, hnc, hcm, hcs, htake⟩
    · simp at e
    · simp only [Value.slice.injEq, Option.some.injEq, Addr.mk.injEq] at e
      obtain ⟨⟨rfl, _⟩, _, rfl⟩ := e
      exact ⟨cur, hG, by omega⟩
  have hB1 : Below w.heap.size w w1 := (Below.refl _ _).grown hg (by omega) (fun k e => by cases e)
  have HC := Lib.hid hcur
  have HB1 := Lib.hid hB1
  clear hcur hown hg hB1
  go_wp2_with fail
  go_loopw [4] (fun iv wr => ∃ (k : Nat) (cr : Array Value), k ≤ nn ∧ iv = .int .i64 k ∧ wr.heap[w.heap.size]? = some (.cells cr 9 (0, 0)) ∧ cr.size = nn ∧ (∀ j (h : j < ss.length), j < k → cr[j]? = some (.string ss[j])) ∧ Below w.heap.size w wr) (fun iv _ => nn - (intOf iv).toNat)
  case atStart =>
    obtain ⟨cur, h1, h2⟩ := HC.out
    exact ⟨0, cur, Nat.zero_le _, rfl, h1, h2, fun j _ h => by omega, HB1.out⟩
  case round =>
    obtain ⟨k, cr, hk, rfl, hc, hcs, hj, hB⟩ := hrel
    have HJ := Lib.hid hj
    have HCR := Lib.hid hc
    have HCS := Lib.hid hcs
    clear hj
    by_cases hlt : k < nn
    · have hlt' : k < ss.length := by rw [← HNN.out]; exact hlt
      obtain ⟨b, off, rfl, hcc⟩ := (HL.out.below hB) k hlt'
      have hck : wr.cell? ⟨w.heap.size, k, none⟩ = some (cr[k]'(by rw [HCS.out]; exact hlt)) := by rw [Lib.cell_of_heap hc]; simp
      have hff : wr.frozen? ⟨w.heap.size, k, none⟩ = false := Lib.frozen_of_heap hc k
      have H3 := Lib.hid (heap_setCell_same (k := k) hc (.string ss[k]))
      have H4 := Lib.hid (hB.setCell (p := ⟨w.heap.size, k, none⟩) (by simp) (.string ss[k]))
      clear hc hcs
      go_wp2_with fail
      go_roundw
      case rel => exact ⟨k + 1, _, by omega, by go_num, H3.out, by rw [Array.size_setIfInBounds]; exact HCS.out, fun j h hjk => by
          by_cases e : j = k
          · subst e
            rw [Array.getElem?_setIfInBounds, if_pos rfl, if_pos (by rw [HCS.out]; omega)]
          · rw [Array.getElem?_setIfInBounds, if_neg (by omega)]
            exact HJ.out j h (by omega), H4.out⟩
      case measure => simp [intOf]; omega
    · have hkk : k = nn := by omega
      clear hc hcs
      go_wp2_with fail
      go_ret
      refine ⟨hB, w.heap.size, by rw [HNN.out]; rfl, Nat.le_refl _, ⟨cr, HCR.out, by rw [HCS.out, HNN.out]; exact Nat.le_refl _⟩, fun j hj => ⟨_, rfl, ?_⟩⟩
      have hj' := hj
      rw [txl_length] at hj'
      rw [Lib.cell_of_heap HCR.out, HJ.out j hj' (by have := HNN.out; omega), txl_get hj]

set_option maxRecDepth 100000 in
set_option maxHeartbeats 1000000 in
theorem markStringT_any (n : Nat) (g cap m : Nat) (cur : Array Value) (w : World) (hn : n ≤ 1048576) (hm : 0 < m) (hm2 : m ≤ 1000000) (hcur : w.heap[g]? = some (.cells cur 9 (0, 0))) (hcs : n ≤ cur.size) :
    Calls Try.prog 15 #[.slice (some ⟨g, 0, none⟩) n cap, .int .i64 m] w fun e w' => e = .returned (.int .i64 (m + n : Nat)) ∧ w.grownBy w' (some g) ∧ Lies w' (some ⟨g, 0, none⟩) ((List.range n).map fun j => mark (m + j)) := by
  have HC := Lib.hid hcur
  clear hcur
  go_enter Try.func15, Try.ntmps15
  go_wp2_with fail
  go_loopw [1, 5] (fun mv i wr => ∃ (k : Nat) (cr : Array Value), k ≤ n ∧ i = .int .i64 k ∧ mv = .int .i64 (m + k : Nat) ∧ wr.heap[g]? = some (.cells cr 9 (0, 0)) ∧ n ≤ cr.size ∧ (∀ j, j < k → cr[j]? = some (.string ⟨(mark (m + j)).toArray⟩)) ∧ w.grownBy wr (some g)) (fun _ i _ => n - (intOf i).toNat)
  case atStart => exact ⟨0, cur, Nat.zero_le _, rfl, by simp, HC.out, hcs, fun j h => by omega, grownBy_refl _ _⟩
  case round =>
    obtain ⟨k, cr, hk, rfl, rfl, hc, hcs2, hj, hg⟩ := hrel
    have H1 := Lib.hid hc
    have H2 := Lib.hid hj
    have hgl := (Array.getElem?_eq_some_iff.1 hc).1
    clear hc hj
    by_cases hlt : k < n
    · have HM := Lib.hid (markText_any (m + k) wr (by omega) (by omega))
      go_wp2_with fail
      refine HM.out.mono ?_
      rintro e w1 ⟨rfl, hb1⟩
      have hc1 : w1.heap[g]? = some (.cells cr 9 (0, 0)) := (hb1.block g hgl).trans H1.out
      have hcc : w1.cell? ⟨g, k, none⟩ = some (cr[k]'(by omega)) := by rw [Lib.cell_of_heap hc1]; simp
      have hff : w1.frozen? ⟨g, k, none⟩ = false := Lib.frozen_of_heap hc1 k
      have H3 := Lib.hid (heap_setCell_same (k := k) hc1 (.string ⟨(mark (m + k)).toArray⟩))
      have H4 := Lib.hid (grownBy_setCell (k := k) (grownBy_below hg hb1) (.string ⟨(mark (m + k)).toArray⟩))
      clear hc1
      go_wp2_with fail
      refine ⟨⟨k + 1, _, by omega, by go_num, by go_num, H3.out, by simpa using hcs2, ?_, H4.out⟩, by simp [intOf]; omega⟩
      intro j hjk
      by_cases hjk2 : j = k
      · subst hjk2
        rw [Array.getElem?_setIfInBounds, if_pos rfl, if_pos (by omega)]
      · rw [Array.getElem?_setIfInBounds, if_neg (by omega)]
        exact H2.out j (by omega)
    · obtain rfl : k = n := by omega
      go_wp2_with fail
      go_ret
      refine ⟨rfl, hg, fun j hj => ⟨g, rfl, ?_⟩⟩
      simp at hj
      rw [Lib.cell_of_heap H1.out, H2.out j hj]
      simp

theorem quadTx_len (ss : List ByteArray) : (quadTx ss).length ≤ 18 := by
  unfold quadTx
  cases h : quadsOf ss with
  | none => simp
  | some ts => simpa using (quadsOf_ok h).1

set_option maxRecDepth 100000 in
set_option maxHeartbeats 1000000 in
theorem lawQuadTrees_any (ss : List ByteArray) (a : Option Addr) (cap : Nat) (w : World) (hl : LiesO w a ss) (hz : ∀ x ∈ ss, x.size ≤ 9223372036854775807) (hn : ss.length ≤ 9223372036854775807) :
    Calls Try.prog 3 #[.slice a ss.length cap] w (Ans (.bool true) w) := by
  have HL := Lib.hid hl
  have HS0 := Lib.hid (szStringS_any ss a cap w hn hz hl)
  clear hl hz
  go_enter Try.func3, Try.ntmps3
  go_wp2_with fail
  refine HS0.out.mono ?_
  rintro e w1 ⟨hB1, v, rfl, hv | ⟨hv, hn2, hz2⟩⟩
  · go_wp2_with fail
    go_ret
    exact ⟨rfl, hB1⟩
  · have HB1 := Lib.hid hB1
    have HZ2 := Lib.hid hz2
    obtain ⟨n, hnn⟩ : ∃ n, n = ss.length := ⟨_, rfl⟩
    have HNN := Lib.hid hnn
    have hpl : (txl ss).length = n := by rw [txl_length, hnn]
    have HPL := Lib.hid hpl
    have hps18 := quadTx_len ss
    obtain ⟨ps, hps⟩ : ∃ ps, quadTx ss = ps := ⟨_, rfl⟩
    obtain ⟨b, hb⟩ : ∃ b, (quadsOf ss).isSome = b := ⟨_, rfl⟩
    have HS : Hid (∀ (g : Nat) (w : World), Lies w (some ⟨g, 0, none⟩) (txl ss) → Calls Try.prog 11 #[.slice (some ⟨g, 0, none⟩) n n] w (SList2 ps b w)) := Lib.hid (fun g w hh => by
      have := sQuadTrees_any ss n hnn g n w (by omega) HZ2.out (TxG.of_lies hh)
      rw [hps, hb] at this
      exact this)
    have HI : Hid (∀ (g : Nat) (w : World), Lies w (some ⟨g, 0, none⟩) (txl ss) → Calls Try.prog 13 #[.slice (some ⟨g, 0, none⟩) n n] w (IList ps b w)) := Lib.hid (fun g w hh => by
      have := iQuadTrees_any ss n hnn g n w (by omega) (Nat.le_refl _) HZ2.out (TxG.of_lies hh)
      rw [hps, hb] at this
      exact this)
    have HT : Hid (∀ w, LiesO w a ss → Calls Try.prog 12 #[.slice a n cap] w (fun e w' => Below w.heap.size w w' ∧ ∃ g, e = .returned (.slice (some ⟨g, 0, none⟩) n n) ∧ w.heap.size ≤ g ∧ (∃ cur : Array Value, w'.heap[g]? = some (.cells cur 9 (0, 0)) ∧ n ≤ cur.size) ∧ Lies w' (some ⟨g, 0, none⟩) (txl ss))) := Lib.hid (fun w hh => by
      have := toStringT_any ss a cap w hn2 hh
      rw [← HNN.out] at this
      exact this.mono (fun e w' h => by
        obtain ⟨h1, g, h2, h3, h4, h5⟩ := h
        exact ⟨h1, g, by rw [h2, HNN.out], h3, by rw [HNN.out]; exact h4, h5⟩))
    have HE : Hid (∀ (g g' : Nat) (w : World), Lies w (some ⟨g, 0, none⟩) (txl ss) → Lies w (some ⟨g', 0, none⟩) (txl ss) → Calls Try.prog 14 #[.slice (some ⟨g, 0, none⟩) n n, .slice (some ⟨g', 0, none⟩) n n] w (Ans (.bool true) w)) := Lib.hid (fun g g' w h1 h2 => by
      have := eqStringS_any (txl ss) (some ⟨g, 0, none⟩) (some ⟨g', 0, none⟩) n n w (by rw [HPL.out]; omega) h1 h2
      rw [HPL.out] at this
      exact this)
    rw [hps] at hps18
    rw [← hnn]
    have hn3 : n ≤ 1048576 := by omega
    have hne1 : ((1 + ps.length : Nat) : Int) = 1 + (ps.length : Int) := by omega
    have hne2 : ((1 + n : Nat) : Int) = 1 + (n : Int) := by omega
    clear hB1 hz2 hnn hpl hn hn2 hps hb
    cases b
    all_goals
      go_wp2_with fail
      refine (HT.out w1 (HL.out.below HB1.out)).mono ?_
      rintro e w2 ⟨hB2, g, rfl, hg, _, hl2⟩
      have HB2 := Lib.hid (below_step HB1.out hB2)
      have HL2 := Lib.hid hl2
      clear hB2 hl2
      go_wp2_with fail
      refine (HS.out g w2 HL2.out).mono ?_
      rintro e w3 ⟨hB3, a1, c1, rfl, hl3⟩
      have HB3 := Lib.hid (below_step HB2.out hB3)
      have L1 := Lib.hid hl3
      clear hB3 hl3
      go_wp2_with fail
      refine (HT.out w3 (HL.out.below HB3.out)).mono ?_
      rintro e w4 ⟨hB4, g2, rfl, hg2, hcur2, hl4⟩
      have HB4 := Lib.hid (below_step HB3.out hB4)
      have A3_4 := Lib.hid hB4
      have HL4 := Lib.hid hl4
      have HCU := Lib.hid hcur2
      clear hB4 hl4 hcur2
      go_wp2_with fail
      refine (HI.out g2 w4 HL4.out).mono ?_
      rintro e w5 ⟨hB5, a2, c2, rfl, hl5, hrow⟩
      have HB5 := Lib.hid (below_step HB4.out hB5)
      have A3_5 := Lib.hid (below_step A3_4.out hB5)
      have A4_5 := Lib.hid hB5
      have L2 := Lib.hid hl5
      have R2 := Lib.hid hrow
      clear hB5 hl5 hrow
      go_wp2_with fail
      refine (eqStringS_any ps a2 a1 c2 c1 w5 (by omega) L2.out (L1.out.below A3_5.out)).mono ?_
      rintro e w6 ⟨rfl, hB6⟩
      have HB6 := Lib.hid (below_step HB5.out hB6)
      have A3_6 := Lib.hid (below_step A3_5.out hB6)
      have A4_6 := Lib.hid (below_step A4_5.out hB6)
      have A5_6 := Lib.hid hB6
      clear hB6
      go_wp2_with fail
      refine (HT.out w6 (HL.out.below HB6.out)).mono ?_
      rintro e w7 ⟨hB7, g3, rfl, hg3, _, hl7⟩
      have HB7 := Lib.hid (below_step HB6.out hB7)
      have A3_7 := Lib.hid (below_step A3_6.out hB7)
      have A4_7 := Lib.hid (below_step A4_6.out hB7)
      have A5_7 := Lib.hid (below_step A5_6.out hB7)
      have HL7 := Lib.hid hl7
      clear hB7 hl7
      go_wp2_with fail
      refine (HE.out g2 g3 w7 (HL4.out.below A4_7.out) HL7.out).mono ?_
      rintro e w8 ⟨rfl, hB8⟩
      have HB8 := Lib.hid (below_step HB7.out hB8)
      have A3_8 := Lib.hid (below_step A3_7.out hB8)
      have A4_8 := Lib.hid (below_step A4_7.out hB8)
      have A5_8 := Lib.hid (below_step A5_7.out hB8)
      obtain ⟨cur, hcu1, hcu2⟩ := HCU.out
      have hg2l : g2 < w4.heap.size := (Array.getElem?_eq_some_iff.1 hcu1).1
      have HMK := Lib.hid (markStringT_any n g2 n 1 cur w8 hn3 (by omega) (by omega) ((A4_8.out.block g2 hg2l).trans hcu1) hcu2)
      have hz58 := A5_8.out.size
      have hz45 := A4_5.out.size
      have hz34 := A3_4.out.size
      have hz13 := HB3.out.size
      clear hB8 hcu1 hcu2
      go_wp2_with fail
      refine HMK.out.mono ?_
      rintro e w9 ⟨rfl, hgr, _⟩
      have hz89 := hgr.size
      -- the marks lie in the copy alone
      have HB9 : Hid (Below w.heap.size w w9) := Lib.hid (HB8.out.grown hgr HB8.out.size (fun q e => by simp only [Option.some.injEq] at e; omega))
      have A3_9 : Hid (Below w3.heap.size w3 w9) := Lib.hid (A3_8.out.grown hgr (by omega) (fun q e => by simp only [Option.some.injEq] at e; omega))
      have R5 : Hid (∀ bk, bk < w5.heap.size → w4.heap.size ≤ bk → w9.heap[bk]? = w5.heap[bk]?) := Lib.hid (fun bk h1 h2 => by
        rw [hgr.block bk (by omega) (fun e => by simp only [Option.some.injEq] at e; omega)]
        exact A5_8.out.block bk h1)
      have L2' : Hid (Lies w9 a2 ps) := Lib.hid (fun j hj => by
        rcases R2.out with h | ⟨gg, cc, h1, h2, h3, h4⟩
        · rw [h] at hj; simp at hj
        · obtain ⟨g', e, hc⟩ := L2.out j hj
          rw [h1] at e
          cases e
          refine ⟨gg, h1, ?_⟩
          rw [World.cell?_of_block (w := w5) (R5.out gg (Array.getElem?_eq_some_iff.1 h2).1 h4)]
          exact hc)
      have R2' : Hid (ps = [] ∨ ∃ gg cc, a2 = some ⟨gg, 0, none⟩ ∧ w9.heap[gg]? = some (.cells cc 9 (0, 0)) ∧ ps.length ≤ cc.size ∧ w4.heap.size ≤ gg) := Lib.hid (by
        rcases R2.out with h | ⟨gg, cc, h1, h2, h3, h4⟩
        · exact .inl h
        · exact .inr ⟨gg, cc, h1, (R5.out gg (Array.getElem?_eq_some_iff.1 h2).1 h4).trans h2, h3, h4⟩)
      clear hgr
      go_wp2_with fail
      refine (eqStringS_any ps a2 a1 c2 c1 w9 (by omega) L2'.out (L1.out.below A3_9.out)).mono ?_
      rintro e w10 ⟨rfl, hB10⟩
      have hz910 := hB10.size
      have HB10 := Lib.hid (below_step HB9.out hB10)
      have A3_10 := Lib.hid (below_step A3_9.out hB10)
      have R10 : Hid (ps = [] ∨ ∃ gg cc, a2 = some ⟨gg, 0, none⟩ ∧ w10.heap[gg]? = some (.cells cc 9 (0, 0)) ∧ ps.length ≤ cc.size ∧ w4.heap.size ≤ gg) := Lib.hid (by
        rcases R2'.out with h | ⟨gg, cc, h1, h2, h3, h4⟩
        · exact .inl h
        · exact .inr ⟨gg, cc, h1, (hB10.block gg (Array.getElem?_eq_some_iff.1 h2).1).trans h2, h3, h4⟩)
      clear hB10
      go_wp2_with fail
      refine (mark_any ps a2 c2 w4 w10 (by omega) R10.out (by omega)).mono ?_
      rintro e w11 ⟨rfl, hB11, hl11⟩
      have hz1011 := hB11.size
      have HB11 : Hid (Below w.heap.size w w11) := Lib.hid (HB10.out.trans (hB11.mono (by have := HB4.out.size; omega)))
      have A3_11 : Hid (Below w3.heap.size w3 w11) := Lib.hid (A3_10.out.trans (hB11.mono (by omega)))
      have L11 := Lib.hid hl11
      clear hB11 hl11
      go_wp2_with fail
      refine (heldStringS_any ps.length a2 c2 1 w11 (by omega) (by omega) (by omega) L11.out).mono ?_
      rintro e w12 ⟨rfl, hB12⟩
      have HB12 := Lib.hid (below_step HB11.out hB12)
      have A3_12 := Lib.hid (below_step A3_11.out hB12)
      have A11_12 := Lib.hid hB12
      clear hB12
      go_wp2_with fail
      refine (HT.out w12 (HL.out.below HB12.out)).mono ?_
      rintro e w13 ⟨hB13, g4, rfl, hg4, _, hl13⟩
      have HB13 := Lib.hid (below_step HB12.out hB13)
      have A3_13 := Lib.hid (below_step A3_12.out hB13)
      have A11_13 := Lib.hid (below_step A11_12.out hB13)
      have HL13 := Lib.hid hl13
      clear hB13 hl13
      go_wp2_with fail
      refine (HI.out g4 w13 HL13.out).mono ?_
      rintro e w14 ⟨hB14, a3, c3, rfl, hl14, _⟩
      have HB14 := Lib.hid (below_step HB13.out hB14)
      have A3_14 := Lib.hid (below_step A3_13.out hB14)
      have A11_14 := Lib.hid (below_step A11_13.out hB14)
      have L14 := Lib.hid hl14
      clear hB14 hl14
      go_wp2_with fail
      refine (eqStringS_any ps a3 a1 c3 c1 w14 (by omega) L14.out (L1.out.below A3_14.out)).mono ?_
      rintro e w15 ⟨rfl, hB15⟩
      have HB15 := Lib.hid (below_step HB14.out hB15)
      have A11_15 := Lib.hid (below_step A11_14.out hB15)
      clear hB15
      go_wp2_with fail
      refine (heldStringS_any ps.length a2 c2 1 w15 (by omega) (by omega) (by omega) (L11.out.below A11_15.out)).mono ?_
      rintro e w16 ⟨rfl, hB16⟩
      go_wp2_with fail
      go_ret
      exact ⟨rfl, below_step HB15.out hB16⟩
end Go.Proofs.Ytmgdfpmcbalebaa
