/- Merged out of: XKStrs, XKTerm. -/
import Derived.Test.YtoeebipahifpcaaGreatKPathsJ
import Derived.ProofKit
import Derived.Test.YtoeebipahifpcaaGreatKReadA
import Derived.Deep.QuietTactic
import Derived.BigQuiet
import Derived.Deep.SlicePairs
import Derived.OpenShut
section
/- Merged out of: XStrArgC, XStrs, XStrArg. -/
section
/- A list of texts that comes in: its size told, its copy made. -/
namespace Go.Proofs.YtoeebipahifpcaaGreat
open Go.RowKit

/-- A slice from outside reads as these texts. -/
def LiesO (w : World) (a : Option Addr) (ss : List ByteArray) : Prop := ∀ j (h : j < ss.length), ∃ b off, a = some ⟨b, off, none⟩ ∧ w.cell? ⟨b, off + j, none⟩ = some (.string ss[j])

theorem LiesO.below {w w' : World} {a : Option Addr} {ss : List ByteArray} (h : LiesO w a ss) (hb : Below w.heap.size w w') : LiesO w' a ss := fun j hj => by
  obtain ⟨b, off, e, hc⟩ := h j hj
  exact ⟨b, off, e, keep1 hb hc⟩

/-- The texts' bytes. -/
def txl (ss : List ByteArray) : List (List UInt8) := ss.map fun s => s.data.toList

theorem txl_length (ss : List ByteArray) : (txl ss).length = ss.length := by simp [txl]

theorem txl_get {ss : List ByteArray} {j : Nat} (h : j < (txl ss).length) : (⟨((txl ss)[j]).toArray⟩ : ByteArray) = ss[j]'(by rw [txl_length] at h; exact h) := by
  have e : (txl ss)[j] = (ss[j]'(by rw [txl_length] at h; exact h)).data.toList := by simp only [txl, List.getElem_map]
  rw [e]

theorem cellsStr : Tryz.prog.cellsOf 9 = 1 := by kernel_rfl

set_option maxRecDepth 100000 in
/-- A []string among the arguments. -/
theorem open_txts {H : Type} {enc : TypeId × Value → H} {W : World} {spare : Nat → Bool} {held : Bool} {v : Value} {d : DataW H} {p : List MemPlace} {b : Nat}
    (hv : Value.okWide Tryz.prog W .any b 22 v) (h : DataW.Trod enc Tryz.prog W 0 spare held 22 v d p) :
    ∃ (a : Option Addr) (cap : Nat) (ss : List ByteArray), v = .slice a ss.length cap ∧ LiesO W a ss ∧ (∀ s ∈ ss, s.size ≤ 9223372036854775807) ∧ ss.length ≤ 9223372036854775807 := by
  obtain ⟨a0, len, cap, rfl⟩ := Go.WideShapes.okWide_slice Tryz.underlying22 hv
  obtain ⟨fuel, hf⟩ := h
  rcases Go.ChangeShapes.open_strings Tryz.underlying22 Tryz.underlying9 cellsStr hf with ⟨hcs, hx⟩ | ⟨a, len', cap', ss, hcs, _, hl, hm, hz, hx, hcell, hws⟩
  · simp [Value.cells] at hcs
    obtain ⟨rfl, rfl, rfl⟩ := hcs
    exact ⟨none, 0, [], rfl, fun j h => by simp at h, fun s h => by simp at h, by simp⟩
  · simp [Value.cells] at hcs
    obtain ⟨rfl, rfl, rfl⟩ := hcs
    have hle : len ≤ ss.length := by rw [hz]; split <;> omega
    simp only [maxLen, show (2 ^ 63 - 1 : Nat) = 9223372036854775807 from rfl] at hm hws
    refine ⟨some a, cap, ss.take len, by rw [List.length_take, Nat.min_eq_left hle], ?_, fun s hs => hws s (List.mem_of_mem_take hs), by rw [List.length_take]; omega⟩
    intro j hj
    rw [List.length_take] at hj
    have hc := hcell j (by omega)
    obtain ⟨b, off, spot⟩ := a
    have hspot : spot = none := by simpa [Addr.add] using World.cell?_spot (hcell 0 (by omega))
    subst hspot
    refine ⟨b, off, rfl, ?_⟩
    have e : (⟨b, off, none⟩ : Addr).add j = ⟨b, off + j, none⟩ := by unfold Addr.add; split <;> simp_all
    rw [e] at hc
    rw [hc, List.getElem_take]
    congr 2
    rw [List.getD_eq_getElem?_getD, List.getElem?_eq_getElem (by omega)]
    rfl

/-- How much is left: below 0, or all lengths are small. -/
def SzPost (ss : List ByteArray) (w : World) (e : Ending) (w' : World) : Prop :=
  Below w.heap.size w w' ∧ ∃ v : Int, e = .returned (.int .i64 v) ∧ (v < 0 ∨ (0 ≤ v ∧ ss.length ≤ 1048576 ∧ ∀ j (h : j < ss.length), (ss[j]).size ≤ 1048576))

/-- A copy in new memory. -/
def CopyPost (ss : List ByteArray) (w : World) (e : Ending) (w' : World) : Prop :=
  Below w.heap.size w w' ∧ ∃ g, e = .returned (.slice (some ⟨g, 0, none⟩) ss.length ss.length) ∧ w.heap.size ≤ g ∧ Lies w' (some ⟨g, 0, none⟩) (txl ss)

end Go.Proofs.YtoeebipahifpcaaGreat
end
section
/- The laws' own helpers on lists of texts: equal, marked, held. (what the exact laws want besides) -/
namespace Go.Proofs.YtoeebipahifpcaaGreat
open Go.RowKit

set_option maxRecDepth 100000 in
set_option maxHeartbeats 1000000 in
theorem markText_any (k : Nat) (w : World) (hk : 0 < k) (hk2 : k ≤ 100000000) :
    Calls Tryz.prog 32 #[.int .i64 k] w (Ans (.string ⟨(mark k).toArray⟩) w) := by
  go_enter Tryz.func32, Tryz.ntmps32
  go_wp2_with fail
  go_loopw [0, 3] (fun kv ov wr => ∃ (j f : Nat) (out : List UInt8), kv = .int .i64 j ∧ ov = .string ⟨out.toArray⟩ ∧ digits 20 k = digits f j ++ out ∧ j ≤ 100000000 ∧ out.length + f ≤ 20 ∧ j < 10 ^ f ∧ Below w.heap.size w wr) (fun kv _ _ => (intOf kv).toNat)
  case atStart => exact ⟨k, 20, [], rfl, rfl, by simp, hk2, by simp, by omega, Below.refl _ _⟩
  case round =>
    obtain ⟨j, f, out, rfl, rfl, hd, hj, hf, hp, hB⟩ := hrel
    have HD := Lib.hid hd
    have HP := Lib.hid hp
    have hol : (⟨out.toArray⟩ : ByteArray).size = out.length := by simp [ByteArray.size]
    have hol2 : out.length ≤ 20 := by omega
    clear hd hp
    by_cases h0 : 0 < j
    · have hcv := digit_conv j wr
      go_wp2_with fail
      exact ⟨⟨j / 10, f - 1, dg j :: out, by first | rfl | go_num, by
          rw [show dg j :: out = [dg j] ++ out from rfl, ← bytes_append], by
          obtain ⟨f', rfl⟩ : ∃ f', f = f' + 1 := ⟨f - 1, by have := HP.out; rcases f with _ | f; (simp at this; omega); omega⟩
          rw [HD.out, digits, if_neg (by omega)]; simp, by omega, by simp; have := HP.out; rcases f with _ | f; (simp at this; omega); omega, by
          obtain ⟨f', rfl⟩ : ∃ f', f = f' + 1 := ⟨f - 1, by have := HP.out; rcases f with _ | f; (simp at this; omega); omega⟩
          have := HP.out
          rw [Nat.pow_succ] at this
          simp only [Nat.add_sub_cancel]
          omega, hB.alloc hB.size _⟩, by simp [intOf]; omega⟩
    · obtain rfl : j = 0 := by omega
      have hd0 : digits 20 k = out := by
        rw [HD.out]; cases f <;> simp [digits]
      have HD0 := Lib.hid hd0
      clear hd0
      go_wp2_with fail
      go_ret
      refine ⟨?_, hB⟩
      rw [mark, HD0.out, show (109 :: out : List UInt8) = [109] ++ out from rfl, ← bytes_append]
      rfl

set_option maxRecDepth 100000 in
set_option maxHeartbeats 1000000 in
theorem eqStringS_any (ps : List (List UInt8)) (a b : Option Addr) (ca cb : Nat) (w : World) (hn : ps.length ≤ 1048576) (ha : Lies w a ps) (hb : Lies w b ps) :
    Calls Tryz.prog 14 #[.slice a ps.length ca, .slice b ps.length cb] w (Ans (.bool true) w) := by
  have HA := Lib.hid ha
  have HB := Lib.hid hb
  clear ha hb
  go_enter Tryz.func14, Tryz.ntmps14
  go_wp2_with fail
  go_loopw [5] (fun i wr => ∃ k : Nat, k ≤ ps.length ∧ i = .int .i64 k ∧ Below w.heap.size w wr) (fun i _ => ps.length - (intOf i).toNat)
  case atStart => exact ⟨0, Nat.zero_le _, rfl, Below.refl _ _⟩
  case round =>
    obtain ⟨k, hk, rfl, hB⟩ := hrel
    by_cases hlt : k < ps.length
    · obtain ⟨g, ea, c1⟩ := (HA.out.below hB) k hlt
      obtain ⟨g', eb, c2⟩ := (HB.out.below hB) k hlt
      subst ea eb
      have k0 : (0 : Int) ≤ k := by omega
      go_wp2_with fail
      go_quiet (fail)
      go_wp2_with fail
      exact ⟨⟨k + 1, by omega, by go_num, below_drewN hB nq⟩, by simp [intOf]; omega⟩
    · go_wp2_with fail
      go_ret
      exact ⟨rfl, hB⟩

set_option maxRecDepth 100000 in
set_option maxHeartbeats 1000000 in
theorem markStringS_any (n : Nat) (g cap m : Nat) (cur : Array Value) (w : World) (hn : n ≤ 1000000) (hm : 0 < m) (hm2 : m ≤ 1000000) (hcur : w.heap[g]? = some (.cells cur 9 (0, 0))) (hcs : n ≤ cur.size) :
    Calls Tryz.prog 15 #[.slice (some ⟨g, 0, none⟩) n cap, .int .i64 m] w fun e w' => e = .returned (.int .i64 (m + n : Nat)) ∧ w.grownBy w' (some g) ∧ Lies w' (some ⟨g, 0, none⟩) ((List.range n).map fun j => mark (m + j)) := by
  have HC := Lib.hid hcur
  clear hcur
  go_enter Tryz.func15, Tryz.ntmps15
  go_wp2_with fail
  go_loopw [1, 5] (fun mv i wr => ∃ (k : Nat) (cr : Array Value), k ≤ n ∧ i = .int .i64 k ∧ mv = .int .i64 (m + k : Nat) ∧ wr.heap[g]? = some (.cells cr 9 (0, 0)) ∧ n ≤ cr.size ∧ (∀ j, j < k → cr[j]? = some (.string ⟨(mark (m + j)).toArray⟩)) ∧ w.grownBy wr (some g)) (fun _ i _ => n - (intOf i).toNat)
  case atStart => exact ⟨0, cur, Nat.zero_le _, rfl, by simp, HC.out, hcs, fun j h => by omega, grownBy_refl _ _⟩
  case round =>
    obtain ⟨k, cr, hk, rfl, rfl, hc, hcs2, hj, hg⟩ := hrel
    have H1 := Lib.hid hc
    have H2 := Lib.hid hj
    have hgl := (Array.getElem?_eq_some_iff.1 hc).1
    clear hc hj
    by_cases hlt : k < n
    · have HM := Lib.hid (markText_any (m + k) wr (by omega) (by omega))
      go_wp2_with fail
      refine HM.out.mono ?_
      rintro e w1 ⟨rfl, hb1⟩
      have hc1 : w1.heap[g]? = some (.cells cr 9 (0, 0)) := (hb1.block g hgl).trans H1.out
      have hcc : w1.cell? ⟨g, k, none⟩ = some (cr[k]'(by omega)) := by rw [Lib.cell_of_heap hc1]; simp
      have hff : w1.frozen? ⟨g, k, none⟩ = false := Lib.frozen_of_heap hc1 k
      have H3 := Lib.hid (heap_setCell_same (k := k) hc1 (.string ⟨(mark (m + k)).toArray⟩))
      have H4 := Lib.hid (grownBy_setCell (k := k) (grownBy_below hg hb1) (.string ⟨(mark (m + k)).toArray⟩))
      clear hc1
      go_wp2_with fail
      refine ⟨⟨k + 1, _, by omega, by go_num, by go_num, H3.out, by simpa using hcs2, ?_, H4.out⟩, by simp [intOf]; omega⟩
      intro j hjk
      by_cases hjk2 : j = k
      · subst hjk2
        rw [Array.getElem?_setIfInBounds, if_pos rfl, if_pos (by omega)]
      · rw [Array.getElem?_setIfInBounds, if_neg (by omega)]
        exact H2.out j (by omega)
    · obtain rfl : k = n := by omega
      go_wp2_with fail
      go_ret
      refine ⟨rfl, hg, fun j hj => ⟨g, rfl, ?_⟩⟩
      simp at hj
      rw [Lib.cell_of_heap H1.out, H2.out j hj]
      simp

end Go.Proofs.YtoeebipahifpcaaGreat
end
section
/- A list of texts that comes in: its size told, its copy made. (what the exact laws want besides) -/
namespace Go.Proofs.YtoeebipahifpcaaGreat
open Go.RowKit

set_option maxRecDepth 100000 in
set_option maxHeartbeats 1000000 in
theorem szStringS_any (ss : List ByteArray) (a : Option Addr) (cap : Nat) (w : World) (hn : ss.length ≤ 9223372036854775807) (hz : ∀ s ∈ ss, s.size ≤ 9223372036854775807) (hl : LiesO w a ss) :
    Calls Tryz.prog 7 #[.slice a ss.length cap, .int .i64 1048576] w (SzPost ss w) := by
  have HL := Lib.hid hl
  have HZ := Lib.hid hz
  clear hl hz
  by_cases hlen : ss.length ≤ 1048576
  · go_enter Tryz.func7, Tryz.ntmps7
    go_wp2_with fail
    go_loopw [1, 5] (fun lv iv wr => ∃ (k : Nat) (l : Int), k ≤ ss.length ∧ iv = .int .i64 k ∧ lv = .int .i64 l ∧ 0 ≤ l ∧ l ≤ 1048576 ∧ (∀ j (h : j < ss.length), j < k → (ss[j]).size ≤ 1048576) ∧ Below w.heap.size w wr) (fun _ iv _ => ss.length - (intOf iv).toNat)
    case atStart => exact ⟨0, 1048576 - (ss.length : Int), Nat.zero_le _, rfl, by first | rfl | go_num, by omega, by omega, fun j _ h => by omega, Below.refl _ _⟩
    case round =>
      obtain ⟨k, l, hk, rfl, rfl, hl0, hl1, hj, hB⟩ := hrel
      have HJ := Lib.hid hj
      clear hj
      by_cases hlt : k < ss.length
      · obtain ⟨b, off, rfl, hc⟩ := (HL.out.below hB) k hlt
        have hsz : (ss[k]).size ≤ 9223372036854775807 := HZ.out _ (List.getElem_mem hlt)
        obtain ⟨sz, hsz'⟩ : ∃ sz, sz = (ss[k]).size := ⟨_, rfl⟩
        have HS := Lib.hid hsz'
        by_cases h0 : (sz : Int) ≤ l
        · have h0' : ((ss[k]).size : Int) ≤ l := by omega
          clear hsz'
          go_wp2_with fail
          go_roundw
          case rel => exact ⟨k + 1, l - ((ss[k]).size : Int), by omega, by go_num, by first | rfl | go_num, by omega, by omega, fun j h hjk => by
              by_cases e : j = k
              · subst e; omega
              · exact HJ.out j h (by omega), hB⟩
          case measure => simp [intOf]; omega
        · have h0' : l < ((ss[k]).size : Int) := by omega
          clear hsz'
          go_wp2_with fail
          go_ret
          exact ⟨hB, -1, rfl, .inl (by omega)⟩
      · have hkk : k = ss.length := by omega
        go_wp2_with fail
        go_ret
        exact ⟨hB, l, rfl, .inr ⟨hl0, hlen, fun j h => HJ.out j h (by omega)⟩⟩
  · go_enter Tryz.func7, Tryz.ntmps7
    go_wp2_with fail
    go_ret
    exact ⟨Below.refl _ _, -1, rfl, .inl (by omega)⟩

set_option maxRecDepth 100000 in
set_option maxHeartbeats 1000000 in
theorem toStringS_any (ss : List ByteArray) (a : Option Addr) (cap : Nat) (w : World) (hn : ss.length ≤ 1048576) (hl : LiesO w a ss) :
    Calls Tryz.prog 10 #[.slice a ss.length cap] w (CopyPost ss w) := by
  obtain ⟨i0, hi0, hz, hzs, hzb⟩ := info_parts info9
  have HL := Lib.hid hl
  obtain ⟨nn, hnn⟩ : ∃ nn, nn = ss.length := ⟨_, rfl⟩
  rw [← hnn]
  have HNN := Lib.hid hnn
  rw [← hnn] at hn
  clear hl hnn
  go_enter Tryz.func10, Tryz.ntmps10
  go_wp2_with (at_make; refine wpList_make_full _ rfl _ _ 22 rfl w.heap.size 9 i0 (.string ⟨#[]⟩) 1 Tryz.underlying22 hi0 hz hzs .i64 .i64 _ _ nn rfl rfl rfl rfl ?c1 ?c2 (Nat.le_refl _) ?_)
  case c1 => rw [hzb]; omega
  case c2 => unfold maxLen; omega
  intro w1 hown hg
  have hcur : ∃ cur : Array Value, w1.heap[w.heap.size]? = some (.cells cur 9 (0, 0)) ∧ cur.size = nn := by
    rcases hown.2 with ⟨e, _⟩ | ⟨G, cap', cur, e, _, hG, hnc, hcm, hcs, htake⟩
    · simp at e
    · simp only [Value.slice.injEq, Option.some.injEq, Addr.mk.injEq] at e
      obtain ⟨⟨rfl, _⟩, _, rfl⟩ := e
      exact ⟨cur, hG, by omega⟩
  have hB1 : Below w.heap.size w w1 := (Below.refl _ _).grown hg (by omega) (fun k e => by cases e)
  have HC := Lib.hid hcur
  have HB1 := Lib.hid hB1
  clear hcur hown hg hB1
  go_wp2_with fail
  go_loopw [4] (fun iv wr => ∃ (k : Nat) (cr : Array Value), k ≤ nn ∧ iv = .int .i64 k ∧ wr.heap[w.heap.size]? = some (.cells cr 9 (0, 0)) ∧ cr.size = nn ∧ (∀ j (h : j < ss.length), j < k → cr[j]? = some (.string ss[j])) ∧ Below w.heap.size w wr) (fun iv _ => nn - (intOf iv).toNat)
  case atStart =>
    obtain ⟨cur, h1, h2⟩ := HC.out
    exact ⟨0, cur, Nat.zero_le _, rfl, h1, h2, fun j _ h => by omega, HB1.out⟩
  case round =>
    obtain ⟨k, cr, hk, rfl, hc, hcs, hj, hB⟩ := hrel
    have HJ := Lib.hid hj
    have HCR := Lib.hid hc
    have HCS := Lib.hid hcs
    clear hj
    by_cases hlt : k < nn
    · have hlt' : k < ss.length := by rw [← HNN.out]; exact hlt
      obtain ⟨b, off, rfl, hcc⟩ := (HL.out.below hB) k hlt'
      have hck : wr.cell? ⟨w.heap.size, k, none⟩ = some (cr[k]'(by rw [HCS.out]; exact hlt)) := by rw [Lib.cell_of_heap hc]; simp
      have hff : wr.frozen? ⟨w.heap.size, k, none⟩ = false := Lib.frozen_of_heap hc k
      have H3 := Lib.hid (heap_setCell_same (k := k) hc (.string ss[k]))
      have H4 := Lib.hid (hB.setCell (p := ⟨w.heap.size, k, none⟩) (by simp) (.string ss[k]))
      clear hc hcs
      go_wp2_with fail
      go_roundw
      case rel => exact ⟨k + 1, _, by omega, by go_num, H3.out, by rw [Array.size_setIfInBounds]; exact HCS.out, fun j h hjk => by
          by_cases e : j = k
          · subst e
            rw [Array.getElem?_setIfInBounds, if_pos rfl, if_pos (by rw [HCS.out]; omega)]
          · rw [Array.getElem?_setIfInBounds, if_neg (by omega)]
            exact HJ.out j h (by omega), H4.out⟩
      case measure => simp [intOf]; omega
    · have hkk : k = nn := by omega
      clear hc hcs
      go_wp2_with fail
      go_ret
      refine ⟨hB, w.heap.size, by rw [HNN.out]; rfl, Nat.le_refl _, fun j hj => ⟨_, rfl, ?_⟩⟩
      have hj' := hj
      rw [txl_length] at hj'
      rw [Lib.cell_of_heap HCR.out, HJ.out j hj' (by have := HNN.out; omega), txl_get hj]

end Go.Proofs.YtoeebipahifpcaaGreat
end
end
section
/- Merged out of: XTermC, XTerm. -/
section
/- A list of terms that comes in: its size told, its copy made, two copies compared. -/
namespace Go.Proofs.YtoeebipahifpcaaGreat
open Go.RowKit

/-- A slice of terms reads as these coefficients and texts. -/
def TermO (w : World) (a : Option Addr) (ys : List (Int × ByteArray)) : Prop := ∀ j (h : j < ys.length), ∃ b off, a = some ⟨b, off, none⟩ ∧ w.cell? ⟨b, off + j * 2, none⟩ = some (.int .i64 (ys[j]).1) ∧ w.cell? ⟨b, off + j * 2 + 1, none⟩ = some (.string (ys[j]).2)

theorem TermO.below {w w' : World} {a : Option Addr} {ys : List (Int × ByteArray)} (h : TermO w a ys) (hb : Below w.heap.size w w') : TermO w' a ys := fun j hj => by
  obtain ⟨b, off, e, hc, hd⟩ := h j hj
  exact ⟨b, off, e, keep1 hb hc, keep1 hb hd⟩

/-- .. in memory of the call's own. -/
def TermL (w : World) (g : Nat) (ys : List (Int × ByteArray)) : Prop := ∀ j (h : j < ys.length), w.cell? ⟨g, j * 2, none⟩ = some (.int .i64 (ys[j]).1) ∧ w.cell? ⟨g, j * 2 + 1, none⟩ = some (.string (ys[j]).2)

theorem TermL.below {w w' : World} {g : Nat} {ys : List (Int × ByteArray)} (h : TermL w g ys) (hb : Below w.heap.size w w') : TermL w' g ys := fun j hj => by
  obtain ⟨hc, hd⟩ := h j hj
  exact ⟨keep1 hb hc, keep1 hb hd⟩

/-- The coefficients are ints. -/
def Coefs (ys : List (Int × ByteArray)) : Prop := ∀ j (h : j < ys.length), -9223372036854775808 ≤ (ys[j]).1 ∧ (ys[j]).1 ≤ 9223372036854775807

theorem cellsIntT : Tryz.prog.cellsOf 3 = 1 := by kernel_rfl

theorem cellsTermO : Tryz.prog.cellsOf 70 = 2 := by kernel_rfl

/-- The choice of what stands behind each index. -/
theorem choose_terms {n : Nat} {Q : Nat → Int × ByteArray → Prop} (h : ∀ j, j < n → ∃ y, Q j y) : ∃ ys : List (Int × ByteArray), ys.length = n ∧ ∀ j (hj : j < ys.length), Q j ys[j] := by
  induction n with
  | zero => exact ⟨[], rfl, fun j hj => by simp at hj⟩
  | succ n ih =>
    obtain ⟨ys, h1, h2⟩ := ih (fun j hj => h j (by omega))
    obtain ⟨y, hy⟩ := h n (by omega)
    refine ⟨ys ++ [y], by simp [h1], fun j hj => ?_⟩
    by_cases e : j < ys.length
    · rw [List.getElem_append_left e]; exact h2 j e
    · have : j = n := by simp at hj; omega
      subst this
      rw [List.getElem_append_right (by omega)]
      simpa using hy

set_option maxRecDepth 100000 in
/-- A []Term among the arguments. -/
theorem open_terms {H : Type} {enc : TypeId × Value → H} {W : World} {spare : Nat → Bool} {held : Bool} {v : Value} {d : DataW H} {p : List MemPlace} {b : Nat}
    (hv : Value.okWide Tryz.prog W .any b 35 v) (h : DataW.Trod enc Tryz.prog W 0 spare held 35 v d p) :
    ∃ (a : Option Addr) (cap : Nat) (ys : List (Int × ByteArray)), v = .slice a ys.length cap ∧ TermO W a ys ∧ (∀ j (h : j < ys.length), (ys[j]).2.size ≤ 9223372036854775807) ∧ Coefs ys ∧ ys.length ≤ 9223372036854775807 := by
  obtain ⟨a0, len, cap, rfl⟩ := Go.WideShapes.okWide_slice Tryz.underlying35 hv
  obtain ⟨fuel, hf⟩ := h
  rcases Go.Deep.open_slice_pairs Tryz.underlying35 Tryz.underlying70 cellsTermO rfl rfl cellsIntT cellsStr hf with ⟨hcs, hx⟩ | ⟨a, len', cap', m, n, V0, V1, D0, D1, P0, P1, hcs, _, hl, hm, hmm, hx, hcell⟩
  · simp [Value.cells] at hcs
    obtain ⟨rfl, rfl, rfl⟩ := hcs
    exact ⟨none, 0, [], rfl, fun j h => by simp at h, fun j h => by simp at h, fun j h => by simp at h, by simp⟩
  · simp [Value.cells] at hcs
    obtain ⟨rfl, rfl, rfl⟩ := hcs
    have hle : len ≤ m := by rw [hmm]; split <;> omega
    simp only [maxLen, show (2 ^ 63 - 1 : Nat) = 9223372036854775807 from rfl] at hm
    have hch : ∀ j, j < len → ∃ y : Int × ByteArray, W.cell? (a.add (j * 2)) = some (.int .i64 y.1) ∧ W.cell? (a.add (j * 2 + 1)) = some (.string y.2) ∧ y.2.size ≤ 9223372036854775807 ∧ (-9223372036854775808 ≤ y.1 ∧ y.1 ≤ 9223372036854775807) := by
      intro j hj
      obtain ⟨c0, c1, t0, t1⟩ := hcell j (by omega)
      obtain ⟨x, e0, _, hx⟩ := DataW.trod_int Tryz.underlying3 t0
      obtain ⟨s, e1, _, hs⟩ := DataW.trod_string Tryz.underlying9 t1
      simp only [List.cons.injEq, and_true] at e0 e1
      rw [e0] at c0
      rw [e1] at c1
      refine ⟨(x, s), c0, c1, ?_, ?_⟩
      · simpa only [maxLen, show (2 ^ 63 - 1 : Nat) = 9223372036854775807 from rfl] using hs
      · exact bounds_i64 hx
    obtain ⟨ys, hyl, hyq⟩ := choose_terms hch
    refine ⟨some a, cap, ys, by rw [hyl], ?_, fun j h => (hyq j h).2.2.1, fun j h => (hyq j h).2.2.2, by omega⟩
    intro j hj
    obtain ⟨h0, h1, _, _⟩ := hyq j hj
    obtain ⟨b, off, spot⟩ := a
    have hspot : spot = none := by
      have h00 := (hyq 0 (by omega)).1
      simpa [Addr.add] using World.cell?_spot h00
    subst hspot
    have e : ∀ n, (⟨b, off, none⟩ : Addr).add n = ⟨b, off + n, none⟩ := fun n => by unfold Addr.add; split <;> simp_all
    rw [e] at h0 h1
    exact ⟨b, off, rfl, h0, by rw [Nat.add_assoc]; exact h1⟩

/-- How much is left: below 0, or all texts are small. -/
def SzTerm (ys : List (Int × ByteArray)) (w : World) (e : Ending) (w' : World) : Prop :=
  Below w.heap.size w w' ∧ ∃ v : Int, e = .returned (.int .i64 v) ∧ (v < 0 ∨ (0 ≤ v ∧ v ≤ 1048576 ∧ ys.length ≤ 1048576 ∧ ∀ j (h : j < ys.length), (ys[j]).2.size ≤ 1048576))

theorem infoTerm : (Tryz.prog.info? 73).map (fun i => (i.zero, i.size, i.bytes)) = some (some (.agg #[.int .i64 0, .string ⟨#[]⟩]), 2, 24) := by kernel_rfl

/-- A copy in new memory. -/
def CopyTerm (ys : List (Int × ByteArray)) (n : Nat) (w : World) (e : Ending) (w' : World) : Prop :=
  Below w.heap.size w w' ∧ ∃ g, e = .returned (.slice (some ⟨g, 0, none⟩) n n) ∧ w.heap.size ≤ g ∧ TermL w' g ys

end Go.Proofs.YtoeebipahifpcaaGreat
end
section
/- A list of terms that comes in: its size told, its copy made, two copies compared. (what the exact laws want besides) -/
namespace Go.Proofs.YtoeebipahifpcaaGreat
open Go.RowKit

theorem szTerm_any (y : Int × ByteArray) (l : Int) (w : World) (h0 : 0 ≤ l) (h1 : l ≤ 1048576) (hy : (y.2.size : Int) ≤ 9223372036854775807) :
    Calls Tryz.prog 38 #[.agg #[.int .i64 y.1, .string y.2], .int .i64 l] w fun e w' => Below w.heap.size w w' ∧ e = .returned (.int .i64 (if (y.2.size : Int) ≤ l then l - y.2.size else -1)) := by
  obtain ⟨x, s⟩ := y
  simp only at hy ⊢
  by_cases h : (s.size : Int) ≤ l
  · have HE : Hid ((if (s.size : Int) ≤ l then l - s.size else -1) = l - s.size) := Lib.hid (if_pos h)
    go_enter Tryz.func38, Tryz.ntmps38
    go_wp2_with fail
    go_ret
    exact ⟨(Below.refl _ _).alloc (Nat.le_refl _) _, by first | rfl | (rw [HE.out]; rfl)⟩
  · have HE : Hid ((if (s.size : Int) ≤ l then l - s.size else -1) = -1) := Lib.hid (if_neg h)
    go_enter Tryz.func38, Tryz.ntmps38
    go_wp2_with fail
    go_ret
    exact ⟨(Below.refl _ _).alloc (Nat.le_refl _) _, by first | rfl | (rw [HE.out]; rfl)⟩

set_option maxRecDepth 100000 in
set_option maxHeartbeats 1000000 in
theorem szTermS_any (ys : List (Int × ByteArray)) (a : Option Addr) (cap : Nat) (l0 : Int) (w : World) (hl0 : 0 ≤ l0) (hl1 : l0 ≤ 1048576) (hn : ys.length ≤ 9223372036854775807) (hz : ∀ j (h : j < ys.length), (ys[j]).2.size ≤ 9223372036854775807) (hl : TermO w a ys) :
    Calls Tryz.prog 20 #[.slice a ys.length cap, .int .i64 l0] w (SzTerm ys w) := by
  have HL := Lib.hid hl
  have HZ := Lib.hid hz
  clear hl hz
  by_cases hlen : (ys.length : Int) ≤ l0
  · go_enter Tryz.func20, Tryz.ntmps20
    go_wp2_with fail
    go_loopw [1, 5] (fun lv iv wr => ∃ (k : Nat) (l : Int), k ≤ ys.length ∧ iv = .int .i64 k ∧ lv = .int .i64 l ∧ 0 ≤ l ∧ l ≤ 1048576 ∧ (∀ j (h : j < ys.length), j < k → (ys[j]).2.size ≤ 1048576) ∧ Below w.heap.size w wr) (fun _ iv _ => ys.length - (intOf iv).toNat)
    case atStart => exact ⟨0, l0 - (ys.length : Int), Nat.zero_le _, rfl, by first | rfl | go_num, by omega, by omega, fun j _ h => by omega, Below.refl _ _⟩
    case round =>
      obtain ⟨k, l, hk, rfl, rfl, hb0, hb1, hj, hB⟩ := hrel
      have HJ := Lib.hid hj
      clear hj
      by_cases hlt : k < ys.length
      · obtain ⟨b, off, rfl, hc, hd⟩ := (HL.out.below hB) k hlt
        have hsz : (ys[k]).2.size ≤ 9223372036854775807 := HZ.out k hlt
        have HSZ := szTerm_any (ys[k]) l wr hb0 hb1 (by omega)
        have HB := Lib.hid hB
        clear hsz hB
        by_cases h0 : ((ys[k]).2.size : Int) ≤ l
        · rw [if_pos h0] at HSZ
          obtain ⟨l', hl'⟩ : ∃ l', l' = l - ((ys[k]).2.size : Int) := ⟨_, rfl⟩
          have HE := Lib.hid hl'
          rw [← hl'] at HSZ
          have HS := Lib.hid HSZ
          have hb3 : 0 ≤ l' := by omega
          have hb2 : l' ≤ 1048576 := by omega
          have HK : Hid ((ys[k]).2.size ≤ 1048576) := Lib.hid (by omega)
          clear h0 hl' HSZ
          go_wp2_with fail
          refine HS.out.mono ?_
          rintro e w1 ⟨hB1, rfl⟩
          have HB1 := Lib.hid (below_step HB.out hB1)
          clear hB1
          go_wp2_with fail
          go_roundw
          case rel => exact ⟨k + 1, l', by omega, by go_num, rfl, hb3, hb2, fun j h hjk => by
              by_cases e : j = k
              · subst e; exact HK.out
              · exact HJ.out j h (by omega), HB1.out⟩
          case measure => simp [intOf]; omega
        · rw [if_neg h0] at HSZ
          have HS := Lib.hid HSZ
          clear h0 HSZ
          go_wp2_with fail
          refine HS.out.mono ?_
          rintro e w1 ⟨hB1, rfl⟩
          have HB1 := Lib.hid (below_step HB.out hB1)
          clear hB1
          go_wp2_with fail
          go_ret
          exact ⟨HB1.out, -1, rfl, .inl (by omega)⟩
      · have hkk : k = ys.length := by omega
        go_wp2_with fail
        go_ret
        exact ⟨hB, l, rfl, .inr ⟨hb0, hb1, by omega, fun j h => HJ.out j h (by omega)⟩⟩
  · go_enter Tryz.func20, Tryz.ntmps20
    go_wp2_with fail
    go_ret
    exact ⟨Below.refl _ _, -1, rfl, .inl (by omega)⟩

set_option maxRecDepth 100000 in
theorem toTerm_any (y : Int × ByteArray) (w : World) :
    Calls Tryz.prog 40 #[.agg #[.int .i64 y.1, .string y.2]] w fun e w' => Below w.heap.size w w' ∧ e = .returned (.agg #[.int .i64 y.1, .string y.2]) := by
  obtain ⟨x, s⟩ := y
  simp only
  go_enter Tryz.func40, Tryz.ntmps40
  go_wp2_with fail
  refine bodyPost_ret (v := .agg #[.int .i64 x, .string s]) (by simp [results, Tryz.results40, go_sem]) rfl ?_
  exact ⟨(((Below.refl _ _).alloc (Nat.le_refl _) _).alloc (by simp) _).alloc (by simp; omega) _, rfl⟩

/-- A copy in new memory, and the block that it fills. -/
def CopyTermB (ys : List (Int × ByteArray)) (n : Nat) (w : World) (e : Ending) (w' : World) : Prop :=
  Below w.heap.size w w' ∧ ∃ g, e = .returned (.slice (some ⟨g, 0, none⟩) n n) ∧ w.heap.size ≤ g ∧ TermL w' g ys ∧ ∃ cur, w'.heap[g]? = some (.cells cur 73 (0, 0)) ∧ n * 2 ≤ cur.size

set_option maxRecDepth 100000 in
set_option maxHeartbeats 1000000 in
theorem toTermS_blk (ys : List (Int × ByteArray)) (a : Option Addr) (cap : Nat) (w : World) (hn : ys.length ≤ 1048576) (hl : TermO w a ys) :
    Calls Tryz.prog 22 #[.slice a ys.length cap] w (CopyTermB ys ys.length w) := by
  obtain ⟨i0, hi0, hz, hzs, hzb⟩ := info_parts infoTerm
  have HL := Lib.hid hl
  obtain ⟨nn, hnn⟩ : ∃ nn, nn = ys.length := ⟨_, rfl⟩
  rw [← hnn]
  have HNN := Lib.hid hnn
  rw [← hnn] at hn
  clear hl hnn
  go_enter Tryz.func22, Tryz.ntmps22
  go_wp2_with (at_make; refine wpList_make_full _ rfl _ _ 38 rfl w.heap.size 73 i0 (.agg #[.int .i64 0, .string ⟨#[]⟩]) 2 Tryz.underlying38 hi0 hz hzs .i64 .i64 _ _ nn rfl rfl rfl rfl ?c1 ?c2 (Nat.le_refl _) ?_)
  case c1 => rw [hzb]; omega
  case c2 => unfold maxLen; omega
  intro w1 hown hg
  have hcur : ∃ cur : Array Value, w1.heap[w.heap.size]? = some (.cells cur 73 (0, 0)) ∧ cur.size = nn * 2 := by
    rcases hown.2 with ⟨e, _⟩ | ⟨G, cap', cur, e, _, hG, hnc, hcm, hcs, htake⟩
    · simp at e
    · simp only [Value.slice.injEq, Option.some.injEq, Addr.mk.injEq] at e
      obtain ⟨⟨rfl, _⟩, _, rfl⟩ := e
      exact ⟨cur, hG, by omega⟩
  have hB1 : Below w.heap.size w w1 := (Below.refl _ _).grown hg (by omega) (fun k e => by cases e)
  have HC := Lib.hid hcur
  have HB1 := Lib.hid hB1
  clear hcur hown hg hB1
  go_wp2_with fail
  go_loopw [4] (fun iv wr => ∃ (k : Nat) (cr : Array Value), k ≤ nn ∧ iv = .int .i64 k ∧ wr.heap[w.heap.size]? = some (.cells cr 73 (0, 0)) ∧ cr.size = nn * 2 ∧ (∀ j (h : j < ys.length), j < k → cr[j * 2]? = some (.int .i64 (ys[j]).1) ∧ cr[j * 2 + 1]? = some (.string (ys[j]).2)) ∧ Below w.heap.size w wr) (fun iv _ => nn - (intOf iv).toNat)
  case atStart =>
    obtain ⟨cur, h1, h2⟩ := HC.out
    exact ⟨0, cur, Nat.zero_le _, rfl, h1, h2, fun j _ h => by omega, HB1.out⟩
  case round =>
    obtain ⟨k, cr, hk, rfl, hc, hcs, hj, hB⟩ := hrel
    have HJ := Lib.hid hj
    have HCR := Lib.hid hc
    have HCS := Lib.hid hcs
    have HB := Lib.hid hB
    clear hj
    by_cases hlt : k < nn
    · have hlt' : k < ys.length := by rw [← HNN.out]; exact hlt
      obtain ⟨b, off, rfl, hcc, hcd⟩ := (HL.out.below hB) k hlt'
      have HS := Lib.hid (toTerm_any (ys[k]) wr)
      have hlw : w.heap.size < wr.heap.size := (Array.getElem?_eq_some_iff.1 hc).1
      clear hc hcs hB
      go_wp2_with fail
      refine HS.out.mono ?_
      rintro e w2 ⟨hB2, rfl⟩
      have hc2 : w2.heap[w.heap.size]? = some (.cells cr 73 (0, 0)) := (hB2.block _ hlw).trans HCR.out
      have hck : w2.cell? ⟨w.heap.size, k * 2, none⟩ = some (cr[k * 2]'(by rw [HCS.out]; omega)) := by rw [Lib.cell_of_heap hc2]; simp
      have hck1 : w2.cell? ⟨w.heap.size, k * 2 + 1, none⟩ = some (cr[k * 2 + 1]'(by rw [HCS.out]; omega)) := by rw [Lib.cell_of_heap hc2]; simp
      have hff : w2.frozen? ⟨w.heap.size, k * 2, none⟩ = false := Lib.frozen_of_heap hc2 _
      have hff1 : w2.frozen? ⟨w.heap.size, k * 2 + 1, none⟩ = false := Lib.frozen_of_heap hc2 _
      have H3 := Lib.hid (heap_setCell_same (k := k * 2 + 1) (heap_setCell_same (k := k * 2) hc2 (.int .i64 (ys[k]).1)) (.string (ys[k]).2))
      have H4 := Lib.hid (((below_step HB.out hB2).setCell (p := ⟨w.heap.size, k * 2, none⟩) (by simp) (.int .i64 (ys[k]).1)).setCell (p := ⟨w.heap.size, k * 2 + 1, none⟩) (by simp) (.string (ys[k]).2))
      clear hc2 hB2
      go_wp2_with fail
      go_roundw
      case rel => exact ⟨k + 1, _, by omega, by go_num, H3.out, by rw [Array.size_setIfInBounds, Array.size_setIfInBounds]; exact HCS.out, fun j h hjk => by
          have := HCS.out
          by_cases e : j = k
          · subst e
            constructor
            · rw [Array.getElem?_setIfInBounds, if_neg (by omega), Array.getElem?_setIfInBounds, if_pos rfl, if_pos (by omega)]
            · rw [Array.getElem?_setIfInBounds, if_pos rfl, if_pos (by simp; omega)]
          · obtain ⟨q1, q2⟩ := HJ.out j h (by omega)
            constructor
            · rw [Array.getElem?_setIfInBounds, if_neg (by omega), Array.getElem?_setIfInBounds, if_neg (by omega)]; exact q1
            · rw [Array.getElem?_setIfInBounds, if_neg (by omega), Array.getElem?_setIfInBounds, if_neg (by omega)]; exact q2, H4.out⟩
      case measure => simp [intOf]; omega
    · have hkk : k = nn := by omega
      clear hc hcs hB
      go_wp2_with fail
      go_ret
      refine ⟨HB.out, w.heap.size, rfl, Nat.le_refl _, fun j hj => ?_, cr, HCR.out, by rw [HCS.out]; omega⟩
      obtain ⟨q1, q2⟩ := HJ.out j hj (by have := HNN.out; omega)
      exact ⟨by rw [Lib.cell_of_heap HCR.out, q1], by rw [Lib.cell_of_heap HCR.out, q2]⟩

theorem toTermS_any (ys : List (Int × ByteArray)) (a : Option Addr) (cap : Nat) (w : World) (hn : ys.length ≤ 1048576) (hl : TermO w a ys) :
    Calls Tryz.prog 22 #[.slice a ys.length cap] w (CopyTerm ys ys.length w) :=
  (toTermS_blk ys a cap w hn hl).mono fun _ _ ⟨h1, g, h2, h3, h4, _⟩ => ⟨h1, g, h2, h3, h4⟩

set_option maxRecDepth 100000 in
theorem eqTerm_any (y : Int × ByteArray) (w : World) :
    Calls Tryz.prog 43 #[.agg #[.int .i64 y.1, .string y.2], .agg #[.int .i64 y.1, .string y.2]] w (Ans (.bool true) w) := by
  obtain ⟨x, s⟩ := y
  simp only
  go_enter Tryz.func43, Tryz.ntmps43
  go_wp2_with fail
  go_ret
  exact ⟨rfl, ((Below.refl _ _).alloc (Nat.le_refl _) _).alloc (by simp) _⟩

set_option maxRecDepth 100000 in
set_option maxHeartbeats 1000000 in
theorem eqTermS_any (ys : List (Int × ByteArray)) (n : Nat) (hny : n = ys.length) (g g' ca cb : Nat) (w : World) (hn : n ≤ 1048576) (ha : TermL w g ys) (hb : TermL w g' ys) :
    Calls Tryz.prog 24 #[.slice (some ⟨g, 0, none⟩) n ca, .slice (some ⟨g', 0, none⟩) n cb] w (Ans (.bool true) w) := by
  have HA := Lib.hid ha
  have HB := Lib.hid hb
  have HNN := Lib.hid hny
  clear ha hb hny
  go_enter Tryz.func24, Tryz.ntmps24
  go_wp2_with fail
  go_loopw [5] (fun i wr => ∃ k : Nat, k ≤ n ∧ i = .int .i64 k ∧ Below w.heap.size w wr) (fun i _ => n - (intOf i).toNat)
  case atStart => exact ⟨0, Nat.zero_le _, rfl, Below.refl _ _⟩
  case round =>
    obtain ⟨k, hk, rfl, hB⟩ := hrel
    by_cases hlt : k < n
    · have hlt' : k < ys.length := by rw [← HNN.out]; exact hlt
      obtain ⟨c1, c2⟩ := (HA.out.below hB) k hlt'
      obtain ⟨c3, c4⟩ := (HB.out.below hB) k hlt'
      have k0 : (0 : Int) ≤ k := by omega
      have HQ := Lib.hid (fun w => eqTerm_any (ys[k]) w)
      go_wp2_with fail
      go_region_with ((go_at_call 43; refine (HQ.out _).mono ?_; rintro e w1 ⟨rfl, hb1⟩))
      all_goals
        go_wp2_with fail
        exact ⟨⟨k + 1, by omega, by go_num, hB.trans ((Below.refl _ _).drew.trans (hb1.mono hB.size))⟩, by simp [intOf]; omega⟩
    · go_wp2_with fail
      go_ret
      exact ⟨rfl, hB⟩

end Go.Proofs.YtoeebipahifpcaaGreat
end
end
