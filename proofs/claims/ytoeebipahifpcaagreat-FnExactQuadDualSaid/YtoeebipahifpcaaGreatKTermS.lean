/- Merged out of: XTermSS, XTermM, XTermSM. -/
import Derived.Test.YtoeebipahifpcaaGreatKStrT
import Derived.Deep.Matrix
section
/- Lists of lists of terms that come in: their size told, their copy made, two copies compared. -/
namespace Go.Proofs.YtoeebipahifpcaaGreat
open Go.RowKit

theorem choose_list {α : Type} {n : Nat} {Q : Nat → α → Prop} (h : ∀ j, j < n → ∃ y, Q j y) : ∃ ys : List α, ys.length = n ∧ ∀ j (hj : j < ys.length), Q j ys[j] := by
  induction n with
  | zero => exact ⟨[], rfl, fun j hj => by simp at hj⟩
  | succ n ih =>
    obtain ⟨ys, h1, h2⟩ := ih (fun j hj => h j (by omega))
    obtain ⟨y, hy⟩ := h n (by omega)
    refine ⟨ys ++ [y], by simp [h1], fun j hj => ?_⟩
    by_cases e : j < ys.length
    · rw [List.getElem_append_left e]; exact h2 j e
    · have : j = n := by simp at hj; omega
      subst this
      rw [List.getElem_append_right (by omega)]
      simpa using hy

/-- A slice of slices of terms reads as these lists. -/
def TermsO (w : World) (a : Option Addr) (yss : List (List (Int × ByteArray))) : Prop := ∀ j (h : j < yss.length), ∃ b off aj cj, a = some ⟨b, off, none⟩ ∧ w.cell? ⟨b, off + j, none⟩ = some (.slice aj (yss[j]).length cj) ∧ TermO w aj yss[j]

theorem TermsO.below {w w' : World} {a : Option Addr} {yss : List (List (Int × ByteArray))} (h : TermsO w a yss) (hb : Below w.heap.size w w') : TermsO w' a yss := fun j hj => by
  obtain ⟨b, off, aj, cj, e, hc, hd⟩ := h j hj
  exact ⟨b, off, aj, cj, e, keep1 hb hc, hd.below hb⟩

/-- .. in memory of the call's own. -/
def TermsL (w : World) (g : Nat) (yss : List (List (Int × ByteArray))) : Prop := ∀ j (h : j < yss.length), ∃ gj cj, w.cell? ⟨g, j, none⟩ = some (.slice (some ⟨gj, 0, none⟩) (yss[j]).length cj) ∧ TermL w gj yss[j]

theorem TermsL.below {w w' : World} {g : Nat} {yss : List (List (Int × ByteArray))} (h : TermsL w g yss) (hb : Below w.heap.size w w') : TermsL w' g yss := fun j hj => by
  obtain ⟨gj, cj, hc, hd⟩ := h j hj
  exact ⟨gj, cj, keep1 hb hc, hd.below hb⟩

/-- What is known of a list of terms that comes in. -/
def Open1 (ys : List (Int × ByteArray)) : Prop := (∀ j (h : j < ys.length), (ys[j]).2.size ≤ 9223372036854775807) ∧ Coefs ys ∧ ys.length ≤ 9223372036854775807

/-- A list of terms that is small. -/
def Small1 (ys : List (Int × ByteArray)) : Prop := ys.length ≤ 1048576 ∧ ∀ i (h : i < ys.length), (ys[i]).2.size ≤ 1048576

theorem cellsTermS : Tryz.prog.cellsOf 35 = 1 := by kernel_rfl

set_option maxRecDepth 100000 in
theorem open_terms_raw {H : Type} {enc : TypeId × Value → H} {W : World} {spare : Nat → Bool} {held : Bool} {v : Value} {fuel : Nat} {x : DataW H × List MemPlace}
    (hf : DataW.trod enc Tryz.prog W 0 spare held fuel 35 [v] = some x) :
    ∃ (a : Option Addr) (cap : Nat) (ys : List (Int × ByteArray)), v = .slice a ys.length cap ∧ TermO W a ys ∧ Open1 ys := by
  rcases Go.Deep.open_slice_pairs Tryz.underlying35 Tryz.underlying70 cellsTermO rfl rfl cellsIntT cellsStr hf with ⟨hcs, hx⟩ | ⟨a, len, cap, m, n, V0, V1, D0, D1, P0, P1, hcs, _, hl, hm, hmm, hx, hcell⟩
  · simp only [List.cons.injEq, and_true] at hcs
    subst hcs
    exact ⟨none, 0, [], rfl, fun j h => by simp at h, fun j h => by simp at h, fun j h => by simp at h, by simp⟩
  · simp only [List.cons.injEq, and_true] at hcs
    subst hcs
    have hle : len ≤ m := by rw [hmm]; split <;> omega
    simp only [maxLen, show (2 ^ 63 - 1 : Nat) = 9223372036854775807 from rfl] at hm
    have hch : ∀ j, j < len → ∃ y : Int × ByteArray, W.cell? (a.add (j * 2)) = some (.int .i64 y.1) ∧ W.cell? (a.add (j * 2 + 1)) = some (.string y.2) ∧ y.2.size ≤ 9223372036854775807 ∧ (-9223372036854775808 ≤ y.1 ∧ y.1 ≤ 9223372036854775807) := by
      intro j hj
      obtain ⟨c0, c1, t0, t1⟩ := hcell j (by omega)
      obtain ⟨x, e0, _, hx⟩ := DataW.trod_int Tryz.underlying3 t0
      obtain ⟨s, e1, _, hs⟩ := DataW.trod_string Tryz.underlying9 t1
      simp only [List.cons.injEq, and_true] at e0 e1
      rw [e0] at c0
      rw [e1] at c1
      refine ⟨(x, s), c0, c1, ?_, ?_⟩
      · simpa only [maxLen, show (2 ^ 63 - 1 : Nat) = 9223372036854775807 from rfl] using hs
      · exact bounds_i64 hx
    obtain ⟨ys, hyl, hyq⟩ := choose_terms hch
    refine ⟨some a, cap, ys, by rw [hyl], ?_, fun j h => (hyq j h).2.2.1, fun j h => (hyq j h).2.2.2, by omega⟩
    intro j hj
    obtain ⟨h0, h1, _, _⟩ := hyq j hj
    obtain ⟨b, off, spot⟩ := a
    have hspot : spot = none := by
      have h00 := (hyq 0 (by omega)).1
      simpa [Addr.add] using World.cell?_spot h00
    subst hspot
    have e : ∀ n, (⟨b, off, none⟩ : Addr).add n = ⟨b, off + n, none⟩ := fun n => by unfold Addr.add; split <;> simp_all
    rw [e] at h0 h1
    exact ⟨b, off, rfl, h0, by rw [Nat.add_assoc]; exact h1⟩

set_option maxRecDepth 100000 in
/-- A [][]Term among the arguments. -/
theorem open_termss {H : Type} {enc : TypeId × Value → H} {W : World} {spare : Nat → Bool} {held : Bool} {v : Value} {d : DataW H} {p : List MemPlace} {b : Nat}
    (hv : Value.okWide Tryz.prog W .any b 23 v) (h : DataW.Trod enc Tryz.prog W 0 spare held 23 v d p) :
    ∃ (a : Option Addr) (cap : Nat) (yss : List (List (Int × ByteArray))), v = .slice a yss.length cap ∧ TermsO W a yss ∧ (∀ j (h : j < yss.length), Open1 yss[j]) ∧ yss.length ≤ 9223372036854775807 := by
  obtain ⟨a0, len, cap, rfl⟩ := Go.WideShapes.okWide_slice Tryz.underlying23 hv
  obtain ⟨fuel, hf⟩ := h
  rcases Go.Deep.open_slice1 Tryz.underlying23 cellsTermS hf with ⟨hcs, hx⟩ | ⟨a, len', cap', m, n, V, D, Pl, hcs, _, hl, hm, hmm, hx, hcell⟩
  · simp [Value.cells] at hcs
    obtain ⟨rfl, rfl, rfl⟩ := hcs
    exact ⟨none, 0, [], rfl, fun j h => by simp at h, fun j h => by simp at h, by simp⟩
  · simp [Value.cells] at hcs
    obtain ⟨rfl, rfl, rfl⟩ := hcs
    have hle : len ≤ m := by rw [hmm]; split <;> omega
    simp only [maxLen, show (2 ^ 63 - 1 : Nat) = 9223372036854775807 from rfl] at hm
    have hch : ∀ j, j < len → ∃ ys : List (Int × ByteArray), (∃ aj cj, W.cell? (a.add j) = some (.slice aj ys.length cj) ∧ TermO W aj ys) ∧ Open1 ys := by
      intro j hj
      obtain ⟨c0, t0⟩ := hcell j (by omega)
      obtain ⟨aj, cj, ys, e, hto, ho⟩ := open_terms_raw t0
      exact ⟨ys, ⟨aj, cj, by rw [c0, e], hto⟩, ho⟩
    obtain ⟨yss, hyl, hyq⟩ := choose_list hch
    refine ⟨some a, cap, yss, by rw [hyl], ?_, fun j h => (hyq j h).2, by omega⟩
    intro j hj
    obtain ⟨⟨aj, cj, h0, h1⟩, _⟩ := hyq j hj
    obtain ⟨b, off, spot⟩ := a
    have hspot : spot = none := by
      obtain ⟨_, _, h00, _⟩ := (hyq 0 (by omega)).1
      simpa [Addr.add] using World.cell?_spot h00
    subst hspot
    have e : ∀ n, (⟨b, off, none⟩ : Addr).add n = ⟨b, off + n, none⟩ := fun n => by unfold Addr.add; split <;> simp_all
    rw [e] at h0
    exact ⟨b, off, aj, cj, rfl, h0, h1⟩

/-- How much is left: below 0, or all is small. -/
def SzTerms (yss : List (List (Int × ByteArray))) (w : World) (e : Ending) (w' : World) : Prop :=
  Below w.heap.size w w' ∧ ∃ v : Int, e = .returned (.int .i64 v) ∧ (v < 0 ∨ (0 ≤ v ∧ v ≤ 1048576 ∧ yss.length ≤ 1048576 ∧ ∀ j (h : j < yss.length), Small1 yss[j]))

set_option maxRecDepth 100000 in
set_option maxHeartbeats 1000000 in
theorem szTermSS_any (yss : List (List (Int × ByteArray))) (a : Option Addr) (cap : Nat) (l0 : Int) (w : World) (hl0 : 0 ≤ l0) (hl1 : l0 ≤ 1048576) (hn : yss.length ≤ 9223372036854775807) (hz : ∀ j (h : j < yss.length), Open1 yss[j]) (hl : TermsO w a yss) :
    Calls Tryz.prog 8 #[.slice a yss.length cap, .int .i64 l0] w (SzTerms yss w) := by
  have HL := Lib.hid hl
  have HZ := Lib.hid hz
  clear hl hz
  by_cases hlen : (yss.length : Int) ≤ l0
  · go_enter Tryz.func8, Tryz.ntmps8
    go_wp2_with fail
    go_loopw [1, 5] (fun lv iv wr => ∃ (k : Nat) (l : Int), k ≤ yss.length ∧ iv = .int .i64 k ∧ lv = .int .i64 l ∧ 0 ≤ l ∧ l ≤ 1048576 ∧ (∀ j (h : j < yss.length), j < k → Small1 yss[j]) ∧ Below w.heap.size w wr) (fun _ iv _ => yss.length - (intOf iv).toNat)
    case atStart => exact ⟨0, l0 - (yss.length : Int), Nat.zero_le _, rfl, by first | rfl | go_num, by omega, by omega, fun j _ h => by omega, Below.refl _ _⟩
    case round =>
      obtain ⟨k, l, hk, rfl, rfl, hb0, hb1, hj, hB⟩ := hrel
      have HJ := Lib.hid hj
      clear hj
      by_cases hlt : k < yss.length
      · obtain ⟨b, off, aj, cj, rfl, hc, hd⟩ := (HL.out.below hB) k hlt
        obtain ⟨m, hm⟩ : ∃ m, m = (yss[k]).length := ⟨_, rfl⟩
        have hop := HZ.out k hlt
        have HSZ := Lib.hid (szTermS_any (yss[k]) aj cj l wr hb0 hb1 hop.2.2 hop.1 hd)
        have HB := Lib.hid hB
        rw [← hm] at hc HSZ
        have HM := Lib.hid hm
        clear hB hop hd hm
        go_wp2_with fail
        refine HSZ.out.mono ?_
        rintro e w1 ⟨hB1, v, rfl, hv⟩
        have HB1 := Lib.hid (below_step HB.out hB1)
        clear hB1
        rcases hv with hv | ⟨h0, h1, h2, h3⟩
        · go_wp2_with fail
          go_ret
          exact ⟨HB1.out, -1, rfl, .inl (by omega)⟩
        · have HK : Hid (Small1 yss[k]) := Lib.hid ⟨h2, h3⟩
          clear h2 h3
          go_wp2_with fail
          go_roundw
          case rel => exact ⟨k + 1, v, by omega, by go_num, rfl, h0, h1, fun j h hjk => by
              by_cases e : j = k
              · subst e; exact HK.out
              · exact HJ.out j h (by omega), HB1.out⟩
          case measure => simp [intOf]; omega
      · have hkk : k = yss.length := by omega
        go_wp2_with fail
        go_ret
        exact ⟨hB, l, rfl, .inr ⟨hb0, hb1, by omega, fun j h => HJ.out j h (by omega)⟩⟩
  · go_enter Tryz.func8, Tryz.ntmps8
    go_wp2_with fail
    go_ret
    exact ⟨Below.refl _ _, -1, rfl, .inl (by omega)⟩

theorem infoTermSS : (Tryz.prog.info? 38).map (fun i => (i.zero, i.size, i.bytes)) = some (some (.slice none 0 0), 1, 24) := by kernel_rfl

/-- A copy in new memory. -/
def CopyTerms (yss : List (List (Int × ByteArray))) (n : Nat) (w : World) (e : Ending) (w' : World) : Prop :=
  Below w.heap.size w w' ∧ ∃ g, e = .returned (.slice (some ⟨g, 0, none⟩) n n) ∧ w.heap.size ≤ g ∧ TermsL w' g yss

set_option maxRecDepth 100000 in
set_option maxHeartbeats 1000000 in
theorem toTermSS_any (yss : List (List (Int × ByteArray))) (nn : Nat) (hnn : nn = yss.length) (a : Option Addr) (cap : Nat) (w : World) (hn : nn ≤ 1048576) (hz : ∀ j (h : j < yss.length), Small1 yss[j]) (hl : TermsO w a yss) :
    Calls Tryz.prog 11 #[.slice a nn cap] w (CopyTerms yss nn w) := by
  obtain ⟨i0, hi0, hz0, hzs, hzb⟩ := info_parts infoTermSS
  have HL := Lib.hid hl
  have HZ := Lib.hid hz
  have HNN := Lib.hid hnn
  clear hl hnn hz
  go_enter Tryz.func11, Tryz.ntmps11
  go_wp2_with (at_make; refine wpList_make_full _ rfl _ _ 26 rfl w.heap.size 38 i0 (.slice none 0 0) 1 Tryz.underlying26 hi0 hz0 hzs .i64 .i64 _ _ nn rfl rfl rfl rfl ?c1 ?c2 (Nat.le_refl _) ?_)
  case c1 => rw [hzb]; omega
  case c2 => unfold maxLen; omega
  intro w1 hown hg
  have hcur : ∃ cur : Array Value, w1.heap[w.heap.size]? = some (.cells cur 38 (0, 0)) ∧ cur.size = nn := by
    rcases hown.2 with ⟨e, _⟩ | ⟨G, cap', cur, e, _, hG, hnc, hcm, hcs, htake⟩
    · simp at e
    · simp only [Value.slice.injEq, Option.some.injEq, Addr.mk.injEq] at e
      obtain ⟨⟨rfl, _⟩, _, rfl⟩ := e
      exact ⟨cur, hG, by omega⟩
  have hB1 : Below w.heap.size w w1 := (Below.refl _ _).grown hg (by omega) (fun k e => by cases e)
  have HC := Lib.hid hcur
  have HB1 := Lib.hid hB1
  clear hcur hown hg hB1
  go_wp2_with fail
  go_loopw [4] (fun iv wr => ∃ (k : Nat) (cr : Array Value), k ≤ nn ∧ iv = .int .i64 k ∧ wr.heap[w.heap.size]? = some (.cells cr 38 (0, 0)) ∧ cr.size = nn ∧ (∀ j (h : j < yss.length), j < k → ∃ gj cj, cr[j]? = some (.slice (some ⟨gj, 0, none⟩) (yss[j]).length cj) ∧ w.heap.size < gj ∧ TermL wr gj yss[j]) ∧ Below w.heap.size w wr) (fun iv _ => nn - (intOf iv).toNat)
  case atStart =>
    obtain ⟨cur, h1, h2⟩ := HC.out
    exact ⟨0, cur, Nat.zero_le _, rfl, h1, h2, fun j _ h => by omega, HB1.out⟩
  case round =>
    obtain ⟨k, cr, hk, rfl, hc, hcs, hj, hB⟩ := hrel
    have HJ := Lib.hid hj
    have HCR := Lib.hid hc
    have HCS := Lib.hid hcs
    have HB := Lib.hid hB
    clear hj
    by_cases hlt : k < nn
    · have hlt' : k < yss.length := by rw [← HNN.out]; exact hlt
      obtain ⟨b, off, aj, cj, rfl, hcc, hcd⟩ := (HL.out.below hB) k hlt'
      have hsm := HZ.out k hlt'
      obtain ⟨m, hm⟩ : ∃ m, m = (yss[k]).length := ⟨_, rfl⟩
      have hS := toTermS_any (yss[k]) aj cj wr hsm.1 hcd
      rw [← hm] at hS hcc
      have HS := Lib.hid hS
      have HM := Lib.hid hm
      have hlw : w.heap.size < wr.heap.size := (Array.getElem?_eq_some_iff.1 hc).1
      clear hc hcs hB hS hcd hsm hm
      go_wp2_with fail
      refine HS.out.mono ?_
      rintro e w2 ⟨hB2, g2, rfl, hg2, hl2⟩
      have hc2 : w2.heap[w.heap.size]? = some (.cells cr 38 (0, 0)) := (hB2.block _ hlw).trans HCR.out
      have hck : w2.cell? ⟨w.heap.size, k, none⟩ = some (cr[k]'(by rw [HCS.out]; omega)) := by rw [Lib.cell_of_heap hc2]; simp
      have hff : w2.frozen? ⟨w.heap.size, k, none⟩ = false := Lib.frozen_of_heap hc2 _
      have H3 := Lib.hid (heap_setCell_same (k := k) hc2 (.slice (some ⟨g2, 0, none⟩) m m))
      have H4 := Lib.hid ((below_step HB.out hB2).setCell (p := ⟨w.heap.size, k, none⟩) (by simp) (.slice (some ⟨g2, 0, none⟩) m m))
      have hkp : ∀ (gj : Nat) (ys : List (Int × ByteArray)), w.heap.size < gj → TermL w2 gj ys → TermL (w2.setCell ⟨w.heap.size, k, none⟩ (.slice (some ⟨g2, 0, none⟩) m m)) gj ys := fun gj ys hgj h j hj => by
        obtain ⟨q1, q2⟩ := h j hj
        constructor
        · rw [World.cell?_of_block (w := w2)]
          · exact q1
          · exact Below.heap_setCell _ _ _ _ (show gj ≠ w.heap.size by omega)
        · rw [World.cell?_of_block (w := w2)]
          · exact q2
          · exact Below.heap_setCell _ _ _ _ (show gj ≠ w.heap.size by omega)
      have HKP := Lib.hid hkp
      have HJ2 : Hid (∀ j (h : j < yss.length), j < k → ∃ gj cj, cr[j]? = some (.slice (some ⟨gj, 0, none⟩) (yss[j]).length cj) ∧ w.heap.size < gj ∧ TermL w2 gj yss[j]) := Lib.hid (fun j h hjk => by
        obtain ⟨gj, cj, q1, q2, q3⟩ := HJ.out j h hjk
        exact ⟨gj, cj, q1, q2, q3.below hB2⟩)
      have HL2 := Lib.hid hl2
      have hg2' : w.heap.size < g2 := by omega
      clear hc2 hB2 hkp hl2 HJ
      go_wp2_with fail
      go_roundw
      case rel => exact ⟨k + 1, _, by omega, by go_num, H3.out, by rw [Array.size_setIfInBounds]; exact HCS.out, fun j h hjk => by
          have := HCS.out
          by_cases e : j = k
          · subst e
            exact ⟨g2, m, by rw [Array.getElem?_setIfInBounds, if_pos rfl, if_pos (by omega), ← HM.out], hg2', HKP.out _ _ hg2' HL2.out⟩
          · obtain ⟨gj, cj, q1, q2, q3⟩ := HJ2.out j h (by omega)
            exact ⟨gj, cj, by rw [Array.getElem?_setIfInBounds, if_neg (by omega)]; exact q1, q2, HKP.out _ _ q2 q3⟩, H4.out⟩
      case measure => simp [intOf]; omega
    · have hkk : k = nn := by omega
      clear hc hcs hB
      go_wp2_with fail
      go_ret
      refine ⟨HB.out, w.heap.size, rfl, Nat.le_refl _, fun j hj => ?_⟩
      obtain ⟨gj, cj, q1, q2, q3⟩ := HJ.out j hj (by have := HNN.out; omega)
      exact ⟨gj, cj, by rw [Lib.cell_of_heap HCR.out, q1], q3⟩

set_option maxRecDepth 100000 in
set_option maxHeartbeats 1000000 in
theorem eqTermSS_any (yss : List (List (Int × ByteArray))) (n : Nat) (hny : n = yss.length) (g g' ca cb : Nat) (w : World) (hn : n ≤ 1048576) (hz : ∀ j (h : j < yss.length), Small1 yss[j]) (ha : TermsL w g yss) (hb : TermsL w g' yss) :
    Calls Tryz.prog 13 #[.slice (some ⟨g, 0, none⟩) n ca, .slice (some ⟨g', 0, none⟩) n cb] w (Ans (.bool true) w) := by
  have HA := Lib.hid ha
  have HB := Lib.hid hb
  have HNN := Lib.hid hny
  have HZ := Lib.hid hz
  clear ha hb hny hz
  go_enter Tryz.func13, Tryz.ntmps13
  go_wp2_with fail
  go_loopw [5] (fun i wr => ∃ k : Nat, k ≤ n ∧ i = .int .i64 k ∧ Below w.heap.size w wr) (fun i _ => n - (intOf i).toNat)
  case atStart => exact ⟨0, Nat.zero_le _, rfl, Below.refl _ _⟩
  case round =>
    obtain ⟨k, hk, rfl, hB⟩ := hrel
    by_cases hlt : k < n
    · have hlt' : k < yss.length := by rw [← HNN.out]; exact hlt
      obtain ⟨g1, c1, q1, r1⟩ := (HA.out.below hB) k hlt'
      obtain ⟨g2, c2, q2, r2⟩ := (HB.out.below hB) k hlt'
      obtain ⟨m, hm⟩ : ∃ m, m = (yss[k]).length := ⟨_, rfl⟩
      rw [← hm] at q1 q2
      have hsm := (HZ.out k hlt').1
      rw [← hm] at hsm
      have HQ := Lib.hid (fun (W : World) (hb : Below wr.heap.size wr W) => eqTermS_any (yss[k]) m hm g1 g2 c1 c2 W hsm (r1.below hb) (r2.below hb))
      have k0 : (0 : Int) ≤ k := by omega
      clear r1 r2 hm hsm
      go_wp2_with fail
      go_region_with ((go_at_call 24; refine (HQ.out _ (Below.refl _ _).drew).mono ?_; rintro e w1 ⟨rfl, hb1⟩))
      all_goals
        go_wp2_with fail
        exact ⟨⟨k + 1, by omega, by go_num, hB.trans ((Below.refl _ _).drew.trans (hb1.mono hB.size))⟩, by simp [intOf]; omega⟩
    · go_wp2_with fail
      go_ret
      exact ⟨rfl, hB⟩

end Go.Proofs.YtoeebipahifpcaaGreat
end
section
/- The laws' own helpers on lists of terms: marked, held. -/
namespace Go.Proofs.YtoeebipahifpcaaGreat
open Go.RowKit

/-- What the marked row holds from m on. -/
def marksT (m n : Nat) : List (Int × ByteArray) := (List.range n).map fun j => (((m + 2 * j : Nat) : Int), ⟨(mark (m + 2 * j + 1)).toArray⟩)

theorem marksT_length (m n : Nat) : (marksT m n).length = n := by simp [marksT]
theorem marksT_get {m n j : Nat} (h : j < (marksT m n).length) : (marksT m n)[j] = (((m + 2 * j : Nat) : Int), ⟨(mark (m + 2 * j + 1)).toArray⟩) := by simp [marksT]

set_option maxRecDepth 100000 in
set_option maxHeartbeats 1000000 in
theorem markTermS_any (n : Nat) (g cap m : Nat) (cur : Array Value) (w : World) (hn : n ≤ 1048576) (hm : 0 < m) (hm2 : m ≤ 10000000) (hcur : w.heap[g]? = some (.cells cur 73 (0, 0))) (hcs : n * 2 ≤ cur.size) :
    Calls Tryz.prog 33 #[.slice (some ⟨g, 0, none⟩) n cap, .int .i64 m] w fun e w' => e = .returned (.int .i64 (m + 2 * n : Nat)) ∧ w.grownBy w' (some g) ∧ TermL w' g (marksT m n) := by
  have HC := Lib.hid hcur
  clear hcur
  go_enter Tryz.func33, Tryz.ntmps33
  go_wp2_with fail
  go_loopw [1, 5] (fun mv i wr => ∃ (k : Nat) (cr : Array Value), k ≤ n ∧ i = .int .i64 k ∧ mv = .int .i64 (m + 2 * k : Nat) ∧ wr.heap[g]? = some (.cells cr 73 (0, 0)) ∧ n * 2 ≤ cr.size ∧ (∀ j, j < k → cr[j * 2]? = some (.int .i64 (m + 2 * j : Nat)) ∧ cr[j * 2 + 1]? = some (.string ⟨(mark (m + 2 * j + 1)).toArray⟩)) ∧ w.grownBy wr (some g)) (fun _ i _ => n - (intOf i).toNat)
  case atStart => exact ⟨0, cur, Nat.zero_le _, rfl, by simp, HC.out, hcs, fun j h => by omega, grownBy_refl _ _⟩
  case round =>
    obtain ⟨k, cr, hk, rfl, rfl, hc, hcs2, hj, hg⟩ := hrel
    have H1 := Lib.hid hc
    have H2 := Lib.hid hj
    have HG := Lib.hid hg
    have hgl := (Array.getElem?_eq_some_iff.1 hc).1
    by_cases hlt : k < n
    · have hcc : wr.cell? ⟨g, k * 2, none⟩ = some (cr[k * 2]'(by omega)) := by rw [Lib.cell_of_heap hc]; simp
      have hff : wr.frozen? ⟨g, k * 2, none⟩ = false := Lib.frozen_of_heap hc _
      have hh1 := heap_setCell_same (k := k * 2) hc (.int .i64 ((m + 2 * k : Nat) : Int))
      have HH1 := Lib.hid hh1
      have HM := Lib.hid (fun w => markText_any (m + 2 * k + 1) w (by omega) (by omega))
      have hnum : (((m + 2 * k : Nat) : Int)) + 1 = ((m + 2 * k + 1 : Nat) : Int) := by omega
      clear hc hj hg hh1
      go_wp2_with fail
      refine (HM.out _).mono ?_
      rintro e w1 ⟨rfl, hb1⟩
      have hc1 : w1.heap[g]? = some (.cells (cr.setIfInBounds (k * 2) (.int .i64 ((m + 2 * k : Nat) : Int))) 73 (0, 0)) := (hb1.block g (by simpa using hgl)).trans HH1.out
      have hcc1 : w1.cell? ⟨g, k * 2 + 1, none⟩ = some ((cr.setIfInBounds (k * 2) (.int .i64 ((m + 2 * k : Nat) : Int)))[k * 2 + 1]'(by simp; omega)) := by rw [Lib.cell_of_heap hc1, Array.getElem?_eq_getElem]
      have hff1 : w1.frozen? ⟨g, k * 2 + 1, none⟩ = false := Lib.frozen_of_heap hc1 _
      have H3 := Lib.hid (heap_setCell_same (k := k * 2 + 1) hc1 (.string ⟨(mark (m + 2 * k + 1)).toArray⟩))
      have H4 := Lib.hid (grownBy_setCell (k := k * 2 + 1) (grownBy_below (grownBy_setCell (k := k * 2) HG.out (.int .i64 ((m + 2 * k : Nat) : Int))) hb1) (.string ⟨(mark (m + 2 * k + 1)).toArray⟩))
      clear hc1
      go_wp2_with fail
      refine ⟨⟨k + 1, _, by omega, by go_num, by go_num, H3.out, by simpa using hcs2, ?_, H4.out⟩, by simp [intOf]; omega⟩
      intro j hjk
      by_cases hjk2 : j = k
      · subst hjk2
        constructor
        · rw [Array.getElem?_setIfInBounds, if_neg (by omega), Array.getElem?_setIfInBounds, if_pos rfl, if_pos (by omega)]
        · rw [Array.getElem?_setIfInBounds, if_pos rfl, if_pos (by simp; omega)]
      · obtain ⟨q1, q2⟩ := H2.out j (by omega)
        constructor
        · rw [Array.getElem?_setIfInBounds, if_neg (by omega), Array.getElem?_setIfInBounds, if_neg (by omega)]; exact q1
        · rw [Array.getElem?_setIfInBounds, if_neg (by omega), Array.getElem?_setIfInBounds, if_neg (by omega)]; exact q2
    · obtain rfl : k = n := by omega
      clear hc hj hg
      go_wp2_with fail
      go_ret
      refine ⟨rfl, HG.out, fun j hj => ?_⟩
      rw [marksT_length] at hj
      rw [marksT_get]
      obtain ⟨q1, q2⟩ := H2.out j hj
      exact ⟨by rw [Lib.cell_of_heap H1.out, q1], by rw [Lib.cell_of_heap H1.out, q2]⟩

set_option maxRecDepth 100000 in
set_option maxHeartbeats 1000000 in
theorem heldTermS_any (n : Nat) (g cap m : Nat) (w : World) (hn : n ≤ 1048576) (hm : 0 < m) (hm2 : m ≤ 10000000) (hl : TermL w g (marksT m n)) :
    Calls Tryz.prog 34 #[.slice (some ⟨g, 0, none⟩) n cap, .int .i64 m] w (Ans (.int .i64 (m + 2 * n : Nat)) w) := by
  have HL := Lib.hid hl
  clear hl
  go_enter Tryz.func34, Tryz.ntmps34
  go_wp2_with fail
  go_loopw [1, 5] (fun mv i wr => ∃ (k : Nat), k ≤ n ∧ i = .int .i64 k ∧ mv = .int .i64 (m + 2 * k : Nat) ∧ Below w.heap.size w wr) (fun _ i _ => n - (intOf i).toNat)
  case atStart => exact ⟨0, Nat.zero_le _, rfl, by simp, Below.refl _ _⟩
  case round =>
    obtain ⟨k, hk, rfl, rfl, hB⟩ := hrel
    by_cases hlt : k < n
    · obtain ⟨c1, c2⟩ := (HL.out.below hB) k (by rw [marksT_length]; exact hlt)
      rw [marksT_get] at c1 c2
      simp only at c1 c2
      have k0 : (0 : Int) ≤ k := by omega
      have HM : Hid (∀ w, Calls Tryz.prog 32 #[.int .i64 ((m : Int) + 2 * (k : Int) + 1)] w (Ans (.string ⟨(mark (m + 2 * k + 1)).toArray⟩) w)) := Lib.hid (fun w => by
        rw [show (m : Int) + 2 * (k : Int) + 1 = ((m + 2 * k + 1 : Nat) : Int) by omega]
        exact markText_any (m + 2 * k + 1) w (by omega) (by omega))
      have c2' : wr.drew.cell? ⟨g, k * 2 + 1, none⟩ = some (.string ⟨(mark (m + 2 * k + 1)).toArray⟩) := c2
      go_wp2_with fail
      go_region_with ((go_at_call 32; refine (HM.out _).mono ?_; rintro e w1 ⟨rfl, hb1⟩; have x1 := keep1 (w := wr.drew) hb1 c2'))
      all_goals
        go_wp2_with fail
        exact ⟨⟨k + 1, by omega, by go_num, by go_num, hB.trans ((Below.refl _ _).drew.trans (hb1.mono hB.size))⟩, by simp [intOf]; omega⟩
    · obtain rfl : k = n := by omega
      go_wp2_with fail
      go_ret
      exact ⟨rfl, hB⟩

end Go.Proofs.YtoeebipahifpcaaGreat
end
section
/- Lists of lists of terms: their size by its sum, copies whose blocks are known, marked, held. -/
namespace Go.Proofs.YtoeebipahifpcaaGreat
open Go.RowKit

/-- How long the first k lists are, all in all. -/
def lensTo (yss : List (List (Int × ByteArray))) : Nat → Nat
  | 0 => 0
  | k + 1 => lensTo yss k + (yss.getD k []).length
theorem lensTo_next {yss : List (List (Int × ByteArray))} {k : Nat} (h : k < yss.length) : lensTo yss (k + 1) = lensTo yss k + (yss[k]).length := by
  rw [lensTo, List.getD_eq_getElem?_getD, List.getElem?_eq_getElem h]; rfl
theorem lensTo_mono (yss : List (List (Int × ByteArray))) : ∀ {k n : Nat}, k ≤ n → lensTo yss k ≤ lensTo yss n := by
  intro k n h
  induction n with
  | zero => rw [show k = 0 by omega]; exact Nat.le_refl _
  | succ n ih =>
    by_cases e : k = n + 1
    · rw [e]; exact Nat.le_refl _
    · have := ih (by omega)
      rw [lensTo]; omega

def SzTermM (ys : List (Int × ByteArray)) (l0 : Int) (w : World) (e : Ending) (w' : World) : Prop :=
  Below w.heap.size w w' ∧ ∃ v : Int, e = .returned (.int .i64 v) ∧ (v < 0 ∨ (0 ≤ v ∧ v + (ys.length : Int) ≤ l0 ∧ ys.length ≤ 1048576 ∧ ∀ j (h : j < ys.length), (ys[j]).2.size ≤ 1048576))
def SzTermsM (yss : List (List (Int × ByteArray))) (w : World) (e : Ending) (w' : World) : Prop :=
  Below w.heap.size w w' ∧ ∃ v : Int, e = .returned (.int .i64 v) ∧ (v < 0 ∨ (0 ≤ v ∧ v ≤ 1048576 ∧ yss.length ≤ 1048576 ∧ (∀ j (h : j < yss.length), Small1 yss[j]) ∧ lensTo yss yss.length ≤ 1048576))

set_option maxRecDepth 100000 in
set_option maxHeartbeats 1000000 in
theorem szTermS_sum (ys : List (Int × ByteArray)) (a : Option Addr) (cap : Nat) (l0 : Int) (w : World) (hl0 : 0 ≤ l0) (hl1 : l0 ≤ 1048576) (hn : ys.length ≤ 9223372036854775807) (hz : ∀ j (h : j < ys.length), (ys[j]).2.size ≤ 9223372036854775807) (hl : TermO w a ys) :
    Calls Tryz.prog 20 #[.slice a ys.length cap, .int .i64 l0] w (SzTermM ys l0 w) := by
  have HL := Lib.hid hl
  have HZ := Lib.hid hz
  clear hl hz
  by_cases hlen : (ys.length : Int) ≤ l0
  · go_enter Tryz.func20, Tryz.ntmps20
    go_wp2_with fail
    go_loopw [1, 5] (fun lv iv wr => ∃ (k : Nat) (l : Int), k ≤ ys.length ∧ iv = .int .i64 k ∧ lv = .int .i64 l ∧ 0 ≤ l ∧ l + (ys.length : Int) ≤ l0 ∧ (∀ j (h : j < ys.length), j < k → (ys[j]).2.size ≤ 1048576) ∧ Below w.heap.size w wr) (fun _ iv _ => ys.length - (intOf iv).toNat)
    case atStart => exact ⟨0, l0 - (ys.length : Int), Nat.zero_le _, rfl, by first | rfl | go_num, by omega, by omega, fun j _ h => by omega, Below.refl _ _⟩
    case round =>
      obtain ⟨k, l, hk, rfl, rfl, hb0, hb1, hj, hB⟩ := hrel
      have HJ := Lib.hid hj
      clear hj
      by_cases hlt : k < ys.length
      · obtain ⟨b, off, rfl, hc, hd⟩ := (HL.out.below hB) k hlt
        have hsz : (ys[k]).2.size ≤ 9223372036854775807 := HZ.out k hlt
        have HSZ := szTerm_any (ys[k]) l wr hb0 (by omega) (by omega)
        have HB := Lib.hid hB
        clear hsz hB
        by_cases h0 : ((ys[k]).2.size : Int) ≤ l
        · rw [if_pos h0] at HSZ
          obtain ⟨l', hl'⟩ : ∃ l', l' = l - ((ys[k]).2.size : Int) := ⟨_, rfl⟩
          have HE := Lib.hid hl'
          rw [← hl'] at HSZ
          have HS := Lib.hid HSZ
          have hb3 : 0 ≤ l' := by omega
          have hb2 : l' + (ys.length : Int) ≤ l0 := by omega
          have HK : Hid ((ys[k]).2.size ≤ 1048576) := Lib.hid (by omega)
          clear h0 hl' HSZ
          go_wp2_with fail
          refine HS.out.mono ?_
          rintro e w1 ⟨hB1, rfl⟩
          have HB1 := Lib.hid (below_step HB.out hB1)
          clear hB1
          go_wp2_with fail
          go_roundw
          case rel => exact ⟨k + 1, l', by omega, by go_num, rfl, hb3, hb2, fun j h hjk => by
              by_cases e : j = k
              · subst e; exact HK.out
              · exact HJ.out j h (by omega), HB1.out⟩
          case measure => simp [intOf]; omega
        · rw [if_neg h0] at HSZ
          have HS := Lib.hid HSZ
          clear h0 HSZ
          go_wp2_with fail
          refine HS.out.mono ?_
          rintro e w1 ⟨hB1, rfl⟩
          have HB1 := Lib.hid (below_step HB.out hB1)
          clear hB1
          go_wp2_with fail
          go_ret
          exact ⟨HB1.out, -1, rfl, .inl (by omega)⟩
      · have hkk : k = ys.length := by omega
        go_wp2_with fail
        go_ret
        exact ⟨hB, l, rfl, .inr ⟨hb0, hb1, by omega, fun j h => HJ.out j h (by omega)⟩⟩
  · go_enter Tryz.func20, Tryz.ntmps20
    go_wp2_with fail
    go_ret
    exact ⟨Below.refl _ _, -1, rfl, .inl (by omega)⟩

set_option maxRecDepth 100000 in
set_option maxHeartbeats 1000000 in
theorem szTermSS_sum (yss : List (List (Int × ByteArray))) (a : Option Addr) (cap : Nat) (l0 : Int) (w : World) (hl0 : 0 ≤ l0) (hl1 : l0 ≤ 1048576) (hn : yss.length ≤ 9223372036854775807) (hz : ∀ j (h : j < yss.length), Open1 yss[j]) (hl : TermsO w a yss) :
    Calls Tryz.prog 8 #[.slice a yss.length cap, .int .i64 l0] w (SzTermsM yss w) := by
  have HL := Lib.hid hl
  have HZ := Lib.hid hz
  clear hl hz
  by_cases hlen : (yss.length : Int) ≤ l0
  · go_enter Tryz.func8, Tryz.ntmps8
    go_wp2_with fail
    go_loopw [1, 5] (fun lv iv wr => ∃ (k : Nat) (l : Int), k ≤ yss.length ∧ iv = .int .i64 k ∧ lv = .int .i64 l ∧ 0 ≤ l ∧ l + (lensTo yss k : Int) ≤ 1048576 ∧ (∀ j (h : j < yss.length), j < k → Small1 yss[j]) ∧ Below w.heap.size w wr) (fun _ iv _ => yss.length - (intOf iv).toNat)
    case atStart => exact ⟨0, l0 - (yss.length : Int), Nat.zero_le _, rfl, by first | rfl | go_num, by omega, by simp only [lensTo]; omega, fun j _ h => by omega, Below.refl _ _⟩
    case round =>
      obtain ⟨k, l, hk, rfl, rfl, hb0, hb1, hj, hB⟩ := hrel
      have HJ := Lib.hid hj
      clear hj
      by_cases hlt : k < yss.length
      · obtain ⟨b, off, aj, cj, rfl, hc, hd⟩ := (HL.out.below hB) k hlt
        obtain ⟨m, hm⟩ : ∃ m, m = (yss[k]).length := ⟨_, rfl⟩
        have hop := HZ.out k hlt
        have HSZ := Lib.hid (szTermS_sum (yss[k]) aj cj l wr hb0 (by omega) hop.2.2 hop.1 hd)
        have HB := Lib.hid hB
        rw [← hm] at hc HSZ
        have HM := Lib.hid hm
        clear hB hop hd hm
        go_wp2_with fail
        refine HSZ.out.mono ?_
        rintro e w1 ⟨hB1, v, rfl, hv⟩
        have HB1 := Lib.hid (below_step HB.out hB1)
        clear hB1
        rcases hv with hv | ⟨h0, h1, h2, h3⟩
        · go_wp2_with fail
          go_ret
          exact ⟨HB1.out, -1, rfl, .inl (by omega)⟩
        · have HK : Hid (Small1 yss[k]) := Lib.hid ⟨h2, h3⟩
          clear h2 h3
          go_wp2_with fail
          go_roundw
          case rel => exact ⟨k + 1, v, by omega, by go_num, rfl, h0, by rw [lensTo_next hlt]; omega, fun j h hjk => by
              by_cases e : j = k
              · subst e; exact HK.out
              · exact HJ.out j h (by omega), HB1.out⟩
          case measure => simp [intOf]; omega
      · have hkk : k = yss.length := by omega
        go_wp2_with fail
        go_ret
        exact ⟨hB, l, rfl, .inr ⟨hb0, by omega, by omega, fun j h => HJ.out j h (by omega), by rw [← hkk]; omega⟩⟩
  · go_enter Tryz.func8, Tryz.ntmps8
    go_wp2_with fail
    go_ret
    exact ⟨Below.refl _ _, -1, rfl, .inl (by omega)⟩

/-- A row of lists of terms, each in a block of its own that is known whole. -/
structure SumsW (B : Nat) (w : World) (va : Option Addr) (vc : Nat) (xss : List (List (Int × ByteArray))) (gb : Nat → Nat) (vs : List Value) : Prop where
  own : w.ownsRow B 38 1 (.slice va xss.length vc) xss.length vs
  row : ∀ j (h : j < xss.length), (∃ c, vs[j]? = some (.slice (some ⟨gb j, 0, none⟩) (xss[j]).length c)) ∧ B ≤ gb j ∧ (Value.slice va xss.length vc).ownBlock ≠ some (gb j) ∧ (∃ cur, w.heap[gb j]? = some (.cells cur 73 (0, 0)) ∧ (xss[j]).length * 2 ≤ cur.size) ∧ TermL w (gb j) xss[j] ∧ ∀ i, i < j → gb i ≠ gb j

theorem TermL.block {w w' : World} {g : Nat} {xs : List (Int × ByteArray)} (h : TermL w g xs) (hb : w'.heap[g]? = w.heap[g]?) : TermL w' g xs := fun j hj => by
  obtain ⟨q1, q2⟩ := h j hj
  exact ⟨(World.cell?_of_block (w := w) hb).trans q1, (World.cell?_of_block (w := w) hb).trans q2⟩

theorem SumsW.step {B : Nat} {w w' : World} {va : Option Addr} {vc : Nat} {xss : List (List (Int × ByteArray))} {gb : Nat → Nat} {vs : List Value} (h : SumsW B w va vc xss gb vs) (hb : Below w.heap.size w w') : SumsW B w' va vc xss gb vs :=
  ⟨owns_below h.own hb, fun j hj => by
    obtain ⟨h1, h2, h3, ⟨cur, h4, h5⟩, h6, h7⟩ := h.row j hj
    have hl := (Array.getElem?_eq_some_iff.1 h4).1
    exact ⟨h1, h2, h3, ⟨cur, (hb.block _ hl).trans h4, h5⟩, h6.below hb, h7⟩⟩

theorem SumsW.next {B : Nat} {w w1 w2 : World} {va : Option Addr} {vc n : Nat} {xss : List (List (Int × ByteArray))} {gb : Nat → Nat} {vs : List Value} {xs : List (Int × ByteArray)} {g1 c1 g3 c3 : Nat} (hn : n = xss.length) (h : SumsW B w va vc xss gb vs) (hb : Below w.heap.size w w1)
    (hBw : B ≤ w.heap.size) (hg1 : w.heap.size ≤ g1) (hc : ∃ cur, w1.heap[g1]? = some (.cells cur 73 (0, 0)) ∧ xs.length * 2 ≤ cur.size) (ht : TermL w1 g1 xs) (o : Obj)
    (hown : w2.ownsRow B 38 1 (.slice (some ⟨g3, 0, none⟩) (n + 1) c3) (n + 1) (vs ++ [.slice (some ⟨g1, 0, none⟩) xs.length c1])) (hg : (w1.alloc o).grownBy w2 (Value.slice va n vc).ownBlock)
    (hf : some g3 = (Value.slice va n vc).ownBlock ∨ g3 = (w1.alloc o).heap.size) : SumsW B w2 (some ⟨g3, 0, none⟩) c3 (xss ++ [xs]) (fun j => if j = n then g1 else gb j) (vs ++ [.slice (some ⟨g1, 0, none⟩) xs.length c1]) := by
  subst hn
  have hs1 := hb.size
  have hvl : vs.length = xss.length := by have := h.own.1; omega
  have hol : ∀ b, (Value.slice va xss.length vc).ownBlock = some b → b < w.heap.size := fun b e => (h.own.lt b e).2
  have hos : (w1.alloc o).heap.size = w1.heap.size + 1 := by simp
  obtain ⟨cur1, hc1, hc2⟩ := hc
  have hg1l := (Array.getElem?_eq_some_iff.1 hc1).1
  have hkeep : ∀ b, b < w1.heap.size → (Value.slice va xss.length vc).ownBlock ≠ some b → w2.heap[b]? = w1.heap[b]? := fun b hbl hne => by
    rw [hg.block b (by omega) (fun e => hne e.symm), Below.heap_alloc _ _ _ hbl]
  have hg3 : ∀ b, b < w1.heap.size → (Value.slice va xss.length vc).ownBlock ≠ some b → (Value.slice (some ⟨g3, 0, none⟩) (xss.length + 1) c3).ownBlock ≠ some b := fun b hbl hne e => by
    have e2 : g3 = b := by simpa [Value.ownBlock] using e
    rcases hf with hf | hf
    · rw [← hf, e2] at hne; exact hne rfl
    · omega
  have hne1 : (Value.slice va xss.length vc).ownBlock ≠ some g1 := fun e => by have := hol g1 e; omega
  refine ⟨by rw [List.length_append]; exact hown, fun j hj => ?_⟩
  by_cases e : j < xss.length
  · obtain ⟨⟨c, h1⟩, h2, h3, ⟨cur, h4, h5⟩, h6, h7⟩ := h.row j e
    have hl := (Array.getElem?_eq_some_iff.1 h4).1
    have hk : w2.heap[gb j]? = w.heap[gb j]? := (hkeep _ (by omega) h3).trans (hb.block _ hl)
    rw [List.getElem_append_left e]
    simp only [if_neg (show ¬ j = xss.length by omega)]
    refine ⟨⟨c, by rw [List.getElem?_append_left (by omega)]; exact h1⟩, h2, ?_, ⟨cur, hk.trans h4, h5⟩, h6.block hk, fun i hi => ?_⟩
    · rw [List.length_append]; exact hg3 _ (by omega) h3
    · simp only [if_neg (show ¬ i = xss.length by omega)]; exact h7 i hi
  · have hjn : j = xss.length := by rw [List.length_append] at hj; simp at hj; omega
    subst hjn
    rw [List.getElem_append_right (Nat.le_refl _)]
    simp only [if_true, Nat.sub_self, List.getElem_cons_zero]
    refine ⟨⟨c1, by rw [List.getElem?_append_right (by omega), hvl, Nat.sub_self]; rfl⟩, by omega, ?_, ⟨cur1, (hkeep _ hg1l hne1).trans hc1, hc2⟩, ht.block (hkeep _ hg1l hne1), fun i hi => ?_⟩
    · rw [List.length_append]; exact hg3 _ hg1l hne1
    · simp only [if_neg (show ¬ i = xss.length by omega)]
      obtain ⟨_, _, _, ⟨cur, h4, _⟩, _, _⟩ := h.row i hi
      have hl := (Array.getElem?_eq_some_iff.1 h4).1
      omega

theorem SumsW.mono {B B' : Nat} {w : World} {va : Option Addr} {vc : Nat} {xss : List (List (Int × ByteArray))} {gb : Nat → Nat} {vs : List Value} (h : SumsW B w va vc xss gb vs) (hB : B' ≤ B) : SumsW B' w va vc xss gb vs :=
  ⟨⟨h.own.1, h.own.2.imp id (fun ⟨g, cap, cur, e, hb, r⟩ => ⟨g, cap, cur, e, Nat.le_trans hB hb, r⟩)⟩, fun j hj => by
    obtain ⟨h1, h2, h3⟩ := h.row j hj
    exact ⟨h1, by omega, h3⟩⟩

/-- What is in the lists is in new memory, each in a block of its own. -/
def CopySums (yss : List (List (Int × ByteArray))) (n : Nat) (w : World) (e : Ending) (w' : World) : Prop :=
  Below w.heap.size w w' ∧ ∃ g gb vs, e = .returned (.slice (some ⟨g, 0, none⟩) n n) ∧ SumsW w.heap.size w' (some ⟨g, 0, none⟩) n yss gb vs

theorem SumsW.lists {B : Nat} {w : World} {g vc : Nat} {xss : List (List (Int × ByteArray))} {gb : Nat → Nat} {vs : List Value} (h : SumsW B w (some ⟨g, 0, none⟩) vc xss gb vs) : TermsL w g xss := fun j hj => by
  obtain ⟨⟨c, h1⟩, _, _, _, h6, _⟩ := h.row j hj
  have h5 := h.own.cells (g := g) rfl j _ h1
  have ha : (⟨g, 0, none⟩ : Addr).add j = ⟨g, j, none⟩ := by unfold Addr.add; split <;> simp_all
  rw [ha] at h5
  exact ⟨gb j, c, h5, h6⟩

theorem toTm_blk {ys : List (Int × ByteArray)} {a : Option Addr} {cap n : Nat} (hnn : n = ys.length) (hn2 : ys.length ≤ 1048576) (w : World) (hh : TermO w a ys) :
    Calls Tryz.prog 22 #[.slice a n cap] w (CopyTermB ys n w) := by
  subst hnn
  exact toTermS_blk ys a cap w hn2 hh

set_option maxRecDepth 100000 in
set_option maxHeartbeats 1000000 in
theorem toTermSS_blk (yss : List (List (Int × ByteArray))) (nn : Nat) (hnn : nn = yss.length) (a : Option Addr) (cap : Nat) (w : World) (hn : nn ≤ 1048576) (hz : ∀ j (h : j < yss.length), Small1 yss[j]) (hl : TermsO w a yss) :
    Calls Tryz.prog 11 #[.slice a nn cap] w (CopySums yss nn w) := by
  obtain ⟨i0, hi0, hz0, hzs, hzb⟩ := info_parts infoTermSS
  have HL := Lib.hid hl
  have HZ := Lib.hid hz
  have HNN := Lib.hid hnn
  clear hl hnn hz
  go_enter Tryz.func11, Tryz.ntmps11
  go_wp2_with (at_make; refine wpList_make_full _ rfl _ _ 26 rfl w.heap.size 38 i0 (.slice none 0 0) 1 Tryz.underlying26 hi0 hz0 hzs .i64 .i64 _ _ nn rfl rfl rfl rfl ?c1 ?c2 (Nat.le_refl _) ?_)
  case c1 => rw [hzb]; omega
  case c2 => unfold maxLen; omega
  intro w1 hown hg
  have hcur : ∃ cur : Array Value, w1.heap[w.heap.size]? = some (.cells cur 38 (0, 0)) ∧ cur.size = nn := by
    rcases hown.2 with ⟨e, _⟩ | ⟨G, cap', cur, e, _, hG, hnc, hcm, hcs, htake⟩
    · simp at e
    · simp only [Value.slice.injEq, Option.some.injEq, Addr.mk.injEq] at e
      obtain ⟨⟨rfl, _⟩, _, rfl⟩ := e
      exact ⟨cur, hG, by omega⟩
  have hB1 : Below w.heap.size w w1 := (Below.refl _ _).grown hg (by omega) (fun k e => by cases e)
  have HC := Lib.hid hcur
  have HB1 := Lib.hid hB1
  clear hcur hown hg hB1
  go_wp2_with fail
  go_loopw [4] (fun iv wr => ∃ (k : Nat) (cr : Array Value) (gb : Nat → Nat), k ≤ nn ∧ iv = .int .i64 k ∧ wr.heap[w.heap.size]? = some (.cells cr 38 (0, 0)) ∧ cr.size = nn ∧ (∀ j (h : j < yss.length), j < k → (∃ cj, cr[j]? = some (.slice (some ⟨gb j, 0, none⟩) (yss[j]).length cj)) ∧ w.heap.size < gb j ∧ (∃ cur, wr.heap[gb j]? = some (.cells cur 73 (0, 0)) ∧ (yss[j]).length * 2 ≤ cur.size) ∧ TermL wr (gb j) yss[j] ∧ ∀ i, i < j → gb i ≠ gb j) ∧ Below w.heap.size w wr) (fun iv _ => nn - (intOf iv).toNat)
  case atStart =>
    obtain ⟨cur, h1, h2⟩ := HC.out
    exact ⟨0, cur, fun _ => 0, Nat.zero_le _, rfl, h1, h2, fun j _ h => by omega, HB1.out⟩
  case round =>
    obtain ⟨k, cr, gb, hk, rfl, hc, hcs, hj, hB⟩ := hrel
    have HJ := Lib.hid hj
    have HCR := Lib.hid hc
    have HCS := Lib.hid hcs
    have HB := Lib.hid hB
    clear hj
    by_cases hlt : k < nn
    · have hlt' : k < yss.length := by rw [← HNN.out]; exact hlt
      obtain ⟨b, off, aj, cj, rfl, hcc, hcd⟩ := (HL.out.below hB) k hlt'
      have hsm := HZ.out k hlt'
      obtain ⟨m, hm⟩ : ∃ m, m = (yss[k]).length := ⟨_, rfl⟩
      have HS := Lib.hid (toTm_blk (cap := cj) hm hsm.1 wr hcd)
      rw [← hm] at hcc
      have HM := Lib.hid hm
      have hlw : w.heap.size < wr.heap.size := (Array.getElem?_eq_some_iff.1 hc).1
      clear hc hcs hB hcd hsm hm
      go_wp2_with fail
      refine HS.out.mono ?_
      rintro e w2 ⟨hB2, g2, rfl, hg2, hl2, hcur2⟩
      have hs2 := hB2.size
      have hc2 : w2.heap[w.heap.size]? = some (.cells cr 38 (0, 0)) := (hB2.block _ hlw).trans HCR.out
      have hck : w2.cell? ⟨w.heap.size, k, none⟩ = some (cr[k]'(by rw [HCS.out]; omega)) := by rw [Lib.cell_of_heap hc2]; simp
      have hff : w2.frozen? ⟨w.heap.size, k, none⟩ = false := Lib.frozen_of_heap hc2 _
      have H3 := Lib.hid (heap_setCell_same (k := k) hc2 (.slice (some ⟨g2, 0, none⟩) m m))
      have H4 := Lib.hid ((below_step HB.out hB2).setCell (p := ⟨w.heap.size, k, none⟩) (by simp) (.slice (some ⟨g2, 0, none⟩) m m))
      have HKP : Hid (∀ gj : Nat, w.heap.size < gj → (w2.setCell ⟨w.heap.size, k, none⟩ (.slice (some ⟨g2, 0, none⟩) m m)).heap[gj]? = w2.heap[gj]?) := Lib.hid (fun gj hgj => Below.heap_setCell _ _ _ _ (show gj ≠ w.heap.size by omega))
      have HJ2 : Hid (∀ j (h : j < yss.length), j < k → (∃ cj, cr[j]? = some (.slice (some ⟨gb j, 0, none⟩) (yss[j]).length cj)) ∧ w.heap.size < gb j ∧ gb j < wr.heap.size ∧ (∃ cur, w2.heap[gb j]? = some (.cells cur 73 (0, 0)) ∧ (yss[j]).length * 2 ≤ cur.size) ∧ TermL w2 (gb j) yss[j] ∧ ∀ i, i < j → gb i ≠ gb j) := Lib.hid (fun j h hjk => by
        obtain ⟨q1, q2, ⟨cur, q3, q4⟩, q5, q6⟩ := HJ.out j h hjk
        have hl := (Array.getElem?_eq_some_iff.1 q3).1
        exact ⟨q1, q2, hl, ⟨cur, (hB2.block _ hl).trans q3, q4⟩, q5.below hB2, q6⟩)
      have HL2 := Lib.hid hl2
      have HCU := Lib.hid hcur2
      have HG2 := Lib.hid hg2
      have hg2' : w.heap.size < g2 := by omega
      clear hc2 hB2 hl2 HJ hcur2 hg2
      go_wp2_with fail
      go_roundw
      case rel => exact ⟨k + 1, _, fun j => if j = k then g2 else gb j, by omega, by go_num, H3.out, by rw [Array.size_setIfInBounds]; exact HCS.out, fun j h hjk => by
          have hcs := HCS.out
          have hg2 := HG2.out
          by_cases e : j = k
          · subst e
            obtain ⟨cur, q1, q2⟩ := HCU.out
            simp only [if_true]
            refine ⟨⟨m, by rw [Array.getElem?_setIfInBounds, if_pos rfl, if_pos (by omega), ← HM.out]⟩, hg2', ⟨cur, (HKP.out g2 hg2').trans q1, by rw [← HM.out]; exact q2⟩, HL2.out.block (HKP.out g2 hg2'), fun i hi => ?_⟩
            rw [if_neg (by omega)]
            have := (HJ2.out i (by omega) hi).2.2.1
            omega
          · obtain ⟨⟨cj, q1⟩, q2, _, ⟨cur, q3, q4⟩, q5, q6⟩ := HJ2.out j h (by omega)
            simp only [if_neg e]
            refine ⟨⟨cj, by rw [Array.getElem?_setIfInBounds, if_neg (by omega)]; exact q1⟩, q2, ⟨cur, (HKP.out _ q2).trans q3, q4⟩, q5.block (HKP.out _ q2), fun i hi => ?_⟩
            rw [if_neg (by omega)]
            exact q6 i hi, H4.out⟩
      case measure => simp [intOf]; omega
    · have hkk : k = nn := by omega
      have hlc : (cr.toList).length = nn := by rw [Array.length_toList, HCS.out]
      clear hc hcs hB
      go_wp2_with fail
      go_ret
      refine ⟨HB.out, w.heap.size, gb, cr.toList, rfl, ⟨⟨by rw [hlc, HNN.out]; omega, .inr ⟨w.heap.size, nn, cr, by rw [← HNN.out], Nat.le_refl _, HCR.out, by rw [← HNN.out]; exact Nat.le_refl _, by unfold maxLen; omega, by rw [HCS.out]; omega, by rw [← HNN.out, Nat.mul_one]; exact List.take_of_length_le (by omega)⟩⟩, fun j hj => ?_⟩⟩
      obtain ⟨⟨cj, q1⟩, q2, q3, q4, q5⟩ := HJ.out j hj (by have := HNN.out; omega)
      exact ⟨⟨cj, by rw [Array.getElem?_toList]; exact q1⟩, by omega, fun e => by
        have : w.heap.size = gb j := by simpa [Value.ownBlock] using e
        omega, q3, q4, q5⟩

/-- Lists of lists of terms are marked: what they hold, and what is as before. -/
def MarkedS (B g : Nat) (xss : List (List (Int × ByteArray))) (gb : Nat → Nat) (m : Nat) (w : World) (e : Ending) (w' : World) : Prop :=
  e = .returned (.int .i64 (m + 2 * lensTo xss xss.length : Nat)) ∧ Below B w w' ∧ (∀ b, b < w.heap.size → (∀ j, j < xss.length → gb j ≠ b) → w'.heap[b]? = w.heap[b]?) ∧
    ∀ j (h : j < xss.length), (∃ c, w'.cell? ⟨g, j, none⟩ = some (.slice (some ⟨gb j, 0, none⟩) (xss[j]).length c)) ∧ TermL w' (gb j) (marksT (m + 2 * lensTo xss j) (xss[j]).length)

set_option maxRecDepth 100000 in
set_option maxHeartbeats 1000000 in
theorem markTermSS_any (xss : List (List (Int × ByteArray))) (n : Nat) (hnx : n = xss.length) (B g vc m : Nat) (gb : Nat → Nat) (vs : List Value) (w : World) (hBw : B ≤ w.heap.size) (hn : n ≤ 1048576) (hm : 0 < m) (hm1 : lensTo xss xss.length ≤ 1048576) (hm2 : m + 2 * lensTo xss xss.length ≤ 10000000) (hs : SumsW B w (some ⟨g, 0, none⟩) vc xss gb vs) :
    Calls Tryz.prog 16 #[.slice (some ⟨g, 0, none⟩) n vc, .int .i64 m] w (MarkedS B g xss gb m w) := by
  have HSW := Lib.hid hs
  have HNN := Lib.hid hnx
  have HHD : Hid (∀ j (h : j < xss.length), ∃ c, w.cell? ⟨g, j, none⟩ = some (.slice (some ⟨gb j, 0, none⟩) (xss[j]).length c)) := Lib.hid (fun j hj => by
    obtain ⟨⟨c, h1⟩, _⟩ := hs.row j hj
    have h5 := hs.own.cells (g := g) rfl j _ h1
    have ha : (⟨g, 0, none⟩ : Addr).add j = ⟨g, j, none⟩ := by unfold Addr.add; split <;> simp_all
    rw [ha] at h5
    exact ⟨c, h5⟩)
  have HGN : Hid (∀ j, j < xss.length → gb j ≠ g) := Lib.hid (fun j hj e => by
    obtain ⟨_, _, h3, _⟩ := hs.row j hj
    exact h3 (by rw [e]; rfl))
  have HGL : Hid (∀ j, j < xss.length → gb j < w.heap.size) := Lib.hid (fun j hj => by
    obtain ⟨_, _, _, ⟨cur, h4, _⟩, _⟩ := hs.row j hj
    exact (Array.getElem?_eq_some_iff.1 h4).1)
  have HMB := Lib.hid hm2
  have HMA := Lib.hid hm1
  clear hs hnx hm2 hm1
  go_enter Tryz.func16, Tryz.ntmps16
  go_wp2_with fail
  go_loopw [1, 5] (fun mv iv wr => ∃ k : Nat, k ≤ n ∧ iv = .int .i64 k ∧ mv = .int .i64 (m + 2 * lensTo xss k : Nat) ∧ Below B w wr ∧ (∀ b, b < w.heap.size → (∀ j, j < k → gb j ≠ b) → wr.heap[b]? = w.heap[b]?) ∧ ∀ j (h : j < xss.length), j < k → TermL wr (gb j) (marksT (m + 2 * lensTo xss j) (xss[j]).length)) (fun _ iv _ => n - (intOf iv).toNat)
  case atStart => exact ⟨0, Nat.zero_le _, rfl, by simp [lensTo], Below.refl _ _, fun _ _ _ => rfl, fun j _ h => by omega⟩
  case round =>
    obtain ⟨k, hk, rfl, rfl, hB, hsame, hmk⟩ := hrel
    have HB := Lib.hid hB
    have HSM := Lib.hid hsame
    have HMK := Lib.hid hmk
    have hsz : w.heap.size ≤ wr.heap.size := by
      rcases Nat.lt_or_ge wr.heap.size w.heap.size with h | h
      · have hb := hB.size
        omega
      · exact h
    clear hB hsame hmk
    by_cases hlt : k < n
    · have hltx : k < xss.length := by rw [← HNN.out]; exact hlt
      obtain ⟨c, hc⟩ := HHD.out k hltx
      obtain ⟨_, hBg, _, ⟨cur, h4, h5⟩, _, h7⟩ := HSW.out.row k hltx
      have hgl : g < w.heap.size := by have := World.block_lt_of_cell? w _ hc; exact this
      have hc' : wr.cell? ⟨g, k, none⟩ = some (.slice (some ⟨gb k, 0, none⟩) (xss[k]).length c) := (World.cell?_of_block (w := w) (HSM.out g hgl (fun j hj => HGN.out j (by omega)))).trans hc
      have h4' := (HSM.out (gb k) (HGL.out k hltx) (fun j hj => h7 j hj)).trans h4
      have hle := lensTo_mono xss (show k + 1 ≤ xss.length by omega)
      rw [lensTo_next hltx] at hle
      have hmb := HMB.out
      have hma := HMA.out
      obtain ⟨q, hq⟩ : ∃ q, q = (xss[k]).length := ⟨_, rfl⟩
      rw [← hq] at hc' h5 hle
      obtain ⟨p, hp⟩ : ∃ p, p = m + 2 * lensTo xss k := ⟨_, rfl⟩
      have HMS := Lib.hid (markTermS_any q (gb k) c p cur wr (by omega) (by omega) (by omega) h4' h5)
      have HQ := Lib.hid hq
      have HP := Lib.hid hp
      have H7 := Lib.hid h7
      rw [← hp]
      have k0 : (0 : Int) ≤ (k : Int) := by omega
      clear hc h4 h4' h5 h7 hle hmb hma hq hp
      go_wp2_with fail
      refine HMS.out.mono ?_
      rintro e w2 ⟨rfl, hgr, htl⟩
      have HGR := Lib.hid hgr
      have HTL := Lib.hid htl
      have HE : Hid (p + 2 * q = m + 2 * lensTo xss (k + 1)) := Lib.hid (by rw [HP.out, lensTo_next hltx, HQ.out]; omega)
      clear hgr htl
      go_wp2_with fail
      go_roundw
      case rel =>
        refine ⟨k + 1, by omega, by go_num, by rw [← HE.out]; first | rfl | go_num, HB.out.grown HGR.out (by have := HB.out.size; omega) (fun b e => by simp only [Option.some.injEq] at e; omega), fun b hb hne => ?_, fun j hj hjk => ?_⟩
        · rw [HGR.out.block b (by omega) (fun e => by simp only [Option.some.injEq] at e; exact hne k (by omega) e.symm)]
          exact HSM.out b hb (fun j hj => hne j (by omega))
        · by_cases e : j = k
          · subst e
            rw [← HP.out, ← HQ.out]; exact HTL.out
          · exact (HMK.out j hj (by omega)).block (HGR.out.block _ (by have := HGL.out j hj; omega) (fun e' => by simp only [Option.some.injEq] at e'; exact H7.out j (by omega) e'))
      case measure => simp [intOf]; omega
    · have hkn : k = n := by omega
      have HKN : Hid (k = xss.length) := Lib.hid (by rw [hkn, HNN.out])
      clear hkn
      go_wp2_with fail
      go_ret
      refine ⟨by rw [HKN.out]; rfl, HB.out, fun b hb hne => HSM.out b hb (fun j hj => hne j (by have := HKN.out; omega)), fun j hj => ⟨?_, HMK.out j hj (by have := HKN.out; omega)⟩⟩
      obtain ⟨c, hc⟩ := HHD.out j hj
      have hgl : g < w.heap.size := by have := World.block_lt_of_cell? w _ hc; exact this
      exact ⟨c, (World.cell?_of_block (w := w) (HSM.out g hgl (fun i hi => HGN.out i (by have := HKN.out; omega)))).trans hc⟩

set_option maxRecDepth 100000 in
set_option maxHeartbeats 1000000 in
theorem heldTermSS_any (xss : List (List (Int × ByteArray))) (n : Nat) (hnx : n = xss.length) (g vc m : Nat) (gb : Nat → Nat) (w : World) (hn : n ≤ 1048576) (hm : 0 < m) (hm1 : lensTo xss xss.length ≤ 1048576) (hm2 : m + 2 * lensTo xss xss.length ≤ 10000000)
    (hs : ∀ j (h : j < xss.length), (∃ c, w.cell? ⟨g, j, none⟩ = some (.slice (some ⟨gb j, 0, none⟩) (xss[j]).length c)) ∧ TermL w (gb j) (marksT (m + 2 * lensTo xss j) (xss[j]).length)) :
    Calls Tryz.prog 17 #[.slice (some ⟨g, 0, none⟩) n vc, .int .i64 m] w (Ans (.int .i64 (m + 2 * lensTo xss xss.length : Nat)) w) := by
  have HSW := Lib.hid hs
  have HNN := Lib.hid hnx
  have HMB := Lib.hid hm2
  have HMA := Lib.hid hm1
  clear hs hnx hm2 hm1
  go_enter Tryz.func17, Tryz.ntmps17
  go_wp2_with fail
  go_loopw [1, 5] (fun mv iv wr => ∃ k : Nat, k ≤ n ∧ iv = .int .i64 k ∧ mv = .int .i64 (m + 2 * lensTo xss k : Nat) ∧ Below w.heap.size w wr) (fun _ iv _ => n - (intOf iv).toNat)
  case atStart => exact ⟨0, Nat.zero_le _, rfl, by simp [lensTo], Below.refl _ _⟩
  case round =>
    obtain ⟨k, hk, rfl, rfl, hB⟩ := hrel
    have HB := Lib.hid hB
    by_cases hlt : k < n
    · have hltx : k < xss.length := by rw [← HNN.out]; exact hlt
      obtain ⟨⟨c, hc⟩, ht⟩ := HSW.out k hltx
      have hc' := keep1 hB hc
      have hle := lensTo_mono xss (show k + 1 ≤ xss.length by omega)
      rw [lensTo_next hltx] at hle
      have hmb := HMB.out
      have hma := HMA.out
      obtain ⟨q, hq⟩ : ∃ q, q = (xss[k]).length := ⟨_, rfl⟩
      rw [← hq] at hc' hle ht
      obtain ⟨p, hp⟩ : ∃ p, p = m + 2 * lensTo xss k := ⟨_, rfl⟩
      rw [← hp] at ht
      have HMS := Lib.hid (heldTermS_any q (gb k) c p wr (by omega) (by omega) (by omega) (ht.below hB))
      have HE : Hid (p + 2 * q = m + 2 * lensTo xss (k + 1)) := Lib.hid (by rw [hp, lensTo_next hltx, hq]; omega)
      rw [← hp]
      have k0 : (0 : Int) ≤ (k : Int) := by omega
      have hpq : (0 : Int) ≤ ((p + 2 * q : Nat) : Int) := by omega
      have hpq2 : ¬ (((p + 2 * q : Nat) : Int) < 0) := by omega
      clear hc hle hmb hma hq hp ht hB
      go_wp2_with fail
      refine HMS.out.mono ?_
      rintro e w2 ⟨rfl, hb2⟩
      have HB2 := Lib.hid (below_step HB.out hb2)
      clear hb2
      go_wp2_with fail
      go_roundw
      case rel => exact ⟨k + 1, by omega, by go_num, by rw [← HE.out]; first | rfl | go_num, HB2.out⟩
      case measure => simp [intOf]; omega
    · have hkn : k = n := by omega
      have HKN : Hid (k = xss.length) := Lib.hid (by rw [hkn, HNN.out])
      clear hkn
      go_wp2_with fail
      go_ret
      exact ⟨by rw [HKN.out]; rfl, HB.out⟩

end Go.Proofs.YtoeebipahifpcaaGreat
end
