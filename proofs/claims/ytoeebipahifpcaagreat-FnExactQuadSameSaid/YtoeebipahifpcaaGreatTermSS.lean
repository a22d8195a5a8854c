/- Lists of lists of terms that come in: their size told, their copy made, two copies compared. -/
import Derived.Test.YtoeebipahifpcaaGreatKStrT
import Derived.Deep.Matrix
namespace Go.Proofs.YtoeebipahifpcaaGreat
open Go.RowKit

theorem choose_list {α : Type} {n : Nat} {Q : Nat → α → Prop} (h : ∀ j, j < n → ∃ y, Q j y) : ∃ ys : List α, ys.length = n ∧ ∀ j (hj : j < ys.length), Q j ys[j] := by
  induction n with
  | zero => exact ⟨[], rfl, fun j hj => by simp at hj⟩
  | succ n ih =>
    obtain ⟨ys, h1, h2⟩ := ih (fun j hj => h j (by omega))
    obtain ⟨y, hy⟩ := h n (by omega)
    refine ⟨ys ++ [y], by simp [h1], fun j hj => ?_⟩
    by_cases e : j < ys.length
    · rw [List.getElem_append_left e]; exact h2 j e
    · have : j = n := by simp at hj; omega
      subst this
      rw [List.getElem_append_right (by omega)]
      simpa using hy

/-- A slice of slices of terms reads as these lists. -/
def TermsO (w : World) (a : Option Addr) (yss : List (List (Int × ByteArray))) : Prop := ∀ j (h : j < yss.length), ∃ b off aj cj, a = some ⟨b, off, none⟩ ∧ w.cell? ⟨b, off + j, none⟩ = some (.slice aj (yss[j]).length cj) ∧ TermO w aj yss[j]

theorem TermsO.below {w w' : World} {a : Option Addr} {yss : List (List (Int × ByteArray))} (h : TermsO w a yss) (hb : Below w.heap.size w w') : TermsO w' a yss := fun j hj => by
  obtain ⟨b, off, aj, cj, e, hc, hd⟩ := h j hj
  exact ⟨b, off, aj, cj, e, keep1 hb hc, hd.below hb⟩

/-- .. in memory of the call's own. -/
def TermsL (w : World) (g : Nat) (yss : List (List (Int × ByteArray))) : Prop := ∀ j (h : j < yss.length), ∃ gj cj, w.cell? ⟨g, j, none⟩ = some (.slice (some ⟨gj, 0, none⟩) (yss[j]).length cj) ∧ TermL w gj yss[j]

theorem TermsL.below {w w' : World} {g : Nat} {yss : List (List (Int × ByteArray))} (h : TermsL w g yss) (hb : Below w.heap.size w w') : TermsL w' g yss := fun j hj => by
  obtain ⟨gj, cj, hc, hd⟩ := h j hj
  exact ⟨gj, cj, keep1 hb hc, hd.below hb⟩

/-- What is known of a list of terms that comes in. -/
def Open1 (ys : List (Int × ByteArray)) : Prop := (∀ j (h : j < ys.length), (ys[j]).2.size ≤ 9223372036854775807) ∧ Coefs ys ∧ ys.length ≤ 9223372036854775807

/-- A list of terms that is small. -/
def Small1 (ys : List (Int × ByteArray)) : Prop := ys.length ≤ 1048576 ∧ ∀ i (h : i < ys.length), (ys[i]).2.size ≤ 1048576

theorem cellsTermS : Tryz.prog.cellsOf 35 = 1 := by kernel_rfl

set_option maxRecDepth 100000 in
theorem open_terms_raw {H : Type} {enc : TypeId × Value → H} {W : World} {spare : Nat → Bool} {held : Bool} {v : Value} {fuel : Nat} {x : DataW H × List MemPlace}
    (hf : DataW.trod enc Tryz.prog W 0 spare held fuel 35 [v] = some x) :
    ∃ (a : Option Addr) (cap : Nat) (ys : List (Int × ByteArray)), v = .slice a ys.length cap ∧ TermO W a ys ∧ Open1 ys := by
  rcases Go.Deep.open_slice_pairs Tryz.underlying35 Tryz.underlying70 cellsTermO rfl rfl cellsIntT cellsStr hf with ⟨hcs, hx⟩ | ⟨a, len, cap, m, n, V0, V1, D0, D1, P0, P1, hcs, _, hl, hm, hmm, hx, hcell⟩
  · simp only [List.cons.injEq, and_true] at hcs
    subst hcs
    exact ⟨none, 0, [], rfl, fun j h => by simp at h, fun j h => by simp at h, fun j h => by simp at h, by simp⟩
  · simp only [List.cons.injEq, and_true] at hcs
    subst hcs
    have hle : len ≤ m := by rw [hmm]; split <;> omega
    simp only [maxLen, show (2 ^ 63 - 1 : Nat) = 9223372036854775807 from rfl] at hm
    have hch : ∀ j, j < len → ∃ y : Int × ByteArray, W.cell? (a.add (j * 2)) = some (.int .i64 y.1) ∧ W.cell? (a.add (j * 2 + 1)) = some (.string y.2) ∧ y.2.size ≤ 9223372036854775807 ∧ (-9223372036854775808 ≤ y.1 ∧ y.1 ≤ 9223372036854775807) := by
      intro j hj
      obtain ⟨c0, c1, t0, t1⟩ := hcell j (by omega)
      obtain ⟨x, e0, _, hx⟩ := DataW.trod_int Tryz.underlying3 t0
      obtain ⟨s, e1, _, hs⟩ := DataW.trod_string Tryz.underlying9 t1
      simp only [List.cons.injEq, and_true] at e0 e1
      rw [e0] at c0
      rw [e1] at c1
      refine ⟨(x, s), c0, c1, ?_, ?_⟩
      · simpa only [maxLen, show (2 ^ 63 - 1 : Nat) = 9223372036854775807 from rfl] using hs
      · exact bounds_i64 hx
    obtain ⟨ys, hyl, hyq⟩ := choose_terms hch
    refine ⟨some a, cap, ys, by rw [hyl], ?_, fun j h => (hyq j h).2.2.1, fun j h => (hyq j h).2.2.2, by omega⟩
    intro j hj
    obtain ⟨h0, h1, _, _⟩ := hyq j hj
    obtain ⟨b, off, spot⟩ := a
    have hspot : spot = none := by
      have h00 := (hyq 0 (by omega)).1
      simpa [Addr.add] using World.cell?_spot h00
    subst hspot
    have e : ∀ n, (⟨b, off, none⟩ : Addr).add n = ⟨b, off + n, none⟩ := fun n => by unfold Addr.add; split <;> simp_all
    rw [e] at h0 h1
    exact ⟨b, off, rfl, h0, by rw [Nat.add_assoc]; exact h1⟩

set_option maxRecDepth 100000 in
/-- A [][]Term among the arguments. -/
theorem open_termss {H : Type} {enc : TypeId × Value → H} {W : World} {spare : Nat → Bool} {held : Bool} {v : Value} {d : DataW H} {p : List MemPlace} {b : Nat}
    (hv : Value.okWide Tryz.prog W .any b 23 v) (h : DataW.Trod enc Tryz.prog W 0 spare held 23 v d p) :
    ∃ (a : Option Addr) (cap : Nat) (yss : List (List (Int × ByteArray))), v = .slice a yss.length cap ∧ TermsO W a yss ∧ (∀ j (h : j < yss.length), Open1 yss[j]) ∧ yss.length ≤ 9223372036854775807 := by
  obtain ⟨a0, len, cap, rfl⟩ := Go.WideShapes.okWide_slice Tryz.underlying23 hv
  obtain ⟨fuel, hf⟩ := h
  rcases Go.Deep.open_slice1 Tryz.underlying23 cellsTermS hf with ⟨hcs, hx⟩ | ⟨a, len', cap', m, n, V, D, Pl, hcs, _, hl, hm, hmm, hx, hcell⟩
  · simp [Value.cells] at hcs
    obtain ⟨rfl, rfl, rfl⟩ := hcs
    exact ⟨none, 0, [], rfl, fun j h => by simp at h, fun j h => by simp at h, by simp⟩
  · simp [Value.cells] at hcs
    obtain ⟨rfl, rfl, rfl⟩ := hcs
    have hle : len ≤ m := by rw [hmm]; split <;> omega
    simp only [maxLen, show (2 ^ 63 - 1 : Nat) = 9223372036854775807 from rfl] at hm
    have hch : ∀ j, j < len → ∃ ys : List (Int × ByteArray), (∃ aj cj, W.cell? (a.add j) = some (.slice aj ys.length cj) ∧ TermO W aj ys) ∧ Open1 ys := by
      intro j hj
      obtain ⟨c0, t0⟩ := hcell j (by omega)
      obtain ⟨aj, cj, ys, e, hto, ho⟩ := open_terms_raw t0
      exact ⟨ys, ⟨aj, cj, by rw [c0, e], hto⟩, ho⟩
    obtain ⟨yss, hyl, hyq⟩ := choose_list hch
    refine ⟨some a, cap, yss, by rw [hyl], ?_, fun j h => (hyq j h).2, by omega⟩
    intro j hj
    obtain ⟨⟨aj, cj, h0, h1⟩, _⟩ := hyq j hj
    obtain ⟨b, off, spot⟩ := a
    have hspot : spot = none := by
      obtain ⟨_, _, h00, _⟩ := (hyq 0 (by omega)).1
      simpa [Addr.add] using World.cell?_spot h00
    subst hspot
    have e : ∀ n, (⟨b, off, none⟩ : Addr).add n = ⟨b, off + n, none⟩ := fun n => by unfold Addr.add; split <;> simp_all
    rw [e] at h0
    exact ⟨b, off, aj, cj, rfl, h0, h1⟩

/-- How much is left: below 0, or all is small. -/
def SzTerms (yss : List (List (Int × ByteArray))) (w : World) (e : Ending) (w' : World) : Prop :=
  Below w.heap.size w w' ∧ ∃ v : Int, e = .returned (.int .i64 v) ∧ (v < 0 ∨ (0 ≤ v ∧ v ≤ 1048576 ∧ yss.length ≤ 1048576 ∧ ∀ j (h : j < yss.length), Small1 yss[j]))

set_option maxRecDepth 100000 in
set_option maxHeartbeats 1000000 in
theorem szTermSS_any (yss : List (List (Int × ByteArray))) (a : Option Addr) (cap : Nat) (l0 : Int) (w : World) (hl0 : 0 ≤ l0) (hl1 : l0 ≤ 1048576) (hn : yss.length ≤ 9223372036854775807) (hz : ∀ j (h : j < yss.length), Open1 yss[j]) (hl : TermsO w a yss) :
    Calls Tryz.prog 8 #[.slice a yss.length cap, .int .i64 l0] w (SzTerms yss w) := by
  have HL := Lib.hid hl
  have HZ := Lib.hid hz
  clear hl hz
  by_cases hlen : (yss.length : Int) ≤ l0
  · go_enter Tryz.func8, Tryz.ntmps8
    go_wp2_with fail
    go_loopw [1, 5] (fun lv iv wr => ∃ (k : Nat) (l : Int), k ≤ yss.length ∧ iv = .int .i64 k ∧ lv = .int .i64 l ∧ 0 ≤ l ∧ l ≤ 1048576 ∧ (∀ j (h : j < yss.length), j < k → Small1 yss[j]) ∧ Below w.heap.size w wr) (fun _ iv _ => yss.length - (intOf iv).toNat)
    case atStart => exact ⟨0, l0 - (yss.length : Int), Nat.zero_le _, rfl, by first | rfl | go_num, by omega, by omega, fun j _ h => by omega, Below.refl _ _⟩
    case round =>
      obtain ⟨k, l, hk, rfl, rfl, hb0, hb1, hj, hB⟩ := hrel
      have HJ := Lib.hid hj
      clear hj
      by_cases hlt : k < yss.length
      · obtain ⟨b, off, aj, cj, rfl, hc, hd⟩ := (HL.out.below hB) k hlt
        obtain ⟨m, hm⟩ : ∃ m, m = (yss[k]).length := ⟨_, rfl⟩
        have hop := HZ.out k hlt
        have HSZ := Lib.hid (szTermS_any (yss[k]) aj cj l wr hb0 hb1 hop.2.2 hop.1 hd)
        have HB := Lib.hid hB
        rw [← hm] at hc HSZ
        have HM := Lib.hid hm
        clear hB hop hd hm
        go_wp2_with fail
        refine HSZ.out.mono ?_
        rintro e w1 ⟨hB1, v, rfl, hv⟩
        have HB1 := Lib.hid (below_step HB.out hB1)
        clear hB1
        rcases hv with hv | ⟨h0, h1, h2, h3⟩
        · go_wp2_with fail
          go_ret
          exact ⟨HB1.out, -1, rfl, .inl (by omega)⟩
        · have HK : Hid (Small1 yss[k]) := Lib.hid ⟨h2, h3⟩
          clear h2 h3
          go_wp2_with fail
          go_roundw
          case rel => exact ⟨k + 1, v, by omega, by go_num, rfl, h0, h1, fun j h hjk => by
              by_cases e : j = k
              · subst e; exact HK.out
              · exact HJ.out j h (by omega), HB1.out⟩
          case measure => simp [intOf]; omega
      · have hkk : k = yss.length := by omega
        go_wp2_with fail
        go_ret
        exact ⟨hB, l, rfl, .inr ⟨hb0, hb1, by omega, fun j h => HJ.out j h (by omega)⟩⟩
  · go_enter Tryz.func8, Tryz.ntmps8
    go_wp2_with fail
    go_ret
    exact ⟨Below.refl _ _, -1, rfl, .inl (by omega)⟩

theorem infoTermSS : (Tryz.prog.info? 38).map (fun i => (i.zero, i.size, i.bytes)) = some (some (.slice none 0 0), 1, 24) := by kernel_rfl

/-- A copy in new memory. -/
def CopyTerms (yss : List (List (Int × ByteArray))) (n : Nat) (w : World) (e : Ending) (w' : World) : Prop :=
  Below w.heap.size w w' ∧ ∃ g, e = .returned (.slice (some ⟨g, 0, none⟩) n n) ∧ w.heap.size ≤ g ∧ TermsL w' g yss

set_option maxRecDepth 100000 in
set_option maxHeartbeats 1000000 in
theorem toTermSS_any (yss : List (List (Int × ByteArray))) (nn : Nat) (hnn : nn = yss.length) (a : Option Addr) (cap : Nat) (w : World) (hn : nn ≤ 1048576) (hz : ∀ j (h : j < yss.length), Small1 yss[j]) (hl : TermsO w a yss) :
    Calls Tryz.prog 11 #[.slice a nn cap] w (CopyTerms yss nn w) := by
  obtain ⟨i0, hi0, hz0, hzs, hzb⟩ := info_parts infoTermSS
  have HL := Lib.hid hl
  have HZ := Lib.hid hz
  have HNN := Lib.hid hnn
  clear hl hnn hz
  go_enter Tryz.func11, Tryz.ntmps11
  go_wp2_with (at_make; refine wpList_make_full _ rfl _ _ 26 rfl w.heap.size 38 i0 (.slice none 0 0) 1 Tryz.underlying26 hi0 hz0 hzs .i64 .i64 _ _ nn rfl rfl rfl rfl ?c1 ?c2 (Nat.le_refl _) ?_)
  case c1 => rw [hzb]; omega
  case c2 => unfold maxLen; omega
  intro w1 hown hg
  have hcur : ∃ cur : Array Value, w1.heap[w.heap.size]? = some (.cells cur 38 (0, 0)) ∧ cur.size = nn := by
    rcases hown.2 with ⟨e, _⟩ | ⟨G, cap', cur, e, _, hG, hnc, hcm, hcs, htake⟩
    · simp at e
    · simp only [Value.slice.injEq, Option.some.injEq, Addr.mk.injEq] at e
      obtain ⟨⟨rfl, _⟩, _, rfl⟩ := e
      exact ⟨cur, hG, by omega⟩
  have hB1 : Below w.heap.size w w1 := (Below.refl _ _).grown hg (by omega) (fun k e => by cases e)
  have HC := Lib.hid hcur
  have HB1 := Lib.hid hB1
  clear hcur hown hg hB1
  go_wp2_with fail
  go_loopw [4] (fun iv wr => ∃ (k : Nat) (cr : Array Value), k ≤ nn ∧ iv = .int .i64 k ∧ wr.heap[w.heap.size]? = some (.cells cr 38 (0, 0)) ∧ cr.size = nn ∧ (∀ j (h : j < yss.length), j < k → ∃ gj cj, cr[j]? = some (.slice (some ⟨gj, 0, none⟩) (yss[j]).length cj) ∧ w.heap.size < gj ∧ TermL wr gj yss[j]) ∧ Below w.heap.size w wr) (fun iv _ => nn - (intOf iv).toNat)
  case atStart =>
    obtain ⟨cur, h1, h2⟩ := HC.out
    exact ⟨0, cur, Nat.zero_le _, rfl, h1, h2, fun j _ h => by omega, HB1.out⟩
  case round =>
    obtain ⟨k, cr, hk, rfl, hc, hcs, hj, hB⟩ := hrel
    have HJ := Lib.hid hj
    have HCR := Lib.hid hc
    have HCS := Lib.hid hcs
    have HB := Lib.hid hB
    clear hj
    by_cases hlt : k < nn
    · have hlt' : k < yss.length := by rw [← HNN.out]; exact hlt
      obtain ⟨b, off, aj, cj, rfl, hcc, hcd⟩ := (HL.out.below hB) k hlt'
      have hsm := HZ.out k hlt'
      obtain ⟨m, hm⟩ : ∃ m, m = (yss[k]).length := ⟨_, rfl⟩
      have hS := toTermS_any (yss[k]) aj cj wr hsm.1 hcd
      rw [← hm] at hS hcc
      have HS := Lib.hid hS
      have HM := Lib.hid hm
      have hlw : w.heap.size < wr.heap.size := (Array.getElem?_eq_some_iff.1 hc).1
      clear hc hcs hB hS hcd hsm hm
      go_wp2_with fail
      refine HS.out.mono ?_
      rintro e w2 ⟨hB2, g2, rfl, hg2, hl2⟩
      have hc2 : w2.heap[w.heap.size]? = some (.cells cr 38 (0, 0)) := (hB2.block _ hlw).trans HCR.out
      have hck : w2.cell? ⟨w.heap.size, k, none⟩ = some (cr[k]'(by rw [HCS.out]; omega)) := by rw [Lib.cell_of_heap hc2]; simp
      have hff : w2.frozen? ⟨w.heap.size, k, none⟩ = false := Lib.frozen_of_heap hc2 _
      have H3 := Lib.hid (heap_setCell_same (k := k) hc2 (.slice (some ⟨g2, 0, none⟩) m m))
      have H4 := Lib.hid ((below_step HB.out hB2).setCell (p := ⟨w.heap.size, k, none⟩) (by simp) (.slice (some ⟨g2, 0, none⟩) m m))
      have hkp : ∀ (gj : Nat) (ys : List (Int × ByteArray)), w.heap.size < gj → TermL w2 gj ys → TermL (w2.setCell ⟨w.heap.size, k, none⟩ (.slice (some ⟨g2, 0, none⟩) m m)) gj ys := fun gj ys hgj h j hj => by
        obtain ⟨q1, q2⟩ := h j hj
        constructor
        · rw [World.cell?_of_block (w := w2)]
          · exact q1
          · exact Below.heap_setCell _ _ _ _ (show gj ≠ w.heap.size by omega)
        · rw [World.cell?_of_block (w := w2)]
          · exact q2
          · exact Below.heap_setCell _ _ _ _ (show gj ≠ w.heap.size by omega)
      have HKP := Lib.hid hkp
      have HJ2 : Hid (∀ j (h : j < yss.length), j < k → ∃ gj cj, cr[j]? = some (.slice (some ⟨gj, 0, none⟩) (yss[j]).length cj) ∧ w.heap.size < gj ∧ TermL w2 gj yss[j]) := Lib.hid (fun j h hjk => by
        obtain ⟨gj, cj, q1, q2, q3⟩ := HJ.out j h hjk
        exact ⟨gj, cj, q1, q2, q3.below hB2⟩)
      have HL2 := Lib.hid hl2
      have hg2' : w.heap.size < g2 := by omega
      clear hc2 hB2 hkp hl2 HJ
      go_wp2_with fail
      go_roundw
      case rel => exact ⟨k + 1, _, by omega, by go_num, H3.out, by rw [Array.size_setIfInBounds]; exact HCS.out, fun j h hjk => by
          have := HCS.out
          by_cases e : j = k
          · subst e
            exact ⟨g2, m, by rw [Array.getElem?_setIfInBounds, if_pos rfl, if_pos (by omega), ← HM.out], hg2', HKP.out _ _ hg2' HL2.out⟩
          · obtain ⟨gj, cj, q1, q2, q3⟩ := HJ2.out j h (by omega)
            exact ⟨gj, cj, by rw [Array.getElem?_setIfInBounds, if_neg (by omega)]; exact q1, q2, HKP.out _ _ q2 q3⟩, H4.out⟩
      case measure => simp [intOf]; omega
    · have hkk : k = nn := by omega
      clear hc hcs hB
      go_wp2_with fail
      go_ret
      refine ⟨HB.out, w.heap.size, rfl, Nat.le_refl _, fun j hj => ?_⟩
      obtain ⟨gj, cj, q1, q2, q3⟩ := HJ.out j hj (by have := HNN.out; omega)
      exact ⟨gj, cj, by rw [Lib.cell_of_heap HCR.out, q1], q3⟩

set_option maxRecDepth 100000 in
set_option maxHeartbeats 1000000 in
theorem eqTermSS_any (yss : List (List (Int × ByteArray))) (n : Nat) (hny : n = yss.length) (g g' ca cb : Nat) (w : World) (hn : n ≤ 1048576) (hz : ∀ j (h : j < yss.length), Small1 yss[j]) (ha : TermsL w g yss) (hb : TermsL w g' yss) :
    Calls Tryz.prog 13 #[.slice (some ⟨g, 0, none⟩) n ca, .slice (some ⟨g', 0, none⟩) n cb] w (Ans (.bool true) w) := by
  have HA := Lib.hid ha
  have HB := Lib.hid hb
  have HNN := Lib.hid hny
  have HZ := Lib.hid hz
  clear ha hb hny hz
  go_enter Tryz.func13, Tryz.ntmps13
  go_wp2_with fail
  go_loopw [5] (fun i wr => ∃ k : Nat, k ≤ n ∧ i = .int .i64 k ∧ Below w.heap.size w wr) (fun i _ => n - (intOf i).toNat)
  case atStart => exact ⟨0, Nat.zero_le _, rfl, Below.refl _ _⟩
  case round =>
    obtain ⟨k, hk, rfl, hB⟩ := hrel
    by_cases hlt : k < n
    · have hlt' : k < yss.length := by rw [← HNN.out]; exact hlt
      obtain ⟨g1, c1, q1, r1⟩ := (HA.out.below hB) k hlt'
      obtain ⟨g2, c2, q2, r2⟩ := (HB.out.below hB) k hlt'
      obtain ⟨m, hm⟩ : ∃ m, m = (yss[k]).length := ⟨_, rfl⟩
      rw [← hm] at q1 q2
      have hsm := (HZ.out k hlt').1
      rw [← hm] at hsm
      have HQ := Lib.hid (fun (W : World) (hb : Below wr.heap.size wr W) => eqTermS_any (yss[k]) m hm g1 g2 c1 c2 W hsm (r1.below hb) (r2.below hb))
      have k0 : (0 : Int) ≤ k := by omega
      clear r1 r2 hm hsm
      go_wp2_with fail
      go_region_with ((go_at_call 24; refine (HQ.out _ (Below.refl _ _).drew).mono ?_; rintro e w1 ⟨rfl, hb1⟩))
      all_goals
        go_wp2_with fail
        exact ⟨⟨k + 1, by omega, by go_num, hB.trans ((Below.refl _ _).drew.trans (hb1.mono hB.size))⟩, by simp [intOf]; omega⟩
    · go_wp2_with fail
      go_ret
      exact ⟨rfl, hB⟩

end Go.Proofs.YtoeebipahifpcaaGreat
