/- Lists of numbers: how they lie; copied, compared, marked, held. -/
import Derived.Test.YtnobpckmlhgeiaaKReadL
import Derived.ProofKit
import Derived.Deep.QuietTactic
import Derived.BigQuiet
import Derived.OpenShut
import Derived.Laws.Rows
namespace Go.Proofs.Ytnobpckmlhgeiaa
open Go.RowKit

/-- A slice reads as these numbers. -/
def NumO (w : World) (a : Option Addr) (n : Nat) (f : Nat → Int) : Prop := ∀ j, j < n → ∃ b off, a = some ⟨b, off, none⟩ ∧ w.cell? ⟨b, off + j, none⟩ = some (.int .i64 (f j))

theorem NumO.below {w w' : World} {a : Option Addr} {n : Nat} {f : Nat → Int} (h : NumO w a n f) (hb : Below w.heap.size w w') : NumO w' a n f := fun j hj => by
  obtain ⟨b, off, e, hc⟩ := h j hj
  exact ⟨b, off, e, keep1 hb hc⟩

/-- The numbers are ints. -/
def NumB (n : Nat) (f : Nat → Int) : Prop := ∀ j, j < n → -9223372036854775808 ≤ f j ∧ f j ≤ 9223372036854775807

/-- A row of the call's own that reads as these numbers. -/
def NumR (w : World) (g n : Nat) (f : Nat → Int) : Prop := ∃ cr : Array Value, w.heap[g]? = some (.cells cr 3 (0, 0)) ∧ n ≤ cr.size ∧ ∀ j, j < n → cr[j]? = some (.int .i64 (f j))

theorem numCell {W : World} {g : Nat} {cs : Array Value} {t : TypeId} {fr : Nat × Nat} (h : W.heap[g]? = some (.cells cs t fr)) {j : Nat} {v : Value} (hv : cs[j]? = some v) : W.cell? ⟨g, j, none⟩ = some v := by
  obtain ⟨hj, e⟩ := Array.getElem?_eq_some_iff.1 hv
  rw [Lib.cell_of_heap h, hv]

theorem NumR.cell {w : World} {g n : Nat} {f : Nat → Int} (h : NumR w g n f) {j : Nat} (hj : j < n) : w.cell? ⟨g, j, none⟩ = some (.int .i64 (f j)) := by
  obtain ⟨cr, h1, _, h3⟩ := h
  exact numCell h1 (h3 j hj)

theorem NumR.o {w : World} {g n : Nat} {f : Nat → Int} (h : NumR w g n f) : NumO w (some ⟨g, 0, none⟩) n f := fun j hj => ⟨g, 0, rfl, by rw [Nat.zero_add]; exact h.cell hj⟩

theorem NumR.lt {w : World} {g n : Nat} {f : Nat → Int} (h : NumR w g n f) : g < w.heap.size := by
  obtain ⟨cr, h1, _⟩ := h
  exact (Array.getElem?_eq_some_iff.1 h1).1

theorem NumR.frozen {w : World} {g n : Nat} {f : Nat → Int} (h : NumR w g n f) (j : Nat) : w.frozen? ⟨g, j, none⟩ = false := by
  obtain ⟨cr, h1, _⟩ := h
  exact Lib.frozen_of_heap h1 j

theorem NumR.block {w w' : World} {g n : Nat} {f : Nat → Int} (h : NumR w g n f) (e : w'.heap[g]? = w.heap[g]?) : NumR w' g n f := by
  obtain ⟨cr, h1, h2, h3⟩ := h
  exact ⟨cr, e.trans h1, h2, h3⟩

theorem NumR.below {w w' : World} {g n : Nat} {f : Nat → Int} (h : NumR w g n f) (hb : Below w.heap.size w w') : NumR w' g n f := h.block (hb.block g h.lt)

theorem NumR.other {w : World} {g n b k : Nat} {f : Nat → Int} (h : NumR w g n f) (hne : b ≠ g) (v : Value) : NumR (w.setCell ⟨b, k, none⟩ v) g n f := by
  refine h.block ?_
  have hg := (grownBy_setCell (k := k) (grownBy_refl w (some b)) v)
  exact hg.block g h.lt (fun e => hne (by simp only [Option.some.injEq] at e; exact e.symm))

theorem NumR.put {w : World} {g n k : Nat} {f : Nat → Int} (h : NumR w g n f) (v : Int) : NumR (w.setCell ⟨g, k, none⟩ (.int .i64 v)) g n (fun j => if j = k then v else f j) := by
  obtain ⟨cr, h1, h2, h3⟩ := h
  refine ⟨_, heap_setCell_same (k := k) h1 (.int .i64 v), by rw [Array.size_setIfInBounds]; exact h2, fun j hj => ?_⟩
  show _ = some (Value.int .i64 (if j = k then v else f j))
  by_cases e : j = k
  · subst e
    rw [Array.getElem?_setIfInBounds, if_pos rfl, if_pos (by omega), if_pos rfl]
  · rw [Array.getElem?_setIfInBounds, if_neg (by omega), if_neg e]
    exact h3 j hj

theorem NumR.congr {w : World} {g n : Nat} {f f' : Nat → Int} (h : NumR w g n f) (e : ∀ j, j < n → f j = f' j) : NumR w g n f' := by
  obtain ⟨cr, h1, h2, h3⟩ := h
  exact ⟨cr, h1, h2, fun j hj => by rw [← e j hj]; exact h3 j hj⟩

theorem cellsNum : Try.prog.cellsOf 3 = 1 := by kernel_rfl

theorem infoNum : (Try.prog.info? 3).map (fun i => (i.zero, i.size, i.bytes)) = some (some (.int .i64 0), 1, 8) := by kernel_rfl

set_option maxRecDepth 100000 in
/-- A []int among the arguments. -/
theorem open_nums {H : Type} {enc : TypeId × Value → H} {W : World} {spare : Nat → Bool} {held : Bool} {v : Value} {d : DataW H} {p : List MemPlace} {b : Nat}
    (hv : Value.okWide Try.prog W .any b 22 v) (h : DataW.Trod enc Try.prog W 0 spare held 22 v d p) :
    ∃ (a : Option Addr) (cap n : Nat) (f : Nat → Int), v = .slice a n cap ∧ NumO W a n f ∧ NumB n f ∧ n ≤ 9223372036854775807 := by
  obtain ⟨a0, len, cap, rfl⟩ := Go.WideShapes.okWide_slice Try.underlying22 hv
  obtain ⟨fuel, hf⟩ := h
  rcases Go.ChangeShapes.open_ints Try.underlying22 Try.underlying3 cellsNum hf with ⟨hcs, hx⟩ | ⟨a, len', cap', zs, hcs, _, hl, hm, hz, hx, hcell, hws⟩
  · simp [Value.cells] at hcs
    obtain ⟨rfl, rfl, rfl⟩ := hcs
    exact ⟨none, 0, 0, fun _ => 0, rfl, fun j h => by omega, fun j h => by omega, by omega⟩
  · simp [Value.cells] at hcs
    obtain ⟨rfl, rfl, rfl⟩ := hcs
    have hle : len ≤ zs.length := by rw [hz]; split <;> omega
    simp only [maxLen, show (2 ^ 63 - 1 : Nat) = 9223372036854775807 from rfl] at hm
    refine ⟨some a, cap, len, fun j => zs.getD j 0, rfl, ?_, ?_, by omega⟩
    · intro j hj
      have hc := hcell j (by omega)
      obtain ⟨b, off, spot⟩ := a
      have hspot : spot = none := by simpa [Addr.add] using World.cell?_spot (hcell 0 (by omega))
      subst hspot
      refine ⟨b, off, rfl, ?_⟩
      have e : (⟨b, off, none⟩ : Addr).add j = ⟨b, off + j, none⟩ := by unfold Addr.add; split <;> simp_all
      rw [e] at hc
      rw [hc]
    · intro j hj
      have hj2 : j < zs.length := by omega
      have hw := bounds_i64 (hws _ (List.getElem_mem hj2))
      show -9223372036854775808 ≤ zs.getD j 0 ∧ zs.getD j 0 ≤ 9223372036854775807
      rw [List.getD_eq_getElem?_getD, List.getElem?_eq_getElem hj2]
      exact hw

/-- New memory holds these numbers. -/
def NumNew (n : Nat) (f : Nat → Int) (w : World) (e : Ending) (w' : World) : Prop :=
  Below w.heap.size w w' ∧ ∃ g cap, e = .returned (.slice (some ⟨g, 0, none⟩) n cap) ∧ w.heap.size ≤ g ∧ n ≤ cap ∧ NumR w' g n f

set_option maxRecDepth 100000 in
set_option maxHeartbeats 1000000 in
theorem toIntS_any (n : Nat) (f : Nat → Int) (a : Option Addr) (cap : Nat) (w : World) (hn : n ≤ 1048576) (hl : NumO w a n f) :
    Calls Try.prog 16 #[.slice a n cap] w (NumNew n f w) := by
  obtain ⟨i0, hi0, hz, hzs, hzb⟩ := info_parts infoNum
  have HL := Lib.hid hl
  clear hl
  go_enter Try.func16, Try.ntmps16
  go_wp2_with (at_make; refine wpList_make_full _ rfl _ _ 22 rfl w.heap.size 3 i0 (.int .i64 0) 1 Try.underlying22 hi0 hz hzs .i64 .i64 _ _ n rfl rfl rfl rfl ?c1 ?c2 (Nat.le_refl _) ?_)
  case c1 => rw [hzb]; omega
  case c2 => unfold maxLen; omega
  intro w1 hown hg
  have hcur : ∃ cur : Array Value, w1.heap[w.heap.size]? = some (.cells cur 3 (0, 0)) ∧ cur.size = n := by
    rcases hown.2 with ⟨e, _⟩ | ⟨G, cap', cur, e, _, hG, hnc, hcm, hcs, htake⟩
    · simp at e
    · simp only [Value.slice.injEq, Option.some.injEq, Addr.mk.injEq] at e
      obtain ⟨⟨rfl, _⟩, _, rfl⟩ := e
      exact ⟨cur, hG, by omega⟩
  have hB1 : Below w.heap.size w w1 := (Below.refl _ _).grown hg (by omega) (fun k e => by cases e)
  have HC := Lib.hid hcur
  have HB1 := Lib.hid hB1
  clear hcur hown hg hB1
  go_wp2_with fail
  go_loopw [4] (fun iv wr => ∃ (k : Nat) (cr : Array Value), k ≤ n ∧ iv = .int .i64 k ∧ wr.heap[w.heap.size]? = some (.cells cr 3 (0, 0)) ∧ cr.size = n ∧ (∀ j, j < k → cr[j]? = some (.int .i64 (f j))) ∧ Below w.heap.size w wr) (fun iv _ => n - (intOf iv).toNat)
  case atStart =>
    obtain ⟨cur, h1, h2⟩ := HC.out
    exact ⟨0, cur, Nat.zero_le _, rfl, h1, h2, fun j h => by omega, HB1.out⟩
  case round =>
    obtain ⟨k, cr, hk, rfl, hc, hcs, hj, hB⟩ := hrel
    have HJ := Lib.hid hj
    have HCR := Lib.hid hc
    have HCS := Lib.hid hcs
    clear hj
    by_cases hlt : k < n
    · obtain ⟨b, off, rfl, hcc⟩ := (HL.out.below hB) k hlt
      have hck : wr.cell? ⟨w.heap.size, k, none⟩ = some (cr[k]'(by rw [HCS.out]; exact hlt)) := by rw [Lib.cell_of_heap hc]; simp
      have hff : wr.frozen? ⟨w.heap.size, k, none⟩ = false := Lib.frozen_of_heap hc k
      have H3 := Lib.hid (heap_setCell_same (k := k) hc (.int .i64 (f k)))
      have H4 := Lib.hid (hB.setCell (p := ⟨w.heap.size, k, none⟩) (by simp) (.int .i64 (f k)))
      clear hc hcs
      go_wp2_with fail
      go_roundw
      case rel => exact ⟨k + 1, _, by omega, by go_num, H3.out, by rw [Array.size_setIfInBounds]; exact HCS.out, fun j hjk => by
          by_cases e : j = k
          · subst e
            rw [Array.getElem?_setIfInBounds, if_pos rfl, if_pos (by rw [HCS.out]; omega)]
          · rw [Array.getElem?_setIfInBounds, if_neg (by omega)]
            exact HJ.out j (by omega), H4.out⟩
      case measure => simp [intOf]; omega
    · have hkk : k = n := by omega
      clear hc hcs
      go_wp2_with fail
      go_ret
      exact ⟨hB, w.heap.size, n, rfl, Nat.le_refl _, Nat.le_refl _, cr, HCR.out, by rw [HCS.out]; exact Nat.le_refl _, fun j hj => HJ.out j (by omega)⟩

set_option maxRecDepth 100000 in
set_option maxHeartbeats 1000000 in
theorem eqIntS_any (n : Nat) (f : Nat → Int) (a b : Option Addr) (ca cb : Nat) (w : World) (hn : n ≤ 1048576) (ha : NumO w a n f) (hb : NumO w b n f) :
    Calls Try.prog 18 #[.slice a n ca, .slice b n cb] w (Ans (.bool true) w) := by
  have HA := Lib.hid ha
  have HB := Lib.hid hb
  clear ha hb
  go_enter Try.func18, Try.ntmps18
  go_wp2_with fail
  go_loopw [5] (fun i wr => ∃ k : Nat, k ≤ n ∧ i = .int .i64 k ∧ Below w.heap.size w wr) (fun i _ => n - (intOf i).toNat)
  case atStart => exact ⟨0, Nat.zero_le _, rfl, Below.refl _ _⟩
  case round =>
    obtain ⟨k, hk, rfl, hB⟩ := hrel
    by_cases hlt : k < n
    · obtain ⟨g, o, ea, c1⟩ := (HA.out.below hB) k hlt
      obtain ⟨g', o', eb, c2⟩ := (HB.out.below hB) k hlt
      subst ea eb
      have k0 : (0 : Int) ≤ k := by omega
      go_wp2_with fail
      go_quiet (fail)
      go_wp2_with fail
      exact ⟨⟨k + 1, by omega, by go_num, below_drewN hB nq⟩, by simp [intOf]; omega⟩
    · go_wp2_with fail
      go_ret
      exact ⟨rfl, hB⟩

set_option maxRecDepth 100000 in
set_option maxHeartbeats 1000000 in
theorem markIntS_any (n : Nat) (f : Nat → Int) (g cap m : Nat) (w : World) (hn : n ≤ 1048576) (hm2 : m ≤ 10000000) (hcur : NumR w g n f) :
    Calls Try.prog 21 #[.slice (some ⟨g, 0, none⟩) n cap, .int .i64 m] w fun e w' => e = .returned (.int .i64 (m + n : Nat)) ∧ w.grownBy w' (some g) ∧ NumR w' g n (fun j => ((m + j : Nat) : Int)) := by
  have HC := Lib.hid hcur
  clear hcur
  go_enter Try.func21, Try.ntmps21
  go_wp2_with fail
  go_loopw [1, 5] (fun mv i wr => ∃ (k : Nat), k ≤ n ∧ i = .int .i64 k ∧ mv = .int .i64 (m + k : Nat) ∧ NumR wr g n (fun j => if j < k then ((m + j : Nat) : Int) else f j) ∧ w.grownBy wr (some g)) (fun _ i _ => n - (intOf i).toNat)
  case atStart => exact ⟨0, Nat.zero_le _, rfl, by simp, HC.out.congr (fun j _ => by simp), grownBy_refl _ _⟩
  case round =>
    obtain ⟨k, hk, rfl, rfl, hr, hg⟩ := hrel
    have H1 := Lib.hid hr
    clear hr
    by_cases hlt : k < n
    · have hcc := H1.out.cell hlt
      have hff := H1.out.frozen k
      have H3 := Lib.hid (H1.out.put (k := k) ((m + k : Nat) : Int))
      have H4 := Lib.hid (grownBy_setCell (k := k) hg (.int .i64 ((m + k : Nat) : Int)))
      go_wp2_with fail
      refine ⟨⟨k + 1, by omega, by go_num, by go_num, H3.out.congr (fun j hj => ?_), H4.out⟩, by simp [intOf]; omega⟩
      by_cases e : j = k
      · subst e; rw [if_pos rfl, if_pos (by omega)]
      · rw [if_neg e]
        by_cases h2 : j < k
        · rw [if_pos h2, if_pos (by omega)]
        · rw [if_neg h2, if_neg (by omega)]
    · obtain rfl : k = n := by omega
      go_wp2_with fail
      go_ret
      exact ⟨rfl, hg, H1.out.congr (fun j hj => by rw [if_pos hj])⟩

set_option maxRecDepth 100000 in
set_option maxHeartbeats 1000000 in
theorem heldIntS_any (n : Nat) (a : Option Addr) (cap m : Nat) (w : World) (hn : n ≤ 1048576) (hm2 : m ≤ 10000000) (hl : NumO w a n (fun j => ((m + j : Nat) : Int))) :
    Calls Try.prog 22 #[.slice a n cap, .int .i64 m] w (Ans (.int .i64 (m + n : Nat)) w) := by
  have HL := Lib.hid hl
  clear hl
  go_enter Try.func22, Try.ntmps22
  go_wp2_with fail
  go_loopw [1, 5] (fun mv i wr => ∃ (k : Nat), k ≤ n ∧ i = .int .i64 k ∧ mv = .int .i64 (m + k : Nat) ∧ Below w.heap.size w wr) (fun _ i _ => n - (intOf i).toNat)
  case atStart => exact ⟨0, Nat.zero_le _, rfl, by simp, Below.refl _ _⟩
  case round =>
    obtain ⟨k, hk, rfl, rfl, hB⟩ := hrel
    by_cases hlt : k < n
    · obtain ⟨g, o, ea, c1⟩ := (HL.out.below hB) k hlt
      subst ea
      go_wp2_with fail
      exact ⟨⟨k + 1, by omega, by go_num, by go_num, hB⟩, by simp [intOf]; omega⟩
    · obtain rfl : k = n := by omega
      go_wp2_with fail
      go_ret
      exact ⟨rfl, hB⟩

end Go.Proofs.Ytnobpckmlhgeiaa
