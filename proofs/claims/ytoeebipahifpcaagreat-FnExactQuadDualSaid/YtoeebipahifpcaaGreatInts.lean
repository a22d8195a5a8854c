/- Lists of numbers: how they lie; copied, compared, marked, held. -/
import Derived.Test.YtoeebipahifpcaaGreatKReadA
import Derived.ProofKit
import Derived.Deep.QuietTactic
import Derived.BigQuiet
import Derived.OpenShut
import Derived.Laws.Rows
import Derived.Laws.OwnMore
import Derived.Laws.MakeOwn
namespace Go.Proofs.YtoeebipahifpcaaGreat
open Go.RowKit

/-- A slice reads as these numbers. -/
def NumO (w : World) (a : Option Addr) (n : Nat) (f : Nat → Int) : Prop := ∀ j, j < n → ∃ b off, a = some ⟨b, off, none⟩ ∧ w.cell? ⟨b, off + j, none⟩ = some (.int .i64 (f j))

theorem NumO.below {w w' : World} {a : Option Addr} {n : Nat} {f : Nat → Int} (h : NumO w a n f) (hb : Below w.heap.size w w') : NumO w' a n f := fun j hj => by
  obtain ⟨b, off, e, hc⟩ := h j hj
  exact ⟨b, off, e, keep1 hb hc⟩

/-- The numbers are ints. -/
def NumB (n : Nat) (f : Nat → Int) : Prop := ∀ j, j < n → -9223372036854775808 ≤ f j ∧ f j ≤ 9223372036854775807

/-- A row of the call's own that reads as these numbers. -/
def NumR (w : World) (g n : Nat) (f : Nat → Int) : Prop := ∃ cr : Array Value, w.heap[g]? = some (.cells cr 3 (0, 0)) ∧ n ≤ cr.size ∧ ∀ j, j < n → cr[j]? = some (.int .i64 (f j))

theorem numCell {W : World} {g : Nat} {cs : Array Value} {t : TypeId} {fr : Nat × Nat} (h : W.heap[g]? = some (.cells cs t fr)) {j : Nat} {v : Value} (hv : cs[j]? = some v) : W.cell? ⟨g, j, none⟩ = some v := by
  obtain ⟨hj, e⟩ := Array.getElem?_eq_some_iff.1 hv
  rw [Lib.cell_of_heap h, hv]

theorem NumR.cell {w : World} {g n : Nat} {f : Nat → Int} (h : NumR w g n f) {j : Nat} (hj : j < n) : w.cell? ⟨g, j, none⟩ = some (.int .i64 (f j)) := by
  obtain ⟨cr, h1, _, h3⟩ := h
  exact numCell h1 (h3 j hj)

theorem NumR.o {w : World} {g n : Nat} {f : Nat → Int} (h : NumR w g n f) : NumO w (some ⟨g, 0, none⟩) n f := fun j hj => ⟨g, 0, rfl, by rw [Nat.zero_add]; exact h.cell hj⟩

theorem NumR.lt {w : World} {g n : Nat} {f : Nat → Int} (h : NumR w g n f) : g < w.heap.size := by
  obtain ⟨cr, h1, _⟩ := h
  exact (Array.getElem?_eq_some_iff.1 h1).1

theorem NumR.frozen {w : World} {g n : Nat} {f : Nat → Int} (h : NumR w g n f) (j : Nat) : w.frozen? ⟨g, j, none⟩ = false := by
  obtain ⟨cr, h1, _⟩ := h
  exact Lib.frozen_of_heap h1 j

theorem NumR.block {w w' : World} {g n : Nat} {f : Nat → Int} (h : NumR w g n f) (e : w'.heap[g]? = w.heap[g]?) : NumR w' g n f := by
  obtain ⟨cr, h1, h2, h3⟩ := h
  exact ⟨cr, e.trans h1, h2, h3⟩

theorem NumR.below {w w' : World} {g n : Nat} {f : Nat → Int} (h : NumR w g n f) (hb : Below w.heap.size w w') : NumR w' g n f := h.block (hb.block g h.lt)

theorem NumR.other {w : World} {g n b k : Nat} {f : Nat → Int} (h : NumR w g n f) (hne : b ≠ g) (v : Value) : NumR (w.setCell ⟨b, k, none⟩ v) g n f := by
  refine h.block ?_
  have hg := (grownBy_setCell (k := k) (grownBy_refl w (some b)) v)
  exact hg.block g h.lt (fun e => hne (by simp only [Option.some.injEq] at e; exact e.symm))

theorem NumR.put {w : World} {g n k : Nat} {f : Nat → Int} (h : NumR w g n f) (v : Int) : NumR (w.setCell ⟨g, k, none⟩ (.int .i64 v)) g n (fun j => if j = k then v else f j) := by
  obtain ⟨cr, h1, h2, h3⟩ := h
  refine ⟨_, heap_setCell_same (k := k) h1 (.int .i64 v), by rw [Array.size_setIfInBounds]; exact h2, fun j hj => ?_⟩
  show _ = some (Value.int .i64 (if j = k then v else f j))
  by_cases e : j = k
  · subst e
    rw [Array.getElem?_setIfInBounds, if_pos rfl, if_pos (by omega), if_pos rfl]
  · rw [Array.getElem?_setIfInBounds, if_neg (by omega), if_neg e]
    exact h3 j hj

theorem NumR.congr {w : World} {g n : Nat} {f f' : Nat → Int} (h : NumR w g n f) (e : ∀ j, j < n → f j = f' j) : NumR w g n f' := by
  obtain ⟨cr, h1, h2, h3⟩ := h
  exact ⟨cr, h1, h2, fun j hj => by rw [← e j hj]; exact h3 j hj⟩

theorem cellsNum : Tryz.prog.cellsOf 3 = 1 := by kernel_rfl

theorem infoNum : (Tryz.prog.info? 3).map (fun i => (i.zero, i.size, i.bytes)) = some (some (.int .i64 0), 1, 8) := by kernel_rfl

set_option maxRecDepth 100000 in
/-- A []int among the arguments. -/
theorem open_nums {H : Type} {enc : TypeId × Value → H} {W : World} {spare : Nat → Bool} {held : Bool} {v : Value} {d : DataW H} {p : List MemPlace} {b : Nat}
    (hv : Value.okWide Tryz.prog W .any b 48 v) (h : DataW.Trod enc Tryz.prog W 0 spare held 48 v d p) :
    ∃ (a : Option Addr) (cap n : Nat) (f : Nat → Int), v = .slice a n cap ∧ NumO W a n f ∧ NumB n f ∧ n ≤ 9223372036854775807 := by
  obtain ⟨a0, len, cap, rfl⟩ := Go.WideShapes.okWide_slice Tryz.underlying48 hv
  obtain ⟨fuel, hf⟩ := h
  rcases Go.ChangeShapes.open_ints Tryz.underlying48 Tryz.underlying3 cellsNum hf with ⟨hcs, hx⟩ | ⟨a, len', cap', zs, hcs, _, hl, hm, hz, hx, hcell, hws⟩
  · simp [Value.cells] at hcs
    obtain ⟨rfl, rfl, rfl⟩ := hcs
    exact ⟨none, 0, 0, fun _ => 0, rfl, fun j h => by omega, fun j h => by omega, by omega⟩
  · simp [Value.cells] at hcs
    obtain ⟨rfl, rfl, rfl⟩ := hcs
    have hle : len ≤ zs.length := by rw [hz]; split <;> omega
    simp only [maxLen, show (2 ^ 63 - 1 : Nat) = 9223372036854775807 from rfl] at hm
    refine ⟨some a, cap, len, fun j => zs.getD j 0, rfl, ?_, ?_, by omega⟩
    · intro j hj
      have hc := hcell j (by omega)
      obtain ⟨b, off, spot⟩ := a
      have hspot : spot = none := by simpa [Addr.add] using World.cell?_spot (hcell 0 (by omega))
      subst hspot
      refine ⟨b, off, rfl, ?_⟩
      have e : (⟨b, off, none⟩ : Addr).add j = ⟨b, off + j, none⟩ := by unfold Addr.add; split <;> simp_all
      rw [e] at hc
      rw [hc]
    · intro j hj
      have hj2 : j < zs.length := by omega
      have hw := bounds_i64 (hws _ (List.getElem_mem hj2))
      show -9223372036854775808 ≤ zs.getD j 0 ∧ zs.getD j 0 ≤ 9223372036854775807
      rw [List.getD_eq_getElem?_getD, List.getElem?_eq_getElem hj2]
      exact hw

/-- New memory holds these numbers. -/
def NumNew (n : Nat) (f : Nat → Int) (w : World) (e : Ending) (w' : World) : Prop :=
  Below w.heap.size w w' ∧ ∃ g cap, e = .returned (.slice (some ⟨g, 0, none⟩) n cap) ∧ w.heap.size ≤ g ∧ n ≤ cap ∧ NumR w' g n f

theorem NumR.of_owns {w : World} {base g n cap : Nat} {xs : List Value} {f : Nat → Int} (h : w.ownsRow base 3 1 (.slice (some ⟨g, 0, none⟩) n cap) n xs) (hx : ∀ j, j < n → xs[j]? = some (.int .i64 (f j))) : NumR w g n f ∧ base ≤ g ∧ n ≤ cap := by
  rcases h.2 with ⟨e, _⟩ | ⟨g', cap', cur, e, hb, hg, hn, _, hs, ht⟩
  · cases e
  · simp only [Value.slice.injEq, Option.some.injEq, Addr.mk.injEq] at e
    obtain ⟨⟨rfl, _⟩, _, rfl⟩ := e
    refine ⟨⟨cur, hg, by omega, fun j hj => ?_⟩, hb, hn⟩
    have := hx j hj
    rw [← ht, List.getElem?_take, if_pos (by omega)] at this
    simpa using this

/-- The numbers as values. -/
def numVals (n : Nat) (f : Nat → Int) : List Value := (List.range n).map fun j => Value.int .i64 (f j)
theorem numVals_length (n : Nat) (f : Nat → Int) : (numVals n f).length = n := by simp [numVals]
theorem numVals_get {n : Nat} {f : Nat → Int} {j : Nat} (h : j < n) : (numVals n f)[j]? = some (.int .i64 (f j)) := by simp [numVals, h]

theorem madeNum_get {n j : Nat} (hj : j < n) : (madeCells #[Value.int .i64 0] n)[j]? = some (.int .i64 0) := by
  rw [← Array.getElem?_toList, toList_madeCells_one]
  simp [hj]

theorem numVals_snoc (n : Nat) (f : Nat → Int) (v : Int) : numVals n f ++ [.int .i64 v] = numVals (n + 1) (fun j => if j = n then v else f j) := by
  unfold numVals
  rw [List.range_succ, List.map_append]
  congr 1
  · apply List.map_congr_left
    intro j hj
    show Value.int .i64 (f j) = Value.int .i64 (if j = n then v else f j)
    rw [if_neg (by have := List.mem_range.1 hj; omega)]
  · simp


end Go.Proofs.YtoeebipahifpcaaGreat
