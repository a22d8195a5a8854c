/- Merged out of: XQuadA, XQuadR, XQuadP. -/
import Derived.Test.YtoeebipahifpcaaGreatKQuadN
import Derived.Test.YtoeebipahifpcaaGreatReads
import Derived.Test.YtoeebipahifpcaaGreatKSumRJ
section
/- Rows of numbers as the program has them: arrays by value. -/
namespace Go.Proofs.YtoeebipahifpcaaGreat
open Go.RowKit

/-- An array of eighteen numbers. -/
def arr (f : Nat → Int) : Array Value := ((List.range 18).map fun j => Value.int .i64 (f j)).toArray

theorem arr_size (f : Nat → Int) : (arr f).size = 18 := by simp [arr]
theorem arr_get (f : Nat → Int) {j : Nat} (h : j < 18) : (arr f)[j]? = some (.int .i64 (f j)) := by
  simp [arr, h]
theorem arr_set (f : Nat → Int) (k : Nat) (v : Int) : (arr f).setIfInBounds k (.int .i64 v) = arr (fun j => if j = k then v else f j) := by
  apply Array.ext_getElem?
  intro i
  by_cases hi : i < 18
  · rw [arr_get _ hi]
    by_cases e : k = i
    · subst e
      rw [Array.getElem?_setIfInBounds_self_of_lt (by rw [arr_size]; exact hi), if_pos rfl]
    · rw [Array.getElem?_setIfInBounds_ne e, arr_get _ hi, if_neg (fun h => e h.symm)]
  · rw [Array.getElem?_eq_none (by rw [Array.size_setIfInBounds, arr_size]; omega), Array.getElem?_eq_none (by rw [arr_size]; omega)]
theorem arr_congr {f g : Nat → Int} (h : ∀ j, j < 18 → f j = g j) : arr f = arr g := by
  unfold arr
  congr 1
  apply List.map_congr_left
  intro j hj
  rw [h j (by simpa using hj)]
theorem arr_one (f : Nat → Int) : (arr f).all (·.oneCell') = true := by
  rw [Array.all_eq_true]
  intro i hi
  have h := arr_get f (j := i) (by rw [arr_size] at hi; exact hi)
  rw [Array.getElem?_eq_getElem hi] at h
  simp only [Option.some.injEq] at h
  rw [h]; rfl
theorem arr_zero : #[Value.int .i64 0, .int .i64 0, .int .i64 0, .int .i64 0, .int .i64 0, .int .i64 0, .int .i64 0, .int .i64 0, .int .i64 0, .int .i64 0, .int .i64 0, .int .i64 0, .int .i64 0, .int .i64 0, .int .i64 0, .int .i64 0, .int .i64 0, .int .i64 0] = arr (fun _ => 0) := by rfl

theorem infoA : (Tryz.prog.info? 53).map (·.size) = some 18 := by kernel_rfl
theorem descA : Tryz.prog.underlying 53 = some (.array 18 3) := by kernel_rfl

theorem index_arr0 (f : Nat → Int) (w : World) : (Instr.index 53 (.agg (arr f)) (.int .i64 ((0 : Nat) : Int))).run Tryz.prog w = .ok (.int .i64 (f 0)) w := by kernel_rfl
theorem index_arr1 (f : Nat → Int) (w : World) : (Instr.index 53 (.agg (arr f)) (.int .i64 ((1 : Nat) : Int))).run Tryz.prog w = .ok (.int .i64 (f 1)) w := by kernel_rfl
theorem index_arr2 (f : Nat → Int) (w : World) : (Instr.index 53 (.agg (arr f)) (.int .i64 ((2 : Nat) : Int))).run Tryz.prog w = .ok (.int .i64 (f 2)) w := by kernel_rfl
theorem index_arr3 (f : Nat → Int) (w : World) : (Instr.index 53 (.agg (arr f)) (.int .i64 ((3 : Nat) : Int))).run Tryz.prog w = .ok (.int .i64 (f 3)) w := by kernel_rfl
theorem index_arr4 (f : Nat → Int) (w : World) : (Instr.index 53 (.agg (arr f)) (.int .i64 ((4 : Nat) : Int))).run Tryz.prog w = .ok (.int .i64 (f 4)) w := by kernel_rfl
theorem index_arr5 (f : Nat → Int) (w : World) : (Instr.index 53 (.agg (arr f)) (.int .i64 ((5 : Nat) : Int))).run Tryz.prog w = .ok (.int .i64 (f 5)) w := by kernel_rfl
theorem index_arr6 (f : Nat → Int) (w : World) : (Instr.index 53 (.agg (arr f)) (.int .i64 ((6 : Nat) : Int))).run Tryz.prog w = .ok (.int .i64 (f 6)) w := by kernel_rfl
theorem index_arr7 (f : Nat → Int) (w : World) : (Instr.index 53 (.agg (arr f)) (.int .i64 ((7 : Nat) : Int))).run Tryz.prog w = .ok (.int .i64 (f 7)) w := by kernel_rfl
theorem index_arr8 (f : Nat → Int) (w : World) : (Instr.index 53 (.agg (arr f)) (.int .i64 ((8 : Nat) : Int))).run Tryz.prog w = .ok (.int .i64 (f 8)) w := by kernel_rfl
theorem index_arr9 (f : Nat → Int) (w : World) : (Instr.index 53 (.agg (arr f)) (.int .i64 ((9 : Nat) : Int))).run Tryz.prog w = .ok (.int .i64 (f 9)) w := by kernel_rfl
theorem index_arr10 (f : Nat → Int) (w : World) : (Instr.index 53 (.agg (arr f)) (.int .i64 ((10 : Nat) : Int))).run Tryz.prog w = .ok (.int .i64 (f 10)) w := by kernel_rfl
theorem index_arr11 (f : Nat → Int) (w : World) : (Instr.index 53 (.agg (arr f)) (.int .i64 ((11 : Nat) : Int))).run Tryz.prog w = .ok (.int .i64 (f 11)) w := by kernel_rfl
theorem index_arr12 (f : Nat → Int) (w : World) : (Instr.index 53 (.agg (arr f)) (.int .i64 ((12 : Nat) : Int))).run Tryz.prog w = .ok (.int .i64 (f 12)) w := by kernel_rfl
theorem index_arr13 (f : Nat → Int) (w : World) : (Instr.index 53 (.agg (arr f)) (.int .i64 ((13 : Nat) : Int))).run Tryz.prog w = .ok (.int .i64 (f 13)) w := by kernel_rfl
theorem index_arr14 (f : Nat → Int) (w : World) : (Instr.index 53 (.agg (arr f)) (.int .i64 ((14 : Nat) : Int))).run Tryz.prog w = .ok (.int .i64 (f 14)) w := by kernel_rfl
theorem index_arr15 (f : Nat → Int) (w : World) : (Instr.index 53 (.agg (arr f)) (.int .i64 ((15 : Nat) : Int))).run Tryz.prog w = .ok (.int .i64 (f 15)) w := by kernel_rfl
theorem index_arr16 (f : Nat → Int) (w : World) : (Instr.index 53 (.agg (arr f)) (.int .i64 ((16 : Nat) : Int))).run Tryz.prog w = .ok (.int .i64 (f 16)) w := by kernel_rfl
theorem index_arr17 (f : Nat → Int) (w : World) : (Instr.index 53 (.agg (arr f)) (.int .i64 ((17 : Nat) : Int))).run Tryz.prog w = .ok (.int .i64 (f 17)) w := by kernel_rfl
theorem index_arr (f : Nat → Int) {k : Nat} (hk : k < 18) (w : World) : (Instr.index 53 (.agg (arr f)) (.int .i64 k)).run Tryz.prog w = .ok (.int .i64 (f k)) w := by
  match k, hk with
  | 0, _ => exact index_arr0 f w
  | 1, _ => exact index_arr1 f w
  | 2, _ => exact index_arr2 f w
  | 3, _ => exact index_arr3 f w
  | 4, _ => exact index_arr4 f w
  | 5, _ => exact index_arr5 f w
  | 6, _ => exact index_arr6 f w
  | 7, _ => exact index_arr7 f w
  | 8, _ => exact index_arr8 f w
  | 9, _ => exact index_arr9 f w
  | 10, _ => exact index_arr10 f w
  | 11, _ => exact index_arr11 f w
  | 12, _ => exact index_arr12 f w
  | 13, _ => exact index_arr13 f w
  | 14, _ => exact index_arr14 f w
  | 15, _ => exact index_arr15 f w
  | 16, _ => exact index_arr16 f w
  | 17, _ => exact index_arr17 f w
  | n + 18, h => omega

theorem box_arr (f : Nat → Int) (w : World) : (w.alloc (.cells (arr f) 53 (0, 0))).heap[w.heap.size]? = some (.cells (arr f) 53 (0, 0)) := heap_alloc_new w _

theorem ret_arr {fn : Func} {p : Tmp} (h : fn.results = #[.cell p 53]) (tmps : Array Value) (w : World) (g : Nat) (f : Nat → Int) (fr : Nat × Nat)
    (hp : tmps.getD p undef = .pointer (some ⟨g, 0, none⟩)) (hg : w.heap[g]? = some (.cells (arr f) 53 fr)) : (results fn tmps).run Tryz.prog w = .ok (.agg (arr f)) w :=
  results_cell_row h tmps w g 53 (arr f) fr _ hp hg descA rfl (by rw [arr_size]; exact infoA)

/-- An array is answered. -/
def AnsA (f : Nat → Int) (w : World) (e : Ending) (w' : World) : Prop := e = .returned (.agg (arr f)) ∧ Below w.heap.size w w'

set_option maxRecDepth 100000 in
set_option maxHeartbeats 1000000 in
theorem timesEach_any (f g : Nat → Int) (w : World) (hf : ∀ j, j < 18 → 0 ≤ f j ∧ f j ≤ 100) (hg : ∀ j, j < 18 → 0 ≤ g j ∧ g j ≤ 100) :
    Calls Tryz.prog 54 #[.agg (arr f), .agg (arr g)] w (AnsA (fun j => f j * g j % 101) w) := by
  have HF := Lib.hid hf
  have HG := Lib.hid hg
  obtain ⟨w3, hw3⟩ : ∃ w3, w3 = ((w.alloc (.cells (arr f) 53 (0, 0))).alloc (.cells (arr g) 53 (0, 0))).alloc (.cells #[.int .i64 0, .int .i64 0, .int .i64 0, .int .i64 0, .int .i64 0, .int .i64 0, .int .i64 0, .int .i64 0, .int .i64 0, .int .i64 0, .int .i64 0, .int .i64 0, .int .i64 0, .int .i64 0, .int .i64 0, .int .i64 0, .int .i64 0, .int .i64 0] 53 (0, 0)) := ⟨_, rfl⟩
  have HW3 := Lib.hid hw3
  have HB3 : Hid (Below w.heap.size w w3) := Lib.hid (by rw [hw3]; exact (((Below.refl _ _).alloc (Nat.le_refl _) _).alloc (by simp) _).alloc (by simp; omega) _)
  have hs3 : w3.heap.size = w.heap.size + 3 := by rw [hw3]; simp
  have H0 : Hid (w3.heap[w.heap.size]? = some (.cells (arr f) 53 (0, 0))) := Lib.hid (by
    rw [hw3, Below.heap_alloc _ _ _ (by simp; omega), Below.heap_alloc _ _ _ (by simp)]; exact heap_alloc_new _ _)
  have H1 : Hid (w3.heap[w.heap.size + 1]? = some (.cells (arr g) 53 (0, 0))) := Lib.hid (by
    rw [hw3, Below.heap_alloc _ _ _ (by simp), show w.heap.size + 1 = (w.alloc (.cells (arr f) 53 (0, 0))).heap.size by simp]; exact heap_alloc_new _ _)
  have H2 : Hid (w3.heap[w.heap.size + 1 + 1]? = some (.cells (arr fun _ => 0) 53 (0, 0))) := Lib.hid (by
    rw [hw3, show w.heap.size + 1 + 1 = ((w.alloc (.cells (arr f) 53 (0, 0))).alloc (.cells (arr g) 53 (0, 0))).heap.size by simp]; exact heap_alloc_new _ _)
  have HS3 := Lib.hid hs3
  clear hf hg hw3 hs3
  go_enter Tryz.func54, Tryz.ntmps54
  go_upto_region 1 with fail
  rw [← HW3.out]
  go_wp2_with (refine wpList_load_row rfl 53 (.tmp 3) rfl (w.heap.size + 1) rfl 53 (arr g) (0, 0) _ H1.out descA rfl (by rw [arr_size]; exact infoA) ?_)
  go_loopw [8] (fun iv wr => ∃ k : Nat, k ≤ 18 ∧ iv = .int .i64 k ∧ wr.heap[w.heap.size]? = some (.cells (arr fun j => if j < k then f j * g j % 101 else f j) 53 (0, 0)) ∧ wr.heap[w.heap.size + 1 + 1]? = some (.cells (arr fun _ => 0) 53 (0, 0)) ∧ Below w.heap.size w wr) (fun iv _ => 18 - (intOf iv).toNat)
  case atStart => exact ⟨0, by omega, rfl, by rw [H0.out]; simp, H2.out, HB3.out⟩
  case round =>
    obtain ⟨k, hk, rfl, hc, hz, hB⟩ := hrel
    have HC := Lib.hid hc
    have HZ := Lib.hid hz
    have HB := Lib.hid hB
    by_cases hlt : k < 18
    · have d0 : wr.cell? ⟨w.heap.size, k, none⟩ = some (.int .i64 (f k)) := cellAt hc (by rw [arr_get _ hlt, if_neg (by omega)])
      have f0 : wr.frozen? ⟨w.heap.size, k, none⟩ = false := frozen_of_row _ _ _ _ _ hc
      have hix := fun W => index_arr g hlt W
      obtain ⟨a, ha⟩ : ∃ a, a = f k := ⟨_, rfl⟩
      obtain ⟨b, hb⟩ : ∃ b, b = g k := ⟨_, rfl⟩
      rw [← ha] at d0
      rw [← hb] at hix
      have hab := HF.out k hlt
      have hgb := HG.out k hlt
      rw [← ha] at hab
      rw [← hb] at hgb
      have hp1 : 0 ≤ a * b := Int.mul_nonneg hab.1 hgb.1
      have hp2 : a * b ≤ 100 * 100 := Int.mul_le_mul hab.2 hgb.2 hgb.1 (by omega)
      obtain ⟨p, hp⟩ : ∃ p, p = a * b := ⟨_, rfl⟩
      rw [← hp] at hp1 hp2
      have HPP := Lib.hid hp
      have hw1 : IntKind.i64.wrap (a * b) = a * b := by rw [← hp, IntKind.wrap_i64]; omega
      have HM := Lib.hid (modPrime_any (a * b) wr (by rw [← hp]; omega) (by rw [← hp]; omega))
      obtain ⟨q, hq⟩ : ∃ q, q = a * b % 101 := ⟨_, rfl⟩
      rw [← hq] at HM
      have HNX : Hid ((wr.setCell ⟨w.heap.size, k, none⟩ (.int .i64 q)).heap[w.heap.size]? = some (.cells (arr fun j => if j < k + 1 then f j * g j % 101 else f j) 53 (0, 0))) := Lib.hid (by
        rw [heap_setCell_same (k := k) hc (.int .i64 q), arr_set]
        congr 2
        apply arr_congr
        intro j hj
        by_cases e : j = k
        · subst e; rw [if_pos rfl, if_pos (by omega), hq, ha, hb]
        · rw [if_neg e]
          by_cases e2 : j < k
          · rw [if_pos e2, if_pos (by omega)]
          · rw [if_neg e2, if_neg (by omega)])
      have HZ2 : Hid ((wr.setCell ⟨w.heap.size, k, none⟩ (.int .i64 q)).heap[w.heap.size + 1 + 1]? = some (.cells (arr fun _ => 0) 53 (0, 0))) := Lib.hid (by
        rw [Below.heap_setCell _ _ _ _ (by simp; omega)]; exact hz)
      have HB2 := Lib.hid (hB.setCell (p := ⟨w.heap.size, k, none⟩) (Nat.le_refl _) (.int .i64 q))
      have k0 : (0 : Int) ≤ (k : Int) := by omega
      have k18 : (k : Int) < 18 := by omega
      clear hc hz hB ha hb hp hq hp1 hp2
      go_wp2_with fail
      refine HM.out.mono ?_
      rintro e w4 ⟨rfl, rfl⟩
      go_wp2_with fail
      exact ⟨⟨k + 1, by omega, by go_num, HNX.out, HZ2.out, HB2.out⟩, by simp [intOf]; omega⟩
    · have hk18 : k = 18 := by omega
      have HE : Hid (wr.heap[w.heap.size]? = some (.cells (arr fun j => f j * g j % 101) 53 (0, 0))) := Lib.hid (by
        rw [hc]
        congr 2
        apply arr_congr
        intro j hj
        rw [if_pos (by omega)])
      have HR := Lib.hid (setRow_heap wr (w.heap.size + 1 + 1) _ (arr fun j => f j * g j % 101) 53 (0, 0) hz)
      have HBF := Lib.hid (below_setRow hB (show w.heap.size ≤ w.heap.size + 1 + 1 by omega) (arr fun j => f j * g j % 101))
      clear hc hz hB hk18
      go_wp2_with (first
        | (refine wpList_load_row rfl 53 (.tmp 2) rfl w.heap.size rfl 53 (arr fun j => f j * g j % 101) (0, 0) _ HE.out descA rfl (by rw [arr_size]; exact infoA) ?_)
        | (refine wpList_store_row rfl 53 (.tmp 4) (.tmp 21) rfl (w.heap.size + 1 + 1) (arr fun j => f j * g j % 101) rfl rfl 53 _ HZ.out (by rw [arr_size]; exact infoA) (by rw [arr_size, arr_size]) (arr_one _) ?_))
      refine bodyPost_ret (v := .agg (arr fun j => f j * g j % 101)) (ret_arr rfl _ _ (w.heap.size + 1 + 1) _ (0, 0) rfl HR.out) rfl ?_
      exact ⟨rfl, HBF.out⟩

/-- The sum of the first numbers. -/
def sumTo (f : Nat → Int) : Nat → Int
  | 0 => 0
  | k + 1 => sumTo f k + f k
theorem sumTo_bound (f : Nat → Int) (hf : ∀ j, j < 18 → 0 ≤ f j ∧ f j ≤ 100) : ∀ k, k ≤ 18 → 0 ≤ sumTo f k ∧ sumTo f k ≤ 100 * k
  | 0, _ => ⟨Int.le_refl _, by simp [sumTo]⟩
  | k + 1, h => by
    have := sumTo_bound f hf k (by omega)
    have := hf k (by omega)
    simp only [sumTo]
    omega

/-- The struct that bears a row of signs: its cells. -/
def qcells (v : Value) (f : Nat → Int) : Array Value := #[v] ++ arr f
theorem qcells_size (v : Value) (f : Nat → Int) : (qcells v f).size = 19 := by simp [qcells, arr_size]
theorem qcells_at (v : Value) (f : Nat → Int) {j : Nat} (h : j < 18) : (qcells v f)[1 + j]? = some (.int .i64 (f j)) := by
  rw [qcells, Array.getElem?_append_right (by simp)]
  simpa using arr_get f h
theorem qcells_zero (v : Value) (f : Nat → Int) : (qcells v f)[0]? = some v := by
  rw [qcells, Array.getElem?_append_left (by simp)]; simp
theorem qagg_cells {ts : List T} {v : Value} {cs : Array Value} (h : QAgg ts v cs) : cs = qcells v (fun j => if h : j < ts.length then quadSign ts[j] % 101 else 0) := by
  obtain ⟨h1, h2, h3⟩ := h
  apply Array.ext_getElem?
  intro i
  by_cases hi : i < 19
  · by_cases h0 : i = 0
    · subst h0
      rw [h2, qcells_zero]
    · obtain ⟨j, rfl⟩ : ∃ j, i = 1 + j := ⟨i - 1, by omega⟩
      rw [h3 j (by omega), qcells_at v _ (j := j) (by omega)]
  · rw [Array.getElem?_eq_none (by omega), Array.getElem?_eq_none (by rw [qcells_size]; omega)]

def arrL (f : Nat → Int) : List Value := (List.range 18).map fun j => Value.int .i64 (f j)
theorem arrL_length (f : Nat → Int) : (arrL f).length = 18 := by simp [arrL]
theorem range_arr {w : World} {g : Nat} {f : Nat → Int} {t : TypeId} {fr : Nat × Nat} (h : w.heap[g]? = some (.cells (arr f) t fr)) : w.rangeAt g 0 (arrL f) := fun j v hv => by
  rw [Nat.zero_add]
  exact cellAt h (by rw [← hv]; simp [arr, arrL])
theorem range_qcells {w : World} {g : Nat} {v : Value} {f : Nat → Int} {t : TypeId} {fr : Nat × Nat} (h : w.heap[g]? = some (.cells (qcells v f) t fr)) : w.rangeAt g 1 (arrL f) := fun j u hv => by
  refine cellAt h ?_
  rw [qcells, Array.getElem?_append_right (by simp), ← hv]
  simp [arr, arrL]
/-- What is held in the pairing's region. -/
def HeldQ (B : Nat) (v : Value) (f g h : Nat → Int) (w' : World) : Prop := w'.heap[B]? = some (.cells (qcells v h) 55 (0, 0)) ∧ w'.heap[B + 1]? = some (.cells (arr f) 53 (0, 0)) ∧ w'.heap[B + 1 + 1]? = some (.cells (arr g) 53 (0, 0))
theorem HeldQ.keep {B : Nat} {v : Value} {f g h : Nat → Int} {w1 w2 : World} (hs : HeldQ B v f g h w1) (hb : Below w1.heap.size w1 w2) : HeldQ B v f g h w2 :=
  ⟨(hb.block _ (Array.getElem?_eq_some_iff.1 hs.1).1).trans hs.1, (hb.block _ (Array.getElem?_eq_some_iff.1 hs.2.1).1).trans hs.2.1, (hb.block _ (Array.getElem?_eq_some_iff.1 hs.2.2).1).trans hs.2.2⟩

end Go.Proofs.YtoeebipahifpcaaGreat
end
section
/- The row of a sum of quadratic trees, by the program. -/
namespace Go.Proofs.YtoeebipahifpcaaGreat
open Go.RowKit

/-- The coefficients of a sum, by the trees of a list. -/
def qRow (ts : List T) (ps : List Tm) : Nat → Int := fun j => if h : j < ts.length then cf ps ts[j] else 0
def inTrees (ts : List T) (ps : List Tm) : Bool := ps.all fun p => (ts.map T.text).contains p.2.text
/-- The row of a sum, if it has no other tree. -/
def qRowOf (ts : List T) (xs : List (Int × ByteArray)) : Option (Nat → Int) :=
  match sumOf xs with
  | none => none
  | some ps => if inTrees ts ps then some (qRow ts ps) else none

theorem qRowOf_none {ts : List T} {xs : List (Int × ByteArray)} (h : sumOf xs = none) : qRowOf ts xs = none := by rw [qRowOf, h]
theorem qRowOf_other {ts : List T} {xs : List (Int × ByteArray)} {ps : List Tm} (h : sumOf xs = some ps) (p : Tm) (hp : p ∈ ps) (hn : ∀ t ∈ ts, t.text ≠ p.2.text) : qRowOf ts xs = none := by
  have : inTrees ts ps = false := by
    rw [Bool.eq_false_iff]
    intro hc
    have h1 := List.all_eq_true.1 hc p hp
    rw [List.contains_iff_mem, List.mem_map] at h1
    obtain ⟨t, ht, e⟩ := h1
    exact hn t ht e
  simp only [qRowOf, h, this]; rfl
theorem qRowOf_yes {ts : List T} {xs : List (Int × ByteArray)} {ps : List Tm} (h : sumOf xs = some ps) (hall : ∀ p ∈ ps, ∃ t ∈ ts, t.text = p.2.text) : qRowOf ts xs = some (qRow ts ps) := by
  have : inTrees ts ps = true := List.all_eq_true.2 (fun p hp => by
    rw [List.contains_iff_mem, List.mem_map]
    obtain ⟨t, ht, e⟩ := hall p hp
    exact ⟨t, ht, e⟩)
  simp only [qRowOf, h, this, if_true]

/-- One term more. -/
theorem qRow_next {ts : List T} {ps : List Tm} (hts : ∀ t ∈ ts, t.wf) (hdesc : ts.Pairwise (fun a b => 0 < ordT a b)) (hnf : NF ps) {k at_ : Nat} (hk : k < ps.length) (ha : at_ < ts.length) (he : (ts[at_]).text = (ps[k]).2.text) :
    ∀ j, (if j = at_ then (ps[k]).1 else qRow ts (ps.take k) j) = qRow ts (ps.take (k + 1)) j := by
  have hpw := (hnf.2 (ps[k]) (List.getElem_mem hk)).2.2
  have e : ts[at_] = (ps[k]).2 := text_inj (hts _ (List.getElem_mem ha)) hpw he
  have e1 : ps.take (k + 1) = ps.take k ++ [ps[k]] := List.take_succ_eq_append_getElem hk
  intro j
  unfold qRow
  by_cases hj : j = at_
  · subst hj
    rw [if_pos rfl, dif_pos ha, e1, cf_append, e, cf_none, cf_one _ _ (isCmp_ordT.self _)]
    · omega
    · intro p hp
      obtain ⟨i, hi, rfl⟩ := List.getElem_of_mem hp
      rw [List.length_take] at hi
      rw [List.getElem_take]
      have := (List.pairwise_iff_getElem.1 hnf.1) i k (by omega) hk (by omega)
      omega
  · rw [if_neg hj]
    by_cases hlt : j < ts.length
    · rw [dif_pos hlt, dif_pos hlt, e1, cf_append, cf_none (l := [ps[k]])]
      · omega
      · intro p hp
        simp only [List.mem_cons, List.not_mem_nil, or_false] at hp
        subst hp
        rw [← e]
        rcases Nat.lt_or_ge j at_ with h | h
        · have := (List.pairwise_iff_getElem.1 hdesc) j at_ hlt ha h
          have := isCmp_ordT.anti ts[j] ts[at_]
          omega
        · have := (List.pairwise_iff_getElem.1 hdesc) at_ j ha hlt (by omega)
          omega
    · rw [dif_neg hlt, dif_neg hlt]

theorem qRow_bound {ts : List T} {ps : List Tm} (hnf : NF ps) (hts : ∀ t ∈ ts, t.wf) (j : Nat) : 0 ≤ qRow ts ps j ∧ qRow ts ps j ≤ 100 := by
  unfold qRow
  split
  · rename_i h
    by_cases hx : ∃ p ∈ ps, ordT p.2 ts[j] = 0
    · obtain ⟨p, hp, e⟩ := hx
      have h1 := ordT_zero (hnf.2 p hp).2.2 (hts _ (List.getElem_mem h)) e
      rw [← h1, hnf.cf_mem p hp]
      have := hnf.2 p hp
      omega
    · rw [cf_none (fun p hp e => hx ⟨p, hp, e⟩)]; omega
  · omega

/-- What 'rowOf' answers. -/
def RowOf (ts : List T) (xs : List (Int × ByteArray)) (w : World) (e : Ending) (w' : World) : Prop :=
  Below w.heap.size w w' ∧ ((qRowOf ts xs = none ∧ ∃ f, e = .returned (.tuple #[.agg (arr f), .bool false])) ∨ ∃ f, qRowOf ts xs = some f ∧ e = .returned (.tuple #[.agg (arr f), .bool true]))

/-- The texts of trees. -/
def txB (ts : List T) : List ByteArray := ts.map fun t => ⟨t.text.toArray⟩
theorem txB_length (ts : List T) : (txB ts).length = ts.length := by simp [txB]
theorem txB_get (ts : List T) {j : Nat} (h : j < ts.length) : (txB ts)[j]'(by rw [txB_length]; exact h) = ⟨(ts[j]).text.toArray⟩ := by simp [txB]
theorem TxG.of_texts {w : World} {g : Nat} {ts : List T} (h : Lies w (some ⟨g, 0, none⟩) (ts.map T.text)) : TxG w g (txB ts) := fun j hj => by
  obtain ⟨g', e, hc⟩ := h j (by rw [txB_length] at hj; simpa using hj)
  cases e
  rw [hc]
  simp [txB]

theorem text_of_bytes {l : List UInt8} {s : ByteArray} (h : (⟨l.toArray⟩ : ByteArray) = s) : s.data.toList = l := by subst h; simp

set_option maxRecDepth 100000 in
set_option maxHeartbeats 4000000 in
theorem rowOf_any (ts : List T) (xs : List (Int × ByteArray)) (n m : Nat) (hnt : n = ts.length) (hmx : m = xs.length) (gt ct : Nat) (h : Nat → Int) (g cap : Nat) (w : World) (hn : n ≤ 18) (hm : m ≤ 1048576)
    (hts : ∀ t ∈ ts, t.wf) (hdesc : ts.Pairwise (fun a b => 0 < ordT a b)) (hz : ∀ j (h : j < xs.length), (xs[j]).2.size ≤ 1048576) (htx : TxG w gt (txB ts)) (hl : TermL w g xs) :
    Calls Tryz.prog 41 #[.agg (qcells (.slice (some ⟨gt, 0, none⟩) n ct) h), .slice (some ⟨g, 0, none⟩) m cap] w (RowOf ts xs w) := by
  obtain ⟨w2, hw2⟩ : ∃ w2, w2 = (w.alloc (.cells (qcells (.slice (some ⟨gt, 0, none⟩) n ct) h) 55 (0, 0))).alloc (.cells #[.int .i64 0, .int .i64 0, .int .i64 0, .int .i64 0, .int .i64 0, .int .i64 0, .int .i64 0, .int .i64 0, .int .i64 0, .int .i64 0, .int .i64 0, .int .i64 0, .int .i64 0, .int .i64 0, .int .i64 0, .int .i64 0, .int .i64 0, .int .i64 0] 53 (0, 0)) := ⟨_, rfl⟩
  have HW2 := Lib.hid hw2
  have HB2 : Hid (Below w.heap.size w w2) := Lib.hid (by rw [hw2]; exact ((Below.refl _ _).alloc (Nat.le_refl _) _).alloc (by simp) _)
  have HS2 : Hid (w2.heap.size = w.heap.size + 2) := Lib.hid (by rw [hw2]; simp)
  have H0 : Hid (w2.heap[w.heap.size]? = some (.cells (qcells (.slice (some ⟨gt, 0, none⟩) n ct) h) 55 (0, 0))) := Lib.hid (by
    rw [hw2, Below.heap_alloc _ _ _ (by simp)]; exact heap_alloc_new _ _)
  have H1 : Hid (w2.heap[w.heap.size + 1]? = some (.cells (arr fun _ => 0) 53 (0, 0))) := Lib.hid (by
    rw [hw2, show w.heap.size + 1 = (w.alloc (.cells (qcells (.slice (some ⟨gt, 0, none⟩) n ct) h) 55 (0, 0))).heap.size by simp]; exact heap_alloc_new _ _)
  have HSV := Lib.hid (iSumValid_any xs m hmx g cap w2 hm hz (hl.below HB2.out))
  have HL := Lib.hid hl
  have HTX := Lib.hid htx
  have HTS := Lib.hid hts
  have HDE := Lib.hid hdesc
  have HNT := Lib.hid hnt
  have HMX := Lib.hid hmx
  -- what is answered where the list has no row
  have BAD : Hid (∀ (W : World), Below w2.heap.size w2 W → W.heap[w.heap.size + 1]? = some (.cells (arr fun _ => 0) 53 (0, 0)) ∧ Below w.heap.size w (W.setRow (w.heap.size + 1) (arr fun _ => 0))) := Lib.hid (fun W hb =>
    ⟨(hb.block _ (by rw [HS2.out]; omega)).trans H1.out, below_setRow (below_step HB2.out hb) (by omega) _⟩)
  clear hw2 hl htx hts hdesc hnt hmx hz
  cases ho : sumOf xs with
  | none =>
    have HN := Lib.hid (qRowOf_none (ts := ts) ho)
    rw [ho] at HSV
    clear ho
    go_enter Tryz.func41, Tryz.ntmps41
    go_upto_region 1 with fail
    rw [← HW2.out]
    go_wp2_with fail
    refine HSV.out.mono ?_
    rintro e w3 ⟨rfl, hB3⟩
    obtain ⟨b1, b2⟩ := BAD.out w3 hB3
    have hr := setRow_heap w3 (w.heap.size + 1) _ (arr fun _ => 0) 53 (0, 0) b1
    clear hB3
    go_wp2_with (refine wpList_store_row rfl 53 (.tmp 4) (.tmp 13) rfl (w.heap.size + 1) (arr fun _ => 0) rfl rfl 53 _ b1 (by rw [arr_size]; exact infoA) (by rw [arr_size]) (arr_one _) ?_)
    refine bodyPost_ret (v := .tuple #[.agg (arr fun _ => 0), .bool false]) (by rw [results_cell_tmp rfl]; simp [asAddr, Result.andThen, run_loadVar_row _ _ _ _ _ _ _ hr descA rfl (by rw [arr_size]; exact infoA)]) rfl ?_
    exact ⟨b2, .inl ⟨HN.out, _, rfl⟩⟩
  | some ps =>
    have HO := Lib.hid ho
    have HXT := Lib.hid (sum_txt ho)
    have HNF := Lib.hid (sum_trees ho).2.2
    have HPM : Hid (m = ps.length) := Lib.hid (by rw [HMX.out, ← HXT.out, txtTm_length])
    have hm60 : m ≤ 60 := by rw [HPM.out]; exact (sum_trees ho).1
    rw [ho] at HSV
    clear ho
    go_enter Tryz.func41, Tryz.ntmps41
    go_upto_region 1 with fail
    rw [← HW2.out]
    go_wp2_with fail
    refine HSV.out.mono ?_
    rintro e w3 ⟨rfl, hB3⟩
    have HB3 := Lib.hid hB3
    have hs3 : w.heap.size + 2 ≤ w3.heap.size := by have := hB3.size; rw [HS2.out] at this; exact this
    obtain ⟨w4, hw4⟩ : ∃ w4, w4 = w3.alloc (.cells (arr fun _ => 0) 53 (0, 0)) := ⟨_, rfl⟩
    have HW4 := Lib.hid hw4
    have HB4 : Hid (Below w2.heap.size w2 w4) := Lib.hid (by rw [hw4]; exact hB3.alloc hB3.size _)
    have H6 : Hid (w4.heap[w3.heap.size]? = some (.cells (arr fun _ => 0) 53 (0, 0))) := Lib.hid (by rw [hw4]; exact heap_alloc_new _ _)
    have HS4 : Hid (w4.heap.size = w3.heap.size + 1) := Lib.hid (by rw [hw4]; simp)
    clear hB3 hw4
    go_upto_region 4 with (refine wpList_store_row rfl 53 (.tmp 6) (.tmp 14) rfl w3.heap.size (arr fun _ => 0) rfl rfl 53 _ (heap_alloc_new _ _) (by rw [arr_size]; exact infoA) rfl (arr_one _) ?_)
    rw [World.setRow_alloc_new, ← HW4.out]
    go_wp2_with fail
    go_loopw [17] (fun iv wr => ∃ k : Nat, k ≤ m ∧ iv = .int .i64 k ∧ wr.heap[w3.heap.size]? = some (.cells (arr (qRow ts (ps.take k))) 53 (0, 0)) ∧ (∀ p ∈ ps.take k, ∃ t ∈ ts, t.text = p.2.text) ∧ Below w3.heap.size w4 wr) (fun iv _ => m - (intOf iv).toNat)
    case atStart =>
      refine ⟨0, Nat.zero_le _, rfl, ?_, fun p hp => by simp at hp, Below.refl _ _⟩
      rw [H6.out]
      congr 2
      apply arr_congr
      intro j _
      unfold qRow
      split <;> simp [cf]
    case round =>
      obtain ⟨k, hk, rfl, hc, hall, hB⟩ := hrel
      have HC := Lib.hid hc
      have HALL := Lib.hid hall
      have HB := Lib.hid hB
      have hsr : w3.heap.size + 1 ≤ wr.heap.size := by have := hB.size; rw [HS4.out] at this; exact this
      have HBW : Hid (Below w2.heap.size w2 wr) := Lib.hid (HB4.out.trans (hB.mono (by rw [HS2.out]; omega)))
      have h0r : wr.heap[w.heap.size]? = some (.cells (qcells (.slice (some ⟨gt, 0, none⟩) n ct) h) 55 (0, 0)) := (HBW.out.block _ (by rw [HS2.out]; omega)).trans H0.out
      have q0 : wr.cell? ⟨w.heap.size, 0, none⟩ = some (.slice (some ⟨gt, 0, none⟩) n ct) := cellAt h0r (qcells_zero _ _)
      have HBWW := Lib.hid (below_step HB2.out HBW.out)
      by_cases hlt : k < m
      · have hltx : k < xs.length := by rw [← HMX.out]; exact hlt
        have hltp : k < ps.length := by rw [← HPM.out]; exact hlt
        obtain ⟨d0, d1⟩ := (HL.out.below HBWW.out) k hltx
        have ex : xs[k] = ((ps[k]).1, ⟨(ps[k]).2.text.toArray⟩) := by
          have := HXT.out
          rw [List.getElem_of_eq this.symm hltx]; simp [txtTm]
        rw [ex] at d0 d1
        obtain ⟨cc, hcc⟩ : ∃ cc, cc = (ps[k]).1 := ⟨_, rfl⟩
        obtain ⟨s, hs⟩ : ∃ s : ByteArray, s = ⟨(ps[k]).2.text.toArray⟩ := ⟨_, rfl⟩
        rw [← hcc] at d0
        rw [← hs] at d1
        have HCC := Lib.hid hcc
        have HSS := Lib.hid hs
        have HIX := Lib.hid (fun (W : World) (hb : Below wr.heap.size wr W) => index_any (txB ts) s n (by rw [txB_length]; exact HNT.out) gt ct W (by omega) ((HTX.out.below HBWW.out).below hb))
        have hb6 : w3.heap.size < wr.heap.size := by omega
        have hb0 : w.heap.size < wr.heap.size := by omega
        clear hc hall hB ex hcc hs h0r
        go_wp2_with fail
        refine (HIX.out _ ((Below.refl _ _).alloc (Nat.le_refl _) _)).mono ?_
        rintro e wx ⟨hwx, ⟨i0, hi0, rfl, he, _⟩ | ⟨rfl, hne⟩⟩
        · rw [← hwx]
          have hi18 : i0 < 18 := by rw [txB_length, ← HNT.out] at hi0; omega
          have hit : i0 < ts.length := by rw [txB_length] at hi0; exact hi0
          have hte : (ts[i0]).text = (ps[k]).2.text := by
            rw [txB_get ts hit] at he
            have h1 := text_of_bytes he
            rw [HSS.out] at h1
            rw [← h1]
          obtain ⟨o, ho⟩ : ∃ o : Obj, o = .cells #[.int .i64 cc, .string s] 73 (0, 0) := ⟨_, rfl⟩
          have hca : (wr.alloc (.cells #[.int .i64 cc, .string s] 73 (0, 0))).heap[w3.heap.size]? = some (.cells (arr (qRow ts (ps.take k))) 53 (0, 0)) := by
            rw [Below.heap_alloc _ _ _ hb6]; exact HC.out
          have p0 : (wr.alloc (.cells #[.int .i64 cc, .string s] 73 (0, 0))).cell? ⟨w3.heap.size, i0, none⟩ = some (.int .i64 _) := cellAt hca (arr_get _ hi18)
          have pf := frozen_of_row _ _ i0 _ _ hca
          have HNX : Hid (((wr.setCell ⟨w3.heap.size, i0, none⟩ (.int .i64 cc)).alloc (.cells #[.int .i64 cc, .string s] 73 (0, 0))).heap[w3.heap.size]? = some (.cells (arr (qRow ts (ps.take (k + 1)))) 53 (0, 0))) := Lib.hid (by
            rw [Below.heap_alloc _ _ _ (by simp; omega), heap_setCell_same (k := i0) HC.out (.int .i64 cc), arr_set]
            congr 2
            apply arr_congr
            intro j _
            rw [HCC.out]
            exact qRow_next HTS.out HDE.out HNF.out hltp hit hte j)
          have HBN : Hid (Below w3.heap.size w4 ((wr.setCell ⟨w3.heap.size, i0, none⟩ (.int .i64 cc)).alloc (.cells #[.int .i64 cc, .string s] 73 (0, 0)))) := Lib.hid ((HB.out.setCell (Nat.le_refl _) _).alloc (by simp; omega) _)
          have HALN : Hid (∀ p ∈ ps.take (k + 1), ∃ t ∈ ts, t.text = p.2.text) := Lib.hid (fun p hp => by
            rw [List.take_succ_eq_append_getElem hltp] at hp
            rcases List.mem_append.1 hp with e | e
            · exact HALL.out p e
            · simp only [List.mem_cons, List.not_mem_nil, or_false] at e
              subst e
              exact ⟨ts[i0], List.getElem_mem hit, hte⟩)
          have i00 : (0 : Int) ≤ (i0 : Int) := by omega
          have i018 : (i0 : Int) < 18 := by omega
          clear he hwx hca ho hte q0 d0 d1
          go_wp2_with fail
          exact ⟨⟨k + 1, by omega, by go_num, HNX.out, HALN.out, HBN.out⟩, by simp [intOf]; omega⟩
        · rw [← hwx]
          have HN : Hid (qRowOf ts xs = none) := Lib.hid (qRowOf_other HO.out (ps[k]) (List.getElem_mem hltp) (fun t ht e => by
            obtain ⟨j, hj, rfl⟩ := List.getElem_of_mem ht
            exact hne j (by rw [txB_length]; exact hj) (by rw [txB_get ts hj, HSS.out, e])))
          obtain ⟨b1, b2⟩ := BAD.out (wr.alloc (.cells #[.int .i64 cc, .string s] 73 (0, 0))) (HBW.out.alloc HBW.out.size _)
          have hr := setRow_heap _ (w.heap.size + 1) _ (arr fun _ => 0) 53 (0, 0) b1
          clear hne hwx q0 d0 d1
          go_wp2_with (refine wpList_store_row rfl 53 (.tmp 4) (.tmp 28) rfl (w.heap.size + 1) (arr fun _ => 0) rfl rfl 53 _ b1 (by rw [arr_size]; exact infoA) (by rw [arr_size]) (arr_one _) ?_)
          refine bodyPost_ret (v := .tuple #[.agg (arr fun _ => 0), .bool false]) (by rw [results_cell_tmp rfl]; simp [asAddr, Result.andThen, run_loadVar_row _ _ _ _ _ _ _ hr descA rfl (by rw [arr_size]; exact infoA)]) rfl ?_
          exact ⟨b2, .inl ⟨HN.out, _, rfl⟩⟩
      · have hkm : k = m := by omega
        have HE : Hid (wr.heap[w3.heap.size]? = some (.cells (arr (qRow ts ps)) 53 (0, 0))) := Lib.hid (by
          rw [hc, hkm, HPM.out, List.take_length])
        have HF : Hid (qRowOf ts xs = some (qRow ts ps)) := Lib.hid (qRowOf_yes HO.out (by
          have h1 := hall
          rw [hkm, HPM.out, List.take_length] at h1
          exact h1))
        obtain ⟨b1, _⟩ := BAD.out wr HBW.out
        have hr := setRow_heap wr (w.heap.size + 1) _ (arr (qRow ts ps)) 53 (0, 0) b1
        have HBF := Lib.hid (below_setRow HBWW.out (show w.heap.size ≤ w.heap.size + 1 by omega) (arr (qRow ts ps)))
        clear hc hall hB hkm h0r q0
        go_wp2_with (first
          | (refine wpList_load_row rfl 53 (.tmp 6) rfl w3.heap.size rfl 53 (arr (qRow ts ps)) (0, 0) _ HE.out descA rfl (by rw [arr_size]; exact infoA) ?_)
          | (refine wpList_store_row rfl 53 (.tmp 4) (.tmp 34) rfl (w.heap.size + 1) (arr (qRow ts ps)) rfl rfl 53 _ b1 (by rw [arr_size]; exact infoA) (by rw [arr_size, arr_size]) (arr_one _) ?_))
        refine bodyPost_ret (v := .tuple #[.agg (arr (qRow ts ps)), .bool true]) (by rw [results_cell_tmp rfl]; simp [asAddr, Result.andThen, run_loadVar_row _ _ _ _ _ _ _ hr descA rfl (by rw [arr_size]; exact infoA)]) rfl ?_
        exact ⟨HBF.out, .inr ⟨_, HF.out, rfl⟩⟩
end Go.Proofs.YtoeebipahifpcaaGreat
end
section
/- QuadPair by the program. -/
namespace Go.Proofs.YtoeebipahifpcaaGreat
open Go.RowKit

/-- The sign of each quadratic tree, as the program has it. -/
def sgn (ts : List T) : Nat → Int := fun j => if h : j < ts.length then quadSign ts[j] % 101 else 0
theorem sgn_bound (ts : List T) (j : Nat) : 0 ≤ sgn ts j ∧ sgn ts j ≤ 100 := by
  unfold sgn; split <;> omega

/-- The pairing of two sums. -/
def pairOf (ss : List ByteArray) (xs ys : List (Int × ByteArray)) : Int :=
  match quadsOf ss with
  | none => -1
  | some ts =>
    match qRowOf ts xs, qRowOf ts ys with
    | some f, some g => sumTo (fun j => f j * g j % 101 * sgn ts j % 101) 18 % 101
    | _, _ => -1

theorem pairOf_no {ss : List ByteArray} {xs ys : List (Int × ByteArray)} (h : quadsOf ss = none) : pairOf ss xs ys = -1 := by simp only [pairOf, h]
theorem pairOf_no1 {ss : List ByteArray} {xs ys : List (Int × ByteArray)} {ts : List T} (h : quadsOf ss = some ts) (h1 : qRowOf ts xs = none) : pairOf ss xs ys = -1 := by simp only [pairOf, h, h1]
theorem pairOf_no2 {ss : List ByteArray} {xs ys : List (Int × ByteArray)} {ts : List T} (h : quadsOf ss = some ts) (h1 : qRowOf ts ys = none) : pairOf ss xs ys = -1 := by
  simp only [pairOf, h, h1]; cases qRowOf ts xs <;> rfl
theorem pairOf_yes {ss : List ByteArray} {xs ys : List (Int × ByteArray)} {ts : List T} {f g : Nat → Int} (h : quadsOf ss = some ts) (h1 : qRowOf ts xs = some f) (h2 : qRowOf ts ys = some g) : pairOf ss xs ys = sumTo (fun j => f j * g j % 101 * sgn ts j % 101) 18 % 101 := by simp only [pairOf, h, h1, h2]

theorem qRowOf_bound {ts : List T} {xs : List (Int × ByteArray)} {f : Nat → Int} (hts : ∀ t ∈ ts, t.wf) (h : qRowOf ts xs = some f) (j : Nat) : 0 ≤ f j ∧ f j ≤ 100 := by
  unfold qRowOf at h
  split at h
  · cases h
  · rename_i ps hs
    split at h
    · cases h; exact qRow_bound (sum_trees hs).2.2 hts j
    · cases h

theorem qcells_one {v : Value} (hv : v.oneCell' = true) (f : Nat → Int) : (qcells v f).all (·.oneCell') = true := by
  rw [Array.all_eq_true]
  intro i hi
  rw [qcells_size] at hi
  by_cases h0 : i = 0
  · subst h0
    have h := qcells_zero v f
    rw [Array.getElem?_eq_getElem (by rw [qcells_size]; omega)] at h
    simp only [Option.some.injEq] at h
    rw [h]; exact hv
  · obtain ⟨j, rfl⟩ : ∃ j, i = 1 + j := ⟨i - 1, by omega⟩
    have h := qcells_at v f (j := j) (by omega)
    rw [Array.getElem?_eq_getElem (by rw [qcells_size]; omega)] at h
    simp only [Option.some.injEq] at h
    rw [h]; rfl

theorem quads_pos {ss : List ByteArray} {ts : List T} (h : quadsOf ss = some ts) : 0 < ts.length ∧ 1 ≤ ss.length ∧ ss.length ≤ 3 := by
  have h' := h
  unfold quadsOf at h
  cases hl : lettersOf ss with
  | none => rw [hl] at h; cases h
  | some cs =>
    rw [hl] at h
    cases h
    obtain ⟨h1, h2, h3⟩ := lettersOf_ok hl
    have e : ss.length = cs.length := by rw [h1.txt, List.length_map]
    refine ⟨?_, by omega, by omega⟩
    -- the first quadratic tree stands in the list
    have hw : ∀ t ∈ quadAll cs, t.wf := fun t ht => (quad_wf h1.let_ t ht).1
    obtain ⟨c, hc⟩ : ∃ c, c ∈ cs := ⟨cs[0], List.getElem_mem _⟩
    have hm : quadL c c ∈ quadAll cs := quadAll_mem.2 ⟨c, hc, c, hc, .inl rfl⟩
    rcases Nat.eq_zero_or_pos (downT (quadAll cs)).length with h0 | h0
    · exfalso
      have h5 : (canon ((quadAll cs).map fun t => ((1 : Int), t))) = [] := by
        rw [downT, List.length_map] at h0
        exact List.length_eq_zero_iff.1 h0
      have h6 := cf_canon ((quadAll cs).map fun t => ((1 : Int), t)) (quadL c c)
      rw [h5, cf_ones_le _ hw (quadRows_nodup h1.nodup cs h1.nodup) _ hm, cf] at h6
      omega
    · exact h0

end Go.Proofs.YtoeebipahifpcaaGreat
end
