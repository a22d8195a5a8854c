/- Merged out of: XQSpan, XQSpanA, XRegZ, XQRed. -/
import Derived.Test.YtoeebipahifpcaaGreatKQuadP
import Derived.ChangeKeysEq
import Derived.Test.YtoeebipahifpcaaGreatKSerM
import Derived.Deep.RegionHeld3
import Derived.Deep.MidRow
section
/- Rows of numbers modulo 101 by the program: added, multiplied, compared. -/
namespace Go.Proofs.YtoeebipahifpcaaGreat
open Go.RowKit

set_option maxRecDepth 100000 in
set_option maxHeartbeats 1000000 in
theorem quadPlus_any (f g : Nat → Int) (w : World) (hf : ∀ j, j < 18 → 0 ≤ f j ∧ f j ≤ 100) (hg : ∀ j, j < 18 → 0 ≤ g j ∧ g j ≤ 100) :
    Calls Tryz.prog 70 #[.agg (arr f), .agg (arr g)] w (AnsA (fun j => (f j + g j) % 101) w) := by
  have HF := Lib.hid hf
  have HG := Lib.hid hg
  obtain ⟨w3, hw3⟩ : ∃ w3, w3 = ((w.alloc (.cells (arr f) 53 (0, 0))).alloc (.cells (arr g) 53 (0, 0))).alloc (.cells #[.int .i64 0, .int .i64 0, .int .i64 0, .int .i64 0, .int .i64 0, .int .i64 0, .int .i64 0, .int .i64 0, .int .i64 0, .int .i64 0, .int .i64 0, .int .i64 0, .int .i64 0, .int .i64 0, .int .i64 0, .int .i64 0, .int .i64 0, .int .i64 0] 53 (0, 0)) := ⟨_, rfl⟩
  have HW3 := Lib.hid hw3
  have HB3 : Hid (Below w.heap.size w w3) := Lib.hid (by rw [hw3]; exact (((Below.refl _ _).alloc (Nat.le_refl _) _).alloc (by simp) _).alloc (by simp; omega) _)
  have hs3 : w3.heap.size = w.heap.size + 3 := by rw [hw3]; simp
  have H0 : Hid (w3.heap[w.heap.size]? = some (.cells (arr f) 53 (0, 0))) := Lib.hid (by
    rw [hw3, Below.heap_alloc _ _ _ (by simp; omega), Below.heap_alloc _ _ _ (by simp)]; exact heap_alloc_new _ _)
  have H1 : Hid (w3.heap[w.heap.size + 1]? = some (.cells (arr g) 53 (0, 0))) := Lib.hid (by
    rw [hw3, Below.heap_alloc _ _ _ (by simp), show w.heap.size + 1 = (w.alloc (.cells (arr f) 53 (0, 0))).heap.size by simp]; exact heap_alloc_new _ _)
  have H2 : Hid (w3.heap[w.heap.size + 1 + 1]? = some (.cells (arr fun _ => 0) 53 (0, 0))) := Lib.hid (by
    rw [hw3, show w.heap.size + 1 + 1 = ((w.alloc (.cells (arr f) 53 (0, 0))).alloc (.cells (arr g) 53 (0, 0))).heap.size by simp]; exact heap_alloc_new _ _)
  have HS3 := Lib.hid hs3
  clear hf hg hw3 hs3
  go_enter Tryz.func70, Tryz.ntmps70
  go_upto_region 1 with fail
  rw [← HW3.out]
  go_wp2_with (refine wpList_load_row rfl 53 (.tmp 3) rfl (w.heap.size + 1) rfl 53 (arr g) (0, 0) _ H1.out descA rfl (by rw [arr_size]; exact infoA) ?_)
  go_loopw [8] (fun iv wr => ∃ k : Nat, k ≤ 18 ∧ iv = .int .i64 k ∧ wr.heap[w.heap.size]? = some (.cells (arr fun j => if j < k then (f j + g j) % 101 else f j) 53 (0, 0)) ∧ wr.heap[w.heap.size + 1 + 1]? = some (.cells (arr fun _ => 0) 53 (0, 0)) ∧ Below w.heap.size w wr) (fun iv _ => 18 - (intOf iv).toNat)
  case atStart => exact ⟨0, by omega, rfl, by rw [H0.out]; simp, H2.out, HB3.out⟩
  case round =>
    obtain ⟨k, hk, rfl, hc, hz, hB⟩ := hrel
    have HC := Lib.hid hc
    have HZ := Lib.hid hz
    have HB := Lib.hid hB
    by_cases hlt : k < 18
    · have d0 : wr.cell? ⟨w.heap.size, k, none⟩ = some (.int .i64 (f k)) := cellAt hc (by rw [arr_get _ hlt, if_neg (by omega)])
      have f0 : wr.frozen? ⟨w.heap.size, k, none⟩ = false := frozen_of_row _ _ _ _ _ hc
      have hix := fun W => index_arr g hlt W
      obtain ⟨a, ha⟩ : ∃ a, a = f k := ⟨_, rfl⟩
      obtain ⟨b, hb⟩ : ∃ b, b = g k := ⟨_, rfl⟩
      rw [← ha] at d0
      rw [← hb] at hix
      have hab := HF.out k hlt
      have hgb := HG.out k hlt
      rw [← ha] at hab
      rw [← hb] at hgb
      have hp1 : 0 ≤ a + b := by omega
      have hp2 : a + b ≤ 200 := by omega
      obtain ⟨p, hp⟩ : ∃ p, p = a + b := ⟨_, rfl⟩
      rw [← hp] at hp1 hp2
      have HPP := Lib.hid hp
      have hw1 : IntKind.i64.wrap (a + b) = a + b := by rw [← hp, IntKind.wrap_i64]; omega
      have HM := Lib.hid (modPrime_any (a + b) wr (by rw [← hp]; omega) (by rw [← hp]; omega))
      obtain ⟨q, hq⟩ : ∃ q, q = (a + b) % 101 := ⟨_, rfl⟩
      rw [← hq] at HM
      have HNX : Hid ((wr.setCell ⟨w.heap.size, k, none⟩ (.int .i64 q)).heap[w.heap.size]? = some (.cells (arr fun j => if j < k + 1 then (f j + g j) % 101 else f j) 53 (0, 0))) := Lib.hid (by
        rw [heap_setCell_same (k := k) hc (.int .i64 q), arr_set]
        congr 2
        apply arr_congr
        intro j hj
        by_cases e : j = k
        · subst e; rw [if_pos rfl, if_pos (by omega), hq, ha, hb]
        · rw [if_neg e]
          by_cases e2 : j < k
          · rw [if_pos e2, if_pos (by omega)]
          · rw [if_neg e2, if_neg (by omega)])
      have HZ2 : Hid ((wr.setCell ⟨w.heap.size, k, none⟩ (.int .i64 q)).heap[w.heap.size + 1 + 1]? = some (.cells (arr fun _ => 0) 53 (0, 0))) := Lib.hid (by
        rw [Below.heap_setCell _ _ _ _ (by simp; omega)]; exact hz)
      have HB2 := Lib.hid (hB.setCell (p := ⟨w.heap.size, k, none⟩) (Nat.le_refl _) (.int .i64 q))
      have k0 : (0 : Int) ≤ (k : Int) := by omega
      have k18 : (k : Int) < 18 := by omega
      clear hc hz hB ha hb hp hq hp1 hp2
      go_wp2_with fail
      refine HM.out.mono ?_
      rintro e w4 ⟨rfl, rfl⟩
      go_wp2_with fail
      exact ⟨⟨k + 1, by omega, by go_num, HNX.out, HZ2.out, HB2.out⟩, by simp [intOf]; omega⟩
    · have hk18 : k = 18 := by omega
      have HE : Hid (wr.heap[w.heap.size]? = some (.cells (arr fun j => (f j + g j) % 101) 53 (0, 0))) := Lib.hid (by
        rw [hc]
        congr 2
        apply arr_congr
        intro j hj
        rw [if_pos (by omega)])
      have HR := Lib.hid (setRow_heap wr (w.heap.size + 1 + 1) _ (arr fun j => (f j + g j) % 101) 53 (0, 0) hz)
      have HBF := Lib.hid (below_setRow hB (show w.heap.size ≤ w.heap.size + 1 + 1 by omega) (arr fun j => (f j + g j) % 101))
      clear hc hz hB hk18
      go_wp2_with (first
        | (refine wpList_load_row rfl 53 (.tmp 2) rfl w.heap.size rfl 53 (arr fun j => (f j + g j) % 101) (0, 0) _ HE.out descA rfl (by rw [arr_size]; exact infoA) ?_)
        | (refine wpList_store_row rfl 53 (.tmp 4) (.tmp 21) rfl (w.heap.size + 1 + 1) (arr fun j => (f j + g j) % 101) rfl rfl 53 _ HZ.out (by rw [arr_size]; exact infoA) (by rw [arr_size, arr_size]) (arr_one _) ?_))
      refine bodyPost_ret (v := .agg (arr fun j => (f j + g j) % 101)) (ret_arr rfl _ _ (w.heap.size + 1 + 1) _ (0, 0) rfl HR.out) rfl ?_
      exact ⟨rfl, HBF.out⟩


set_option maxRecDepth 100000 in
set_option maxHeartbeats 1000000 in
theorem quadTimes_any (f : Nat → Int) (n : Int) (w : World) (hf : ∀ j, j < 18 → 0 ≤ f j ∧ f j ≤ 100) (hn : -100 ≤ n ∧ n ≤ 100) :
    Calls Tryz.prog 68 #[.agg (arr f), .int .i64 n] w (AnsA (fun j => f j * n % 101) w) := by
  have HF := Lib.hid hf
  obtain ⟨w3, hw3⟩ : ∃ w3, w3 = (w.alloc (.cells (arr f) 53 (0, 0))).alloc (.cells #[.int .i64 0, .int .i64 0, .int .i64 0, .int .i64 0, .int .i64 0, .int .i64 0, .int .i64 0, .int .i64 0, .int .i64 0, .int .i64 0, .int .i64 0, .int .i64 0, .int .i64 0, .int .i64 0, .int .i64 0, .int .i64 0, .int .i64 0, .int .i64 0] 53 (0, 0)) := ⟨_, rfl⟩
  have HW3 := Lib.hid hw3
  have HB3 : Hid (Below w.heap.size w w3) := Lib.hid (by rw [hw3]; exact ((Below.refl _ _).alloc (Nat.le_refl _) _).alloc (by simp) _)
  have H0 : Hid (w3.heap[w.heap.size]? = some (.cells (arr f) 53 (0, 0))) := Lib.hid (by
    rw [hw3, Below.heap_alloc _ _ _ (by simp)]; exact heap_alloc_new _ _)
  have H1 : Hid (w3.heap[w.heap.size + 1]? = some (.cells (arr fun _ => 0) 53 (0, 0))) := Lib.hid (by
    rw [hw3, show w.heap.size + 1 = (w.alloc (.cells (arr f) 53 (0, 0))).heap.size by simp]; exact heap_alloc_new _ _)
  clear hf hw3
  go_enter Tryz.func68, Tryz.ntmps68
  go_upto_region 1 with fail
  rw [← HW3.out]
  go_wp2_with fail
  go_loopw [6] (fun iv wr => ∃ k : Nat, k ≤ 18 ∧ iv = .int .i64 k ∧ wr.heap[w.heap.size]? = some (.cells (arr fun j => if j < k then f j * n % 101 else f j) 53 (0, 0)) ∧ wr.heap[w.heap.size + 1]? = some (.cells (arr fun _ => 0) 53 (0, 0)) ∧ Below w.heap.size w wr) (fun iv _ => 18 - (intOf iv).toNat)
  case atStart => exact ⟨0, by omega, rfl, by rw [H0.out]; simp, H1.out, HB3.out⟩
  case round =>
    obtain ⟨k, hk, rfl, hc, hz, hB⟩ := hrel
    have HC := Lib.hid hc
    have HZ := Lib.hid hz
    have HB := Lib.hid hB
    by_cases hlt : k < 18
    · have d0 : wr.cell? ⟨w.heap.size, k, none⟩ = some (.int .i64 (f k)) := cellAt hc (by rw [arr_get _ hlt, if_neg (by omega)])
      have f0 : wr.frozen? ⟨w.heap.size, k, none⟩ = false := frozen_of_row _ _ _ _ _ hc
      obtain ⟨a, ha⟩ : ∃ a, a = f k := ⟨_, rfl⟩
      rw [← ha] at d0
      have hab := HF.out k hlt
      rw [← ha] at hab
      have hp : -10000 ≤ a * n ∧ a * n ≤ 10000 := by
        have h1 : (a * n).natAbs ≤ 100 * 100 := by
          rw [Int.natAbs_mul]
          exact Nat.mul_le_mul (by omega) (by omega)
        omega
      have hw1 : IntKind.i64.wrap (a * n) = a * n := by rw [IntKind.wrap_i64]; omega
      have HM := Lib.hid (modPrime_any (a * n) wr (by omega) (by omega))
      obtain ⟨q, hq⟩ : ∃ q, q = a * n % 101 := ⟨_, rfl⟩
      rw [← hq] at HM
      have HNX : Hid ((wr.setCell ⟨w.heap.size, k, none⟩ (.int .i64 q)).heap[w.heap.size]? = some (.cells (arr fun j => if j < k + 1 then f j * n % 101 else f j) 53 (0, 0))) := Lib.hid (by
        rw [heap_setCell_same (k := k) hc (.int .i64 q), arr_set]
        congr 2
        apply arr_congr
        intro j hj
        by_cases e : j = k
        · subst e; rw [if_pos rfl, if_pos (by omega), hq, ha]
        · rw [if_neg e]
          by_cases e2 : j < k
          · rw [if_pos e2, if_pos (by omega)]
          · rw [if_neg e2, if_neg (by omega)])
      have HZ2 : Hid ((wr.setCell ⟨w.heap.size, k, none⟩ (.int .i64 q)).heap[w.heap.size + 1]? = some (.cells (arr fun _ => 0) 53 (0, 0))) := Lib.hid (by
        rw [Below.heap_setCell _ _ _ _ (by simp)]; exact hz)
      have HB2 := Lib.hid (hB.setCell (p := ⟨w.heap.size, k, none⟩) (Nat.le_refl _) (.int .i64 q))
      have k0 : (0 : Int) ≤ (k : Int) := by omega
      have k18 : (k : Int) < 18 := by omega
      clear hc hz hB ha hq hp
      go_wp2_with fail
      refine HM.out.mono ?_
      rintro e w4 ⟨rfl, rfl⟩
      go_wp2_with fail
      exact ⟨⟨k + 1, by omega, by go_num, HNX.out, HZ2.out, HB2.out⟩, by simp [intOf]; omega⟩
    · have hk18 : k = 18 := by omega
      have HE : Hid (wr.heap[w.heap.size]? = some (.cells (arr fun j => f j * n % 101) 53 (0, 0))) := Lib.hid (by
        rw [hc]
        congr 2
        apply arr_congr
        intro j hj
        rw [if_pos (by omega)])
      have HR := Lib.hid (setRow_heap wr (w.heap.size + 1) _ (arr fun j => f j * n % 101) 53 (0, 0) hz)
      have HBF := Lib.hid (below_setRow hB (show w.heap.size ≤ w.heap.size + 1 by omega) (arr fun j => f j * n % 101))
      clear hc hz hB hk18
      go_wp2_with (first
        | (refine wpList_load_row rfl 53 (.tmp 2) rfl w.heap.size rfl 53 (arr fun j => f j * n % 101) (0, 0) _ HE.out descA rfl (by rw [arr_size]; exact infoA) ?_)
        | (refine wpList_store_row rfl 53 (.tmp 4) (.tmp 18) rfl (w.heap.size + 1) (arr fun j => f j * n % 101) rfl rfl 53 _ HZ.out (by rw [arr_size]; exact infoA) (by rw [arr_size, arr_size]) (arr_one _) ?_))
      refine bodyPost_ret (v := .agg (arr fun j => f j * n % 101)) (ret_arr rfl _ _ (w.heap.size + 1) _ (0, 0) rfl HR.out) rfl ?_
      exact ⟨rfl, HBF.out⟩

theorem part_arr0 (f : Nat → Int) (w : World) : (part 3 (arr f) (0 * 1)).run Tryz.prog w = .ok (.int .i64 (f 0)) w := by kernel_rfl
theorem part_arr1 (f : Nat → Int) (w : World) : (part 3 (arr f) (1 * 1)).run Tryz.prog w = .ok (.int .i64 (f 1)) w := by kernel_rfl
theorem part_arr2 (f : Nat → Int) (w : World) : (part 3 (arr f) (2 * 1)).run Tryz.prog w = .ok (.int .i64 (f 2)) w := by kernel_rfl
theorem part_arr3 (f : Nat → Int) (w : World) : (part 3 (arr f) (3 * 1)).run Tryz.prog w = .ok (.int .i64 (f 3)) w := by kernel_rfl
theorem part_arr4 (f : Nat → Int) (w : World) : (part 3 (arr f) (4 * 1)).run Tryz.prog w = .ok (.int .i64 (f 4)) w := by kernel_rfl
theorem part_arr5 (f : Nat → Int) (w : World) : (part 3 (arr f) (5 * 1)).run Tryz.prog w = .ok (.int .i64 (f 5)) w := by kernel_rfl
theorem part_arr6 (f : Nat → Int) (w : World) : (part 3 (arr f) (6 * 1)).run Tryz.prog w = .ok (.int .i64 (f 6)) w := by kernel_rfl
theorem part_arr7 (f : Nat → Int) (w : World) : (part 3 (arr f) (7 * 1)).run Tryz.prog w = .ok (.int .i64 (f 7)) w := by kernel_rfl
theorem part_arr8 (f : Nat → Int) (w : World) : (part 3 (arr f) (8 * 1)).run Tryz.prog w = .ok (.int .i64 (f 8)) w := by kernel_rfl
theorem part_arr9 (f : Nat → Int) (w : World) : (part 3 (arr f) (9 * 1)).run Tryz.prog w = .ok (.int .i64 (f 9)) w := by kernel_rfl
theorem part_arr10 (f : Nat → Int) (w : World) : (part 3 (arr f) (10 * 1)).run Tryz.prog w = .ok (.int .i64 (f 10)) w := by kernel_rfl
theorem part_arr11 (f : Nat → Int) (w : World) : (part 3 (arr f) (11 * 1)).run Tryz.prog w = .ok (.int .i64 (f 11)) w := by kernel_rfl
theorem part_arr12 (f : Nat → Int) (w : World) : (part 3 (arr f) (12 * 1)).run Tryz.prog w = .ok (.int .i64 (f 12)) w := by kernel_rfl
theorem part_arr13 (f : Nat → Int) (w : World) : (part 3 (arr f) (13 * 1)).run Tryz.prog w = .ok (.int .i64 (f 13)) w := by kernel_rfl
theorem part_arr14 (f : Nat → Int) (w : World) : (part 3 (arr f) (14 * 1)).run Tryz.prog w = .ok (.int .i64 (f 14)) w := by kernel_rfl
theorem part_arr15 (f : Nat → Int) (w : World) : (part 3 (arr f) (15 * 1)).run Tryz.prog w = .ok (.int .i64 (f 15)) w := by kernel_rfl
theorem part_arr16 (f : Nat → Int) (w : World) : (part 3 (arr f) (16 * 1)).run Tryz.prog w = .ok (.int .i64 (f 16)) w := by kernel_rfl
theorem part_arr17 (f : Nat → Int) (w : World) : (part 3 (arr f) (17 * 1)).run Tryz.prog w = .ok (.int .i64 (f 17)) w := by kernel_rfl
theorem part_arr (f : Nat → Int) {k : Nat} (hk : k < 18) (w : World) : (part 3 (arr f) (k * 1)).run Tryz.prog w = .ok (.int .i64 (f k)) w := by
  match k, hk with
  | 0, _ => exact part_arr0 f w
  | 1, _ => exact part_arr1 f w
  | 2, _ => exact part_arr2 f w
  | 3, _ => exact part_arr3 f w
  | 4, _ => exact part_arr4 f w
  | 5, _ => exact part_arr5 f w
  | 6, _ => exact part_arr6 f w
  | 7, _ => exact part_arr7 f w
  | 8, _ => exact part_arr8 f w
  | 9, _ => exact part_arr9 f w
  | 10, _ => exact part_arr10 f w
  | 11, _ => exact part_arr11 f w
  | 12, _ => exact part_arr12 f w
  | 13, _ => exact part_arr13 f w
  | 14, _ => exact part_arr14 f w
  | 15, _ => exact part_arr15 f w
  | 16, _ => exact part_arr16 f w
  | 17, _ => exact part_arr17 f w
  | n + 18, h => omega

theorem eqItems_arr (f g : Nat → Int) (d : Nat) (w : World) : ∀ is : List Nat, (∀ i ∈ is, i < 18) → (Op.eqItems (d + 1) 3 1 (arr f) (arr g) is).run Tryz.prog w = .ok (decide (∀ i ∈ is, f i = g i)) w
  | [], _ => by simp [Op.eqItems]
  | i :: is, h => by
    have h1 := part_arr f (h i (by simp)) w
    have h2 := part_arr g (h i (by simp)) w
    have h3 : (Op.equalIn (d + 1) 3 (.int .i64 (f i)) (.int .i64 (g i))).run Tryz.prog w = .ok (f i == g i) w := run_equalIn_int w d 3 .i64 .i64 (f i) (g i) Tryz.underlying3
    have ih := eqItems_arr f g d w is (fun j hj => h j (by simp [hj]))
    simp only [Op.eqItems, Sem.run_bind, h1, h2, h3, Result.andThen_ok]
    by_cases e : f i = g i
    · rw [show (f i == g i) = true by simp [e]]
      simp only [Bool.not_true, Bool.false_eq_true, if_false]
      rw [ih]
      simp [e]
    · rw [show (f i == g i) = false by simp [e]]
      simp [e]

theorem infoNumA : (Tryz.prog.info? 3).map (fun i => (i.zero, i.size, i.bytes)) = some (some (.int .i64 0), 1, 8) := by kernel_rfl
theorem infoIntA : ∃ i, Tryz.prog.info? 3 = some i := by
  obtain ⟨i0, hi0, _⟩ := info_parts infoNumA
  exact ⟨i0, hi0⟩
theorem cellsIntA : Tryz.prog.cellsOf 3 = 1 := by kernel_rfl

/-- Two rows compared. -/
theorem eql_arr (f g : Nat → Int) (w : World) : (binOp .eql 53 (.agg (arr f)) (.agg (arr g))).run Tryz.prog w = .ok (.bool (decide (∀ i ∈ List.range 18, f i = g i))) w := by
  obtain ⟨i0, hi0⟩ := infoIntA
  rw [run_eql_struct]
  have h := run_equalIn_array (P := Tryz.prog) (w := w) 9999 (t := 53) (e := 3) (n := 18) (i := i0) (arr f) (arr g) descA hi0
  rw [cellsIntA] at h
  rw [show (10000 : Nat) = 9999 + 1 from rfl, h, eqItems_arr f g 9998 w _ (fun i hi => List.mem_range.1 hi)]
  rfl

theorem equal_arr (f g : Nat → Int) (d : Nat) (w : World) : (Op.equalIn (d + 1 + 1) 53 (.agg (arr f)) (.agg (arr g))).run Tryz.prog w = .ok (decide (∀ i ∈ List.range 18, f i = g i)) w := by
  obtain ⟨i0, hi0⟩ := infoIntA
  have h := run_equalIn_array (P := Tryz.prog) (w := w) (d + 1) (t := 53) (e := 3) (n := 18) (i := i0) (arr f) (arr g) descA hi0
  rw [cellsIntA] at h
  rw [h, eqItems_arr f g d w _ (fun i hi => List.mem_range.1 hi)]

end Go.Proofs.YtoeebipahifpcaaGreat
end
section
/- Spans by the program: an array of rows by value. -/
namespace Go.Proofs.YtoeebipahifpcaaGreat
open Go.RowKit

/-- The cells of a span. -/
def spanL (s : Nat → Nat → Int) : List Value := (List.range 18).flatMap fun i => arrL (s i)
def sarr (s : Nat → Nat → Int) : Array Value := (spanL s).toArray

theorem descS : Tryz.prog.underlying 57 = some (.array 18 53) := by kernel_rfl
theorem infoS : (Tryz.prog.info? 57).map (·.size) = some 324 := by kernel_rfl
theorem cellsRowQ : Tryz.prog.cellsOf 53 = 18 := by kernel_rfl

theorem spanL_take (s : Nat → Nat → Int) : ∀ n, ((List.range n).flatMap fun i => arrL (s i)).length = 18 * n
  | 0 => rfl
  | n + 1 => by rw [List.range_succ, List.flatMap_append, List.length_append, spanL_take s n]; simp [arrL_length]; omega
theorem spanL_length (s : Nat → Nat → Int) : (spanL s).length = 324 := spanL_take s 18
theorem sarr_size (s : Nat → Nat → Int) : (sarr s).size = 324 := by rw [sarr, List.size_toArray, spanL_length]

theorem flat_drop (s : Nat → Nat → Int) : ∀ n k, k < n → ∃ tl, ((List.range n).flatMap fun i => arrL (s i)).drop (18 * k) = arrL (s k) ++ tl
  | 0, k, h => by omega
  | n + 1, k, h => by
    rw [List.range_succ, List.flatMap_append]
    by_cases e : k = n
    · subst e
      rw [← spanL_take s k, List.drop_left]
      exact ⟨[], by simp⟩
    · obtain ⟨tl, ht⟩ := flat_drop s n k (by omega)
      rw [List.drop_append_of_le_length (by rw [spanL_take]; omega), ht]
      exact ⟨tl ++ ([n].flatMap fun i => arrL (s i)), by rw [List.append_assoc]⟩

/-- A row of the span lies at its place. -/
theorem spanL_row (s : Nat → Nat → Int) {k : Nat} (hk : k < 18) : ((spanL s).drop (18 * k)).take 18 = arrL (s k) := by
  obtain ⟨tl, ht⟩ := flat_drop s 18 k hk
  rw [spanL, ht, List.take_append_of_le_length (by rw [arrL_length]; exact Nat.le_refl _), List.take_of_length_le (by rw [arrL_length]; exact Nat.le_refl _)]

theorem index_span0 (s : Nat → Nat → Int) (w : World) : (Instr.index 57 (.agg (sarr s)) (.int .i64 ((0 : Nat) : Int))).run Tryz.prog w = .ok (.agg (arr (s 0))) w := by kernel_rfl
theorem index_span1 (s : Nat → Nat → Int) (w : World) : (Instr.index 57 (.agg (sarr s)) (.int .i64 ((1 : Nat) : Int))).run Tryz.prog w = .ok (.agg (arr (s 1))) w := by kernel_rfl
theorem index_span2 (s : Nat → Nat → Int) (w : World) : (Instr.index 57 (.agg (sarr s)) (.int .i64 ((2 : Nat) : Int))).run Tryz.prog w = .ok (.agg (arr (s 2))) w := by kernel_rfl
theorem index_span3 (s : Nat → Nat → Int) (w : World) : (Instr.index 57 (.agg (sarr s)) (.int .i64 ((3 : Nat) : Int))).run Tryz.prog w = .ok (.agg (arr (s 3))) w := by kernel_rfl
theorem index_span4 (s : Nat → Nat → Int) (w : World) : (Instr.index 57 (.agg (sarr s)) (.int .i64 ((4 : Nat) : Int))).run Tryz.prog w = .ok (.agg (arr (s 4))) w := by kernel_rfl
theorem index_span5 (s : Nat → Nat → Int) (w : World) : (Instr.index 57 (.agg (sarr s)) (.int .i64 ((5 : Nat) : Int))).run Tryz.prog w = .ok (.agg (arr (s 5))) w := by kernel_rfl
theorem index_span6 (s : Nat → Nat → Int) (w : World) : (Instr.index 57 (.agg (sarr s)) (.int .i64 ((6 : Nat) : Int))).run Tryz.prog w = .ok (.agg (arr (s 6))) w := by kernel_rfl
theorem index_span7 (s : Nat → Nat → Int) (w : World) : (Instr.index 57 (.agg (sarr s)) (.int .i64 ((7 : Nat) : Int))).run Tryz.prog w = .ok (.agg (arr (s 7))) w := by kernel_rfl
theorem index_span8 (s : Nat → Nat → Int) (w : World) : (Instr.index 57 (.agg (sarr s)) (.int .i64 ((8 : Nat) : Int))).run Tryz.prog w = .ok (.agg (arr (s 8))) w := by kernel_rfl
theorem index_span9 (s : Nat → Nat → Int) (w : World) : (Instr.index 57 (.agg (sarr s)) (.int .i64 ((9 : Nat) : Int))).run Tryz.prog w = .ok (.agg (arr (s 9))) w := by kernel_rfl
theorem index_span10 (s : Nat → Nat → Int) (w : World) : (Instr.index 57 (.agg (sarr s)) (.int .i64 ((10 : Nat) : Int))).run Tryz.prog w = .ok (.agg (arr (s 10))) w := by kernel_rfl
theorem index_span11 (s : Nat → Nat → Int) (w : World) : (Instr.index 57 (.agg (sarr s)) (.int .i64 ((11 : Nat) : Int))).run Tryz.prog w = .ok (.agg (arr (s 11))) w := by kernel_rfl
theorem index_span12 (s : Nat → Nat → Int) (w : World) : (Instr.index 57 (.agg (sarr s)) (.int .i64 ((12 : Nat) : Int))).run Tryz.prog w = .ok (.agg (arr (s 12))) w := by kernel_rfl
theorem index_span13 (s : Nat → Nat → Int) (w : World) : (Instr.index 57 (.agg (sarr s)) (.int .i64 ((13 : Nat) : Int))).run Tryz.prog w = .ok (.agg (arr (s 13))) w := by kernel_rfl
theorem index_span14 (s : Nat → Nat → Int) (w : World) : (Instr.index 57 (.agg (sarr s)) (.int .i64 ((14 : Nat) : Int))).run Tryz.prog w = .ok (.agg (arr (s 14))) w := by kernel_rfl
theorem index_span15 (s : Nat → Nat → Int) (w : World) : (Instr.index 57 (.agg (sarr s)) (.int .i64 ((15 : Nat) : Int))).run Tryz.prog w = .ok (.agg (arr (s 15))) w := by kernel_rfl
theorem index_span16 (s : Nat → Nat → Int) (w : World) : (Instr.index 57 (.agg (sarr s)) (.int .i64 ((16 : Nat) : Int))).run Tryz.prog w = .ok (.agg (arr (s 16))) w := by kernel_rfl
theorem index_span17 (s : Nat → Nat → Int) (w : World) : (Instr.index 57 (.agg (sarr s)) (.int .i64 ((17 : Nat) : Int))).run Tryz.prog w = .ok (.agg (arr (s 17))) w := by kernel_rfl
theorem index_span (s : Nat → Nat → Int) {k : Nat} (hk : k < 18) (w : World) : (Instr.index 57 (.agg (sarr s)) (.int .i64 k)).run Tryz.prog w = .ok (.agg (arr (s k))) w := by
  match k, hk with
  | 0, _ => exact index_span0 s w
  | 1, _ => exact index_span1 s w
  | 2, _ => exact index_span2 s w
  | 3, _ => exact index_span3 s w
  | 4, _ => exact index_span4 s w
  | 5, _ => exact index_span5 s w
  | 6, _ => exact index_span6 s w
  | 7, _ => exact index_span7 s w
  | 8, _ => exact index_span8 s w
  | 9, _ => exact index_span9 s w
  | 10, _ => exact index_span10 s w
  | 11, _ => exact index_span11 s w
  | 12, _ => exact index_span12 s w
  | 13, _ => exact index_span13 s w
  | 14, _ => exact index_span14 s w
  | 15, _ => exact index_span15 s w
  | 16, _ => exact index_span16 s w
  | 17, _ => exact index_span17 s w
  | n + 18, h => omega

end Go.Proofs.YtoeebipahifpcaaGreat
end
section
/- A region in which an order is drawn, some loads, some calls, and one last store that waits for all: what must hold of the world is asked behind every operation but the last. -/
namespace Go.Proofs.YtoeebipahifpcaaGreat
open Go

section
variable {P : Program} {ops : Array Oper} {Q : Exit → Act → World → Prop} {md : Region.Mode} {S : World → Prop} {z : Nat}

/-- Whatever order is picked from here on, and S holds behind every operation but z. -/
def wpAnyZ (P : Program) (md : Region.Mode) (ops : Array Oper) (Q : Exit → Act → World → Prop) (S : World → Prop) (z : Nat) : Nat → Array Bool → Act → World → Prop
  | 0, listed, a, w => Region.ready md ops listed = [] ∧ Q .normal a w
  | fuel + 1, listed, a, w =>
    (Region.ready md ops listed = [] → Q .normal a w) ∧
    ∀ i ∈ Region.ready md ops listed, wpOp P ops Q i (fun a' w' => (i = z ∨ S w') ∧ wpAnyZ P md ops Q S z fuel (listed.setIfInBounds i true) a' w') a w

theorem wpAny_of_heldZ : ∀ (fuel : Nat) (listed : Array Bool) (a : Act) (w : World), wpAnyZ P md ops Q S z fuel listed a w → wpAny P md ops Q fuel listed a w
  | 0, _, _, _, h => h
  | fuel + 1, _, _, _, h => ⟨h.1, fun i hi => wpOp_mono (fun a' w' h' => wpAny_of_heldZ fuel _ a' w' h'.2) (h.2 i hi)⟩

/-- The operation z waits for i. -/
def waitsFor (md : Region.Mode) (ops : Array Oper) (z i : Nat) : Bool := match ops[z]? with
  | none => true
  | some oz => oz.after.any fun e => Region.binds md e && e.on == i

theorem waits_ready {listed : Array Bool} {i : Nat} (hz : waitsFor md ops z i = true) (hi : i ∈ Region.ready md ops listed) : z ∉ Region.ready md ops listed := fun hzr => by
  obtain ⟨_, oz, hoz, hall⟩ := mem_ready.1 hzr
  rw [waitsFor, hoz] at hz
  simp only [Array.any_eq_true] at hz
  obtain ⟨k, hk, he⟩ := hz
  rw [Bool.and_eq_true] at he
  have h1 := hall oz.after[k] (Array.getElem_mem hk) he.1
  have h2 : oz.after[k].on = i := by simpa using he.2
  rw [h2] at h1
  have h0 := (mem_ready.1 hi).1
  rcases Nat.lt_or_ge i listed.size with h' | h'
  · simp [h'] at h0 h1; rw [h0] at h1; cases h1
  · simp [Array.getElem?_eq_none h'] at h1

theorem wpAnyZ_first {i : Nat} {oi : Oper} {v : Value} (hi : ops[i]? = some oi) (hsel : ∀ (j : Nat) (o : Oper) cs b, ops[j]? = some o → o.op ≠ .select cs b)
    (hQ : ∀ c a w, Q (.panic c) (a.put oi.dst v) w → Q (.panic c) a w) (hz : waitsFor md ops z i = true) :
    ∀ (fuel : Nat) (listed : Array Bool) (a : Act) (w : World),
      (∀ j oj, ops[j]? = some oj → j ≠ i → listed.getD j true = false → (∀ e ∈ oj.after, Region.binds md e = true → e.on ≠ i) → oi.apart ops oj = true) →
      i ∈ Region.ready md ops listed → YieldsIf P ops S oi v a → S w →
      wpAnyZ P md ops Q S z fuel (listed.setIfInBounds i true) (a.put oi.dst v) w → wpAnyZ P md ops Q S z (fuel + 1) listed a w := by
  intro fuel
  induction fuel with
  | zero =>
    intro listed a w _ hr hy hS H
    refine ⟨fun h => (by rw [h] at hr; cases hr), fun j hj => ?_⟩
    by_cases hji : j = i
    · subst hji; exact hy.wpOp hi hS ⟨.inr hS, H⟩
    · have := ready_mono hj hji
      rw [H.1] at this
      cases this
  | succ fuel ih =>
    intro listed a w hfree hr hy hS H
    refine ⟨fun h => (by rw [h] at hr; cases hr), fun j hj => ?_⟩
    by_cases hji : j = i
    · subst hji; exact hy.wpOp hi hS ⟨.inr hS, H⟩
    · have hjz : j ≠ z := fun e => by subst e; exact waits_ready hz hr hj
      have h1 := H.2 j (ready_mono hj hji)
      obtain ⟨hjun, oj, hoj, hall⟩ := mem_ready.1 hj
      have hnot : ∀ e ∈ oj.after, Region.binds md e = true → e.on ≠ i := fun e he hb heq => by
        have h1 := hall e he hb
        have h0 := (mem_ready.1 hr).1
        rw [heq] at h1
        rcases Nat.lt_or_ge i listed.size with h' | h'
        · simp [h'] at h0 h1; rw [h0] at h1; cases h1
        · simp [Array.getElem?_eq_none h'] at h1
      have h2 := wpOp_putIf hoj (hfree j oj hoj hji hjun hnot) (fun cs b => hsel i oi cs b hi) (fun cs b => hsel j oj cs b hoj) hQ hy h1
      have hfree' : ∀ k ok, ops[k]? = some ok → k ≠ i → (listed.setIfInBounds j true).getD k true = false →
          (∀ e ∈ ok.after, Region.binds md e = true → e.on ≠ i) → oi.apart ops ok = true := fun k ok hk hki hun hno => by
        refine hfree k ok hk hki ?_ hno
        by_cases hjk : j = k
        · subst hjk; exact hjun
        · rw [getD_set_ne true hjk] at hun; exact hun
      refine wpOp_mono (fun a' w' h3 => ?_) h2
      have hS' : S w' := h3.2.1.resolve_left hjz
      refine ⟨.inr hS', ih (listed.setIfInBounds j true) a' w' hfree' (ready_mono hr (Ne.symm hji)) h3.1 hS' ?_⟩
      rw [Array.setIfInBounds_comm _ _ hji]
      exact h3.2.2

theorem wpAnyZ_take {i : Nat} {oi : Oper} {v : Value} {fuel : Nat} {listed : Array Bool} {a : Act} {w : World} (hi : ops[i]? = some oi)
    (hs : Region.noSelect ops = true) (hf : Region.free md ops listed i = true) (hr : (Region.ready md ops listed).contains i = true) (hz : waitsFor md ops z i = true)
    (hQ : ∀ c a w, Q (.panic c) (a.put oi.dst v) w → Q (.panic c) a w) (hy : YieldsIf P ops S oi v a) (hS : S w)
    (h : wpAnyZ P md ops Q S z fuel (listed.setIfInBounds i true) (a.put oi.dst v) w) : wpAnyZ P md ops Q S z (fuel + 1) listed a w :=
  wpAnyZ_first hi (Region.noSelect_spec hs) hQ hz fuel listed a w (Region.free_spec hi hf) (by simpa using hr) hy hS h

/-- One operation alone may come up, and S is shown behind it. -/
theorem wpAnyZ_one {i : Nat} {o : Oper} {fuel : Nat} {listed : Array Bool} {a : Act} {w : World} (hr : Region.ready md ops listed = [i]) (ho : ops[i]? = some o)
    (h : ∀ K' : Act → World → Prop, Shut (∀ a w, S w → (S w → wpAnyZ P md ops Q S z fuel (listed.setIfInBounds i true) a w) → K' a w) → if Region.wanted o (yielded ops a.tmps) = true then Oper.wp P o a w K' Q else K' (a.put o.dst undef) w) : wpAnyZ P md ops Q S z (fuel + 1) listed a w :=
  ⟨fun h0 => (by rw [hr] at h0; cases h0), fun j hj => by
    rw [hr, List.mem_singleton] at hj
    subst hj
    exact wpOp_step ho (fun K' hK => h K' (fun a w hS hW => hK a w ⟨.inr hS, hW hS⟩))⟩

/-- The last one comes up: nothing is asked behind it. -/
theorem wpAnyZ_last {o : Oper} {fuel : Nat} {listed : Array Bool} {a : Act} {w : World} (hr : Region.ready md ops listed = [z]) (ho : ops[z]? = some o) (he : Region.ready md ops (listed.setIfInBounds z true) = [])
    (h : ∀ K' : Act → World → Prop, Shut (∀ a w, Q .normal a w → K' a w) → if Region.wanted o (yielded ops a.tmps) = true then Oper.wp P o a w K' Q else K' (a.put o.dst undef) w) : wpAnyZ P md ops Q S z (fuel + 1) listed a w :=
  ⟨fun h0 => (by rw [hr] at h0; cases h0), fun j hj => by
    rw [hr, List.mem_singleton] at hj
    subst hj
    refine wpOp_step ho (fun K' hK => h K' (fun a w hq => hK a w ⟨.inl rfl, ?_⟩))
    cases fuel with
    | zero => exact ⟨he, hq⟩
    | succ fuel => exact ⟨fun _ => hq, by rw [he]; simp⟩⟩

theorem wp_region_heldZ {id : Nat} {a : Act} {w : World} (hm : P.follows .mixedOrders = true) (hS : S w.drew)
    (h : S w.drew → wpAnyZ P .any ops Q S z ops.size (Array.replicate ops.size false) a w.drew) : (Code.region id ops true).wp P Q a w :=
  wp_region_any hm (wpAny_of_heldZ _ _ _ _ (h hS))

end
end Go.Proofs.YtoeebipahifpcaaGreat
end
section
/- What is left of a row behind a span, by the program. -/
namespace Go.Proofs.YtoeebipahifpcaaGreat
open Go.RowKit

/-- The row behind the first k rows of the base. -/
def curV (s : Nat → Nat → Int) (r : Nat → Int) (k j : Nat) : Int := (r j - serSum (fun i => r i * s i j) k) % 101

theorem curV_rng (s : Nat → Nat → Int) (r : Nat → Int) (k j : Nat) : 0 ≤ curV s r k j ∧ curV s r k j ≤ 100 := by unfold curV; omega

theorem curV_zero {s : Nat → Nat → Int} {r : Nat → Int} (hr : ∀ j, j < 18 → 0 ≤ r j ∧ r j ≤ 100) : ∀ j, j < 18 → curV s r 0 j = r j := fun j hj => by
  have := hr j hj
  unfold curV
  rw [show serSum (fun i => r i * s i j) 0 = 0 from rfl]
  omega

theorem curV_next {s : Nat → Nat → Int} (h : Bs 18 s) (r : Nat → Int) (k j : Nat) : (curV s r k j + s k j * -(curV s r k k) % 101) % 101 = curV s r (k + 1) j := by
  have e : curV s r (k + 1) j = (r j - serSum (fun i => r i * s i j) k - r k * s k j) % 101 := by
    unfold curV
    rw [serSum]
    omega
  rw [e]
  rcases h.row k with h0 | ⟨_, _, _, h3⟩
  · rw [h0 j, Int.zero_mul, Int.mul_zero]
    unfold curV
    omega
  · have hk : curV s r k k = r k % 101 := by
      unfold curV
      rw [serSum_zero (fun i hi => by rw [h3 i (by omega), Int.mul_zero]), Int.sub_zero]
    rw [hk]
    have h1 : (s k j * -(r k % 101) - s k j * -r k) % 101 = 0 := mulMod (by omega) (s k j)
    have h2 : s k j * -r k = -(r k * s k j) := by rw [Int.mul_neg, Int.mul_comm]
    rw [h2] at h1
    unfold curV
    omega

/-- Where the two rows lie. -/
def HeldD (B1 Bf : Nat) (c g : Nat → Int) (k : Nat) (x : Int) (w' : World) : Prop := w'.heap[B1]? = some (.cells (arr c) 53 (0, 0)) ∧ w'.heap[Bf]? = some (.cells (arr g) 53 (0, 0)) ∧ w'.cell? ⟨B1, k, none⟩ = some (.int .i64 x)
theorem HeldD.keep {B1 Bf k : Nat} {c g : Nat → Int} {x : Int} {w1 w2 : World} (h : HeldD B1 Bf c g k x w1) (hb : Below w1.heap.size w1 w2) : HeldD B1 Bf c g k x w2 :=
  ⟨(hb.block _ (Array.getElem?_eq_some_iff.1 h.1).1).trans h.1, (hb.block _ (Array.getElem?_eq_some_iff.1 h.2.1).1).trans h.2.1, keep1 hb h.2.2⟩

theorem sarr_one (s : Nat → Nat → Int) : (sarr s).all (·.oneCell') = true := by
  unfold sarr
  rw [List.all_toArray, List.all_eq_true]
  intro v hm
  unfold spanL at hm
  obtain ⟨k, _, hk⟩ := List.mem_flatMap.1 hm
  obtain ⟨j, _, e⟩ := List.mem_map.1 hk
  rw [← e]; rfl

set_option maxRecDepth 100000 in
set_option maxHeartbeats 4000000 in
theorem spanReduced_any (s : Nat → Nat → Int) (r : Nat → Int) (w : World) (hs : Bs 18 s) (hr : ∀ j, j < 18 → 0 ≤ r j ∧ r j ≤ 100) :
    Calls Tryz.prog 59 #[.agg (sarr s), .agg (arr r)] w (AnsA (redV 18 s r) w) := by
  have HS := Lib.hid hs
  have HR := Lib.hid hr
  obtain ⟨w3, hw3⟩ : ∃ w3, w3 = ((w.alloc (.cells (sarr s) 57 (0, 0))).alloc (.cells (arr r) 53 (0, 0))).alloc (.cells #[.int .i64 0, .int .i64 0, .int .i64 0, .int .i64 0, .int .i64 0, .int .i64 0, .int .i64 0, .int .i64 0, .int .i64 0, .int .i64 0, .int .i64 0, .int .i64 0, .int .i64 0, .int .i64 0, .int .i64 0, .int .i64 0, .int .i64 0, .int .i64 0] 53 (0, 0)) := ⟨_, rfl⟩
  have HW3 := Lib.hid hw3
  have HB3 : Hid (Below w.heap.size w w3) := Lib.hid (by rw [hw3]; exact (((Below.refl _ _).alloc (Nat.le_refl _) _).alloc (by simp) _).alloc (by simp; omega) _)
  have hs3 : w3.heap.size = w.heap.size + 3 := by rw [hw3]; simp
  have H0 : Hid (w3.heap[w.heap.size]? = some (.cells (sarr s) 57 (0, 0))) := Lib.hid (by
    rw [hw3, Below.heap_alloc _ _ _ (by simp; omega), Below.heap_alloc _ _ _ (by simp)]; exact heap_alloc_new _ _)
  have H1 : Hid (w3.heap[w.heap.size + 1]? = some (.cells (arr (curV s r 0)) 53 (0, 0))) := Lib.hid (by
    rw [hw3, Below.heap_alloc _ _ _ (by simp), show w.heap.size + 1 = (w.alloc (.cells (sarr s) 57 (0, 0))).heap.size by simp, arr_congr (curV_zero (s := s) hr)]; exact heap_alloc_new _ _)
  have H2 : Hid (w3.heap[w.heap.size + 1 + 1]? = some (.cells (arr fun _ => 0) 53 (0, 0))) := Lib.hid (by
    rw [hw3, show w.heap.size + 1 + 1 = ((w.alloc (.cells (sarr s) 57 (0, 0))).alloc (.cells (arr r) 53 (0, 0))).heap.size by simp]; exact heap_alloc_new _ _)
  have HS3 := Lib.hid hs3
  obtain ⟨B1, hB1⟩ : ∃ B1, B1 = w.heap.size + 1 := ⟨_, rfl⟩
  obtain ⟨B2, hB2⟩ : ∃ B2, B2 = B1 + 1 := ⟨_, rfl⟩
  have hB2' : B2 = w.heap.size + 1 + 1 := by rw [hB2, hB1]
  have HB1E := Lib.hid hB1
  have HB2E := Lib.hid hB2
  rw [← hB1] at H1
  rw [← hB2'] at H2
  have hB1w : w.heap.size ≤ B1 := by omega
  have hB2w : w.heap.size ≤ B2 := by omega
  have hB12 : B1 < B2 := by omega
  clear hw3 hs3 hs hr
  go_enter Tryz.func59, Tryz.ntmps59
  go_upto_region 1 with fail
  rw [← HW3.out, ← HB1E.out, ← HB2E.out]
  clear hB1 hB2 hB2'
  go_wp2_with (refine wpList_load_row rfl 57 (.tmp 2) rfl w.heap.size rfl 57 (sarr s) (0, 0) _ H0.out descS rfl (by rw [sarr_size]; exact infoS) ?_)
  go_loopw [8] (fun iv wr => ∃ k : Nat, k ≤ 18 ∧ iv = .int .i64 k ∧ wr.heap[B1]? = some (.cells (arr (curV s r k)) 53 (0, 0)) ∧ wr.heap[B2]? = some (.cells (arr fun _ => 0) 53 (0, 0)) ∧ Below w.heap.size w wr) (fun iv _ => 18 - (intOf iv).toNat)
  case atStart => exact ⟨0, by omega, rfl, H1.out, H2.out, HB3.out⟩
  case round =>
    obtain ⟨k, hk, rfl, hc, hz, hB⟩ := hrel
    have HC := Lib.hid hc
    have HZ := Lib.hid hz
    have HB := Lib.hid hB
    by_cases hlt : k < 18
    · have hix := fun W => index_span s hlt W
      obtain ⟨c, hce⟩ : ∃ c, c = curV s r k := ⟨_, rfl⟩
      have HCE := Lib.hid hce
      have hcr : ∀ j, 0 ≤ c j ∧ c j ≤ 100 := by rw [hce]; exact curV_rng s r k
      rw [← hce] at HC
      obtain ⟨x, hxe⟩ : ∃ x, x = c k := ⟨_, rfl⟩
      have HXE := Lib.hid hxe
      have hxb : 0 ≤ x ∧ x ≤ 100 := by rw [hxe]; exact hcr k
      have hB2l : B2 < wr.heap.size := (Array.getElem?_eq_some_iff.1 hz).1
      obtain ⟨Bf, hBf⟩ : ∃ Bf, Bf = wr.heap.size := ⟨_, rfl⟩
      obtain ⟨W0, hW0⟩ : ∃ W0, W0 = wr.alloc (.cells (arr (s k)) 53 (0, 0)) := ⟨_, rfl⟩
      have HW0 := Lib.hid hW0
      have HBFE := Lib.hid hBf
      have hsW : W0.heap.size = wr.heap.size + 1 := by rw [hW0]; simp
      have HBW : Hid (Below w.heap.size w W0) := Lib.hid (by rw [hW0]; exact hB.alloc hB.size _)
      have HZW : Hid (W0.heap[B2]? = some (.cells (arr fun _ => 0) 53 (0, 0))) := Lib.hid (by rw [hW0, Below.heap_alloc _ _ _ hB2l]; exact hz)
      have HD : Hid (HeldD B1 Bf c (s k) k x W0) := Lib.hid (by
        have h1 : W0.heap[B1]? = some (.cells (arr c) 53 (0, 0)) := by rw [hW0, Below.heap_alloc _ _ _ (by omega)]; exact HC.out
        exact ⟨h1, by rw [hW0, hBf]; exact heap_alloc_new _ _, cellAt h1 (by rw [arr_get _ hlt, hxe])⟩)
      have hw1 : IntKind.i64.wrap (-x) = -x := by rw [IntKind.wrap_i64]; omega
      have HTM := Lib.hid (fun W : World => quadTimes_any (s k) (-x) W (fun j _ => HS.out.rng k j) (by omega))
      have HPL := Lib.hid (fun W : World => quadPlus_any c (fun j => s k j * -x % 101) W (fun j _ => hcr j) (fun j _ => by omega))
      have hsWb : B2 < W0.heap.size := by omega
      have k0 : (0 : Int) ≤ (k : Int) := by omega
      have k18 : (k : Int) < 18 := by omega
      have HNX : Hid (arr (fun j => (c j + s k j * -x) % 101) = arr (curV s r (k + 1))) := Lib.hid (arr_congr (fun j _ => by
        have := curV_next HS.out r k j
        rw [hxe, hce]
        omega))
      clear hc hz hB hce hxe hcr hW0 hsW hBf
      go_upto_region 3 with fail
      go_wp2_with (refine wpList_store_row rfl 53 (.tmp 6) (.tmp 11) rfl wr.heap.size (arr (s k)) rfl rfl 53 _ (heap_alloc_new _ _) (by rw [arr_size]; exact infoA) (by rw [arr_size]; rfl) (arr_one _) ?_; rw [World.setRow_alloc_new])
      rw [← HW0.out, ← HBFE.out]
      refine wp_region_heldZ (z := 8) (S := HeldD B1 Bf c (s k) k x) (by kernel_rfl) (show HeldD B1 Bf c (s k) k x W0.drew from HD.out) (fun hHeld => ?_)
      refine wpAnyZ_take (i := 0) (oi := { dst := some 12, op := Op.load 53 (Operand.tmp 3), type := 53, pos := "l6_duals.go:72", after := #[], guard := none }) (v := .agg (arr c)) rfl (by kernel_rfl) (by kernel_rfl) (by kernel_rfl) (by kernel_rfl) (fun _ _ _ h => h) (yieldsIf_load_mid (by rfl) 53 (.tmp 3) rfl (B1) 0 rfl (arrL c) _ (fun w hS => range_arr hS.1) descA rfl (by rw [arrL_length]; exact infoA)) (by assumption) ?_
      (try simp only [Act.put, List.setIfInBounds_toArray, List.set_cons_zero, List.set_cons_succ])
      refine wpAnyZ_take (i := 1) (oi := { dst := some 13, op := Op.load 53 (Operand.tmp 6), type := 53, pos := "l6_duals.go:72", after := #[], guard := none }) (v := .agg (arr (s k))) rfl (by kernel_rfl) (by kernel_rfl) (by kernel_rfl) (by kernel_rfl) (fun _ _ _ h => h) (yieldsIf_load_mid (by rfl) 53 (.tmp 6) rfl (Bf) 0 rfl (arrL (s k)) _ (fun w hS => range_arr hS.2.1) descA rfl (by rw [arrL_length]; exact infoA)) (by assumption) ?_
      (try simp only [Act.put, List.setIfInBounds_toArray, List.set_cons_zero, List.set_cons_succ])
      refine wpAnyZ_take (i := 2) (oi := { dst := some 14, op := Op.move (Operand.tmp 5), type := 3, pos := "l6_duals.go:72", after := #[], guard := none }) (v := ?_) rfl (by kernel_rfl) (by kernel_rfl) (by kernel_rfl) (by kernel_rfl) (fun _ _ _ h => h) (Or.inl ⟨by rfl, ?_⟩) (by assumption) ?_
      rotate_left
      · (intro w hSw; (try dsimp only at hSw); go_simp <;> with_reducible rfl)
      (try simp only [Act.put, List.setIfInBounds_toArray, List.set_cons_zero, List.set_cons_succ])
      refine wpAnyZ_take (i := 3) (oi := { dst := some 15, op := Op.indexAddr 53 (Operand.tmp 3) (Operand.tmp 14), type := 0, pos := "l6_duals.go:72", after := #[{ on := 2, ground := Ground.data }], guard := none }) (v := ?_) rfl (by kernel_rfl) (by kernel_rfl) (by kernel_rfl) (by kernel_rfl) (fun _ _ _ h => h) (Or.inl ⟨by rfl, ?_⟩) (by assumption) ?_
      rotate_left
      · (intro w hSw; (try dsimp only at hSw); go_simp <;> with_reducible rfl)
      (try simp only [Act.put, List.setIfInBounds_toArray, List.set_cons_zero, List.set_cons_succ])
      refine wpAnyZ_take (i := 4) (oi := { dst := some 16, op := Op.load 3 (Operand.tmp 15), type := 3, pos := "l6_duals.go:72", after := #[{ on := 3, ground := Ground.data }], guard := none }) (v := ?_) rfl (by kernel_rfl) (by kernel_rfl) (by kernel_rfl) (by kernel_rfl) (fun _ _ _ h => h) (Or.inl ⟨by rfl, ?_⟩) (by assumption) ?_
      rotate_left
      · (intro w hSw; have hSc := hSw.2.2; go_simp <;> with_reducible rfl)
      (try simp only [Act.put, List.setIfInBounds_toArray, List.set_cons_zero, List.set_cons_succ])
      refine wpAnyZ_take (i := 5) (oi := { dst := some 17, op := Op.unOp UnOp.neg 3 (Operand.tmp 16), type := 3, pos := "l6_duals.go:72", after := #[{ on := 4, ground := Ground.data }], guard := none }) (v := ?_) rfl (by kernel_rfl) (by kernel_rfl) (by kernel_rfl) (by kernel_rfl) (fun _ _ _ h => h) (Or.inl ⟨by rfl, ?_⟩) (by assumption) ?_
      rotate_left
      · (intro w hSw; (try dsimp only at hSw); go_simp <;> with_reducible rfl)
      (try simp only [Act.put, List.setIfInBounds_toArray, List.set_cons_zero, List.set_cons_succ])
      refine wpAnyZ_one (i := 6) (o := { dst := some 18, op := Op.call { callee := Callee.value (Operand.func 68), args := #[Operand.tmp 13, Operand.tmp 17], argTypes := #[53, 3] }, type := 53, pos := "l6_duals.go:72", after := #[{ on := 1, ground := Ground.data }, { on := 5, ground := Ground.data }], guard := none }) (by kernel_rfl) rfl (fun K hK => ?_)
      go_simp
      go_wp2_with fail
      refine (HTM.out _).mono ?_
      rintro e w4 ⟨rfl, hB4⟩
      have HD4 := Lib.hid ((show HeldD B1 Bf c (s k) k x W0.drew from HD.out).keep hB4)
      have HB4 := Lib.hid (below_step (show Below w.heap.size w W0.drew from HBW.out.drew) hB4)
      have HZ4 := Lib.hid ((hB4.block B2 (by show B2 < W0.heap.size; omega)).trans (show W0.drew.heap[B2]? = _ from HZW.out))
      have hs4 := hB4.size
      clear hB4
      go_wp2_with fail
      refine hK.out _ _ ?_ (fun hHeld => ?_)
      · exact HD4.out
      clear hK K
      (try simp only [Act.put, List.setIfInBounds_toArray, List.set_cons_zero, List.set_cons_succ])
      refine wpAnyZ_one (i := 7) (o := { dst := some 19, op := Op.call { callee := Callee.value (Operand.func 70), args := #[Operand.tmp 12, Operand.tmp 18], argTypes := #[53, 53] }, type := 53, pos := "l6_duals.go:72", after := #[{ on := 0, ground := Ground.data }, { on := 6, ground := Ground.data }, { on := 6, ground := Ground.chain }], guard := none }) (by kernel_rfl) rfl (fun K hK => ?_)
      go_simp
      go_wp2_with fail
      refine (HPL.out _).mono ?_
      rintro e w5 ⟨rfl, hB5⟩
      have HD5 := Lib.hid (HD4.out.keep hB5)
      have HB5 := Lib.hid (below_step HB4.out hB5)
      have HZ5 := Lib.hid ((hB5.block B2 (Array.getElem?_eq_some_iff.1 HZ4.out).1).trans HZ4.out)
      clear hB5
      go_wp2_with fail
      refine hK.out _ _ ?_ (fun hHeld => ?_)
      · exact HD5.out
      clear hK K
      (try simp only [Act.put, List.setIfInBounds_toArray, List.set_cons_zero, List.set_cons_succ])
      refine wpAnyZ_last (o := { dst := none, op := Op.store 53 (Operand.tmp 3) (Operand.tmp 19), type := 0, pos := "l6_duals.go:72", after := #[{ on := 7, ground := Ground.data }, { on := 7, ground := Ground.chain }, { on := 0, ground := Ground.phase }, { on := 1, ground := Ground.phase }, { on := 2, ground := Ground.phase }, { on := 3, ground := Ground.phase }, { on := 4, ground := Ground.phase }, { on := 5, ground := Ground.phase }, { on := 6, ground := Ground.phase }, { on := 7, ground := Ground.phase }], guard := none }) (by kernel_rfl) rfl (by kernel_rfl) (fun K hK => ?_)
      rw [if_pos (by rfl)]
      refine wp_store_row 53 (.tmp 3) (.tmp 19) rfl B1 (arr fun j => (c j + s k j * -x) % 101) rfl rfl 53 (arr c) HD5.out.1 (by rw [arr_size]; exact infoA) (by rw [arr_size, arr_size]) (arr_one _) (hK.out _ _ ?_)
      have HR6 := Lib.hid (setRow_heap w5 B1 _ (arr fun j => (c j + s k j * -x) % 101) 53 (0, 0) HD5.out.1)
      have HB6 := Lib.hid (below_setRow HB5.out hB1w (arr fun j => (c j + s k j * -x) % 101))
      have HZ6 := Lib.hid ((setRow_other w5 B1 B2 (arr fun j => (c j + s k j * -x) % 101) (by omega)).trans HZ5.out)
      clear hK K
      have HR7 : Hid (_ = some (Obj.cells (arr (curV s r (k + 1))) 53 (0, 0))) := Lib.hid (HR6.out.trans (by rw [HNX.out]))
      go_wp2_with fail
      exact ⟨⟨k + 1, by omega, by go_num, HR7.out, HZ6.out, HB6.out⟩, by simp [intOf]; omega⟩
    · have hk18 : k = 18 := by omega
      have HE : Hid (wr.heap[B1]? = some (.cells (arr (redV 18 s r)) 53 (0, 0))) := Lib.hid (by
        rw [hc, hk18]; rfl)
      have HRR := Lib.hid (setRow_heap wr B2 _ (arr (redV 18 s r)) 53 (0, 0) hz)
      have HBF := Lib.hid (below_setRow hB hB2w (arr (redV 18 s r)))
      clear hc hz hB hk18
      go_wp2_with (first
        | (refine wpList_load_row rfl 53 (.tmp 3) rfl B1 rfl 53 (arr (redV 18 s r)) (0, 0) _ HE.out descA rfl (by rw [arr_size]; exact infoA) ?_)
        | (refine wpList_store_row rfl 53 (.tmp 4) (.tmp 21) rfl B2 (arr (redV 18 s r)) rfl rfl 53 _ HZ.out (by rw [arr_size]; exact infoA) (by rw [arr_size, arr_size]) (arr_one _) ?_))
      refine bodyPost_ret (v := .agg (arr (redV 18 s r))) (ret_arr rfl _ _ B2 _ (0, 0) rfl HRR.out) rfl ?_
      exact ⟨rfl, HBF.out⟩

/-- A row has nothing but 0. -/
def rowZ (f : Nat → Int) : Bool := decide (∀ i ∈ List.range 18, f i = 0)
theorem rowZ_iff {f : Nat → Int} : rowZ f = true ↔ ∀ j, j < 18 → f j = 0 := by
  unfold rowZ
  rw [decide_eq_true_iff]
  exact ⟨fun h j hj => h j (List.mem_range.2 hj), fun h j hj => h j (List.mem_range.1 hj)⟩

set_option maxRecDepth 100000 in
set_option maxHeartbeats 1000000 in
theorem rowIsZero_any (f : Nat → Int) (w : World) :
    Calls Tryz.prog 50 #[.agg (arr f)] w (Ans (.bool (rowZ f)) w) := by
  have HE : Hid (∀ W : World, (Op.equalIn 10000 53 (.agg (arr f)) (.agg (arr fun _ => 0))).run Tryz.prog W = .ok (rowZ f) W) := Lib.hid (fun W => equal_arr f (fun _ => 0) 9998 W)
  have h0 : (w.alloc (.cells (arr f) 53 (0, 0))).heap[w.heap.size]? = some (.cells (arr f) 53 (0, 0)) := heap_alloc_new _ _
  have H0 := Lib.hid h0
  clear h0
  go_enter Tryz.func50, Tryz.ntmps50
  go_upto_region 1 with fail
  have hq := HE.out (w.alloc (.cells (arr f) 53 (0, 0)))
  rw [← arr_zero] at hq
  go_wp2_with (refine wpList_load_row rfl 53 (.tmp 1) rfl w.heap.size rfl 53 (arr f) (0, 0) _ H0.out descA rfl (by rw [arr_size]; exact infoA) ?_)
  go_ret
  exact ⟨rfl, (Below.refl _ _).alloc (Nat.le_refl _) _⟩

set_option maxRecDepth 100000 in
set_option maxHeartbeats 1000000 in
theorem spanHas_any (s : Nat → Nat → Int) (r : Nat → Int) (w : World) (hs : Bs 18 s) (hr : ∀ j, j < 18 → 0 ≤ r j ∧ r j ≤ 100) :
    Calls Tryz.prog 42 #[.agg (sarr s), .agg (arr r)] w (Ans (.bool (rowZ (redV 18 s r))) w) := by
  obtain ⟨w3, hw3⟩ : ∃ w3, w3 = (w.alloc (.cells (sarr s) 57 (0, 0))).alloc (.cells (arr r) 53 (0, 0)) := ⟨_, rfl⟩
  have HW3 := Lib.hid hw3
  have HB3 : Hid (Below w.heap.size w w3) := Lib.hid (by rw [hw3]; exact ((Below.refl _ _).alloc (Nat.le_refl _) _).alloc (by simp) _)
  have H0 : Hid (w3.heap[w.heap.size]? = some (.cells (sarr s) 57 (0, 0))) := Lib.hid (by
    rw [hw3, Below.heap_alloc _ _ _ (by simp)]; exact heap_alloc_new _ _)
  have H1 : Hid (w3.heap[w.heap.size + 1]? = some (.cells (arr r) 53 (0, 0))) := Lib.hid (by
    rw [hw3, show w.heap.size + 1 = (w.alloc (.cells (sarr s) 57 (0, 0))).heap.size by simp]; exact heap_alloc_new _ _)
  have HRD := Lib.hid (fun W : World => spanReduced_any s r W hs hr)
  have HIZ := Lib.hid (fun W : World => rowIsZero_any (redV 18 s r) W)
  clear hw3 hs hr
  go_enter Tryz.func42, Tryz.ntmps42
  go_upto_region 1 with fail
  rw [← HW3.out]
  go_wp2_with (first
    | (refine wpList_load_row rfl 57 (.tmp 2) rfl w.heap.size rfl 57 (sarr s) (0, 0) _ H0.out descS rfl (by rw [sarr_size]; exact infoS) ?_)
    | (refine wpList_load_row rfl 53 (.tmp 3) rfl (w.heap.size + 1) rfl 53 (arr r) (0, 0) _ H1.out descA rfl (by rw [arr_size]; exact infoA) ?_))
  refine (HRD.out w3).mono ?_
  rintro e w4 ⟨rfl, hB4⟩
  have HB4 := Lib.hid (below_step HB3.out hB4)
  clear hB4
  go_wp2_with fail
  refine (HIZ.out w4).mono ?_
  rintro e w5 ⟨rfl, hB5⟩
  have HB5 := Lib.hid (below_step HB4.out hB5)
  clear hB5
  go_wp2_with fail
  go_ret
  exact ⟨rfl, HB5.out⟩

end Go.Proofs.YtoeebipahifpcaaGreat
end
