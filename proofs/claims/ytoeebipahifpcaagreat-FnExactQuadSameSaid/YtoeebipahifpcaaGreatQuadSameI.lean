/- QuadSame by the program. -/
import Derived.Test.YtoeebipahifpcaaGreatKQInI
namespace Go.Proofs.YtoeebipahifpcaaGreat
open Go.RowKit

theorem part_span0 (s : Nat → Nat → Int) (w : World) : (part 53 (sarr s) (0 * 18)).run Tryz.prog w = .ok (.agg (arr (s 0))) w := by kernel_rfl
theorem part_span1 (s : Nat → Nat → Int) (w : World) : (part 53 (sarr s) (1 * 18)).run Tryz.prog w = .ok (.agg (arr (s 1))) w := by kernel_rfl
theorem part_span2 (s : Nat → Nat → Int) (w : World) : (part 53 (sarr s) (2 * 18)).run Tryz.prog w = .ok (.agg (arr (s 2))) w := by kernel_rfl
theorem part_span3 (s : Nat → Nat → Int) (w : World) : (part 53 (sarr s) (3 * 18)).run Tryz.prog w = .ok (.agg (arr (s 3))) w := by kernel_rfl
theorem part_span4 (s : Nat → Nat → Int) (w : World) : (part 53 (sarr s) (4 * 18)).run Tryz.prog w = .ok (.agg (arr (s 4))) w := by kernel_rfl
theorem part_span5 (s : Nat → Nat → Int) (w : World) : (part 53 (sarr s) (5 * 18)).run Tryz.prog w = .ok (.agg (arr (s 5))) w := by kernel_rfl
theorem part_span6 (s : Nat → Nat → Int) (w : World) : (part 53 (sarr s) (6 * 18)).run Tryz.prog w = .ok (.agg (arr (s 6))) w := by kernel_rfl
theorem part_span7 (s : Nat → Nat → Int) (w : World) : (part 53 (sarr s) (7 * 18)).run Tryz.prog w = .ok (.agg (arr (s 7))) w := by kernel_rfl
theorem part_span8 (s : Nat → Nat → Int) (w : World) : (part 53 (sarr s) (8 * 18)).run Tryz.prog w = .ok (.agg (arr (s 8))) w := by kernel_rfl
theorem part_span9 (s : Nat → Nat → Int) (w : World) : (part 53 (sarr s) (9 * 18)).run Tryz.prog w = .ok (.agg (arr (s 9))) w := by kernel_rfl
theorem part_span10 (s : Nat → Nat → Int) (w : World) : (part 53 (sarr s) (10 * 18)).run Tryz.prog w = .ok (.agg (arr (s 10))) w := by kernel_rfl
theorem part_span11 (s : Nat → Nat → Int) (w : World) : (part 53 (sarr s) (11 * 18)).run Tryz.prog w = .ok (.agg (arr (s 11))) w := by kernel_rfl
theorem part_span12 (s : Nat → Nat → Int) (w : World) : (part 53 (sarr s) (12 * 18)).run Tryz.prog w = .ok (.agg (arr (s 12))) w := by kernel_rfl
theorem part_span13 (s : Nat → Nat → Int) (w : World) : (part 53 (sarr s) (13 * 18)).run Tryz.prog w = .ok (.agg (arr (s 13))) w := by kernel_rfl
theorem part_span14 (s : Nat → Nat → Int) (w : World) : (part 53 (sarr s) (14 * 18)).run Tryz.prog w = .ok (.agg (arr (s 14))) w := by kernel_rfl
theorem part_span15 (s : Nat → Nat → Int) (w : World) : (part 53 (sarr s) (15 * 18)).run Tryz.prog w = .ok (.agg (arr (s 15))) w := by kernel_rfl
theorem part_span16 (s : Nat → Nat → Int) (w : World) : (part 53 (sarr s) (16 * 18)).run Tryz.prog w = .ok (.agg (arr (s 16))) w := by kernel_rfl
theorem part_span17 (s : Nat → Nat → Int) (w : World) : (part 53 (sarr s) (17 * 18)).run Tryz.prog w = .ok (.agg (arr (s 17))) w := by kernel_rfl
theorem part_span (s : Nat → Nat → Int) {k : Nat} (hk : k < 18) (w : World) : (part 53 (sarr s) (k * 18)).run Tryz.prog w = .ok (.agg (arr (s k))) w := by
  match k, hk with
  | 0, _ => exact part_span0 s w
  | 1, _ => exact part_span1 s w
  | 2, _ => exact part_span2 s w
  | 3, _ => exact part_span3 s w
  | 4, _ => exact part_span4 s w
  | 5, _ => exact part_span5 s w
  | 6, _ => exact part_span6 s w
  | 7, _ => exact part_span7 s w
  | 8, _ => exact part_span8 s w
  | 9, _ => exact part_span9 s w
  | 10, _ => exact part_span10 s w
  | 11, _ => exact part_span11 s w
  | 12, _ => exact part_span12 s w
  | 13, _ => exact part_span13 s w
  | 14, _ => exact part_span14 s w
  | 15, _ => exact part_span15 s w
  | 16, _ => exact part_span16 s w
  | 17, _ => exact part_span17 s w
  | n + 18, h => omega

/-- Two rows are equal. -/
def rowEq (f g : Nat → Int) : Bool := decide (∀ i ∈ List.range 18, f i = g i)
/-- Two spans are equal, row by row. -/
def spanEq (s t : Nat → Nat → Int) : Bool := (List.range 18).all fun i => rowEq (s i) (t i)
theorem rowEq_iff {f g : Nat → Int} : rowEq f g = true ↔ ∀ j, j < 18 → f j = g j := by
  unfold rowEq
  rw [decide_eq_true_iff]
  exact ⟨fun h j hj => h j (List.mem_range.2 hj), fun h j hj => h j (List.mem_range.1 hj)⟩
theorem spanEq_iff {s t : Nat → Nat → Int} : spanEq s t = true ↔ ∀ i j, i < 18 → j < 18 → s i j = t i j := by
  unfold spanEq
  rw [List.all_eq_true]
  exact ⟨fun h i j hi hj => rowEq_iff.1 (h i (List.mem_range.2 hi)) j hj, fun h i hi => rowEq_iff.2 fun j hj => h i j (List.mem_range.1 hi) hj⟩

theorem eqItems_rows (xs ys : Array Value) (a b : Nat → Value) (R : Nat → Bool) (d : Nat) (w : World) (ha : ∀ i, i < 18 → (part 53 xs (i * 18)).run Tryz.prog w = .ok (a i) w) (hb : ∀ i, i < 18 → (part 53 ys (i * 18)).run Tryz.prog w = .ok (b i) w)
    (hR : ∀ i, i < 18 → (Op.equalIn d 53 (a i) (b i)).run Tryz.prog w = .ok (R i) w) : ∀ is : List Nat, (∀ i ∈ is, i < 18) → (Op.eqItems d 53 18 xs ys is).run Tryz.prog w = .ok (is.all R) w
  | [], _ => by simp [Op.eqItems]
  | i :: is, h => by
    have h1 := ha i (h i (by simp))
    have h2 := hb i (h i (by simp))
    have h3 := hR i (h i (by simp))
    have ih := eqItems_rows xs ys a b R d w ha hb hR is (fun j hj => h j (by simp [hj]))
    simp only [Op.eqItems, Sem.run_bind, h1, h2, h3, Result.andThen_ok, List.all_cons]
    cases R i with
    | true =>
      simp only [Bool.not_true, Bool.false_eq_true, if_false, Bool.true_and]
      exact ih
    | false => simp

theorem infoRowA : ∃ i, Tryz.prog.info? 53 = some i := by
  have h := infoA
  cases e : Tryz.prog.info? 53 with
  | none => rw [e] at h; cases h
  | some i => exact ⟨i, rfl⟩

theorem equal_span (s t : Nat → Nat → Int) (d : Nat) (w : World) : (Op.equalIn (d + 1 + 1 + 1) 57 (.agg (sarr s)) (.agg (sarr t))).run Tryz.prog w = .ok (spanEq s t) w := by
  obtain ⟨i0, hi0⟩ := infoRowA
  have h := run_equalIn_array (P := Tryz.prog) (w := w) (d + 1 + 1) (t := 57) (e := 53) (n := 18) (i := i0) (sarr s) (sarr t) descS hi0
  rw [cellsRowQ] at h
  rw [h]
  exact eqItems_rows (sarr s) (sarr t) (fun i => .agg (arr (s i))) (fun i => .agg (arr (t i))) (fun i => rowEq (s i) (t i)) (d + 1 + 1) w (fun i hi => part_span s hi w) (fun i hi => part_span t hi w) (fun i _ => equal_arr (s i) (t i) d w) _ (fun i hi => List.mem_range.1 hi)

/-- Bases are equal just if the spans are the same. -/
theorem spanEq_span {s t : Nat → Nat → Int} (hs : Bs 18 s) (ht : Bs 18 t) : spanEq s t = true ↔ ∀ v, Sp 18 (BsR 18 s) v ↔ Sp 18 (BsR 18 t) v := by
  rw [spanEq_iff]
  constructor
  · intro h v
    constructor
    · refine Sp.mono fun r hr => ?_
      obtain ⟨i, hi, rfl⟩ := hr
      exact (Sp.of ⟨i, hi, rfl⟩ : Sp 18 (BsR 18 t) (t i)).congr fun j hj => by rw [h i j hi hj, Int.sub_self]; rfl
    · refine Sp.mono fun r hr => ?_
      obtain ⟨i, hi, rfl⟩ := hr
      exact (Sp.of ⟨i, hi, rfl⟩ : Sp 18 (BsR 18 s) (s i)).congr fun j hj => by rw [h i j hi hj, Int.sub_self]; rfl
  · intro h
    exact hs.unique ht (fun i hi => (h _).1 (Sp.of ⟨i, hi, rfl⟩)) (fun i hi => (h _).2 (Sp.of ⟨i, hi, rfl⟩))

set_option maxRecDepth 100000 in
set_option maxHeartbeats 1000000 in
theorem iQuadSame_any (ss : List ByteArray) (xss yss : List (List (Int × ByteArray))) (n m m' : Nat) (hns : n = ss.length) (hmx : m = xss.length) (hmy : m' = yss.length) (ga ca gx cx gy cy : Nat) (w : World) (hn : n ≤ 1048576) (hca : n ≤ ca) (hm : m ≤ 1048576) (hm' : m' ≤ 1048576)
    (hz : ∀ j (h : j < ss.length), (ss[j]).size ≤ 1048576) (hzx : ∀ j (h : j < xss.length), Small1 xss[j]) (hzy : ∀ j (h : j < yss.length), Small1 yss[j]) (hl : TxG w ga ss) (hlx : TermsL w gx xss) (hly : TermsL w gy yss) :
    Calls Tryz.prog 26 #[.slice (some ⟨ga, 0, none⟩) n ca, .slice (some ⟨gx, 0, none⟩) m cx, .slice (some ⟨gy, 0, none⟩) m' cy] w (Ans (.bool (quadSame ss xss yss)) w) := by
  have HRS := Lib.hid (readSpan_any ss xss n m hns hmx ga ca gx cx w hn hca hm hz hzx hl hlx)
  have HLY := Lib.hid hly
  have HZY := Lib.hid hzy
  have HMY := Lib.hid hmy
  clear hns hmx hz hzx hl hlx hly hzy hmy
  go_enter Tryz.func26, Tryz.ntmps26
  go_wp2_with fail
  refine HRS.out.mono ?_
  rintro e w1 ⟨hB1, ⟨hbad, cq, hqs, hqo, rfl⟩ | ⟨ts, gt, c1, t, hyes, h20, hsp, rfl, htx⟩⟩
  · obtain ⟨w2, w3, hw2, hw3, h7, h8, g7, g8, hb3, _, _⟩ := two_new hB1 cq (sarr fun _ _ => 0)
    have HQS := Lib.hid hqs
    have HQO := Lib.hid hqo
    have HW2 := Lib.hid hw2
    have HW3 := Lib.hid hw3
    have H7 := Lib.hid h7
    have H8 := Lib.hid h8
    have HB3 := Lib.hid hb3
    have HE : Hid (quadSame ss xss yss = false) := Lib.hid (quadSame_eq ⟨fun h => (by cases h), fun hi => (by obtain ⟨ts, h1, h2, _, h3, _⟩ := hi; exact (hbad.no h1 h2 h3).elim)⟩)
    clear hqs hqo hB1 hbad hw2 hw3 h7 h8 g7 g8 hb3
    go_wp2_with (first
      | (rw [← HW2.out]; refine wpList_store_row rfl 55 (.tmp 7) (.tmp 15) rfl w1.heap.size cq rfl rfl 55 _ H7.out (by rw [HQS.out]; exact infoQ) (by rw [HQS.out]; rfl) HQO.out ?_)
      | (refine wpList_store_row rfl 57 (.tmp 8) (.tmp 16) rfl (w1.heap.size + 1) (sarr fun _ _ => 0) rfl rfl 57 _ H8.out (by rw [sarr_size]; exact infoS) (by rw [sarr_size]) (sarr_one _) ?_; rw [← HW3.out]))
    go_ret
    exact ⟨by rw [HE.out]; rfl, HB3.out⟩
  · obtain ⟨q1, q2, q3⟩ := quadsOf_ok hyes
    obtain ⟨L, hL⟩ : ∃ L, L = ts.length := ⟨_, rfl⟩
    rw [← hL]
    obtain ⟨cq, hcq⟩ : ∃ cq, cq = qcells (.slice (some ⟨gt, 0, none⟩) L c1) (sgn ts) := ⟨_, rfl⟩
    rw [← hcq]
    have HQS : Hid (cq.size = 19) := Lib.hid (by rw [hcq, qcells_size])
    have HQO : Hid (cq.all (·.oneCell') = true) := Lib.hid (by rw [hcq]; exact qcells_one rfl _)
    obtain ⟨w2, w3, hw2, hw3, h7, h8, g7, g8, hb3, hb13, hs3⟩ := two_new hB1 cq (sarr t)
    have HTX := Lib.hid (htx.below hb13)
    have HW2 := Lib.hid hw2
    have HW3 := Lib.hid hw3
    have H7 := Lib.hid h7
    have H8 := Lib.hid h8
    have G7 := Lib.hid g7
    have G8 := Lib.hid g8
    have HB3 := Lib.hid hb3
    have HS3 := Lib.hid hs3
    have HY := Lib.hid hyes
    have HSP := Lib.hid hsp
    have HTS : Hid (∀ t ∈ ts, t.wf) := Lib.hid (fun t ht => (q2 t ht).1)
    obtain ⟨fs, hfs⟩ := descQ2
    have HFS := Lib.hid hfs
    have HSO : Hid (Calls Tryz.prog 44 #[.agg cq, .slice (some ⟨gy, 0, none⟩) m' cy] w3 (SpanOf ts yss w3)) := Lib.hid (by
      rw [hcq]
      exact spanOf_any ts yss L m' hL HMY.out gt c1 (sgn ts) gy cy w3 (by omega) hm' HTS.out q3 HZY.out HTX.out (HLY.out.below hb3))
    have HIN : Hid (∀ t', yss.length ≤ 20 → SpanIs ts yss yss.length t' → quadSame ss xss yss = spanEq t t') := Lib.hid (fun t' hy20 hsp' => quadSame_eq ((spanEq_span hsp.1 hsp'.1).trans ⟨fun h => ⟨ts, hyes, h20, hy20, fun j hj => hsp.2.2 j hj hj, fun j hj => hsp'.2.2 j hj hj, fun v => (hsp.2.1 v).symm.trans ((h v).trans (hsp'.2.1 v))⟩, fun h v => (by
      obtain ⟨ts', h1, _, _, _, _, h5⟩ := h
      rw [hyes] at h1; cases h1
      exact (hsp.2.1 v).trans ((h5 v).trans (hsp'.2.1 v).symm))⟩))
    have HNO : Hid ((20 < yss.length ∨ ∃ (j : Nat) (h : j < yss.length), qRowOf ts yss[j] = none) → quadSame ss xss yss = false) := Lib.hid (fun hf => quadSame_eq ⟨fun h => (by cases h), fun h => (by
      obtain ⟨ts', h1, _, h2, _, h4, _⟩ := h
      rw [hyes] at h1; cases h1
      exact (SpanBad.no (.inr ⟨ts, hyes, hf⟩) hyes h2 h4).elim)⟩)
    clear hB1 hyes h20 hsp htx q1 q2 q3 hL hcq hw2 hw3 h7 h8 g7 g8 hb3 hb13 hs3 hfs
    go_wp2_with (first
      | (rw [← HW2.out]; refine wpList_store_row rfl 55 (.tmp 7) (.tmp 15) rfl w1.heap.size cq rfl rfl 55 _ H7.out (by rw [HQS.out]; exact infoQ) (by rw [HQS.out]; rfl) HQO.out ?_)
      | (refine wpList_store_row rfl 57 (.tmp 8) (.tmp 16) rfl (w1.heap.size + 1) (sarr t) rfl rfl 57 _ H8.out (by rw [sarr_size]; exact infoS) (by rw [sarr_size, sarr_size]) (sarr_one _) ?_; rw [← HW3.out])
      | (refine wpList_load_row rfl 55 (.tmp 7) rfl w1.heap.size rfl 55 cq (0, 0) (.struct fs) G7.out HFS.out rfl (by rw [HQS.out]; exact infoQ) ?_))
    refine HSO.out.mono ?_
    rintro e w4 ⟨hB4, ⟨hno, rfl⟩ | ⟨t', h20', hsp', rfl⟩⟩
    · have HE := Lib.hid (HNO.out hno)
      have HB4 := Lib.hid (below_step HB3.out hB4)
      clear hno hB4
      go_wp2_with (refine wpList_store_row rfl 57 (.tmp 10) (.tmp 24) rfl w4.heap.size (sarr fun _ _ => 0) rfl rfl 57 _ (heap_alloc_new _ _) (by rw [sarr_size]; exact infoS) (by rw [sarr_size, zeroS_size]) (sarr_one _) ?_; rw [World.setRow_alloc_new])
      go_ret
      exact ⟨by rw [HE.out]; rfl, HB4.out.alloc HB4.out.size _⟩
    · have HE := Lib.hid (HIN.out t' h20' hsp')
      obtain ⟨B10, hB10⟩ : ∃ B10, B10 = w4.heap.size := ⟨_, rfl⟩
      obtain ⟨w5, hw5⟩ : ∃ w5, w5 = w4.alloc (.cells (sarr t') 57 (0, 0)) := ⟨_, rfl⟩
      have hb5 : Below w3.heap.size w3 w5 := by rw [hw5]; exact hB4.alloc hB4.size _
      have HB5 := Lib.hid (below_step HB3.out hb5)
      have H10 : Hid (w5.heap[B10]? = some (.cells (sarr t') 57 (0, 0))) := Lib.hid (by rw [hw5, hB10]; exact heap_alloc_new _ _)
      have H85 := Lib.hid ((hb5.block (w1.heap.size + 1) (by rw [HS3.out]; omega)).trans G8.out)
      obtain ⟨z, hz⟩ : ∃ z, z = quadSame ss xss yss := ⟨_, rfl⟩
      have hq : (Op.equalIn 10000 57 (.agg (sarr t)) (.agg (sarr t'))).run Tryz.prog w5 = .ok z w5 := by
        rw [hz, HE.out]; exact equal_span t t' 9997 w5
      have HZZ := Lib.hid hz
      have HW5 := Lib.hid hw5
      have HB10 := Lib.hid hB10
      clear hsp' hB4 hb5 hw5 hB10 hz
      go_wp2_with (first
        | (refine wpList_store_row rfl 57 (.tmp 10) (.tmp 24) rfl w4.heap.size (sarr t') rfl rfl 57 _ (heap_alloc_new _ _) (by rw [sarr_size]; exact infoS) (by rw [sarr_size, zeroS_size]) (sarr_one _) ?_; rw [World.setRow_alloc_new, ← HW5.out, ← HB10.out])
        | (refine wpList_load_rowG (by rfl) 57 (.tmp 8) rfl (w1.heap.size + 1) rfl 57 (sarr t) (0, 0) _ H85.out descS rfl (by rw [sarr_size]; exact infoS) ?_)
        | (refine wpList_load_rowG (by rfl) 57 (.tmp 10) rfl B10 rfl 57 (sarr t') (0, 0) _ H10.out descS rfl (by rw [sarr_size]; exact infoS) ?_))
      go_ret
      exact ⟨by rw [← HZZ.out]; rfl, HB5.out⟩

end Go.Proofs.YtoeebipahifpcaaGreat
