/- Merged out of: XQuadInS, XQuadSameI, XQuadSameS. -/
import Derived.Test.YtoeebipahifpcaaGreatKReduce
import Derived.Test.YtoeebipahifpcaaGreatKQInI
import Derived.Laws.StructEq
section
/- QuadIn by the model. -/
namespace Go.Proofs.YtoeebipahifpcaaGreat
open Go.RowKit

theorem Sp.narrow {L n : Nat} (hLn : L ≤ n) {R : (Nat → Int) → Prop} {v : Nat → Int} (h : Sp n R v) : Sp L R v := by
  induction h with
  | zero h => exact .zero fun j hj => h j (by omega)
  | step _ hr h ih => exact .step ih hr fun j hj => h j (by omega)

theorem Sp.cut {L n : Nat} {R : (Nat → Int) → Prop} (hR : ∀ r, R r → ∀ j, L ≤ j → r j = 0) {v : Nat → Int} (h : Sp L R v) : Sp n R (fun j => if j < L then v j else 0) := by
  induction h with
  | zero h =>
    refine .zero fun j _ => ?_
    by_cases e : j < L
    · simp only [if_pos e]; exact h j e
    · simp only [if_neg e]; rfl
  | @step u v r c _ hr h ih =>
    refine .step (c := c) ih hr fun j _ => ?_
    by_cases e : j < L
    · simp only [if_pos e]; exact h j e
    · simp only [if_neg e]; rw [hR r hr j (by omega), Int.mul_zero]; rfl

/-- Columns in which no row has a number may be left out. -/
theorem Sp.wide {L n : Nat} (hLn : L ≤ n) {R : (Nat → Int) → Prop} (hR : ∀ r, R r → ∀ j, L ≤ j → r j = 0) {v : Nat → Int} (hv : ∀ j, L ≤ j → v j = 0) : Sp L R v ↔ Sp n R v := by
  refine ⟨fun h => ?_, Sp.narrow hLn⟩
  refine (Sp.cut (n := n) hR h).congr fun j _ => ?_
  by_cases e : j < L
  · simp only [if_pos e, Int.sub_self]; rfl
  · simp only [if_neg e]; rw [hv j (by omega)]; rfl

theorem qRowOf_wide {ts : List T} {xs : List (Int × ByteArray)} {f : Nat → Int} (h : qRowOf ts xs = some f) : ∀ j, ts.length ≤ j → f j = 0 := by
  intro j hj
  unfold qRowOf at h
  split at h
  · cases h
  · split at h
    · cases h
      unfold qRow
      rw [dif_neg (by omega)]
    · cases h

theorem quadIn_rows {ss : List ByteArray} {xss : List (List (Int × ByteArray))} {xs : List (Int × ByteArray)} {ts : List T} {fs : List (Nat → Int)} {f : Nat → Int} {s s2 : Nat → Nat → Int} {rest rest2 : List (Nat → Int)} {L K1 K2 : Nat} (hL : L = ts.length)
    (hq : quadsOf ss = some ts) (hok : RowsOk ts xss fs) (hf : qRowOf ts xs = some f) (h1 : RedInv L L (· ∈ fs) s rest) (h2 : RedInv L L (· ∈ fs ++ [f]) s2 rest2) (hk1 : K1 = (headL s L).length) (hk2 : K2 = (headL s2 L).length) :
    quadIn ss xss xs = decide ((K1 : Int) = (K2 : Int)) := by
  refine quadIn_eq ?_
  rw [decide_eq_true_iff, Int.ofNat_inj, hk1, hk2, headL_length, headL_length]
  subst hL
  rw [heads_in (r := f) h1.base h2.base h1.done (fun v => (h2.done v).trans ⟨Sp.mono fun y hy => Sp.of (by simpa using hy), Sp.mono fun y hy => Sp.of (by simpa using hy)⟩)]
  obtain ⟨k1, k2, k3⟩ := hok
  have hmem : ∀ y, y ∈ fs ↔ RS ts xss xss.length y := fun y => by
    constructor
    · intro hy
      obtain ⟨i, hi, rfl⟩ := List.getElem_of_mem hy
      exact ⟨i, by omega, by omega, k3 i (by omega) hi⟩
    · rintro ⟨j, hj, _, e⟩
      have := k3 j hj (by omega)
      rw [this] at e
      cases e
      exact List.getElem_mem _
  have hw : Sp ts.length (· ∈ fs) f ↔ Sp 18 (RS ts xss xss.length) f := by
    rw [Sp.wide (quadsOf_ok hq).1 (R := (· ∈ fs)) (fun r hr j hj => by
      obtain ⟨i, hi, _, e⟩ := (hmem r).1 hr
      exact qRowOf_wide e j hj) (qRowOf_wide hf)]
    exact ⟨Sp.mono fun y hy => Sp.of ((hmem y).1 hy), Sp.mono fun y hy => Sp.of ((hmem y).2 hy)⟩
  rw [hw]
  constructor
  · intro h
    exact ⟨ts, f, hq, k1, fun j hj => ⟨_, k3 j hj (by omega)⟩, hf, h⟩
  · rintro ⟨ts', f', hq', _, _, hf', h⟩
    rw [hq] at hq'
    cases hq'
    rw [hf] at hf'
    cases hf'
    exact h

set_option maxRecDepth 100000 in
set_option maxHeartbeats 4000000 in
theorem sQuadIn_any (ss : List ByteArray) (xss : List (List (Int × ByteArray))) (xs : List (Int × ByteArray)) (n m m' : Nat) (hns : n = ss.length) (hmx : m = xss.length) (hmy : m' = xs.length) (ga ca gx cx gy cy : Nat) (w : World) (hn : n ≤ 1048576) (hm : m ≤ 1048576)
    (hz : ∀ j (h : j < ss.length), (ss[j]).size ≤ 1048576) (hzx : ∀ j (h : j < xss.length), Small1 xss[j]) (hzy : Small1 xs) (hl : TxG w ga ss) (hlx : TermsL w gx xss) (hly : TermL w gy xs) :
    Calls Tryz.prog 21 #[.slice (some ⟨ga, 0, none⟩) n ca, .slice (some ⟨gx, 0, none⟩) m cx, .slice (some ⟨gy, 0, none⟩) m' cy] w (Ans (.bool (quadIn ss xss xs)) w) := by
  have HRW := Lib.hid (l6qRows_any ss xss n m hns hmx ga ca gx cx w hn hm hz hl hzx hlx)
  have HLY := Lib.hid hly
  have HZY := Lib.hid hzy
  have HMY := Lib.hid hmy
  obtain ⟨i0, hi0, hzz, hzs, hzb⟩ := info_parts infoLI
  clear hns hmx hz hzx hl hlx hly hzy hmy
  go_enter Tryz.func21, Tryz.ntmps21
  go_wp2_with fail
  refine HRW.out.mono ?_
  rintro e w1 ⟨hB1, a1, n1, c1, a2, n2, c2, b, rfl, ⟨rfl, hbad, us, gu, hus, rfl, rfl, hru⟩ | ⟨rfl, ts, fs, gt, gr, hyes, hok, rfl, rfl, hrt, rfl, rfl, hrr⟩⟩
  · have HQ : Hid (quadIn ss xss xs = false) := Lib.hid (quadIn_eq ⟨fun h => (by cases h), fun h => by
      obtain ⟨ts, f, h1, h2, h3, _, _⟩ := h
      rcases hbad with h | ⟨ts', h, h20 | ⟨k, hk, hkn⟩⟩
      · rw [h1] at h; cases h
      · omega
      · rw [h1] at h
        cases h
        obtain ⟨f', hf'⟩ := h3 k hk
        rw [hkn] at hf'; cases hf'⟩)
    obtain ⟨u1, u2, u3⟩ : us.length ≤ 18 ∧ (∀ t ∈ us, t.wf ∧ t.leaves ≤ 1000 ∧ t.nodes ≤ 1000) ∧ us.Pairwise (fun a b => 0 < ordT a b) := by
      rcases hus with rfl | h
      · exact ⟨by simp, by simp, List.Pairwise.nil⟩
      · obtain ⟨q1, q2, q3⟩ := quadsOf_ok h
        exact ⟨q1, fun t ht => by have := q2 t ht; exact ⟨this.1, by omega, by omega⟩, q3⟩
    obtain ⟨L, hL⟩ : ∃ L, L = us.length := ⟨_, rfl⟩
    have HRO := Lib.hid (l6qRow_any us xs L m' hL HMY.out gu c1 gy cy w1 (by omega) (by rw [HMY.out]; exact HZY.out.1) u2 u3 HZY.out.2 hru (HLY.out.below hB1))
    have HB1 := Lib.hid hB1
    rw [← hL]
    clear hB1 hbad hus hru u1 u2 u3 hL
    go_wp2_with fail
    refine HRO.out.mono ?_
    rintro e w2 ⟨hB2, g5, c5, b5, f5, rfl, _, _, _⟩
    have HB2 := Lib.hid (below_step HB1.out hB2)
    clear hB2
    cases b5
    all_goals
      go_wp2_with fail
      go_ret
      exact ⟨by rw [HQ.out]; rfl, HB2.out⟩
  · obtain ⟨q1, q2, q3⟩ := quadsOf_ok hyes
    obtain ⟨r1, _, _⟩ := quads_pos hyes
    obtain ⟨L, hL⟩ : ∃ L, L = ts.length := ⟨_, rfl⟩
    obtain ⟨K, hK⟩ : ∃ K, K = fs.length := ⟨_, rfl⟩
    have HRO := Lib.hid (l6qRow_any ts xs L m' hL HMY.out gt c1 gy cy w1 (by omega) (by rw [HMY.out]; exact HZY.out.1) (fun t ht => by have := q2 t ht; exact ⟨this.1, by omega, by omega⟩) q3 HZY.out.2 hrt (HLY.out.below hB1))
    have hK20 : K ≤ 20 := by have := hok.1; have := hok.2.1; omega
    rw [← hL] at q1 r1 hrr
    have HB1 := Lib.hid hB1
    have HRR := Lib.hid hrr
    have HOK := Lib.hid hok
    have HY := Lib.hid hyes
    have HQ2 := Lib.hid q2
    have HLL := Lib.hid hL
    have HKK := Lib.hid hK
    rw [← hL, ← hK]
    clear hB1 hrr hok hyes q2 q3 hrt hL hK
    go_wp2_with fail
    refine HRO.out.mono ?_
    rintro e w2 ⟨hB2, gf, cf, b5, f, rfl, hgf, hcf, ⟨hno, rfl⟩ | ⟨hf, rfl⟩⟩
    all_goals rw [← HLL.out]
    · have HQ : Hid (quadIn ss xss xs = false) := Lib.hid (quadIn_eq ⟨fun h => (by cases h), fun h => by
        obtain ⟨ts', f', h1, _, _, h4, _⟩ := h
        rw [HY.out] at h1
        cases h1
        rw [hno] at h4; cases h4⟩)
      have HB2 := Lib.hid (below_step HB1.out hB2)
      clear hB2 hno hcf
      go_wp2_with fail
      go_ret
      exact ⟨by rw [HQ.out]; rfl, HB2.out⟩
    · have HRNG : Hid (∀ r ∈ fs, ∀ j, 0 ≤ r j ∧ r j ≤ 100) := Lib.hid (fun r hr j => by
        obtain ⟨i, hi, rfl⟩ := List.getElem_of_mem hr
        exact qRowOf_bound (fun t ht => (HQ2.out t ht).1) (HOK.out.2.2 i (by have := HOK.out.2.1; omega) hi) j)
      have HFB := Lib.hid (fun j => qRowOf_bound (fun t ht => (HQ2.out t ht).1) hf j)
      have HF := Lib.hid hf
      have HRR2 := Lib.hid (HRR.out.below (E := rowE L) Nat.one_pos hB2)
      have HRE := Lib.hid (l6qReduce_any L fs K HKK.out gr c2 w2 r1 q1 (by omega) HRNG.out HRR2.out)
      have HCF : Hid (∀ j, j < L → w2.cell? ⟨gf, j, none⟩ = some (.int .i64 (f j))) := Lib.hid (fun j hj => by
        rw [HLL.out] at hj
        exact cellAt hcf (iarr_get f hj))
      have HB2 := Lib.hid (below_step HB1.out hB2)
      clear hB2 hf hcf
      go_wp2_with fail
      refine HRE.out.mono ?_
      rintro e wc ⟨hB3, s, rest, go, co, gh, ch, gq, K1, vs1, hinv, rfl, hk1, hW1⟩
      have HINV := Lib.hid hinv
      have HK1 := Lib.hid hk1
      have HRC := Lib.hid ((HRR2.out.below (E := rowE L) Nat.one_pos hB3).weak (P' := fun b => b < wc.heap.size) Nat.one_pos (fun _ _ h => h))
      have HCC : Hid (∀ j, j < L → wc.cell? ⟨gf, j, none⟩ = some (.int .i64 (f j))) := Lib.hid (fun j hj => keep1 hB3 (HCF.out j hj))
      have HBC := Lib.hid (below_step HB2.out hB3)
      clear hB3 hinv hk1 hW1
      obtain ⟨pA, qA, rA⟩ := CellsOf.piece HRC.out Nat.one_pos 0 K (by have := HKK.out; omega)
      obtain ⟨xsA, hxsA⟩ : ∃ xsA, xsA = rowCells wc gr (0 * (rowE L).size) (K * (rowE L).size) := ⟨_, rfl⟩
      rw [← hxsA] at pA qA rA
      have XA1 : Hid (xsA.length = K * 1) := Lib.hid (by rw [hxsA, rowCells_length]; rfl)
      have XA2 : Hid (∀ j u, xsA[j]? = some u → wc.cell? ((⟨gr, 0, none⟩ : Addr).add j) = some u) := Lib.hid (fun j u hu => by
        have e : (⟨gr, 0, none⟩ : Addr).add j = ⟨gr, j, none⟩ := by unfold Addr.add; split <;> simp_all
        have := qA j u hu
        rw [Nat.zero_mul, Nat.zero_add] at this
        rw [e]; exact this)
      have XA3 := Lib.hid rA
      have FIN : Hid (∀ (g c : Nat) (W : World), W.ownsRow wc.heap.size 48 1 (.slice (some ⟨g, 0, none⟩) (K + 1) c) (K + 1) (xsA ++ [.slice (some ⟨gf, 0, none⟩) L cf]) → Below wc.heap.size wc W →
          Calls Tryz.prog 28 #[.slice (some ⟨g, 0, none⟩) (K + 1) c, .int .i64 L] W (Reduced L (fs ++ [f]) W)) := Lib.hid (fun g c W hown hbW => by
        have e1 : (fs ++ [f]).length = K + 1 := by rw [List.length_append, HKK.out]; rfl
        have hcells : CellsOf (rowE L) wc (fun b => b < wc.heap.size) (fs ++ [f]) (xsA ++ [.slice (some ⟨gf, 0, none⟩) L cf]) := by
          have h2 : (fs.drop 0).take K = fs := by rw [List.drop_zero, HKK.out]; exact List.take_length
          rw [h2] at pA
          exact pA.append (CellsOf.one (E := rowE L) ⟨gf, cf, rfl, r1, World.block_lt_of_cell? wc _ (HCC.out 0 r1), HCC.out⟩)
        have hrow : Row (rowE L) 48 wc.heap.size (fs ++ [f]) (.slice (some ⟨g, 0, none⟩) (K + 1) c) (xsA ++ [.slice (some ⟨gf, 0, none⟩) L cf]) W :=
          Row.of_old hbW (by rw [e1]; exact hown) (Nat.le_refl _) hcells.2
        exact l6qReduce_any L (fs ++ [f]) (K + 1) e1.symm g c W r1 q1 (by omega) (fun r hr j => by
          rcases List.mem_append.1 hr with h | h
          · exact HRNG.out r h j
          · rw [List.mem_singleton] at h; subst h; exact HFB.out j) hrow.rd)
      have FINQ : Hid (∀ (s2 : Nat → Nat → Int) (rest2 : List (Nat → Int)) (K2 : Nat), RedInv L L (· ∈ fs ++ [f]) s2 rest2 → K2 = (headL s2 L).length → quadIn ss xss xs = decide ((K1 : Int) = (K2 : Int))) :=
        Lib.hid (fun s2 rest2 K2 h2 hk2 => quadIn_rows HLL.out HY.out HOK.out HF.out HINV.out h2 HK1.out hk2)
      have HB0 : Hid (Below wc.heap.size wc (wc.alloc (.cells #[] 48 (0, 0)))) := Lib.hid ((Below.refl _ _).alloc (Nat.le_refl _) _)
      have OW0 : Hid (World.ownsRow (wc.alloc (.cells #[] 48 (0, 0))) wc.heap.size 48 1 (.slice (some ⟨wc.heap.size, 0, none⟩) 0 0) 0 []) := Lib.hid (World.ownsRow_made wc #[] 0 (Nat.le_refl _) (by simp [maxLen]) rfl)
      clear pA qA rA hxsA
      go_wp2_with (first
        | (at_builtin; have hq := HB3.out; clear hq; refine wpList_append_own_at _ rfl _ _ 45 rfl wc.heap.size 48 i0 (.slice none 0 0) 1 24 Tryz.underlying45 hi0 hzz hzs hzb rfl (by decide) (.slice (some ⟨g3, 0, none⟩) K c3) K xsA rfl (World.ownsRow.alloc HOWN3.out (.cells #[.slice (some ⟨gf, 0, none⟩) L cf] 48 (0, 0))) ⟨w3.heap.size, 0, none⟩ 1 1 [.slice (some ⟨gf, 0, none⟩) L cf] rfl rfl (cell_one_new _ _ _) (by simp [Value.oneCell']) (by unfold maxLen; omega) (by omega) (by have := HB3.out.size; simp; omega) ?_; intro v4 w4 hown4 hg4 hnil4 hat4; obtain ⟨g4, c4, rfl, _, _, _⟩ := owns_some hown4 (fun e => by have := hnil4.1 e; simp at this); have HB4 := Lib.hid ((HB3.out.alloc HB3.out.size (.cells #[.slice (some ⟨gf, 0, none⟩) L cf] 48 (0, 0))).grown hg4 (HB3.out.alloc HB3.out.size (.cells #[.slice (some ⟨gf, 0, none⟩) L cf] 48 (0, 0))).size (fun b e => (HOWN3.out.lt b e).1)); have HOWN4 := Lib.hid hown4; clear hown4 hg4 hnil4 hat4)
        | (at_builtin; refine wpList_append_own_at _ rfl _ _ 45 rfl wc.heap.size 48 i0 (.slice none 0 0) 1 24 Tryz.underlying45 hi0 hzz hzs hzb rfl (by decide) (.slice (some ⟨wc.heap.size, 0, none⟩) 0 0) 0 [] rfl OW0.out ⟨gr, 0, none⟩ K c2 xsA rfl XA1.out (fun j u hu => keep1 HB0.out (XA2.out j u hu)) XA3.out (by unfold maxLen; omega) (by omega) HB0.out.size ?_; intro v3 w3 hown3 hg3 hnil3 hat3; rw [Nat.zero_add, List.nil_append] at hown3; obtain ⟨g3, c3, rfl, _, _, _⟩ := owns_some hown3 (fun e => by have := hnil3.1 e; simp at this); have HB3 := Lib.hid (HB0.out.grown hg3 HB0.out.size (fun b e => (OW0.out.lt b e).1)); have HOWN3 := Lib.hid hown3; clear hown3 hg3 hnil3 hat3))
      refine (FIN.out _ _ _ HOWN4.out HB4.out).mono ?_
      rintro e w5 ⟨hB5, s2, rest2, go2, co2, gh2, ch2, gq2, K2, vs2, hinv2, rfl, hk2, _⟩
      have HB5 := Lib.hid (below_step HB4.out hB5)
      have HINV2 := Lib.hid hinv2
      have HK2 := Lib.hid hk2
      clear hB5 hinv2 hk2
      go_wp2_with fail
      go_ret
      exact ⟨by rw [FINQ.out _ _ _ HINV2.out HK2.out]; rfl, below_step HBC.out HB5.out⟩

end Go.Proofs.YtoeebipahifpcaaGreat
end
section
/- QuadSame by the program. -/
namespace Go.Proofs.YtoeebipahifpcaaGreat
open Go.RowKit

theorem part_span0 (s : Nat → Nat → Int) (w : World) : (part 53 (sarr s) (0 * 18)).run Tryz.prog w = .ok (.agg (arr (s 0))) w := by kernel_rfl
theorem part_span1 (s : Nat → Nat → Int) (w : World) : (part 53 (sarr s) (1 * 18)).run Tryz.prog w = .ok (.agg (arr (s 1))) w := by kernel_rfl
theorem part_span2 (s : Nat → Nat → Int) (w : World) : (part 53 (sarr s) (2 * 18)).run Tryz.prog w = .ok (.agg (arr (s 2))) w := by kernel_rfl
theorem part_span3 (s : Nat → Nat → Int) (w : World) : (part 53 (sarr s) (3 * 18)).run Tryz.prog w = .ok (.agg (arr (s 3))) w := by kernel_rfl
theorem part_span4 (s : Nat → Nat → Int) (w : World) : (part 53 (sarr s) (4 * 18)).run Tryz.prog w = .ok (.agg (arr (s 4))) w := by kernel_rfl
theorem part_span5 (s : Nat → Nat → Int) (w : World) : (part 53 (sarr s) (5 * 18)).run Tryz.prog w = .ok (.agg (arr (s 5))) w := by kernel_rfl
theorem part_span6 (s : Nat → Nat → Int) (w : World) : (part 53 (sarr s) (6 * 18)).run Tryz.prog w = .ok (.agg (arr (s 6))) w := by kernel_rfl
theorem part_span7 (s : Nat → Nat → Int) (w : World) : (part 53 (sarr s) (7 * 18)).run Tryz.prog w = .ok (.agg (arr (s 7))) w := by kernel_rfl
theorem part_span8 (s : Nat → Nat → Int) (w : World) : (part 53 (sarr s) (8 * 18)).run Tryz.prog w = .ok (.agg (arr (s 8))) w := by kernel_rfl
theorem part_span9 (s : Nat → Nat → Int) (w : World) : (part 53 (sarr s) (9 * 18)).run Tryz.prog w = .ok (.agg (arr (s 9))) w := by kernel_rfl
theorem part_span10 (s : Nat → Nat → Int) (w : World) : (part 53 (sarr s) (10 * 18)).run Tryz.prog w = .ok (.agg (arr (s 10))) w := by kernel_rfl
theorem part_span11 (s : Nat → Nat → Int) (w : World) : (part 53 (sarr s) (11 * 18)).run Tryz.prog w = .ok (.agg (arr (s 11))) w := by kernel_rfl
theorem part_span12 (s : Nat → Nat → Int) (w : World) : (part 53 (sarr s) (12 * 18)).run Tryz.prog w = .ok (.agg (arr (s 12))) w := by kernel_rfl
theorem part_span13 (s : Nat → Nat → Int) (w : World) : (part 53 (sarr s) (13 * 18)).run Tryz.prog w = .ok (.agg (arr (s 13))) w := by kernel_rfl
theorem part_span14 (s : Nat → Nat → Int) (w : World) : (part 53 (sarr s) (14 * 18)).run Tryz.prog w = .ok (.agg (arr (s 14))) w := by kernel_rfl
theorem part_span15 (s : Nat → Nat → Int) (w : World) : (part 53 (sarr s) (15 * 18)).run Tryz.prog w = .ok (.agg (arr (s 15))) w := by kernel_rfl
theorem part_span16 (s : Nat → Nat → Int) (w : World) : (part 53 (sarr s) (16 * 18)).run Tryz.prog w = .ok (.agg (arr (s 16))) w := by kernel_rfl
theorem part_span17 (s : Nat → Nat → Int) (w : World) : (part 53 (sarr s) (17 * 18)).run Tryz.prog w = .ok (.agg (arr (s 17))) w := by kernel_rfl
theorem part_span (s : Nat → Nat → Int) {k : Nat} (hk : k < 18) (w : World) : (part 53 (sarr s) (k * 18)).run Tryz.prog w = .ok (.agg (arr (s k))) w := by
  match k, hk with
  | 0, _ => exact part_span0 s w
  | 1, _ => exact part_span1 s w
  | 2, _ => exact part_span2 s w
  | 3, _ => exact part_span3 s w
  | 4, _ => exact part_span4 s w
  | 5, _ => exact part_span5 s w
  | 6, _ => exact part_span6 s w
  | 7, _ => exact part_span7 s w
  | 8, _ => exact part_span8 s w
  | 9, _ => exact part_span9 s w
  | 10, _ => exact part_span10 s w
  | 11, _ => exact part_span11 s w
  | 12, _ => exact part_span12 s w
  | 13, _ => exact part_span13 s w
  | 14, _ => exact part_span14 s w
  | 15, _ => exact part_span15 s w
  | 16, _ => exact part_span16 s w
  | 17, _ => exact part_span17 s w
  | n + 18, h => omega

/-- Two rows are equal. -/
def rowEq (f g : Nat → Int) : Bool := decide (∀ i ∈ List.range 18, f i = g i)
/-- Two spans are equal, row by row. -/
def spanEq (s t : Nat → Nat → Int) : Bool := (List.range 18).all fun i => rowEq (s i) (t i)
theorem rowEq_iff {f g : Nat → Int} : rowEq f g = true ↔ ∀ j, j < 18 → f j = g j := by
  unfold rowEq
  rw [decide_eq_true_iff]
  exact ⟨fun h j hj => h j (List.mem_range.2 hj), fun h j hj => h j (List.mem_range.1 hj)⟩
theorem spanEq_iff {s t : Nat → Nat → Int} : spanEq s t = true ↔ ∀ i j, i < 18 → j < 18 → s i j = t i j := by
  unfold spanEq
  rw [List.all_eq_true]
  exact ⟨fun h i j hi hj => rowEq_iff.1 (h i (List.mem_range.2 hi)) j hj, fun h i hi => rowEq_iff.2 fun j hj => h i j (List.mem_range.1 hi) hj⟩

theorem eqItems_rows (xs ys : Array Value) (a b : Nat → Value) (R : Nat → Bool) (d : Nat) (w : World) (ha : ∀ i, i < 18 → (part 53 xs (i * 18)).run Tryz.prog w = .ok (a i) w) (hb : ∀ i, i < 18 → (part 53 ys (i * 18)).run Tryz.prog w = .ok (b i) w)
    (hR : ∀ i, i < 18 → (Op.equalIn d 53 (a i) (b i)).run Tryz.prog w = .ok (R i) w) : ∀ is : List Nat, (∀ i ∈ is, i < 18) → (Op.eqItems d 53 18 xs ys is).run Tryz.prog w = .ok (is.all R) w
  | [], _ => by simp [Op.eqItems]
  | i :: is, h => by
    have h1 := ha i (h i (by simp))
    have h2 := hb i (h i (by simp))
    have h3 := hR i (h i (by simp))
    have ih := eqItems_rows xs ys a b R d w ha hb hR is (fun j hj => h j (by simp [hj]))
    simp only [Op.eqItems, Sem.run_bind, h1, h2, h3, Result.andThen_ok, List.all_cons]
    cases R i with
    | true =>
      simp only [Bool.not_true, Bool.false_eq_true, if_false, Bool.true_and]
      exact ih
    | false => simp

theorem infoRowA : ∃ i, Tryz.prog.info? 53 = some i := by
  have h := infoA
  cases e : Tryz.prog.info? 53 with
  | none => rw [e] at h; cases h
  | some i => exact ⟨i, rfl⟩

theorem equal_span (s t : Nat → Nat → Int) (d : Nat) (w : World) : (Op.equalIn (d + 1 + 1 + 1) 57 (.agg (sarr s)) (.agg (sarr t))).run Tryz.prog w = .ok (spanEq s t) w := by
  obtain ⟨i0, hi0⟩ := infoRowA
  have h := run_equalIn_array (P := Tryz.prog) (w := w) (d + 1 + 1) (t := 57) (e := 53) (n := 18) (i := i0) (sarr s) (sarr t) descS hi0
  rw [cellsRowQ] at h
  rw [h]
  exact eqItems_rows (sarr s) (sarr t) (fun i => .agg (arr (s i))) (fun i => .agg (arr (t i))) (fun i => rowEq (s i) (t i)) (d + 1 + 1) w (fun i hi => part_span s hi w) (fun i hi => part_span t hi w) (fun i _ => equal_arr (s i) (t i) d w) _ (fun i hi => List.mem_range.1 hi)

/-- Bases are equal just if the spans are the same. -/
theorem spanEq_span {s t : Nat → Nat → Int} (hs : Bs 18 s) (ht : Bs 18 t) : spanEq s t = true ↔ ∀ v, Sp 18 (BsR 18 s) v ↔ Sp 18 (BsR 18 t) v := by
  rw [spanEq_iff]
  constructor
  · intro h v
    constructor
    · refine Sp.mono fun r hr => ?_
      obtain ⟨i, hi, rfl⟩ := hr
      exact (Sp.of ⟨i, hi, rfl⟩ : Sp 18 (BsR 18 t) (t i)).congr fun j hj => by rw [h i j hi hj, Int.sub_self]; rfl
    · refine Sp.mono fun r hr => ?_
      obtain ⟨i, hi, rfl⟩ := hr
      exact (Sp.of ⟨i, hi, rfl⟩ : Sp 18 (BsR 18 s) (s i)).congr fun j hj => by rw [h i j hi hj, Int.sub_self]; rfl
  · intro h
    exact hs.unique ht (fun i hi => (h _).1 (Sp.of ⟨i, hi, rfl⟩)) (fun i hi => (h _).2 (Sp.of ⟨i, hi, rfl⟩))

set_option maxRecDepth 100000 in
set_option maxHeartbeats 1000000 in
theorem iQuadSame_any (ss : List ByteArray) (xss yss : List (List (Int × ByteArray))) (n m m' : Nat) (hns : n = ss.length) (hmx : m = xss.length) (hmy : m' = yss.length) (ga ca gx cx gy cy : Nat) (w : World) (hn : n ≤ 1048576) (hca : n ≤ ca) (hm : m ≤ 1048576) (hm' : m' ≤ 1048576)
    (hz : ∀ j (h : j < ss.length), (ss[j]).size ≤ 1048576) (hzx : ∀ j (h : j < xss.length), Small1 xss[j]) (hzy : ∀ j (h : j < yss.length), Small1 yss[j]) (hl : TxG w ga ss) (hlx : TermsL w gx xss) (hly : TermsL w gy yss) :
    Calls Tryz.prog 26 #[.slice (some ⟨ga, 0, none⟩) n ca, .slice (some ⟨gx, 0, none⟩) m cx, .slice (some ⟨gy, 0, none⟩) m' cy] w (Ans (.bool (quadSame ss xss yss)) w) := by
  have HRS := Lib.hid (readSpan_any ss xss n m hns hmx ga ca gx cx w hn hca hm hz hzx hl hlx)
  have HLY := Lib.hid hly
  have HZY := Lib.hid hzy
  have HMY := Lib.hid hmy
  clear hns hmx hz hzx hl hlx hly hzy hmy
  go_enter Tryz.func26, Tryz.ntmps26
  go_wp2_with fail
  refine HRS.out.mono ?_
  rintro e w1 ⟨hB1, ⟨hbad, cq, hqs, hqo, rfl⟩ | ⟨ts, gt, c1, t, hyes, h20, hsp, rfl, htx⟩⟩
  · obtain ⟨w2, w3, hw2, hw3, h7, h8, g7, g8, hb3, _, _⟩ := two_new hB1 cq (sarr fun _ _ => 0)
    have HQS := Lib.hid hqs
    have HQO := Lib.hid hqo
    have HW2 := Lib.hid hw2
    have HW3 := Lib.hid hw3
    have H7 := Lib.hid h7
    have H8 := Lib.hid h8
    have HB3 := Lib.hid hb3
    have HE : Hid (quadSame ss xss yss = false) := Lib.hid (quadSame_eq ⟨fun h => (by cases h), fun hi => (by obtain ⟨ts, h1, h2, _, h3, _⟩ := hi; exact (hbad.no h1 h2 h3).elim)⟩)
    clear hqs hqo hB1 hbad hw2 hw3 h7 h8 g7 g8 hb3
    go_wp2_with (first
      | (rw [← HW2.out]; refine wpList_store_row rfl 55 (.tmp 7) (.tmp 15) rfl w1.heap.size cq rfl rfl 55 _ H7.out (by rw [HQS.out]; exact infoQ) (by rw [HQS.out]; rfl) HQO.out ?_)
      | (refine wpList_store_row rfl 57 (.tmp 8) (.tmp 16) rfl (w1.heap.size + 1) (sarr fun _ _ => 0) rfl rfl 57 _ H8.out (by rw [sarr_size]; exact infoS) (by rw [sarr_size]) (sarr_one _) ?_; rw [← HW3.out]))
    go_ret
    exact ⟨by rw [HE.out]; rfl, HB3.out⟩
  · obtain ⟨q1, q2, q3⟩ := quadsOf_ok hyes
    obtain ⟨L, hL⟩ : ∃ L, L = ts.length := ⟨_, rfl⟩
    rw [← hL]
    obtain ⟨cq, hcq⟩ : ∃ cq, cq = qcells (.slice (some ⟨gt, 0, none⟩) L c1) (sgn ts) := ⟨_, rfl⟩
    rw [← hcq]
    have HQS : Hid (cq.size = 19) := Lib.hid (by rw [hcq, qcells_size])
    have HQO : Hid (cq.all (·.oneCell') = true) := Lib.hid (by rw [hcq]; exact qcells_one rfl _)
    obtain ⟨w2, w3, hw2, hw3, h7, h8, g7, g8, hb3, hb13, hs3⟩ := two_new hB1 cq (sarr t)
    have HTX := Lib.hid (htx.below hb13)
    have HW2 := Lib.hid hw2
    have HW3 := Lib.hid hw3
    have H7 := Lib.hid h7
    have H8 := Lib.hid h8
    have G7 := Lib.hid g7
    have G8 := Lib.hid g8
    have HB3 := Lib.hid hb3
    have HS3 := Lib.hid hs3
    have HY := Lib.hid hyes
    have HSP := Lib.hid hsp
    have HTS : Hid (∀ t ∈ ts, t.wf) := Lib.hid (fun t ht => (q2 t ht).1)
    obtain ⟨fs, hfs⟩ := descQ2
    have HFS := Lib.hid hfs
    have HSO : Hid (Calls Tryz.prog 44 #[.agg cq, .slice (some ⟨gy, 0, none⟩) m' cy] w3 (SpanOf ts yss w3)) := Lib.hid (by
      rw [hcq]
      exact spanOf_any ts yss L m' hL HMY.out gt c1 (sgn ts) gy cy w3 (by omega) hm' HTS.out q3 HZY.out HTX.out (HLY.out.below hb3))
    have HIN : Hid (∀ t', yss.length ≤ 20 → SpanIs ts yss yss.length t' → quadSame ss xss yss = spanEq t t') := Lib.hid (fun t' hy20 hsp' => quadSame_eq ((spanEq_span hsp.1 hsp'.1).trans ⟨fun h => ⟨ts, hyes, h20, hy20, fun j hj => hsp.2.2 j hj hj, fun j hj => hsp'.2.2 j hj hj, fun v => (hsp.2.1 v).symm.trans ((h v).trans (hsp'.2.1 v))⟩, fun h v => (by
      obtain ⟨ts', h1, _, _, _, _, h5⟩ := h
      rw [hyes] at h1; cases h1
      exact (hsp.2.1 v).trans ((h5 v).trans (hsp'.2.1 v).symm))⟩))
    have HNO : Hid ((20 < yss.length ∨ ∃ (j : Nat) (h : j < yss.length), qRowOf ts yss[j] = none) → quadSame ss xss yss = false) := Lib.hid (fun hf => quadSame_eq ⟨fun h => (by cases h), fun h => (by
      obtain ⟨ts', h1, _, h2, _, h4, _⟩ := h
      rw [hyes] at h1; cases h1
      exact (SpanBad.no (.inr ⟨ts, hyes, hf⟩) hyes h2 h4).elim)⟩)
    clear hB1 hyes h20 hsp htx q1 q2 q3 hL hcq hw2 hw3 h7 h8 g7 g8 hb3 hb13 hs3 hfs
    go_wp2_with (first
      | (rw [← HW2.out]; refine wpList_store_row rfl 55 (.tmp 7) (.tmp 15) rfl w1.heap.size cq rfl rfl 55 _ H7.out (by rw [HQS.out]; exact infoQ) (by rw [HQS.out]; rfl) HQO.out ?_)
      | (refine wpList_store_row rfl 57 (.tmp 8) (.tmp 16) rfl (w1.heap.size + 1) (sarr t) rfl rfl 57 _ H8.out (by rw [sarr_size]; exact infoS) (by rw [sarr_size, sarr_size]) (sarr_one _) ?_; rw [← HW3.out])
      | (refine wpList_load_row rfl 55 (.tmp 7) rfl w1.heap.size rfl 55 cq (0, 0) (.struct fs) G7.out HFS.out rfl (by rw [HQS.out]; exact infoQ) ?_))
    refine HSO.out.mono ?_
    rintro e w4 ⟨hB4, ⟨hno, rfl⟩ | ⟨t', h20', hsp', rfl⟩⟩
    · have HE := Lib.hid (HNO.out hno)
      have HB4 := Lib.hid (below_step HB3.out hB4)
      clear hno hB4
      go_wp2_with (refine wpList_store_row rfl 57 (.tmp 10) (.tmp 24) rfl w4.heap.size (sarr fun _ _ => 0) rfl rfl 57 _ (heap_alloc_new _ _) (by rw [sarr_size]; exact infoS) (by rw [sarr_size, zeroS_size]) (sarr_one _) ?_; rw [World.setRow_alloc_new])
      go_ret
      exact ⟨by rw [HE.out]; rfl, HB4.out.alloc HB4.out.size _⟩
    · have HE := Lib.hid (HIN.out t' h20' hsp')
      obtain ⟨B10, hB10⟩ : ∃ B10, B10 = w4.heap.size := ⟨_, rfl⟩
      obtain ⟨w5, hw5⟩ : ∃ w5, w5 = w4.alloc (.cells (sarr t') 57 (0, 0)) := ⟨_, rfl⟩
      have hb5 : Below w3.heap.size w3 w5 := by rw [hw5]; exact hB4.alloc hB4.size _
      have HB5 := Lib.hid (below_step HB3.out hb5)
      have H10 : Hid (w5.heap[B10]? = some (.cells (sarr t') 57 (0, 0))) := Lib.hid (by rw [hw5, hB10]; exact heap_alloc_new _ _)
      have H85 := Lib.hid ((hb5.block (w1.heap.size + 1) (by rw [HS3.out]; omega)).trans G8.out)
      obtain ⟨z, hz⟩ : ∃ z, z = quadSame ss xss yss := ⟨_, rfl⟩
      have hq : (Op.equalIn 10000 57 (.agg (sarr t)) (.agg (sarr t'))).run Tryz.prog w5 = .ok z w5 := by
        rw [hz, HE.out]; exact equal_span t t' 9997 w5
      have HZZ := Lib.hid hz
      have HW5 := Lib.hid hw5
      have HB10 := Lib.hid hB10
      clear hsp' hB4 hb5 hw5 hB10 hz
      go_wp2_with (first
        | (refine wpList_store_row rfl 57 (.tmp 10) (.tmp 24) rfl w4.heap.size (sarr t') rfl rfl 57 _ (heap_alloc_new _ _) (by rw [sarr_size]; exact infoS) (by rw [sarr_size, zeroS_size]) (sarr_one _) ?_; rw [World.setRow_alloc_new, ← HW5.out, ← HB10.out])
        | (refine wpList_load_rowG (by rfl) 57 (.tmp 8) rfl (w1.heap.size + 1) rfl 57 (sarr t) (0, 0) _ H85.out descS rfl (by rw [sarr_size]; exact infoS) ?_)
        | (refine wpList_load_rowG (by rfl) 57 (.tmp 10) rfl B10 rfl 57 (sarr t') (0, 0) _ H10.out descS rfl (by rw [sarr_size]; exact infoS) ?_))
      go_ret
      exact ⟨by rw [← HZZ.out]; rfl, HB5.out⟩

end Go.Proofs.YtoeebipahifpcaaGreat
end
section
/- QuadBase and QuadSame by the model. -/
namespace Go.Proofs.YtoeebipahifpcaaGreat
open Go.RowKit

theorem RowsOk.mem {ts : List T} {xss : List (List (Int × ByteArray))} {fs : List (Nat → Int)} (hok : RowsOk ts xss fs) (y : Nat → Int) : y ∈ fs ↔ RS ts xss xss.length y := by
  obtain ⟨k1, k2, k3⟩ := hok
  constructor
  · intro hy
    obtain ⟨i, hi, rfl⟩ := List.getElem_of_mem hy
    exact ⟨i, by omega, by omega, k3 i (by omega) hi⟩
  · rintro ⟨j, hj, _, e⟩
    have := k3 j hj (by omega)
    rw [this] at e
    cases e
    exact List.getElem_mem _

theorem RowsOk.all {ts : List T} {xss : List (List (Int × ByteArray))} {fs : List (Nat → Int)} (hok : RowsOk ts xss fs) : RowsAll ts xss := fun j hj => ⟨_, hok.2.2 j hj (by rw [hok.2.1]; exact hj)⟩

theorem rowTx_mem {ts : List T} {f : Nat → Int} {v : Int} {x : ByteArray} : ∀ c, (v, x) ∈ rowTx ts f c ↔ ∃ j, j < c ∧ ∃ h : j < ts.length, f j ≠ 0 ∧ v = f j ∧ x = ⟨(ts[j]).text.toArray⟩
  | 0 => by
    constructor
    · intro h; simp [rowTx] at h
    · rintro ⟨j, hj, _⟩; omega
  | c + 1 => by
    rw [rowTx, List.mem_append, rowTx_mem c]
    constructor
    · rintro (⟨j, hj, h⟩ | h)
      · exact ⟨j, by omega, h⟩
      · split at h
        · rename_i hc
          split at h
          · simp at h
          · rename_i hz
            rw [List.mem_singleton] at h
            cases h
            exact ⟨c, by omega, hc, hz, rfl, rfl⟩
        · simp at h
    · rintro ⟨j, hj, h, hz, rfl, rfl⟩
      by_cases e : j < c
      · exact .inl ⟨j, e, h, hz, rfl, rfl⟩
      · have : j = c := by omega
        subst this
        right
        rw [dif_pos h, if_neg hz]
        exact List.mem_singleton.2 rfl

theorem rowTx_congr {ts : List T} {f g : Nat → Int} : ∀ c, (∀ j, j < c → f j = g j) → rowTx ts f c = rowTx ts g c
  | 0, _ => rfl
  | c + 1, h => by rw [rowTx, rowTx, rowTx_congr c (fun j hj => h j (by omega)), h c (by omega)]

theorem sumsOf_congr {ts : List T} {of of' : Nat → Nat → Int} : ∀ K, (∀ i, i < K → ∀ j, j < ts.length → of i j = of' i j) → sumsOf ts of K = sumsOf ts of' K
  | 0, _ => rfl
  | K + 1, h => by rw [sumsOf_next, sumsOf_next, sumsOf_congr K (fun i hi => h i (by omega)), rowTx_congr _ (h K (by omega))]

theorem sumsOf_get (ts : List T) (of : Nat → Nat → Int) (K : Nat) {k : Nat} (hk : k < K) : (sumsOf ts of K)[k]? = some (rowTx ts (of k) ts.length) := by
  unfold sumsOf
  rw [List.getElem?_map, List.getElem?_range hk]; rfl

/-- The trees' texts are told apart. -/
def Apart (ts : List T) : Prop := ∀ i j (hi : i < ts.length) (hj : j < ts.length), (ts[i]).text = (ts[j]).text → i = j

theorem apart_of {ss : List ByteArray} {ts : List T} (h : quadsOf ss = some ts) : Apart ts := by
  obtain ⟨_, q2, q3⟩ := quadsOf_ok h
  intro i j hi hj e
  have ht := text_inj (q2 _ (List.getElem_mem hi)).1 (q2 _ (List.getElem_mem hj)).1 e
  rcases Nat.lt_trichotomy i j with hij | hij | hij
  · have := (List.pairwise_iff_getElem.1 q3) i j hi hj hij
    rw [ht, isCmp_ordT.self] at this
    omega
  · exact hij
  · have := (List.pairwise_iff_getElem.1 q3) j i hj hi hij
    rw [ht, isCmp_ordT.self] at this
    omega

theorem text_arr {a b : List UInt8} (h : (⟨a.toArray⟩ : ByteArray) = ⟨b.toArray⟩) : a = b := by
  injection h with h
  exact List.toArray_inj h

theorem rowTx_inj {ts : List T} {f g : Nat → Int} (hd : Apart ts) (h : rowTx ts f ts.length = rowTx ts g ts.length) : ∀ j, j < ts.length → f j = g j := by
  intro j hj
  by_cases h0 : f j = 0
  · by_cases h1 : g j = 0
    · rw [h0, h1]
    · have hm := (rowTx_mem (ts := ts) (f := g) ts.length).2 ⟨j, hj, hj, h1, rfl, rfl⟩
      rw [← h] at hm
      obtain ⟨j', _, hj', hne, _, e2⟩ := (rowTx_mem ts.length).1 hm
      have : j = j' := hd j j' hj hj' (text_arr e2)
      subst this
      exact absurd h0 hne
  · have hm := (rowTx_mem (ts := ts) (f := f) ts.length).2 ⟨j, hj, hj, h0, rfl, rfl⟩
    rw [h] at hm
    obtain ⟨j', _, hj', _, e1, e2⟩ := (rowTx_mem ts.length).1 hm
    have : j = j' := hd j j' hj hj' (text_arr e2)
    subst this
    exact e1

theorem headL_mem {s : Nat → Nat → Int} : ∀ n i, i < n → s i i = 1 → i ∈ headL s n
  | 0, i, h, _ => by omega
  | n + 1, i, h, e => by
    rw [headL, List.mem_append]
    by_cases hin : i = n
    · subst hin; right; rw [if_pos e]; exact List.mem_singleton.2 rfl
    · exact .inl (headL_mem n i (by omega) e)
theorem headL_le (s : Nat → Nat → Int) : ∀ n, (headL s n).length ≤ n
  | 0 => Nat.le_refl _
  | n + 1 => by
    have := headL_le s n
    rw [headL, List.length_append]
    split <;> simp <;> omega

/-- The sums of a base. -/
def qBase (ts : List T) (s : Nat → Nat → Int) : List (List (Int × ByteArray)) := sumsOf ts (ofH s (headL s ts.length)) (headL s ts.length).length

theorem ofH_at {s : Nat → Nat → Int} {hs : List Nat} {k : Nat} (hk : k < hs.length) : ofH s hs k = s hs[k] := by
  unfold ofH
  rw [List.getD_eq_getElem?_getD, List.getElem?_eq_getElem hk]; rfl

theorem qBase_congr {ts : List T} {s t : Nat → Nat → Int} (h : ∀ i j, i < ts.length → j < ts.length → s i j = t i j) : qBase ts s = qBase ts t := by
  have hh : headL s ts.length = headL t ts.length := headL_congr _ (fun i hi => by rw [h i i hi hi])
  unfold qBase
  rw [hh]
  refine sumsOf_congr _ fun i hi j hj => ?_
  rw [ofH_at hi, ofH_at hi]
  exact h _ j (headL_lt t _ _ (List.getElem_mem hi)).1 hj

theorem qBase_span {ts : List T} {s t : Nat → Nat → Int} (hd : Apart ts) (hs : Bs ts.length s) (h : qBase ts s = qBase ts t) : ∀ i, i < ts.length → Sp ts.length (BsR ts.length t) (s i) := by
  intro i hi
  rcases hs.row i with h0 | ⟨_, h1, _, _⟩
  · exact .zero fun j _ => by rw [h0 j]; rfl
  · obtain ⟨k, hk, ek⟩ := List.getElem_of_mem (headL_mem _ i hi h1)
    have hlen : (headL s ts.length).length = (headL t ts.length).length := by
      have := congrArg List.length h
      unfold qBase at this
      rw [sumsOf_length, sumsOf_length] at this
      exact this
    have hk2 : k < (headL t ts.length).length := by omega
    have e1 := sumsOf_get ts (ofH s (headL s ts.length)) _ hk
    have e2 := sumsOf_get ts (ofH t (headL t ts.length)) _ hk2
    have h' : sumsOf ts (ofH s (headL s ts.length)) (headL s ts.length).length = sumsOf ts (ofH t (headL t ts.length)) (headL t ts.length).length := h
    rw [h', e2, Option.some.injEq, ofH_at hk, ofH_at hk2, ek] at e1
    have e3 := rowTx_inj hd e1
    exact (Sp.of ⟨_, (headL_lt t _ _ (List.getElem_mem hk2)).1, rfl⟩).congr fun j hj => by rw [e3 j hj, Int.sub_self]; rfl

theorem same_rows {ss : List ByteArray} {xss yss : List (List (Int × ByteArray))} {ts : List T} {fs fs' : List (Nat → Int)} {s t : Nat → Nat → Int} {rest rest' : List (Nat → Int)} (hq : quadsOf ss = some ts) (h1 : RowsOk ts xss fs) (h2 : RowsOk ts yss fs')
    (i1 : RedInv ts.length ts.length (· ∈ fs) s rest) (i2 : RedInv ts.length ts.length (· ∈ fs') t rest') : qBase ts s = qBase ts t ↔ SameSpan ss xss yss := by
  have hL := (quadsOf_ok hq).1
  constructor
  · intro h
    have key : ∀ {xss yss : List (List (Int × ByteArray))} {fs fs' : List (Nat → Int)} {s t : Nat → Nat → Int} {rest rest' : List (Nat → Int)}, RowsOk ts xss fs → RowsOk ts yss fs' → RedInv ts.length ts.length (· ∈ fs) s rest → RedInv ts.length ts.length (· ∈ fs') t rest' → qBase ts s = qBase ts t →
        ∀ r, RS ts xss xss.length r → Sp 18 (RS ts yss yss.length) r := by
      intro xss yss fs fs' s t rest rest' h1 h2 i1 i2 h r hr
      have hz : ∀ j, ts.length ≤ j → r j = 0 := by
        obtain ⟨_, _, _, e⟩ := hr
        exact qRowOf_wide e
      have a := (i1.done r).2 (Sp.of ((h1.mem r).2 hr))
      have b := (i2.done r).1 (a.mono fun y hy => by
        obtain ⟨i, hi, rfl⟩ := hy
        exact qBase_span (apart_of hq) i1.base h i hi)
      exact (Sp.wide hL (fun r hr j hj => by
        obtain ⟨_, _, _, e⟩ := hr
        exact qRowOf_wide e j hj) hz).1 (b.mono fun y hy => Sp.of ((h2.mem y).1 hy))
    exact ⟨ts, hq, h1.1, h2.1, h1.all, h2.all, fun v => ⟨Sp.mono (key h1 h2 i1 i2 h), Sp.mono (key h2 h1 i2 i1 h.symm)⟩⟩
  · rintro ⟨ts', hq', _, _, _, _, hv⟩
    rw [hq] at hq'
    cases hq'
    refine qBase_congr (Bs.unique i1.base i2.base (fun i hi => ?_) fun i hi => ?_)
    · exact (i2.done _).2 (((i1.done _).1 (Sp.of ⟨i, hi, rfl⟩)).mono fun r hr =>
        (Sp.narrow hL ((hv r).1 (Sp.of ((h1.mem r).1 hr)))).mono fun y hy => Sp.of ((h2.mem y).2 hy))
    · exact (i1.done _).2 (((i2.done _).1 (Sp.of ⟨i, hi, rfl⟩)).mono fun r hr =>
        (Sp.narrow hL ((hv r).2 (Sp.of ((h2.mem r).1 hr)))).mono fun y hy => Sp.of ((h1.mem y).2 hy))

/-- The base's sums are none. -/
def BaseBad (ss : List ByteArray) (xss : List (List (Int × ByteArray))) : Prop := quadsOf ss = none ∨ ∃ ts, quadsOf ss = some ts ∧ RowsBad ts xss
/-- The base's sums are these. -/
def BaseIs (ss : List ByteArray) (xss zss : List (List (Int × ByteArray))) : Prop := ∃ ts fs s rest, quadsOf ss = some ts ∧ RowsOk ts xss fs ∧ RedInv ts.length ts.length (· ∈ fs) s rest ∧ zss = qBase ts s

theorem BaseIs.small {ss : List ByteArray} {xss zss : List (List (Int × ByteArray))} (h : BaseIs ss xss zss) : zss.length ≤ 18 ∧ ∀ xs ∈ zss, xs.length ≤ 18 := by
  obtain ⟨ts, fs, s, rest, h1, _, _, rfl⟩ := h
  have hL := (quadsOf_ok h1).1
  unfold qBase
  refine ⟨by rw [sumsOf_length]; have := headL_le s ts.length; omega, fun xs hx => ?_⟩
  unfold sumsOf at hx
  rw [List.mem_map] at hx
  obtain ⟨i, _, rfl⟩ := hx
  have := rowTx_le ts (ofH s (headL s ts.length) i) ts.length
  omega

theorem BaseBad.not {ss : List ByteArray} {xss : List (List (Int × ByteArray))} (h : BaseBad ss xss) {ts : List T} (hq : quadsOf ss = some ts) (h20 : xss.length ≤ 20) (hr : RowsAll ts xss) : False := by
  rcases h with h | ⟨ts', h, h'⟩
  · rw [hq] at h; cases h
  · rw [hq] at h
    cases h
    rcases h' with h' | ⟨j, hj, h'⟩
    · omega
    · obtain ⟨f, hf⟩ := hr j hj
      rw [h'] at hf; cases hf

/-- What 'QuadBase' answers. -/
def QBasePost (ss : List ByteArray) (xss : List (List (Int × ByteArray))) (w : World) (e : Ending) (w' : World) : Prop :=
  Below w.heap.size w w' ∧ ((BaseBad ss xss ∧ ∃ g c, e = .returned (.tuple #[.slice (some ⟨g, 0, none⟩) 0 c, .bool false])) ∨
    ∃ zss g c, BaseIs ss xss zss ∧ e = .returned (.tuple #[.slice (some ⟨g, 0, none⟩) zss.length c, .bool true]) ∧ Rd tmsE w' (fun _ => True) (some ⟨g, 0, none⟩) zss)

set_option maxRecDepth 100000 in
set_option maxHeartbeats 4000000 in
theorem sQuadBase_any (ss : List ByteArray) (xss : List (List (Int × ByteArray))) (n m : Nat) (hns : n = ss.length) (hmx : m = xss.length) (ga ca gx cx : Nat) (w : World) (hn : n ≤ 1048576) (hm : m ≤ 1048576)
    (hz : ∀ j (h : j < ss.length), (ss[j]).size ≤ 1048576) (hzx : ∀ j (h : j < xss.length), Small1 xss[j]) (hl : TxG w ga ss) (hlx : TermsL w gx xss) :
    Calls Tryz.prog 9 #[.slice (some ⟨ga, 0, none⟩) n ca, .slice (some ⟨gx, 0, none⟩) m cx] w (QBasePost ss xss w) := by
  have HRW := Lib.hid (l6qRows_any ss xss n m hns hmx ga ca gx cx w hn hm hz hl hzx hlx)
  clear hns hmx hz hzx hl hlx
  go_enter Tryz.func9, Tryz.ntmps9
  go_wp2_with fail
  refine HRW.out.mono ?_
  rintro e w1 ⟨hB1, a1, n1, c1, a2, n2, c2, b, rfl, ⟨rfl, hbad, us, gu, hus, rfl, rfl, hru⟩ | ⟨rfl, ts, fs, gt, gr, hyes, hok, rfl, rfl, hrt, rfl, rfl, hrr⟩⟩
  · have HBAD : Hid (BaseBad ss xss) := Lib.hid hbad
    have HB1 := Lib.hid hB1
    clear hB1 hbad hus hru
    go_wp2_with fail
    go_ret2
    exact ⟨HB1.out.alloc HB1.out.size _, .inl ⟨HBAD.out, _, _, rfl⟩⟩
  · obtain ⟨q1, q2, q3⟩ := quadsOf_ok hyes
    obtain ⟨r1, _, _⟩ := quads_pos hyes
    obtain ⟨L, hL⟩ : ∃ L, L = ts.length := ⟨_, rfl⟩
    obtain ⟨K, hK⟩ : ∃ K, K = fs.length := ⟨_, rfl⟩
    have hK20 : K ≤ 20 := by have := hok.1; have := hok.2.1; omega
    rw [← hL] at q1 r1 hrr
    have HB1 := Lib.hid hB1
    have HOK := Lib.hid hok
    have HY := Lib.hid hyes
    have HQ2 := Lib.hid q2
    have HLL := Lib.hid hL
    have HKK := Lib.hid hK
    have HRT := Lib.hid hrt
    have HRE := Lib.hid (l6qReduce_any L fs K hK gr c2 w1 r1 q1 (by omega) (fun r hr j => by
        obtain ⟨i, hi, rfl⟩ := List.getElem_of_mem hr
        exact qRowOf_bound (fun t ht => (q2 t ht).1) (hok.2.2 i (by have := hok.2.1; omega) hi) j) hrr)
    rw [← hL, ← hK]
    clear hB1 hrr hok hyes q2 q3 hrt hL hK
    go_wp2_with fail
    refine HRE.out.mono ?_
    rintro e w2 ⟨hB2, s, rest, go, co, gh, ch, gq, K1, vs1, hinv, rfl, hk1, hW1⟩
    have HINV := Lib.hid hinv
    have HK1 := Lib.hid hk1
    have hK18 : K1 ≤ 18 := by have := headL_le s L; omega
    have HSU := Lib.hid (l6qSums_any ts L HLL.out (ofH s (headL s L)) K1 gt c1 go co w2 q1 (by omega) (fun t ht => by have := HQ2.out t ht; exact ⟨this.1, by omega, by omega⟩) (HRT.out.below (by decide) hB2) (fun i hi => by
      obtain ⟨g, c, h1, _, _, h4⟩ := hW1.row i hi
      have h5 := hW1.own.cells (g := go) rfl i _ h1
      have ha : (⟨go, 0, none⟩ : Addr).add i = ⟨go, i, none⟩ := by unfold Addr.add; split <;> simp_all
      rw [ha] at h5
      exact ⟨g, c, h5, h4⟩))
    have HB2 := Lib.hid (below_step HB1.out hB2)
    clear hB2 hinv hk1 hW1
    go_wp2_with fail
    refine HSU.out.mono ?_
    rintro e w3 ⟨hB3, g, c, rfl, _, hrd⟩
    have HB3 := Lib.hid (below_step HB2.out hB3)
    have HRD := Lib.hid hrd
    have HBI : Hid (BaseIs ss xss (sumsOf ts (ofH s (headL s L)) K1)) := Lib.hid (by
      refine ⟨ts, fs, s, rest, HY.out, HOK.out, ?_, ?_⟩
      · rw [← HLL.out]; exact HINV.out
      · rw [HK1.out, HLL.out]; rfl)
    obtain ⟨zss, hzs⟩ : ∃ zss, zss = sumsOf ts (ofH s (headL s L)) K1 := ⟨_, rfl⟩
    rw [← hzs] at HRD HBI
    rw [← hzs]
    clear hB3 hrd hzs
    go_wp2_with fail
    go_ret2
    exact ⟨HB3.out, .inr ⟨zss, g, c, HBI.out, rfl, HRD.out⟩⟩
/- The statement's own loops. -/
theorem neq_tm (a b : Int) (s t : ByteArray) (r : Bool) (hr : r = !(a == b && s.toList == t.toList)) (w : World) : (binOp .neq 73 (.agg #[.int .i64 a, .string s]) (.agg #[.int .i64 b, .string t])).run Tryz.prog w = .ok (.bool r) w := by
  have u3 := Tryz.underlying3
  have a3 := Tryz.isAgg3
  have z3 := Tryz.sizeOf3
  have u4 := Tryz.underlying9
  have a4 := Tryz.isAgg9
  have z4 := Tryz.sizeOf9
  have hS : Tryz.prog.underlying 73 = some (.struct (Tryz.prog.fieldsOf 73)) := by kernel_rfl
  have hp : Tryz.prog.stoodInHeld 73 = false := by kernel_rfl
  subst hr
  rw [run_neq_struct, show (10000 : Nat) = 9999 + 1 from rfl, run_equalIn_agg w 9999 73 _ _ hS hp]
  simp only [Program.fieldsOf, Tryz.underlying73]
  go_simp
  by_cases h1 : a = b <;> by_cases h2 : s.toList = t.toList <;> simp [h1, h2]

theorem bytes_same {p q : ByteArray} (h : p.toList = q.toList) : p = q := by
  rw [ByteArray.toList_eq, ByteArray.toList_eq] at h
  obtain ⟨a⟩ := p
  obtain ⟨b⟩ := q
  have : a = b := Array.toList_inj.1 h
  rw [this]

theorem guard_tm : Tryz.prog.eqGuardType Tryz.prog.depth 73 = false := by kernel_rfl

theorem tmsE.get {w : World} {P : Nat → Prop} {g : Nat} {xss : List (List (Int × ByteArray))} (h : Rd tmsE w P (some ⟨g, 0, none⟩) xss) (k : Nat) (hk : k < xss.length) :
    ∃ g' c', w.cell? ⟨g, k, none⟩ = some (.slice (some ⟨g', 0, none⟩) (xss[k]).length c') ∧ TermL w g' xss[k] := by
  obtain ⟨g1, cs, e, _, hc, g', c', rfl, _, h4⟩ := h k hk
  cases e
  have := hc 0 Nat.one_pos
  simp only [tmsE, Nat.mul_one, Nat.add_zero] at this
  exact ⟨g', c', this, h4⟩

theorem get_none {α : Type} {l : List α} {k : Nat} (h : k = l.length) : l[k]? = none := List.getElem?_eq_none (by omega)

theorem ext_upto {α : Type} {xs ys : List α} {n : Nat} (hx : n = xs.length) (hy : n = ys.length) (h : ∀ j, j < n → xs[j]? = ys[j]?) : xs = ys := by
  refine List.ext_getElem? fun j => ?_
  by_cases hj : j < n
  · exact h j hj
  · rw [List.getElem?_eq_none (by omega), List.getElem?_eq_none (by omega)]

set_option maxRecDepth 100000 in
set_option maxHeartbeats 4000000 in
theorem sQuadSame_any (ss : List ByteArray) (xss yss : List (List (Int × ByteArray))) (n m m' : Nat) (hns : n = ss.length) (hmx : m = xss.length) (hmy : m' = yss.length) (ga ca gx cx gy cy : Nat) (w : World) (hn : n ≤ 1048576) (hm : m ≤ 1048576) (hm' : m' ≤ 1048576)
    (hz : ∀ j (h : j < ss.length), (ss[j]).size ≤ 1048576) (hzx : ∀ j (h : j < xss.length), Small1 xss[j]) (hzy : ∀ j (h : j < yss.length), Small1 yss[j]) (hl : TxG w ga ss) (hlx : TermsL w gx xss) (hly : TermsL w gy yss) :
    Calls Tryz.prog 25 #[.slice (some ⟨ga, 0, none⟩) n ca, .slice (some ⟨gx, 0, none⟩) m cx, .slice (some ⟨gy, 0, none⟩) m' cy] w (Ans (.bool (quadSame ss xss yss)) w) := by
  have HX := Lib.hid (sQuadBase_any ss xss n m hns hmx ga ca gx cx w hn hm hz hzx hl hlx)
  have HY := Lib.hid (fun (W : World) (hb : Below w.heap.size w W) => sQuadBase_any ss yss n m' hns hmy ga ca gy cy W hn hm' hz hzy (hl.below hb) (hly.below hb))
  clear hns hmx hmy hz hzx hzy hl hlx hly
  go_enter Tryz.func25, Tryz.ntmps25
  go_wp2_with fail
  refine HX.out.mono ?_
  rintro e w1 ⟨hB1, ⟨hbad, g1, c1, rfl⟩ | ⟨zss, g1, c1, hbi, rfl, hrd⟩⟩
  · have HN : Hid (quadSame ss xss yss = false) := Lib.hid (quadSame_eq ⟨fun h => (by cases h), fun h => (by
      obtain ⟨ts, h1, h2, _, h4, _⟩ := h
      exact (hbad.not h1 h2 h4).elim)⟩)
    have HB1 := Lib.hid hB1
    clear hbad hB1
    go_wp2_with fail
    refine (HY.out w1 HB1.out).mono ?_
    rintro e w2 ⟨hB2, ⟨_, g2, c2, rfl⟩ | ⟨zss, g2, c2, _, rfl, _⟩⟩
    all_goals
      have HB2 := Lib.hid (below_step HB1.out hB2)
      clear hB2
      go_wp2_with fail
      go_ret
      exact ⟨by rw [HN.out]; rfl, HB2.out⟩
  have HB1 := Lib.hid hB1
  have HBI := Lib.hid hbi
  have HRX := Lib.hid hrd
  clear hB1 hbi hrd
  go_wp2_with fail
  refine (HY.out w1 HB1.out).mono ?_
  rintro e w2 ⟨hB2, ⟨hbad, g2, c2, rfl⟩ | ⟨vss, g2, c2, hbi2, rfl, hrd2⟩⟩
  · have HN : Hid (quadSame ss xss yss = false) := Lib.hid (quadSame_eq ⟨fun h => (by cases h), fun h => (by
      obtain ⟨ts, h1, _, h3, _, h5, _⟩ := h
      exact (hbad.not h1 h3 h5).elim)⟩)
    have HB2 := Lib.hid (below_step HB1.out hB2)
    clear hbad hB2
    go_wp2_with fail
    go_ret
    exact ⟨by rw [HN.out]; rfl, HB2.out⟩
  have HRX2 := Lib.hid (HRX.out.below (E := tmsE) Nat.one_pos hB2)
  have HRY := Lib.hid hrd2
  have HB2 := Lib.hid (below_step HB1.out hB2)
  have HV : Hid (∀ b : Bool, (b = true ↔ zss = vss) → quadSame ss xss yss = b) := Lib.hid (fun b hb => by
    obtain ⟨ts, fs, s, rest, h1, h2, h3, h4⟩ := HBI.out
    obtain ⟨ts', fs', s', rest', h1', h2', h3', h4'⟩ := hbi2
    rw [h1] at h1'
    cases h1'
    refine quadSame_eq (hb.trans ?_)
    rw [h4, h4']
    exact same_rows h1 h2 h2' h3 h3')
  obtain ⟨K1, hK1⟩ : ∃ K, K = zss.length := ⟨_, rfl⟩
  obtain ⟨K2, hK2⟩ : ∃ K, K = vss.length := ⟨_, rfl⟩
  have HK1 := Lib.hid hK1
  have HK2 := Lib.hid hK2
  have hK18 : K1 ≤ 18 := by rw [hK1]; exact HBI.out.small.1
  have HSM := Lib.hid HBI.out.small.2
  rw [← hK1, ← hK2]
  clear hB2 hbi2 hrd2 hK1 hK2 HBI HRX HX HY
  by_cases hkk : K1 = K2
  · have HKK := Lib.hid hkk
    subst hkk
    go_wp2_with fail
    go_loopw [11] (fun iv wr => ∃ i : Nat, i ≤ K1 ∧ iv = .int .i64 i ∧ (∀ j, j < i → zss[j]? = vss[j]?) ∧ Below w2.heap.size w2 wr) (fun iv _ => K1 - (intOf iv).toNat)
    case atStart => exact ⟨0, Nat.zero_le _, rfl, fun j hj => by omega, Below.refl _ _⟩
    case round =>
      obtain ⟨i, hi, rfl, hall, hB⟩ := hrel
      obtain ⟨wo, rfl⟩ : ∃ wo : World, wo = wr := ⟨_, rfl⟩
      have HALL := Lib.hid hall
      have HB := Lib.hid hB
      clear hall hB
      by_cases hlt : i < K1
      · obtain ⟨p1, d1, x1, t1⟩ := tmsE.get HRX2.out i (by rw [← HK1.out]; exact hlt)
        obtain ⟨p2, d2, y1, t2⟩ := tmsE.get HRY.out i (by rw [← HK2.out]; exact hlt)
        obtain ⟨xs, hxs⟩ : ∃ xs, xs = zss[i]'(by rw [← HK1.out]; exact hlt) := ⟨_, rfl⟩
        obtain ⟨ys, hys⟩ : ∃ ys, ys = vss[i]'(by rw [← HK2.out]; exact hlt) := ⟨_, rfl⟩
        rw [← hxs] at x1 t1
        rw [← hys] at y1 t2
        have HXS : Hid (zss[i]? = some xs) := Lib.hid (by rw [hxs]; exact List.getElem?_eq_getElem _)
        have HYS : Hid (vss[i]? = some ys) := Lib.hid (by rw [hys]; exact List.getElem?_eq_getElem _)
        obtain ⟨n1, hn1⟩ : ∃ n, n = xs.length := ⟨_, rfl⟩
        obtain ⟨n2, hn2⟩ : ∃ n, n = ys.length := ⟨_, rfl⟩
        rw [← hn1] at x1
        rw [← hn2] at y1
        have HN1 := Lib.hid hn1
        have HN2 := Lib.hid hn2
        have hn18 : n1 ≤ 18 := by rw [hn1]; exact HSM.out xs (by rw [hxs]; exact List.getElem_mem _)
        have X1 := Lib.hid x1
        have Y1 := Lib.hid y1
        have T1 := Lib.hid t1
        have T2 := Lib.hid t2
        have u1 := keep1 HB.out x1
        have v1 := keep1 HB.out y1
        have i0 : (0 : Int) ≤ (i : Int) := by omega
        have iK : (i : Int) < (K1 : Int) := by omega
        clear x1 y1 t1 t2 hxs hys hn1 hn2
        by_cases hnn : n1 = n2
        · subst hnn
          go_wp2_with fail
          go_quiet (fail)
          go_wp2_with fail
          go_loopw [12] (fun kv wx => ∃ k : Nat, k ≤ n1 ∧ kv = .int .i64 k ∧ (∀ j, j < k → xs[j]? = ys[j]?) ∧ Below w2.heap.size w2 wx) (fun kv _ => n1 - (intOf kv).toNat)
          case atStart => exact ⟨0, Nat.zero_le _, rfl, fun j hj => by omega, below_drewN HB.out _⟩
          case round =>
            obtain ⟨k, hk, rfl, hall2, hBx⟩ := hrel
            obtain ⟨wx, rfl⟩ : ∃ wx : World, wx = wr := ⟨_, rfl⟩
            have HALL2 := Lib.hid hall2
            have HBX := Lib.hid hBx
            have u2 := keep1 hBx X1.out
            have v2 := keep1 hBx Y1.out
            clear hall2 hBx u1 v1
            by_cases hlk : k < n1
            · obtain ⟨a1, a2⟩ := (T1.out.below HBX.out) k (by rw [← HN1.out]; exact hlk)
              obtain ⟨b1, b2⟩ := (T2.out.below HBX.out) k (by rw [← HN2.out]; exact hlk)
              obtain ⟨p, hp⟩ : ∃ p, p = xs[k]'(by rw [← HN1.out]; exact hlk) := ⟨_, rfl⟩
              obtain ⟨q, hq⟩ : ∃ q, q = ys[k]'(by rw [← HN2.out]; exact hlk) := ⟨_, rfl⟩
              rw [← hp] at a1 a2
              rw [← hq] at b1 b2
              have HP : Hid (xs[k]? = some p) := Lib.hid (by rw [hp]; exact List.getElem?_eq_getElem _)
              have HQ : Hid (ys[k]? = some q) := Lib.hid (by rw [hq]; exact List.getElem?_eq_getElem _)
              obtain ⟨pz, ps⟩ := p
              obtain ⟨qz, qs⟩ := q
              have k0 : (0 : Int) ≤ (k : Int) := by omega
              have kn : (k : Int) < (n1 : Int) := by omega
              have hgd := guard_tm
              clear hp hq
              by_cases he : pz = qz ∧ ps = qs
              · have heq := fun w => neq_tm pz qz ps qs false (by rw [he.1, he.2]; simp) w
                have HE : Hid (xs[k]? = ys[k]?) := Lib.hid (by rw [HP.out, HQ.out, he.1, he.2])
                clear he
                go_wp2_with fail
                go_quiet (fail)
                go_wp2_with fail
                go_roundw
                case rel => exact ⟨k + 1, by omega, by go_num, fun j hj => by
                    by_cases e : j = k
                    · subst e; exact HE.out
                    · exact HALL2.out j (by omega), below_drewN HBX.out _⟩
                case measure => simp [intOf]; omega
              · have heq := fun w => neq_tm pz qz ps qs true (by
                  by_cases h1 : pz = qz
                  · have h2 : ps.toList ≠ qs.toList := fun h => he ⟨h1, bytes_same h⟩
                    simp [h2]
                  · simp [h1]) w
                have HN : Hid (quadSame ss xss yss = false) := Lib.hid (HV.out false ⟨fun h => (by cases h), fun h => (by
                  have h1 := HXS.out
                  rw [h, HYS.out] at h1
                  cases h1
                  have h2 := HP.out
                  rw [HQ.out] at h2
                  cases h2
                  exact absurd ⟨rfl, rfl⟩ he)⟩)
                clear he
                go_wp2_with fail
                go_quiet (fail)
                go_wp2_with fail
                go_ret
                exact ⟨by rw [HN.out]; rfl, below_step HB2.out (below_drewN HBX.out _)⟩
            · have HE : Hid (zss[i]? = vss[i]?) := Lib.hid (by
                rw [HXS.out, HYS.out, ext_upto HN1.out HN2.out (fun j hj => HALL2.out j (by omega))])
              go_wp2_with fail
              go_roundw
              case rel => exact ⟨i + 1, by omega, by go_num, fun j hj => by
                  by_cases e : j = i
                  · subst e; exact HE.out
                  · exact HALL.out j (by omega), HBX.out⟩
              case measure => simp [intOf]; omega
        · have hnd : decide ((n1 : Int) = (n2 : Int)) = false := decide_eq_false (by omega)
          have HN : Hid (quadSame ss xss yss = false) := Lib.hid (HV.out false ⟨fun h => (by cases h), fun h => (by
            have h1 := HXS.out
            rw [h, HYS.out] at h1
            cases h1
            have h2 := HN1.out
            rw [← HN2.out] at h2
            exact absurd h2 hnn)⟩)
          have hne : ¬ (n1 : Int) = (n2 : Int) := by omega
          go_wp2_with fail
          go_quiet (fail)
          go_wp2_with fail
          go_ret
          exact ⟨by rw [HN.out]; rfl, below_step HB2.out (below_drewN HB.out _)⟩
      · have hiK : i = K1 := by omega
        have HN : Hid (quadSame ss xss yss = true) := Lib.hid (HV.out true ⟨fun _ => ext_upto HK1.out HK2.out (fun j hj => HALL.out j (by omega)), fun _ => rfl⟩)
        go_wp2_with fail
        go_ret
        exact ⟨by rw [HN.out]; rfl, below_step HB2.out HB.out⟩
  · have hne : ¬ (K1 : Int) = (K2 : Int) := by omega
    have HN : Hid (quadSame ss xss yss = false) := Lib.hid (HV.out false ⟨fun h => (by cases h), fun h => (by
      have h1 := HK1.out
      rw [h, ← HK2.out] at h1
      exact absurd h1 hkk)⟩)
    go_wp2_with fail
    go_ret
    exact ⟨by rw [HN.out]; rfl, HB2.out⟩
end Go.Proofs.YtoeebipahifpcaaGreat
end
