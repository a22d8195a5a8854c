/- QuadIn by the model. -/
import Derived.Test.YtoeebipahifpcaaGreatKReduce
import Derived.Test.YtoeebipahifpcaaGreatKQInI
namespace Go.Proofs.YtoeebipahifpcaaGreat
open Go.RowKit

theorem Sp.narrow {L n : Nat} (hLn : L ≤ n) {R : (Nat → Int) → Prop} {v : Nat → Int} (h : Sp n R v) : Sp L R v := by
  induction h with
  | zero h => exact .zero fun j hj => h j (by omega)
  | step _ hr h ih => exact .step ih hr fun j hj => h j (by omega)

theorem Sp.cut {L n : Nat} {R : (Nat → Int) → Prop} (hR : ∀ r, R r → ∀ j, L ≤ j → r j = 0) {v : Nat → Int} (h : Sp L R v) : Sp n R (fun j => if j < L then v j else 0) := by
  induction h with
  | zero h =>
    refine .zero fun j _ => ?_
    by_cases e : j < L
    · simp only [if_pos e]; exact h j e
    · simp only [if_neg e]; rfl
  | @step u v r c _ hr h ih =>
    refine .step (c := c) ih hr fun j _ => ?_
    by_cases e : j < L
    · simp only [if_pos e]; exact h j e
    · simp only [if_neg e]; rw [hR r hr j (by omega), Int.mul_zero]; rfl

/-- Columns in which no row has a number may be left out. -/
theorem Sp.wide {L n : Nat} (hLn : L ≤ n) {R : (Nat → Int) → Prop} (hR : ∀ r, R r → ∀ j, L ≤ j → r j = 0) {v : Nat → Int} (hv : ∀ j, L ≤ j → v j = 0) : Sp L R v ↔ Sp n R v := by
  refine ⟨fun h => ?_, Sp.narrow hLn⟩
  refine (Sp.cut (n := n) hR h).congr fun j _ => ?_
  by_cases e : j < L
  · simp only [if_pos e, Int.sub_self]; rfl
  · simp only [if_neg e]; rw [hv j (by omega)]; rfl

theorem qRowOf_wide {ts : List T} {xs : List (Int × ByteArray)} {f : Nat → Int} (h : qRowOf ts xs = some f) : ∀ j, ts.length ≤ j → f j = 0 := by
  intro j hj
  unfold qRowOf at h
  split at h
  · cases h
  · split at h
    · cases h
      unfold qRow
      rw [dif_neg (by omega)]
    · cases h

theorem quadIn_rows {ss : List ByteArray} {xss : List (List (Int × ByteArray))} {xs : List (Int × ByteArray)} {ts : List T} {fs : List (Nat → Int)} {f : Nat → Int} {s s2 : Nat → Nat → Int} {rest rest2 : List (Nat → Int)} {L K1 K2 : Nat} (hL : L = ts.length)
    (hq : quadsOf ss = some ts) (hok : RowsOk ts xss fs) (hf : qRowOf ts xs = some f) (h1 : RedInv L L (· ∈ fs) s rest) (h2 : RedInv L L (· ∈ fs ++ [f]) s2 rest2) (hk1 : K1 = (headL s L).length) (hk2 : K2 = (headL s2 L).length) :
    quadIn ss xss xs = decide ((K1 : Int) = (K2 : Int)) := by
  refine quadIn_eq ?_
  rw [decide_eq_true_iff, Int.ofNat_inj, hk1, hk2, headL_length, headL_length]
  subst hL
  rw [heads_in (r := f) h1.base h2.base h1.done (fun v => (h2.done v).trans ⟨Sp.mono fun y hy => Sp.of (by simpa using hy), Sp.mono fun y hy => Sp.of (by simpa using hy)⟩)]
  obtain ⟨k1, k2, k3⟩ := hok
  have hmem : ∀ y, y ∈ fs ↔ RS ts xss xss.length y := fun y => by
    constructor
    · intro hy
      obtain ⟨i, hi, rfl⟩ := List.getElem_of_mem hy
      exact ⟨i, by omega, by omega, k3 i (by omega) hi⟩
    · rintro ⟨j, hj, _, e⟩
      have := k3 j hj (by omega)
      rw [this] at e
      cases e
      exact List.getElem_mem _
  have hw : Sp ts.length (· ∈ fs) f ↔ Sp 18 (RS ts xss xss.length) f := by
    rw [Sp.wide (quadsOf_ok hq).1 (R := (· ∈ fs)) (fun r hr j hj => by
      obtain ⟨i, hi, _, e⟩ := (hmem r).1 hr
      exact qRowOf_wide e j hj) (qRowOf_wide hf)]
    exact ⟨Sp.mono fun y hy => Sp.of ((hmem y).1 hy), Sp.mono fun y hy => Sp.of ((hmem y).2 hy)⟩
  rw [hw]
  constructor
  · intro h
    exact ⟨ts, f, hq, k1, fun j hj => ⟨_, k3 j hj (by omega)⟩, hf, h⟩
  · rintro ⟨ts', f', hq', _, _, hf', h⟩
    rw [hq] at hq'
    cases hq'
    rw [hf] at hf'
    cases hf'
    exact h

set_option maxRecDepth 100000 in
set_option maxHeartbeats 4000000 in
theorem sQuadIn_any (ss : List ByteArray) (xss : List (List (Int × ByteArray))) (xs : List (Int × ByteArray)) (n m m' : Nat) (hns : n = ss.length) (hmx : m = xss.length) (hmy : m' = xs.length) (ga ca gx cx gy cy : Nat) (w : World) (hn : n ≤ 1048576) (hm : m ≤ 1048576)
    (hz : ∀ j (h : j < ss.length), (ss[j]).size ≤ 1048576) (hzx : ∀ j (h : j < xss.length), Small1 xss[j]) (hzy : Small1 xs) (hl : TxG w ga ss) (hlx : TermsL w gx xss) (hly : TermL w gy xs) :
    Calls Tryz.prog 21 #[.slice (some ⟨ga, 0, none⟩) n ca, .slice (some ⟨gx, 0, none⟩) m cx, .slice (some ⟨gy, 0, none⟩) m' cy] w (Ans (.bool (quadIn ss xss xs)) w) := by
  have HRW := Lib.hid (l6qRows_any ss xss n m hns hmx ga ca gx cx w hn hm hz hl hzx hlx)
  have HLY := Lib.hid hly
  have HZY := Lib.hid hzy
  have HMY := Lib.hid hmy
  obtain ⟨i0, hi0, hzz, hzs, hzb⟩ := info_parts infoLI
  clear hns hmx hz hzx hl hlx hly hzy hmy
  go_enter Tryz.func21, Tryz.ntmps21
  go_wp2_with fail
  refine HRW.out.mono ?_
  rintro e w1 ⟨hB1, a1, n1, c1, a2, n2, c2, b, rfl, ⟨rfl, hbad, us, gu, hus, rfl, rfl, hru⟩ | ⟨rfl, ts, fs, gt, gr, hyes, hok, rfl, rfl, hrt, rfl, rfl, hrr⟩⟩
  · have HQ : Hid (quadIn ss xss xs = false) := Lib.hid (quadIn_eq ⟨fun h => (by cases h), fun h => by
      obtain ⟨ts, f, h1, h2, h3, _, _⟩ := h
      rcases hbad with h | ⟨ts', h, h20 | ⟨k, hk, hkn⟩⟩
      · rw [h1] at h; cases h
      · omega
      · rw [h1] at h
        cases h
        obtain ⟨f', hf'⟩ := h3 k hk
        rw [hkn] at hf'; cases hf'⟩)
    obtain ⟨u1, u2, u3⟩ : us.length ≤ 18 ∧ (∀ t ∈ us, t.wf ∧ t.leaves ≤ 1000 ∧ t.nodes ≤ 1000) ∧ us.Pairwise (fun a b => 0 < ordT a b) := by
      rcases hus with rfl | h
      · exact ⟨by simp, by simp, List.Pairwise.nil⟩
      · obtain ⟨q1, q2, q3⟩ := quadsOf_ok h
        exact ⟨q1, fun t ht => by have := q2 t ht; exact ⟨this.1, by omega, by omega⟩, q3⟩
    obtain ⟨L, hL⟩ : ∃ L, L = us.length := ⟨_, rfl⟩
    have HRO := Lib.hid (l6qRow_any us xs L m' hL HMY.out gu c1 gy cy w1 (by omega) (by rw [HMY.out]; exact HZY.out.1) u2 u3 HZY.out.2 hru (HLY.out.below hB1))
    have HB1 := Lib.hid hB1
    rw [← hL]
    clear hB1 hbad hus hru u1 u2 u3 hL
    go_wp2_with fail
    refine HRO.out.mono ?_
    rintro e w2 ⟨hB2, g5, c5, b5, f5, rfl, _, _, _⟩
    have HB2 := Lib.hid (below_step HB1.out hB2)
    clear hB2
    cases b5
    all_goals
      go_wp2_with fail
      go_ret
      exact ⟨by rw [HQ.out]; rfl, HB2.out⟩
  · obtain ⟨q1, q2, q3⟩ := quadsOf_ok hyes
    obtain ⟨r1, _, _⟩ := quads_pos hyes
    obtain ⟨L, hL⟩ : ∃ L, L = ts.length := ⟨_, rfl⟩
    obtain ⟨K, hK⟩ : ∃ K, K = fs.length := ⟨_, rfl⟩
    have HRO := Lib.hid (l6qRow_any ts xs L m' hL HMY.out gt c1 gy cy w1 (by omega) (by rw [HMY.out]; exact HZY.out.1) (fun t ht => by have := q2 t ht; exact ⟨this.1, by omega, by omega⟩) q3 HZY.out.2 hrt (HLY.out.below hB1))
    have hK20 : K ≤ 20 := by have := hok.1; have := hok.2.1; omega
    rw [← hL] at q1 r1 hrr
    have HB1 := Lib.hid hB1
    have HRR := Lib.hid hrr
    have HOK := Lib.hid hok
    have HY := Lib.hid hyes
    have HQ2 := Lib.hid q2
    have HLL := Lib.hid hL
    have HKK := Lib.hid hK
    rw [← hL, ← hK]
    clear hB1 hrr hok hyes q2 q3 hrt hL hK
    go_wp2_with fail
    refine HRO.out.mono ?_
    rintro e w2 ⟨hB2, gf, cf, b5, f, rfl, hgf, hcf, ⟨hno, rfl⟩ | ⟨hf, rfl⟩⟩
    all_goals rw [← HLL.out]
    · have HQ : Hid (quadIn ss xss xs = false) := Lib.hid (quadIn_eq ⟨fun h => (by cases h), fun h => by
        obtain ⟨ts', f', h1, _, _, h4, _⟩ := h
        rw [HY.out] at h1
        cases h1
        rw [hno] at h4; cases h4⟩)
      have HB2 := Lib.hid (below_step HB1.out hB2)
      clear hB2 hno hcf
      go_wp2_with fail
      go_ret
      exact ⟨by rw [HQ.out]; rfl, HB2.out⟩
    · have HRNG : Hid (∀ r ∈ fs, ∀ j, 0 ≤ r j ∧ r j ≤ 100) := Lib.hid (fun r hr j => by
        obtain ⟨i, hi, rfl⟩ := List.getElem_of_mem hr
        exact qRowOf_bound (fun t ht => (HQ2.out t ht).1) (HOK.out.2.2 i (by have := HOK.out.2.1; omega) hi) j)
      have HFB := Lib.hid (fun j => qRowOf_bound (fun t ht => (HQ2.out t ht).1) hf j)
      have HF := Lib.hid hf
      have HRR2 := Lib.hid (HRR.out.below (E := rowE L) Nat.one_pos hB2)
      have HRE := Lib.hid (l6qReduce_any L fs K HKK.out gr c2 w2 r1 q1 (by omega) HRNG.out HRR2.out)
      have HCF : Hid (∀ j, j < L → w2.cell? ⟨gf, j, none⟩ = some (.int .i64 (f j))) := Lib.hid (fun j hj => by
        rw [HLL.out] at hj
        exact cellAt hcf (iarr_get f hj))
      have HB2 := Lib.hid (below_step HB1.out hB2)
      clear hB2 hf hcf
      go_wp2_with fail
      refine HRE.out.mono ?_
      rintro e wc ⟨hB3, s, rest, go, co, gh, ch, gq, K1, vs1, hinv, rfl, hk1, hW1⟩
      have HINV := Lib.hid hinv
      have HK1 := Lib.hid hk1
      have HRC := Lib.hid ((HRR2.out.below (E := rowE L) Nat.one_pos hB3).weak (P' := fun b => b < wc.heap.size) Nat.one_pos (fun _ _ h => h))
      have HCC : Hid (∀ j, j < L → wc.cell? ⟨gf, j, none⟩ = some (.int .i64 (f j))) := Lib.hid (fun j hj => keep1 hB3 (HCF.out j hj))
      have HBC := Lib.hid (below_step HB2.out hB3)
      clear hB3 hinv hk1 hW1
      obtain ⟨pA, qA, rA⟩ := CellsOf.piece HRC.out Nat.one_pos 0 K (by have := HKK.out; omega)
      obtain ⟨xsA, hxsA⟩ : ∃ xsA, xsA = rowCells wc gr (0 * (rowE L).size) (K * (rowE L).size) := ⟨_, rfl⟩
      rw [← hxsA] at pA qA rA
      have XA1 : Hid (xsA.length = K * 1) := Lib.hid (by rw [hxsA, rowCells_length]; rfl)
      have XA2 : Hid (∀ j u, xsA[j]? = some u → wc.cell? ((⟨gr, 0, none⟩ : Addr).add j) = some u) := Lib.hid (fun j u hu => by
        have e : (⟨gr, 0, none⟩ : Addr).add j = ⟨gr, j, none⟩ := by unfold Addr.add; split <;> simp_all
        have := qA j u hu
        rw [Nat.zero_mul, Nat.zero_add] at this
        rw [e]; exact this)
      have XA3 := Lib.hid rA
      have FIN : Hid (∀ (g c : Nat) (W : World), W.ownsRow wc.heap.size 48 1 (.slice (some ⟨g, 0, none⟩) (K + 1) c) (K + 1) (xsA ++ [.slice (some ⟨gf, 0, none⟩) L cf]) → Below wc.heap.size wc W →
          Calls Tryz.prog 28 #[.slice (some ⟨g, 0, none⟩) (K + 1) c, .int .i64 L] W (Reduced L (fs ++ [f]) W)) := Lib.hid (fun g c W hown hbW => by
        have e1 : (fs ++ [f]).length = K + 1 := by rw [List.length_append, HKK.out]; rfl
        have hcells : CellsOf (rowE L) wc (fun b => b < wc.heap.size) (fs ++ [f]) (xsA ++ [.slice (some ⟨gf, 0, none⟩) L cf]) := by
          have h2 : (fs.drop 0).take K = fs := by rw [List.drop_zero, HKK.out]; exact List.take_length
          rw [h2] at pA
          exact pA.append (CellsOf.one (E := rowE L) ⟨gf, cf, rfl, r1, World.block_lt_of_cell? wc _ (HCC.out 0 r1), HCC.out⟩)
        have hrow : Row (rowE L) 48 wc.heap.size (fs ++ [f]) (.slice (some ⟨g, 0, none⟩) (K + 1) c) (xsA ++ [.slice (some ⟨gf, 0, none⟩) L cf]) W :=
          Row.of_old hbW (by rw [e1]; exact hown) (Nat.le_refl _) hcells.2
        exact l6qReduce_any L (fs ++ [f]) (K + 1) e1.symm g c W r1 q1 (by omega) (fun r hr j => by
          rcases List.mem_append.1 hr with h | h
          · exact HRNG.out r h j
          · rw [List.mem_singleton] at h; subst h; exact HFB.out j) hrow.rd)
      have FINQ : Hid (∀ (s2 : Nat → Nat → Int) (rest2 : List (Nat → Int)) (K2 : Nat), RedInv L L (· ∈ fs ++ [f]) s2 rest2 → K2 = (headL s2 L).length → quadIn ss xss xs = decide ((K1 : Int) = (K2 : Int))) :=
        Lib.hid (fun s2 rest2 K2 h2 hk2 => quadIn_rows HLL.out HY.out HOK.out HF.out HINV.out h2 HK1.out hk2)
      have HB0 : Hid (Below wc.heap.size wc (wc.alloc (.cells #[] 48 (0, 0)))) := Lib.hid ((Below.refl _ _).alloc (Nat.le_refl _) _)
      have OW0 : Hid (World.ownsRow (wc.alloc (.cells #[] 48 (0, 0))) wc.heap.size 48 1 (.slice (some ⟨wc.heap.size, 0, none⟩) 0 0) 0 []) := Lib.hid (World.ownsRow_made wc #[] 0 (Nat.le_refl _) (by simp [maxLen]) rfl)
      clear pA qA rA hxsA
      go_wp2_with (first
        | (at_builtin; have hq := HB3.out; clear hq; refine wpList_append_own_at _ rfl _ _ 45 rfl wc.heap.size 48 i0 (.slice none 0 0) 1 24 Tryz.underlying45 hi0 hzz hzs hzb rfl (by decide) (.slice (some ⟨g3, 0, none⟩) K c3) K xsA rfl (World.ownsRow.alloc HOWN3.out (.cells #[.slice (some ⟨gf, 0, none⟩) L cf] 48 (0, 0))) ⟨w3.heap.size, 0, none⟩ 1 1 [.slice (some ⟨gf, 0, none⟩) L cf] rfl rfl (cell_one_new _ _ _) (by simp [Value.oneCell']) (by unfold maxLen; omega) (by omega) (by have := HB3.out.size; simp; omega) ?_; intro v4 w4 hown4 hg4 hnil4 hat4; obtain ⟨g4, c4, rfl, _, _, _⟩ := owns_some hown4 (fun e => by have := hnil4.1 e; simp at this); have HB4 := Lib.hid ((HB3.out.alloc HB3.out.size (.cells #[.slice (some ⟨gf, 0, none⟩) L cf] 48 (0, 0))).grown hg4 (HB3.out.alloc HB3.out.size (.cells #[.slice (some ⟨gf, 0, none⟩) L cf] 48 (0, 0))).size (fun b e => (HOWN3.out.lt b e).1)); have HOWN4 := Lib.hid hown4; clear hown4 hg4 hnil4 hat4)
        | (at_builtin; refine wpList_append_own_at _ rfl _ _ 45 rfl wc.heap.size 48 i0 (.slice none 0 0) 1 24 Tryz.underlying45 hi0 hzz hzs hzb rfl (by decide) (.slice (some ⟨wc.heap.size, 0, none⟩) 0 0) 0 [] rfl OW0.out ⟨gr, 0, none⟩ K c2 xsA rfl XA1.out (fun j u hu => keep1 HB0.out (XA2.out j u hu)) XA3.out (by unfold maxLen; omega) (by omega) HB0.out.size ?_; intro v3 w3 hown3 hg3 hnil3 hat3; rw [Nat.zero_add, List.nil_append] at hown3; obtain ⟨g3, c3, rfl, _, _, _⟩ := owns_some hown3 (fun e => by have := hnil3.1 e; simp at this); have HB3 := Lib.hid (HB0.out.grown hg3 HB0.out.size (fun b e => (OW0.out.lt b e).1)); have HOWN3 := Lib.hid hown3; clear hown3 hg3 hnil3 hat3))
      refine (FIN.out _ _ _ HOWN4.out HB4.out).mono ?_
      rintro e w5 ⟨hB5, s2, rest2, go2, co2, gh2, ch2, gq2, K2, vs2, hinv2, rfl, hk2, _⟩
      have HB5 := Lib.hid (below_step HB4.out hB5)
      have HINV2 := Lib.hid hinv2
      have HK2 := Lib.hid hk2
      clear hB5 hinv2 hk2
      go_wp2_with fail
      go_ret
      exact ⟨by rw [FINQ.out _ _ _ HINV2.out HK2.out]; rfl, below_step HBC.out HB5.out⟩

end Go.Proofs.YtoeebipahifpcaaGreat
